/-
  The program's matcher: it goes back.
-/
import Derived.Test.YtkifnabkoidhcaaPpb
namespace Go.Proofs.Ytkifnabkoidhcaa
open Go.RowKit Tx
namespace Pm

inductive BackQ (w : World) (B b : Nat) (v : Value) (ts : List PT) (l : List PE) (s : ByteArray) (i a m k : Nat) : Ending → World → Prop
  | no (w2 : World) (h : MM w2 B b v ts l s i a m k) (ho : Only (· = b) w w2) (hn : m = 0 ∨ a = s.size) : BackQ w B b v ts l s i a m k (.returned (.bool false)) w2
  | yes (w2 : World) (h : MM w2 B b v ts l s m (k + 1) m (k + 1)) (ho : Only (· = b) w w2) (hm : m ≠ 0) : BackQ w B b v ts l s i a m k (.returned (.bool true)) w2
set_option maxHeartbeats 4000000 in
set_option maxRecDepth 100000 in
theorem backtrack_any (w : World) (B b : Nat) (v : Value) (ts : List PT) (l : List PE) (s : ByteArray) (i a m k : Nat) (h : MM w B b v ts l s i a m k) :
    Calls Try.prog 37 #[.pointer (some ⟨b, 0, none⟩)] w (BackQ w B b v ts l s i a m k) := by
  have H := Kept.mk h
  have c1 := h.c1
  have c3 := h.c3
  have c4 := h.c4
  by_cases hm : m = 0
  · subst hm
    clear h
    go_enter Try.func37, Try.ntmps37
    go_wp2_with fail
    go_quiet (fail)
    refine H.out.again (P := fun W => Exit.then _ _ _ _ W) ?_ nq
    intro W hW hOW
    have HW := Kept.mk hW
    have HOW := Kept.mk hOW
    clear hW hOW c1 c3 c4
    go_wp2_with fail
    go_ret
    exact .no _ HW.out HOW.out (.inl rfl)
  · have hm0 : ¬ (m : Int) = 0 := by omega
    have hm1 : ((m : Int) == 0) = false := by simpa using hm
    have HMn := Kept.mk hm
    by_cases ha : a = s.size
    · have ha1 : ((a : Int) == (s.size : Int)) = true := by rw [beq_iff_eq]; omega
      have ha2 : (a : Int) = (s.size : Int) := by omega
      have HAe := Kept.mk ha
      clear h ha
      go_enter Try.func37, Try.ntmps37
      go_wp2_with fail
      go_quiet (fail)
      refine H.out.again (P := fun W => Exit.then _ _ _ _ W) ?_ nq
      intro W hW hOW
      have HW := Kept.mk hW
      have HOW := Kept.mk hOW
      clear hW hOW c1 c3 c4
      go_wp2_with fail
      go_ret
      exact .no _ HW.out HOW.out (.inr HAe.out)
    · have ha1 : ((a : Int) == (s.size : Int)) = false := by rw [beq_eq_false_iff_ne]; omega
      have ha2 : ¬ (a : Int) = (s.size : Int) := by omega
      have HOk := Kept.mk (back_ok h.ok hm (by rw [toL_length]; exact ha))
      have hk5 : (k : Int) ≤ 2000 := by have := HOk.out.ha; rw [toL_length] at this; have := h.few.2; omega
      have hw2 : IntKind.i64.wrap ((k : Int) + 1) = (k : Int) + 1 := IntWalk.i64_in _ (by omega)
      clear h ha
      go_enter Try.func37, Try.ntmps37
      go_wp2_with fail
      go_quiet (fail)
      refine H.out.again (P := fun W => Exit.then _ _ _ _ W) ?_ nq
      intro W hW hOW
      have HW := Kept.mk hW
      have HOW := Kept.mk hOW
      have q5 := hW.c5
      have f5 := hW.fz 5
      have HR1 := Kept.mk (heap_setCell_same W b 5 _ _ (.int .i64 ((k : Int) + 1)) hW.row)
      have p4 : (W.setCell ⟨b, 5, none⟩ (.int .i64 ((k : Int) + 1))).cell? ⟨b, 4, none⟩ = some (.int .i64 (m : Int)) := cell_of_row _ _ 4 _ _ _ HR1.out
      have p5 : (W.setCell ⟨b, 5, none⟩ (.int .i64 ((k : Int) + 1))).cell? ⟨b, 5, none⟩ = some (.int .i64 ((k : Int) + 1)) := cell_of_row _ _ 5 _ _ _ HR1.out
      have p2 : (W.setCell ⟨b, 5, none⟩ (.int .i64 ((k : Int) + 1))).cell? ⟨b, 2, none⟩ = some (.int .i64 (i : Int)) := cell_of_row _ _ 2 _ _ _ HR1.out
      have p3 : (W.setCell ⟨b, 5, none⟩ (.int .i64 ((k : Int) + 1))).cell? ⟨b, 3, none⟩ = some (.int .i64 (a : Int)) := cell_of_row _ _ 3 _ _ _ HR1.out
      have g2 : (W.setCell ⟨b, 5, none⟩ (.int .i64 ((k : Int) + 1))).frozen? ⟨b, 2, none⟩ = false := frozen_of_row _ _ 2 _ _ HR1.out
      have g3 : (W.setCell ⟨b, 5, none⟩ (.int .i64 ((k : Int) + 1))).frozen? ⟨b, 3, none⟩ = false := frozen_of_row _ _ 3 _ _ HR1.out
      have HO1 : Kept (Only (· = b) w (W.setCell ⟨b, 5, none⟩ (.int .i64 ((k : Int) + 1)))) := ⟨hOW.setCell ⟨b, 5, none⟩ _ (fun _ => rfl)⟩
      have HOo : Kept (Only (· = b) W (W.setCell ⟨b, 5, none⟩ (.int .i64 ((k : Int) + 1)))) := ⟨(Only.refl (· = b) W).setCell ⟨b, 5, none⟩ _ (fun _ => rfl)⟩
      clear hW hOW c1 c3 c4
      go_wp2_with fail
      clear q5 f5
      generalize W.setCell ⟨b, 5, none⟩ (.int .i64 ((k : Int) + 1)) = W1 at *
      go_region
      have HO2 : Kept (Only (· = b) W1 ((W1.setCell ⟨b, 2, none⟩ (.int .i64 (m : Int))).setCell ⟨b, 3, none⟩ (.int .i64 ((k : Int) + 1))).drew) := ⟨(((Only.refl (· = b) W1).setCell ⟨b, 2, none⟩ _ (fun _ => rfl)).setCell ⟨b, 3, none⟩ _ (fun _ => rfl)).drew⟩
      have HM2 : Kept (MM ((W1.setCell ⟨b, 2, none⟩ (.int .i64 (m : Int))).setCell ⟨b, 3, none⟩ (.int .i64 ((k : Int) + 1))).drew B b v ts l s m (k + 1) m (k + 1)) := ⟨HW.out.on (HOo.out.trans HO2.out fun _ _ e => e) HOk.out (by
        have h1 := heap_setCell_same W1 b 2 _ _ (.int .i64 (m : Int)) HR1.out
        have h2 := heap_setCell_same _ b 3 _ _ (.int .i64 ((k : Int) + 1)) h1
        have h3 : ((W1.setCell ⟨b, 2, none⟩ (.int .i64 (m : Int))).setCell ⟨b, 3, none⟩ (.int .i64 ((k : Int) + 1))).heap[b]? = some (.cells #[v, .string s, .int .i64 (m : Int), .int .i64 ((k : Int) + 1), .int .i64 (m : Int), .int .i64 ((k : Int) + 1)] 64 (0, 0)) := by simpa using h2
        exact h3)⟩
      clear p2 p3 p4 p5 g2 g3
      generalize ((W1.setCell ⟨b, 2, none⟩ (.int .i64 (m : Int))).setCell ⟨b, 3, none⟩ (.int .i64 ((k : Int) + 1))).drew = W2 at *
      go_wp2_with fail
      go_ret
      exact .yes _ HM2.out (HO1.out.trans HO2.out fun _ _ e => e) HMn.out
end Pm
end Go.Proofs.Ytkifnabkoidhcaa
