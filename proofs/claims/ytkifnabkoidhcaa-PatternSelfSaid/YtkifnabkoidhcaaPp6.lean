/-
  The program's reader of patterns: an element is read.
-/
import Derived.Test.YtkifnabkoidhcaaPp5
import Derived.IntWalk
namespace Go.Proofs.Ytkifnabkoidhcaa
open Go.RowKit Tx
namespace Pm

/-- An element's cells. -/
structure PT where
  k : Int
  v : Int
  p : Option Nat
def PT.ptr (t : PT) : Value := .pointer (t.p.map fun q => ⟨q, 0, none⟩)
def PT.val (t : PT) : Value := .agg #[.int .i64 t.k, .int .u8 t.v, t.ptr]
def tcs (t : PT) : List Value := [.int .i64 t.k, .int .u8 t.v, t.ptr]
def EOk (w : World) : PE → PT → Prop
  | .star, t => t = ⟨2, 0, none⟩
  | .any, t => t = ⟨1, 0, none⟩
  | .one c, t => t = ⟨0, (c.toNat : Int), none⟩
  | .set l, t => ∃ q, t = ⟨3, 0, some q⟩ ∧ BSet w q (fun i => setU l (UInt8.ofNat i))
theorem EOk.keep {w w' : World} {e : PE} {t : PT} (h : EOk w e t) (hb : ∀ q f, t.p = some q → BSet w q f → w'.heap[q]? = w.heap[q]?) : EOk w' e t := by
  cases e with
  | star => exact h
  | any => exact h
  | one c => exact h
  | set l =>
    obtain ⟨q, rfl, hq⟩ := h
    exact ⟨q, rfl, hq.keep (hb q _ rfl hq)⟩
/-- A set's block is none of another type. -/
theorem BSet.ne {w : World} {q b : Nat} {f : Nat → Bool} {cs : Array Value} {T : TypeId} {z : Nat × Nat} (h : BSet w q f) (hb : w.heap[b]? = some (.cells cs T z)) (hT : T ≠ 78) : q ≠ b := by
  rintro rfl
  obtain ⟨cs2, h2, _⟩ := h.row
  rw [h2] at hb
  injection hb with hb
  injection hb with _ hb _
  exact hT hb.symm
section
variable {W : World} {R : Nat} {T : TypeId} {a b c x y z : Value}
theorem put3_row (h : W.heap[R]? = some (.cells #[a, b, c] T (0, 0))) : (((W.setCell ⟨R, 0, none⟩ x).setCell ⟨R, 1, none⟩ y).setCell ⟨R, 2, none⟩ z).heap[R]? = some (.cells #[x, y, z] T (0, 0)) := by
  have h1 := heap_setCell_same W R 0 _ _ x h
  have h2 := heap_setCell_same _ R 1 _ _ y h1
  have h3 := heap_setCell_same _ R 2 _ _ z h2
  simpa using h3
theorem put3_only {B : Nat → Prop} {w : World} (h : Only B w W) (hR : w.heap.size ≤ R) : Only B w (((W.setCell ⟨R, 0, none⟩ x).setCell ⟨R, 1, none⟩ y).setCell ⟨R, 2, none⟩ z) :=
  ((h.setCell _ _ (fun k => absurd k (by show ¬ R < _; omega))).setCell _ _ (fun k => absurd k (by show ¬ R < _; omega))).setCell _ _ (fun k => absurd k (by show ¬ R < _; omega))
theorem put3_other (i : Nat) (hi : i ≠ R) : (((W.setCell ⟨R, 0, none⟩ x).setCell ⟨R, 1, none⟩ y).setCell ⟨R, 2, none⟩ z).heap[i]? = W.heap[i]? :=
  (Below.heap_setCell _ _ _ i hi).trans ((Below.heap_setCell _ _ _ i hi).trans (Below.heap_setCell _ _ _ i hi))
end
theorem RD.put3 {w : World} {b k : Nat} {A : Option Addr} {l : List Un} {f : Bool} {R : Nat} {x y z : Value} (h : RD w b A k l f) (hR : b < R) : RD (((w.setCell ⟨R, 0, none⟩ x).setCell ⟨R, 1, none⟩ y).setCell ⟨R, 2, none⟩ z) b A k l f :=
  ⟨(put3_other b (Nat.ne_of_lt hR)).trans h.row, h.us.same (fun i hi _ => put3_other i (by omega)) (by simp [World.setCell])⟩
/-- What read answers. -/
def ReadQ (w : World) (b : Nat) (u : Un) (r : List Un) (f : Bool) (e : Ending) (w' : World) : Prop :=
  ∃ (t : PT) (A2 : Option Addr) (k2 : Nat), e = .returned t.val ∧ Kept (EOk w' (read1 f u r).1 t) ∧ Kept (RD w' b A2 k2 (read1 f u r).2.1 (read1 f u r).2.2) ∧ Kept (Only (· = b) w w')
/-- The rest is told anew. -/
theorem RD.step {w w1 : World} {b k : Nat} {A : Option Addr} {l : List Un} {f : Bool} (h : RD w b A k l f) (hb : Below w.heap.size w w1) {A2 : Option Addr} {k2 n : Nat} {r : List Un} (hr : US w b A2 k2 r) (hn : n = r.length) :
    RD (w1.setCell ⟨b, 0, none⟩ (.slice A2 n k2)) b A2 k2 r f ∧ Only (· = b) w (w1.setCell ⟨b, 0, none⟩ (.slice A2 n k2)) := by
  subst hn
  have h1 := h.below hb
  have ho : Only (· = b) w1 (w1.setCell ⟨b, 0, none⟩ (.slice A2 r.length k2)) := (Only.refl _ _).setCell _ _ (fun _ => rfl)
  refine ⟨⟨?_, (hr.below hb).same (fun i hi hl => ho.block i hl (Nat.ne_of_lt hi)) ho.size⟩, only_self hb ho⟩
  have := heap_setCell_same w1 b 0 _ _ (.slice A2 r.length k2) h1.row
  simpa using this
theorem EOk.sets {w : World} {l : List Un} {q R : Nat} {x y z : Value} (h : BSet w q (fun i => setU l (UInt8.ofNat i))) (hR : q ≠ R) : EOk (((w.setCell ⟨R, 0, none⟩ x).setCell ⟨R, 1, none⟩ y).setCell ⟨R, 2, none⟩ z) (.set l) ⟨3, 0, some q⟩ :=
  ⟨q, rfl, h.keep (put3_other q hR)⟩
def elZero : Array Value := #[.int .i64 0, .int .u8 0, .pointer none]
set_option maxHeartbeats 4000000 in
set_option maxRecDepth 100000 in
theorem read_any (w : World) (b : Nat) (A : Option Addr) (k : Nat) (u : Un) (r : List Un) (f : Bool) (h : RD w b A k (u :: r) f) :
    Calls Try.prog 39 #[.pointer (some ⟨b, 0, none⟩)] w (ReadQ w b u r f) := by
  have HB0 : Below w.heap.size w (w.alloc (.cells #[.int .i64 0, .int .u8 0, .pointer none] 61)) := (Below.refl _ _).alloc (Nat.le_refl _) _
  have H := Kept.mk (h.below HB0)
  have HR := Kept.mk (heap_alloc_new w (.cells #[.int .i64 0, .int .u8 0, .pointer none] 61))
  have HOz : Kept (Only (· = b) w (w.alloc (.cells #[.int .i64 0, .int .u8 0, .pointer none] 61))) := ⟨(Only.refl _ _).below HB0⟩
  have hlt := h.lt
  obtain ⟨R, hRe⟩ : ∃ R, R = w.heap.size := ⟨_, rfl⟩
  have HRe := Kept.mk hRe
  have HbR : Kept (b < R) := ⟨by omega⟩
  clear h HB0 hlt hRe
  by_cases hc : isU 91 u = true ∧ f = false
  · obtain ⟨hc1, rfl⟩ := hc
    have hyes := members_yes _ b A k u r H.out hc1
    have HC := Kept.mk hc1
    clear hc1
    have HM := Kept.mk hyes
    clear hyes
    go_enter Try.func39, Try.ntmps39
    go_wp2_with fail
    go_at_call 45
    refine HM.out.mono ?_
    rintro e w1 hQ
    clear HM
    generalize World.alloc _ _ = W at *
    rcases hQ with @⟨n, A2, k2, w2, hm, hu, hn, h0, hb⟩ | @⟨w2, hm, hr, ho⟩
    · have H2 := Kept.mk (H.out.below hb)
      have c0 := H2.out.c0
      have f0 := H2.out.f0
      obtain ⟨L, hL⟩ : ∃ L, L = (u :: r).length := ⟨_, rfl⟩
      rw [← hL] at c0
      have hnL : n + 2 ≤ L := by
        have := (closeF_lt _ _ _ hm).1
        rw [hL, List.length_cons]; omega
      obtain ⟨A3, k3, hs3, hu3⟩ := H2.out.us.drop (n + 2) (by rw [← hL]; exact hnL)
      rw [← hL] at hs3
      have hr3 : (u :: r).drop (n + 2) = r.drop (n + 1) := rfl
      rw [hr3] at hu3
      have h63 : L ≤ 2000 := by rw [hL]; exact H2.out.us.few
      have hw1 : IntKind.i64.wrap (1 + (n : Int)) = 1 + (n : Int) := IntWalk.i64_in _ (by omega)
      have hw2 : IntKind.i64.wrap (1 + (n : Int) + 1) = 1 + (n : Int) + 1 := IntWalk.i64_in _ (by omega)
      have hsl : ∀ W : World, (Instr.slice 47 (.slice A L k) (some (.int .i64 (1 + (n : Int) + 1))) none none).run Try.prog W = .ok (.slice A3 (L - (n + 2)) k3) W := fun W => by
        have := unit_from A L k (n + 2) hnL W
        rw [hs3, show ((n + 2 : Nat) : Int) = 1 + (n : Int) + 1 by omega] at this
        exact this
      have hn0 : (0 : Int) < (n : Int) := by omega
      have hn0' : 0 < n := h0
      have HLr : Kept (L - (n + 2) = (r.drop (n + 1)).length) := ⟨by rw [hL, List.length_drop, List.length_cons]; omega⟩
      have HU := Kept.mk hu
      have HU3 := Kept.mk hu3
      have HM2 := Kept.mk hm
      have HNr := Kept.mk hn
      have HB := Kept.mk hb
      clear hm hu hn h0 hb hL hnL hs3 hu3 hr3 h63
      have HT : Kept ((r.take n).length = n) := ⟨by rw [List.length_take]; have := HNr.out; omega⟩
      have HNe : Kept (r.take n ≠ []) := ⟨fun e => by have := HT.out; rw [e] at this; simp at this; omega⟩
      have HLr2 := HLr
      obtain ⟨x1, x2⟩ := H2.out.step (Below.refl _ _) (n := L - (n + 2)) HU3.out HLr.out
      have HU2 := Kept.mk ((HU.out.same (w' := w1.setCell ⟨b, 0, none⟩ (.slice A3 (L - (n + 2)) k3)) (fun i hi hl => x2.block i hl (Nat.ne_of_lt hi)) x2.size).mono (Nat.le_of_lt x1.lt))
      have HX1 := Kept.mk x1
      have HX2 : Kept (Only (· = b) w (w1.setCell ⟨b, 0, none⟩ (.slice A3 (L - (n + 2)) k3))) := ⟨HOz.out.trans (only_self HB.out x2) fun _ _ e => e⟩
      have HRr : Kept ((w1.setCell ⟨b, 0, none⟩ (.slice A3 (L - (n + 2)) k3)).heap[R]? = some (.cells #[.int .i64 0, .int .u8 0, .pointer none] 61 (0, 0))) := ⟨by
        have h1 : W.heap[R]? = some (.cells #[.int .i64 0, .int .u8 0, .pointer none] 61 (0, 0)) := by rw [HRe.out]; exact HR.out
        have h2 := (HB.out.block R (Array.getElem?_eq_some_iff.1 h1).1).trans h1
        exact (x2.block R (Array.getElem?_eq_some_iff.1 h2).1 (by have := HbR.out; omega)).trans h2⟩
      clear x1 x2
      rw [← HRe.out]
      go_wp2_with fail
      clear c0 f0 hsl
      generalize World.setCell _ _ _ = W2 at *
      rw [← HT.out]
      refine (setOf_any W2 A2 k2 (r.take n) HU2.out HNe.out).mono ?_
      rintro e w3 ⟨q, rfl, hq, hS3, hB3⟩
      rw [HT.out]
      have h3 := (hB3.out.block R (Array.getElem?_eq_some_iff.1 HRr.out).1).trans HRr.out
      have r0 := cell_of_row _ _ 0 _ _ _ h3
      have r1 := cell_of_row _ _ 1 _ _ _ h3
      have r2 := cell_of_row _ _ 2 _ _ _ h3
      have rf0 := frozen_of_row _ _ 0 _ _ h3
      have rf1 := frozen_of_row _ _ 1 _ _ h3
      have rf2 := frozen_of_row _ _ 2 _ _ h3
      have HP := Kept.mk (put3_row (x := .int .i64 3) (y := .int .u8 0) (z := .pointer (some ⟨q, 0, none⟩)) h3)
      have HO3 : Kept (Only (· = b) w w3) := ⟨HX2.out.below hB3.out⟩
      have HR3 := Kept.mk (HX1.out.below hB3.out)
      have HqR := Kept.mk (hS3.out.ne h3 (by decide))
      clear h3 hB3 hq
      go_wp2_with fail
      refine bodyPost_ret (results_cell_row rfl _ _ R _ _ (0, 0) _ rfl HP.out Try.underlying61 rfl (by kernel_rfl)) rfl ?_
      have hrd : read1 false u r = (.set (r.take n), r.drop (n + 1), false) := by unfold read1; rw [if_pos ⟨HC.out, rfl⟩, HM2.out]
      rw [show ReadQ w b u r false = fun e w' => ReadQ w b u r false e w' from rfl]
      unfold ReadQ
      rw [hrd]
      exact ⟨⟨3, 0, some q⟩, A3, k3, rfl, ⟨EOk.sets hS3.out HqR.out⟩, ⟨HR3.out.put3 HbR.out⟩, ⟨put3_only HO3.out (by rw [HRe.out]; exact Nat.le_refl _)⟩⟩
    · have hrd : read1 false u r = (plainE u, r, true) := by unfold read1; rw [if_pos ⟨HC.out, rfl⟩, hm]
      have HRd := Kept.mk hrd
      have HR1 := Kept.mk hr
      have HO1 : Kept (Only (· = b) w w1) := ⟨HOz.out.trans ho fun _ _ e => e⟩
      have HRr : Kept (w1.heap[R]? = some (.cells #[.int .i64 0, .int .u8 0, .pointer none] 61 (0, 0))) := ⟨by
        have h1 : W.heap[R]? = some (.cells #[.int .i64 0, .int .u8 0, .pointer none] 61 (0, 0)) := by rw [HRe.out]; exact HR.out
        exact (ho.block R (Array.getElem?_eq_some_iff.1 h1).1 (by have := HbR.out; omega)).trans h1⟩
      clear hm hr ho hrd
      rw [← HRe.out]
      have c0 := HR1.out.c0
      obtain ⟨g, off, rfl, hg, d0, d1⟩ := HR1.out.us.at (j := 0) (by simp)
      obtain ⟨A3, k3, hs3, hu3⟩ := HR1.out.us.drop 1 (by simp)
      rw [List.drop_one, List.tail_cons] at hu3
      simp only [Nat.zero_mul, Nat.add_zero, List.getElem_cons_zero] at d0 d1
      obtain ⟨L, hL⟩ : ∃ L, L = (u :: r).length := ⟨_, rfl⟩
      rw [← hL] at c0 hs3
      have hsl : ∀ W : World, (Instr.slice 47 (.slice (some ⟨g, off, none⟩) L k) (some (.int .i64 1)) none none).run Try.prog W = .ok (.slice A3 (L - 1) k3) W := fun W => by rw [← hs3]; exact unit_from _ L k 1 (by rw [hL]; simp) W
      have hL0 : (0 : Int) < (L : Int) := by rw [hL]; simp
      have hL1 : 0 < L := by omega
      have HLr : Kept (L - 1 = r.length) := ⟨by rw [hL]; simp⟩
      have hlt1 := HR1.out.lt
      have HB5 := Kept.mk (Below.alloc (Below.refl w1.heap.size w1) (Nat.le_refl _) (.cells #[.int .u8 (u.1.toNat : Int), .bool u.2] 50))
      have c0a : (w1.alloc (.cells #[.int .u8 (u.1.toNat : Int), .bool u.2] 50)).cell? ⟨b, 0, none⟩ = some (.slice (some ⟨g, off, none⟩) L k) := (World.cell?_of_block (a := ⟨b, 0, none⟩) (HB5.out.block b hlt1)).trans c0
      have f0a := (HR1.out.below HB5.out).f0
      have hn1 := heap_alloc_new w1 (.cells #[.int .u8 (u.1.toNat : Int), .bool u.2] 50)
      obtain ⟨q, hq⟩ : ∃ q, q = w1.heap.size := ⟨_, rfl⟩
      obtain ⟨x1, x2⟩ := HR1.out.step HB5.out (n := L - 1) hu3 HLr.out
      have hqb : q ≠ b := by omega
      have hn3 : ((w1.alloc (.cells #[.int .u8 (u.1.toNat : Int), .bool u.2] 50)).setCell ⟨b, 0, none⟩ (.slice A3 (L - 1) k3)).heap[q]? = some (.cells #[.int .u8 (u.1.toNat : Int), .bool u.2] 50 (0, 0)) := (Below.heap_setCell _ _ _ q hqb).trans (by rw [hq]; exact hn1)
      have HX1 := Kept.mk x1
      have HX2 : Kept (Only (· = b) w ((w1.alloc (.cells #[.int .u8 (u.1.toNat : Int), .bool u.2] 50)).setCell ⟨b, 0, none⟩ (.slice A3 (L - 1) k3))) := ⟨HO1.out.trans x2 fun _ _ e => e⟩
      have HRr2 : Kept (((w1.alloc (.cells #[.int .u8 (u.1.toNat : Int), .bool u.2] 50)).setCell ⟨b, 0, none⟩ (.slice A3 (L - 1) k3)).heap[R]? = some (.cells #[.int .i64 0, .int .u8 0, .pointer none] 61 (0, 0))) := ⟨(x2.block R (Array.getElem?_eq_some_iff.1 HRr.out).1 (by have := HbR.out; omega)).trans HRr.out⟩
      have z0 := cell_of_row _ _ 0 _ _ _ hn3
      have z1 := cell_of_row _ _ 1 _ _ _ hn3
      have z0' := z0
      have z1' := z1
      rw [hq] at z0' z1'
      have HN3 := Kept.mk hn3
      have HQ := Kept.mk hq
      clear hs3 hu3 hL hlt1 hn1 hn3 x1 x2 hqb hg hq
      obtain ⟨t1, ht1⟩ : ∃ t1, t1 = isU 42 u := ⟨_, rfl⟩
      have HI1 : Kept (t1 = ((u.1.toNat : Int) == 42 && !u.2)) := ⟨by rw [ht1, isU_int]; rfl⟩
      have HT1 : Kept (t1 = isU 42 u) := ⟨ht1⟩
      clear ht1
      go_wp2_with fail
      rw [← HQ.out]
      generalize World.setCell _ _ _ = W2 at *
      clear z0' z1' c0a f0a c0 d0 d1 hsl
      cases t1 with
      | true =>
        refine (is_any _ _ _ _ true HI1.out).mono ?_
        rintro e w4 ⟨rfl, hb4⟩
        have HB4 := Kept.mk hb4
        have HE : Kept (plainE u = .star) := ⟨by unfold plainE; rw [if_pos HT1.out.symm]⟩
        clear hb4 z0 z1
        have h3 := (HB4.out.block R (Array.getElem?_eq_some_iff.1 HRr2.out).1).trans HRr2.out
        have r0 := cell_of_row _ _ 0 _ _ _ h3
        have r1 := cell_of_row _ _ 1 _ _ _ h3
        have r2 := cell_of_row _ _ 2 _ _ _ h3
        have rf0 := frozen_of_row _ _ 0 _ _ h3
        have rf1 := frozen_of_row _ _ 1 _ _ h3
        have rf2 := frozen_of_row _ _ 2 _ _ h3
        have HP := Kept.mk (put3_row (x := .int .i64 2) (y := .int .u8 0) (z := .pointer none) h3)
        clear h3
        go_wp2_with fail
        refine bodyPost_ret (results_cell_row rfl _ _ R _ _ (0, 0) _ rfl HP.out Try.underlying61 rfl (by kernel_rfl)) rfl ?_
        unfold ReadQ
        rw [HRd.out]
        exact ⟨⟨2, 0, none⟩, A3, k3, rfl, ⟨by rw [HE.out]; rfl⟩, ⟨(HX1.out.below HB4.out).put3 HbR.out⟩, ⟨put3_only (HX2.out.below HB4.out) (by rw [HRe.out]; exact Nat.le_refl _)⟩⟩
      | false =>
        refine (is_any _ _ _ _ false HI1.out).mono ?_
        rintro e w4 ⟨rfl, hb4⟩
        have HB4 := Kept.mk hb4
        have hn4 := (hb4.block q (Array.getElem?_eq_some_iff.1 HN3.out).1).trans HN3.out
        have y0 := cell_of_row _ _ 0 _ _ _ hn4
        have y1 := cell_of_row _ _ 1 _ _ _ hn4
        have HN4 := Kept.mk hn4
        obtain ⟨t2, ht2⟩ : ∃ t2, t2 = isU 63 u := ⟨_, rfl⟩
        have HI2 : Kept (t2 = ((u.1.toNat : Int) == 63 && !u.2)) := ⟨by rw [ht2, isU_int]; rfl⟩
        have HT2 : Kept (t2 = isU 63 u) := ⟨ht2⟩
        clear hb4 hn4 ht2 z0 z1 HI1
        go_wp2_with fail
        cases t2 with
        | true =>
          go_at_call 33
          refine (is_any _ _ _ _ true HI2.out).mono ?_
          rintro e w5 ⟨rfl, hb5⟩
          have HB6 : Kept (Below W2.heap.size W2 w5) := ⟨HB4.out.trans (hb5.mono HB4.out.size)⟩
          have HE : Kept (plainE u = .any) := ⟨by unfold plainE; rw [if_neg (by rw [← HT1.out]; decide), if_pos HT2.out.symm]⟩
          clear hb5 y0 y1 HB4
          have h3 := (HB6.out.block R (Array.getElem?_eq_some_iff.1 HRr2.out).1).trans HRr2.out
          have r0 := cell_of_row _ _ 0 _ _ _ h3
          have r1 := cell_of_row _ _ 1 _ _ _ h3
          have r2 := cell_of_row _ _ 2 _ _ _ h3
          have rf0 := frozen_of_row _ _ 0 _ _ h3
          have rf1 := frozen_of_row _ _ 1 _ _ h3
          have rf2 := frozen_of_row _ _ 2 _ _ h3
          have HP := Kept.mk (put3_row (x := .int .i64 1) (y := .int .u8 0) (z := .pointer none) h3)
          clear h3
          go_wp2_with fail
          refine bodyPost_ret (results_cell_row rfl _ _ R _ _ (0, 0) _ rfl HP.out Try.underlying61 rfl (by kernel_rfl)) rfl ?_
          unfold ReadQ
          rw [HRd.out]
          exact ⟨⟨1, 0, none⟩, A3, k3, rfl, ⟨by rw [HE.out]; rfl⟩, ⟨(HX1.out.below HB6.out).put3 HbR.out⟩, ⟨put3_only (HX2.out.below HB6.out) (by rw [HRe.out]; exact Nat.le_refl _)⟩⟩
        | false =>
          go_at_call 33
          refine (is_any _ _ _ _ false HI2.out).mono ?_
          rintro e w5 ⟨rfl, hb5⟩
          have HB6 : Kept (Below W2.heap.size W2 w5) := ⟨HB4.out.trans (hb5.mono HB4.out.size)⟩
          have hn5 := (hb5.block q (Array.getElem?_eq_some_iff.1 HN4.out).1).trans HN4.out
          have v0 := cell_of_row _ _ 0 _ _ _ hn5
          have HE : Kept (plainE u = .one u.1) := ⟨by unfold plainE; rw [if_neg (by rw [← HT1.out]; decide), if_neg (by rw [← HT2.out]; decide)]⟩
          clear hb5 hn5 y0 y1 HB4
          have h3 := (HB6.out.block R (Array.getElem?_eq_some_iff.1 HRr2.out).1).trans HRr2.out
          have r0 := cell_of_row _ _ 0 _ _ _ h3
          have r1 := cell_of_row _ _ 1 _ _ _ h3
          have r2 := cell_of_row _ _ 2 _ _ _ h3
          have rf0 := frozen_of_row _ _ 0 _ _ h3
          have rf1 := frozen_of_row _ _ 1 _ _ h3
          have rf2 := frozen_of_row _ _ 2 _ _ h3
          have HP := Kept.mk (put3_row (x := .int .i64 0) (y := .int .u8 (u.1.toNat : Int)) (z := .pointer none) h3)
          clear h3
          go_wp2_with fail
          refine bodyPost_ret (results_cell_row rfl _ _ R _ _ (0, 0) _ rfl HP.out Try.underlying61 rfl (by kernel_rfl)) rfl ?_
          unfold ReadQ
          rw [HRd.out]
          exact ⟨⟨0, (u.1.toNat : Int), none⟩, A3, k3, rfl, ⟨by rw [HE.out]; rfl⟩, ⟨(HX1.out.below HB6.out).put3 HbR.out⟩, ⟨put3_only (HX2.out.below HB6.out) (by rw [HRe.out]; exact Nat.le_refl _)⟩⟩
  · have hno := members_no _ b A k u r f H.out hc
    have hrd : read1 f u r = (plainE u, r, f) := by unfold read1; rw [if_neg hc]
    have HRd := Kept.mk hrd
    have HM := Kept.mk hno
    clear hno hc hrd
    go_enter Try.func39, Try.ntmps39
    go_wp2_with fail
    go_at_call 45
    refine HM.out.mono ?_
    rintro e w1 ⟨rfl, hb⟩
    clear HM
    generalize World.alloc _ _ = W at *
    have HR1 := Kept.mk (H.out.below hb)
    have HO1 : Kept (Only (· = b) w w1) := ⟨HOz.out.below hb⟩
    have HRr : Kept (w1.heap[R]? = some (.cells #[.int .i64 0, .int .u8 0, .pointer none] 61 (0, 0))) := ⟨by
      have h1 : W.heap[R]? = some (.cells #[.int .i64 0, .int .u8 0, .pointer none] 61 (0, 0)) := by rw [HRe.out]; exact HR.out
      exact (hb.block R (Array.getElem?_eq_some_iff.1 h1).1).trans h1⟩
    clear hb
    rw [← HRe.out]
    have c0 := HR1.out.c0
    obtain ⟨g, off, rfl, hg, d0, d1⟩ := HR1.out.us.at (j := 0) (by simp)
    obtain ⟨A3, k3, hs3, hu3⟩ := HR1.out.us.drop 1 (by simp)
    rw [List.drop_one, List.tail_cons] at hu3
    simp only [Nat.zero_mul, Nat.add_zero, List.getElem_cons_zero] at d0 d1
    obtain ⟨L, hL⟩ : ∃ L, L = (u :: r).length := ⟨_, rfl⟩
    rw [← hL] at c0 hs3
    have hsl : ∀ W : World, (Instr.slice 47 (.slice (some ⟨g, off, none⟩) L k) (some (.int .i64 1)) none none).run Try.prog W = .ok (.slice A3 (L - 1) k3) W := fun W => by rw [← hs3]; exact unit_from _ L k 1 (by rw [hL]; simp) W
    have hL0 : (0 : Int) < (L : Int) := by rw [hL]; simp
    have hL1 : 0 < L := by omega
    have HLr : Kept (L - 1 = r.length) := ⟨by rw [hL]; simp⟩
    have hlt1 := HR1.out.lt
    have HB5 := Kept.mk (Below.alloc (Below.refl w1.heap.size w1) (Nat.le_refl _) (.cells #[.int .u8 (u.1.toNat : Int), .bool u.2] 50))
    have c0a : (w1.alloc (.cells #[.int .u8 (u.1.toNat : Int), .bool u.2] 50)).cell? ⟨b, 0, none⟩ = some (.slice (some ⟨g, off, none⟩) L k) := (World.cell?_of_block (a := ⟨b, 0, none⟩) (HB5.out.block b hlt1)).trans c0
    have f0a := (HR1.out.below HB5.out).f0
    have hn1 := heap_alloc_new w1 (.cells #[.int .u8 (u.1.toNat : Int), .bool u.2] 50)
    obtain ⟨q, hq⟩ : ∃ q, q = w1.heap.size := ⟨_, rfl⟩
    obtain ⟨x1, x2⟩ := HR1.out.step HB5.out (n := L - 1) hu3 HLr.out
    have hqb : q ≠ b := by omega
    have hn3 : ((w1.alloc (.cells #[.int .u8 (u.1.toNat : Int), .bool u.2] 50)).setCell ⟨b, 0, none⟩ (.slice A3 (L - 1) k3)).heap[q]? = some (.cells #[.int .u8 (u.1.toNat : Int), .bool u.2] 50 (0, 0)) := (Below.heap_setCell _ _ _ q hqb).trans (by rw [hq]; exact hn1)
    have HX1 := Kept.mk x1
    have HX2 : Kept (Only (· = b) w ((w1.alloc (.cells #[.int .u8 (u.1.toNat : Int), .bool u.2] 50)).setCell ⟨b, 0, none⟩ (.slice A3 (L - 1) k3))) := ⟨HO1.out.trans x2 fun _ _ e => e⟩
    have HRr2 : Kept (((w1.alloc (.cells #[.int .u8 (u.1.toNat : Int), .bool u.2] 50)).setCell ⟨b, 0, none⟩ (.slice A3 (L - 1) k3)).heap[R]? = some (.cells #[.int .i64 0, .int .u8 0, .pointer none] 61 (0, 0))) := ⟨(x2.block R (Array.getElem?_eq_some_iff.1 HRr.out).1 (by have := HbR.out; omega)).trans HRr.out⟩
    have z0 := cell_of_row _ _ 0 _ _ _ hn3
    have z1 := cell_of_row _ _ 1 _ _ _ hn3
    have z0' := z0
    have z1' := z1
    rw [hq] at z0' z1'
    have HN3 := Kept.mk hn3
    have HQ := Kept.mk hq
    clear hs3 hu3 hL hlt1 hn1 hn3 x1 x2 hqb hg hq
    obtain ⟨t1, ht1⟩ : ∃ t1, t1 = isU 42 u := ⟨_, rfl⟩
    have HI1 : Kept (t1 = ((u.1.toNat : Int) == 42 && !u.2)) := ⟨by rw [ht1, isU_int]; rfl⟩
    have HT1 : Kept (t1 = isU 42 u) := ⟨ht1⟩
    clear ht1
    go_wp2_with fail
    rw [← HQ.out]
    generalize World.setCell _ _ _ = W2 at *
    clear z0' z1' c0a f0a c0 d0 d1 hsl
    cases t1 with
    | true =>
      refine (is_any _ _ _ _ true HI1.out).mono ?_
      rintro e w4 ⟨rfl, hb4⟩
      have HB4 := Kept.mk hb4
      have HE : Kept (plainE u = .star) := ⟨by unfold plainE; rw [if_pos HT1.out.symm]⟩
      clear hb4 z0 z1
      have h3 := (HB4.out.block R (Array.getElem?_eq_some_iff.1 HRr2.out).1).trans HRr2.out
      have r0 := cell_of_row _ _ 0 _ _ _ h3
      have r1 := cell_of_row _ _ 1 _ _ _ h3
      have r2 := cell_of_row _ _ 2 _ _ _ h3
      have rf0 := frozen_of_row _ _ 0 _ _ h3
      have rf1 := frozen_of_row _ _ 1 _ _ h3
      have rf2 := frozen_of_row _ _ 2 _ _ h3
      have HP := Kept.mk (put3_row (x := .int .i64 2) (y := .int .u8 0) (z := .pointer none) h3)
      clear h3
      go_wp2_with fail
      refine bodyPost_ret (results_cell_row rfl _ _ R _ _ (0, 0) _ rfl HP.out Try.underlying61 rfl (by kernel_rfl)) rfl ?_
      unfold ReadQ
      rw [HRd.out]
      exact ⟨⟨2, 0, none⟩, A3, k3, rfl, ⟨by rw [HE.out]; rfl⟩, ⟨(HX1.out.below HB4.out).put3 HbR.out⟩, ⟨put3_only (HX2.out.below HB4.out) (by rw [HRe.out]; exact Nat.le_refl _)⟩⟩
    | false =>
      refine (is_any _ _ _ _ false HI1.out).mono ?_
      rintro e w4 ⟨rfl, hb4⟩
      have HB4 := Kept.mk hb4
      have hn4 := (hb4.block q (Array.getElem?_eq_some_iff.1 HN3.out).1).trans HN3.out
      have y0 := cell_of_row _ _ 0 _ _ _ hn4
      have y1 := cell_of_row _ _ 1 _ _ _ hn4
      have HN4 := Kept.mk hn4
      obtain ⟨t2, ht2⟩ : ∃ t2, t2 = isU 63 u := ⟨_, rfl⟩
      have HI2 : Kept (t2 = ((u.1.toNat : Int) == 63 && !u.2)) := ⟨by rw [ht2, isU_int]; rfl⟩
      have HT2 : Kept (t2 = isU 63 u) := ⟨ht2⟩
      clear hb4 hn4 ht2 z0 z1 HI1
      go_wp2_with fail
      cases t2 with
      | true =>
        go_at_call 33
        refine (is_any _ _ _ _ true HI2.out).mono ?_
        rintro e w5 ⟨rfl, hb5⟩
        have HB6 : Kept (Below W2.heap.size W2 w5) := ⟨HB4.out.trans (hb5.mono HB4.out.size)⟩
        have HE : Kept (plainE u = .any) := ⟨by unfold plainE; rw [if_neg (by rw [← HT1.out]; decide), if_pos HT2.out.symm]⟩
        clear hb5 y0 y1 HB4
        have h3 := (HB6.out.block R (Array.getElem?_eq_some_iff.1 HRr2.out).1).trans HRr2.out
        have r0 := cell_of_row _ _ 0 _ _ _ h3
        have r1 := cell_of_row _ _ 1 _ _ _ h3
        have r2 := cell_of_row _ _ 2 _ _ _ h3
        have rf0 := frozen_of_row _ _ 0 _ _ h3
        have rf1 := frozen_of_row _ _ 1 _ _ h3
        have rf2 := frozen_of_row _ _ 2 _ _ h3
        have HP := Kept.mk (put3_row (x := .int .i64 1) (y := .int .u8 0) (z := .pointer none) h3)
        clear h3
        go_wp2_with fail
        refine bodyPost_ret (results_cell_row rfl _ _ R _ _ (0, 0) _ rfl HP.out Try.underlying61 rfl (by kernel_rfl)) rfl ?_
        unfold ReadQ
        rw [HRd.out]
        exact ⟨⟨1, 0, none⟩, A3, k3, rfl, ⟨by rw [HE.out]; rfl⟩, ⟨(HX1.out.below HB6.out).put3 HbR.out⟩, ⟨put3_only (HX2.out.below HB6.out) (by rw [HRe.out]; exact Nat.le_refl _)⟩⟩
      | false =>
        go_at_call 33
        refine (is_any _ _ _ _ false HI2.out).mono ?_
        rintro e w5 ⟨rfl, hb5⟩
        have HB6 : Kept (Below W2.heap.size W2 w5) := ⟨HB4.out.trans (hb5.mono HB4.out.size)⟩
        have hn5 := (hb5.block q (Array.getElem?_eq_some_iff.1 HN4.out).1).trans HN4.out
        have v0 := cell_of_row _ _ 0 _ _ _ hn5
        have HE : Kept (plainE u = .one u.1) := ⟨by unfold plainE; rw [if_neg (by rw [← HT1.out]; decide), if_neg (by rw [← HT2.out]; decide)]⟩
        clear hb5 hn5 y0 y1 HB4
        have h3 := (HB6.out.block R (Array.getElem?_eq_some_iff.1 HRr2.out).1).trans HRr2.out
        have r0 := cell_of_row _ _ 0 _ _ _ h3
        have r1 := cell_of_row _ _ 1 _ _ _ h3
        have r2 := cell_of_row _ _ 2 _ _ _ h3
        have rf0 := frozen_of_row _ _ 0 _ _ h3
        have rf1 := frozen_of_row _ _ 1 _ _ h3
        have rf2 := frozen_of_row _ _ 2 _ _ h3
        have HP := Kept.mk (put3_row (x := .int .i64 0) (y := .int .u8 (u.1.toNat : Int)) (z := .pointer none) h3)
        clear h3
        go_wp2_with fail
        refine bodyPost_ret (results_cell_row rfl _ _ R _ _ (0, 0) _ rfl HP.out Try.underlying61 rfl (by kernel_rfl)) rfl ?_
        unfold ReadQ
        rw [HRd.out]
        exact ⟨⟨0, (u.1.toNat : Int), none⟩, A3, k3, rfl, ⟨by rw [HE.out]; rfl⟩, ⟨(HX1.out.below HB6.out).put3 HbR.out⟩, ⟨put3_only (HX2.out.below HB6.out) (by rw [HRe.out]; exact Nat.le_refl _)⟩⟩
end Pm
end Go.Proofs.Ytkifnabkoidhcaa
