/-
  The program's reader in memory; its small calls.
-/
import Derived.Test.YtnafecdionhnfaaDoorShelf
import Derived.Test.YtnafecdionhnfaaDoorLx2
import Derived.Test.YtnafecdionhnfaaDoorTxt
import Derived.Test.YtnafecdionhnfaaDoorOwn2
import Derived.WalkKit
import Derived.BigCall
import Derived.BigQuiet
import Derived.Deep.QuietTactic
import Derived.StillTailTactics
import Derived.StillTail
import Derived.BigGuardPart
import Derived.Laws.Pointers
import Derived.Laws.Unary
import Derived.Laws.Concat
import Derived.Laws.Strings
import Derived.Lib.IndexMore
import Derived.Defers
import Derived.Recover
namespace Go.Proofs.YtnafecdionhnfaaDoor
open Go.RowKit Tx
namespace Lx

/-- The reader in memory. -/
structure RD (w : World) (b : Nat) (s : ByteArray) (p : Nat) (v : Value) : Prop where
  row : w.heap[b]? = some (.cells #[.string s, .int .i64 (p : Int), v] 40 (0, 0))
  le : p ≤ s.size
  sz : s.size ≤ 20000
section
variable {w w' : World} {b p : Nat} {s : ByteArray} {v : Value}
theorem RD.lt (h : RD w b s p v) : b < w.heap.size := (Array.getElem?_eq_some_iff.1 h.row).1
theorem RD.c0 (h : RD w b s p v) : w.cell? ⟨b, 0, none⟩ = some (.string s) := cell_of_row w b 0 _ _ _ h.row
theorem RD.c1 (h : RD w b s p v) : w.cell? ⟨b, 1, none⟩ = some (.int .i64 (p : Int)) := cell_of_row w b 1 _ _ _ h.row
theorem RD.c2 (h : RD w b s p v) : w.cell? ⟨b, 2, none⟩ = some v := cell_of_row w b 2 _ _ _ h.row
theorem RD.f1 (h : RD w b s p v) : w.frozen? ⟨b, 1, none⟩ = false := frozen_of_row w b 1 _ _ h.row
theorem RD.f2 (h : RD w b s p v) : w.frozen? ⟨b, 2, none⟩ = false := frozen_of_row w b 2 _ _ h.row
theorem RD.keep (h : RD w b s p v) (hb : w'.heap[b]? = w.heap[b]?) : RD w' b s p v := ⟨hb.trans h.row, h.le, h.sz⟩
theorem RD.drew (h : RD w b s p v) : RD w.drew b s p v := ⟨h.row, h.le, h.sz⟩
theorem RD.drewN (h : RD w b s p v) (n : Nat) : RD (w.drewN n) b s p v := ⟨h.row, h.le, h.sz⟩
theorem RD.below (h : RD w b s p v) (hb : Below w.heap.size w w') : RD w' b s p v := h.keep (hb.block b h.lt)
theorem RD.at (h : RD w b s p v) (q : Nat) (hq : q ≤ s.size) : RD (w.setCell ⟨b, 1, none⟩ (.int .i64 (q : Int))) b s q v :=
  ⟨by have := heap_setCell_same w b 1 _ _ (.int .i64 (q : Int)) h.row; simpa using this, hq, h.sz⟩
end

theorem only_trans {b : Nat} {w w1 w2 : World} (h : Only (· = b) w w1) (k : Only (· = b) w1 w2) : Only (· = b) w w2 := h.trans k (fun _ _ h => h)
/-- Nothing but draws. -/
def Qt (w w' : World) : Prop := ∃ n, w' = w.drewN n
theorem Qt.refl (w : World) : Qt w w := ⟨0, rfl⟩
theorem Qt.trans {a b c : World} (h : Qt a b) (k : Qt b c) : Qt a c := by
  obtain ⟨n, rfl⟩ := h
  obtain ⟨m, rfl⟩ := k
  exact ⟨n + m, by unfold World.drewN; simp [Nat.add_assoc]⟩
theorem Qt.drewN {a b : World} (h : Qt a b) (n : Nat) : Qt a (b.drewN n) := h.trans ⟨n, rfl⟩
theorem Qt.rd {w w' : World} {b p : Nat} {s : ByteArray} {v : Value} (h : RD w b s p v) (k : Qt w w') : RD w' b s p v := by obtain ⟨n, rfl⟩ := k; exact h.drewN n
theorem Qt.only {w w' : World} (k : Qt w w') (B : Nat → Prop) : Only B w w' := by obtain ⟨n, rfl⟩ := k; exact (Only.refl _ _).drewN n
theorem Qt.below {w w' : World} (k : Qt w w') : Below w.heap.size w w' := by obtain ⟨n, rfl⟩ := k; exact below_drewN (Below.refl _ _) n
/-- An error that was raised. -/
def pan (n : Int) : List PanicEntry := [{ v := .iface 27 (.int .i64 n), recovered := false }]
/-- What a step on ends in. -/
def Moved (w : World) (b : Nat) (s : ByteArray) (v : Value) (o : Option Nat) (e : Ending) (w' : World) : Prop :=
  match o with
  | some q => e = .returned (.tuple #[]) ∧ Kept (RD w' b s q v) ∧ Kept (Only (· = b) w w')
  | none => e = .panicked (pan 80) ∧ Kept (Only (· = b) w w')

set_option maxRecDepth 100000 in
theorem ended_any (w : World) (b : Nat) (s : ByteArray) (p : Nat) (v : Value) (t : Bool) (h : RD w b s p v) (ht : t = decide (p = s.size)) :
    Calls Tryd.prog 14 #[.pointer (some ⟨b, 0, none⟩)] w fun e w' => e = .returned (.bool t) ∧ Qt w w' := by
  have c0 := h.c0
  have c1 := h.c1
  have HT : Kept ((Value.bool (decide ((p : Int) = (s.size : Int)))) = .bool t) := ⟨by subst ht; congr 1; simp only [decide_eq_decide]; omega⟩
  have HT2 : Kept ((Value.bool ((p : Int) == (s.size : Int))) = .bool t) := ⟨by rw [← HT.out]; congr 1⟩
  clear h ht
  go_enter Tryd.func14, Tryd.ntmps14
  go_wp2
  go_quiet (fail)
  go_wp2
  go_ret
  exact ⟨by rw [← HT2.out]; rfl, ⟨_, rfl⟩⟩
set_option maxRecDepth 100000 in
theorem rest_any (w : World) (b : Nat) (s : ByteArray) (p : Nat) (v : Value) (h : RD w b s p v) :
    Calls Tryd.prog 20 #[.pointer (some ⟨b, 0, none⟩)] w fun e w' => e = .returned (.string (s.extract p s.size)) ∧ Qt w w' := by
  have c0 := h.c0
  have c1 := h.c1
  have hle := h.le
  have hfrom : ∀ W : World, (Instr.slice 9 (.string s) (some (.int .i64 (p : Int))) none none).run Tryd.prog W = .ok (.string (s.extract p s.size)) W := fun W => by
    rw [run_slice_string_from_if W 9 s .i64 _ Tryd.underlying9, if_pos ⟨by omega, by omega⟩, Int.toNat_natCast]
  clear h hle
  go_enter Tryd.func20, Tryd.ntmps20
  go_wp2
  go_quiet (fail)
  go_wp2
  go_ret
  exact ⟨rfl, ⟨_, rfl⟩⟩
set_option maxRecDepth 100000 in
theorem skip_ok (w : World) (b : Nat) (s : ByteArray) (p n : Nat) (v : Value) (h : RD w b s p v) (hn : p + n ≤ s.size) :
    Calls Tryd.prog 22 #[.pointer (some ⟨b, 0, none⟩), .int .i64 (n : Int)] w (Moved w b s v (some (p + n))) := by
  have H := Kept.mk h
  have hz : ((s.extract p s.size).size : Int) = s.size - p := by have := h.le; simp; omega
  have hz2 : ¬ s.size - p < n := by omega
  have hsz := h.sz
  have hp : (p : Int) ≤ 20000 := by have := h.le; omega
  have hn2 : (n : Int) ≤ 20000 := by omega
  have HE : Kept ((p : Int) + n = ((p + n : Nat) : Int)) := ⟨by omega⟩
  have HN := Kept.mk hn
  clear h hz hn
  go_enter Tryd.func22, Tryd.ntmps22
  go_wp2_with (go_at_call 20; refine (rest_any _ b s p v H.out).mono ?_; rintro e w1 ⟨rfl, k, rfl⟩; have c1 := (H.out.drewN k).c1; have f1 := (H.out.drewN k).f1)
  refine bodyPost_end (results_none rfl _ _ _) rfl ?_
  refine ⟨rfl, ⟨?_⟩, ⟨?_⟩⟩
  · rw [HE.out]; exact (H.out.drewN k).at (p + n) HN.out
  · exact ((Only.refl _ _).drewN k).setCell _ _ (fun _ => rfl)
set_option maxRecDepth 100000 in
theorem skip_bad (w : World) (b : Nat) (s : ByteArray) (p n : Nat) (v : Value) (h : RD w b s p v) (hn : ¬ p + n ≤ s.size) :
    Calls Tryd.prog 22 #[.pointer (some ⟨b, 0, none⟩), .int .i64 (n : Int)] w (Moved w b s v none) := by
  have H := Kept.mk h
  have hz : ((s.extract p s.size).size : Int) = s.size - p := by have := h.le; simp; omega
  have hz2 : s.size - p < n := by omega
  clear h hz hn
  go_enter Tryd.func22, Tryd.ntmps22
  go_wp2_with (go_at_call 20; refine (rest_any _ b s p v H.out).mono ?_; rintro e w1 ⟨rfl, k, rfl⟩)
  first | exact ⟨rfl, rfl, ⟨(Only.refl _ _).drewN k⟩⟩ | exact ⟨rfl, ⟨(Only.refl _ _).drewN k⟩⟩
theorem skip_any (w : World) (b : Nat) (s : ByteArray) (p n : Nat) (v : Value) (h : RD w b s p v) (o : Option Nat) (ho : o = if p + n ≤ s.size then some (p + n) else none) (m : Int) (hm : m = n) :
    Calls Tryd.prog 22 #[.pointer (some ⟨b, 0, none⟩), .int .i64 m] w (Moved w b s v o) := by
  subst ho hm
  split
  · exact skip_ok w b s p n v h ‹_›
  · exact skip_bad w b s p n v h ‹_›
set_option maxRecDepth 100000 in
theorem next_ok (w : World) (b : Nat) (s : ByteArray) (p : Nat) (v : Value) (c : UInt8) (h : RD w b s p v) (hp : p < s.size) (hc : s[p]'hp = c) :
    Calls Tryd.prog 39 #[.pointer (some ⟨b, 0, none⟩)] w fun e w' => e = .returned (.int .u8 (c.toNat : Int)) ∧ Qt w w' := by
  have H := Kept.mk h
  have HC := Kept.mk hc
  have HF : Kept (false = decide (p = s.size)) := ⟨(decide_eq_false (by omega)).symm⟩
  have z : (p : Int) < s.size := by omega
  clear h hc
  go_enter Tryd.func39, Tryd.ntmps39
  go_wp2_with (go_at_call 14; refine (ended_any _ b s p v false H.out HF.out).mono ?_; rintro e w1 ⟨rfl, hq⟩; have H1 := Kept.mk (hq.rd H.out); have HQ := Kept.mk hq; have c0 := H1.out.c0; have c1 := H1.out.c1; clear hq)
  go_quiet (fail)
  go_wp2
  go_ret
  exact ⟨by rw [← HC.out]; rfl, HQ.out.drewN _⟩
set_option maxRecDepth 100000 in
theorem next_bad (w : World) (b : Nat) (s : ByteArray) (p : Nat) (v : Value) (h : RD w b s p v) (hp : p = s.size) :
    Calls Tryd.prog 39 #[.pointer (some ⟨b, 0, none⟩)] w (Moved w b s v none) := by
  have H := Kept.mk h
  have HF : Kept (true = decide (p = s.size)) := ⟨(decide_eq_true (by omega)).symm⟩
  clear h hp
  go_enter Tryd.func39, Tryd.ntmps39
  go_wp2_with (go_at_call 14; refine (ended_any _ b s p v true H.out HF.out).mono ?_; rintro e w1 ⟨rfl, k, rfl⟩)
  first | exact ⟨rfl, rfl, ⟨(Only.refl _ _).drewN k⟩⟩ | exact ⟨rfl, ⟨(Only.refl _ _).drewN k⟩⟩
end Lx
end Go.Proofs.YtnafecdionhnfaaDoor
