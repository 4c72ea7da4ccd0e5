/-
  Parts of the proof, merged.
-/
import Derived.BigCall
import Derived.BigGuardPart
import Derived.BigQuiet
import Derived.Deep.QuietTactic
import Derived.Defers
import Derived.Laws.Concat
import Derived.Laws.Pointers
import Derived.Laws.Rows
import Derived.Laws.Strings
import Derived.Laws.Unary
import Derived.Lib.Bytealg
import Derived.Lib.IndexMore
import Derived.Lib.Strings
import Derived.Recover
import Derived.StillTail
import Derived.StillTailTactics
import Derived.Test.YtahjonfmhejoeaaGreatDoorVa01
import Derived.Test.YtahjonfmhejoeaaGreatDoorVa05
import Derived.Test.YtahjonfmhejoeaaGreatDoorVa07
import Derived.WalkKit
namespace Go.Proofs.YtahjonfmhejoeaaGreatDoor
section
open Go.RowKit Tx
namespace Lx
structure RD (w : World) (b : Nat) (s : ByteArray) (p : Nat) (v : Value) : Prop where
 row : w.heap[b]? = some (.cells #[.string s, .int .i64 (p : Int), v] 90 (0, 0))
 le : p ≤ s.size
 sz : s.size ≤ 20000
section
variable {w w' : World} {b p : Nat} {s : ByteArray} {v : Value}
theorem RD.lt (h : RD w b s p v) : b < w.heap.size := (Array.getElem?_eq_some_iff.1 h.row).1
theorem RD.c0 (h : RD w b s p v) : w.cell? ⟨b, 0, none⟩ = some (.string s) := cell_of_row w b 0 _ _ _ h.row
theorem RD.c1 (h : RD w b s p v) : w.cell? ⟨b, 1, none⟩ = some (.int .i64 (p : Int)) := cell_of_row w b 1 _ _ _ h.row
theorem RD.c2 (h : RD w b s p v) : w.cell? ⟨b, 2, none⟩ = some v := cell_of_row w b 2 _ _ _ h.row
theorem RD.f1 (h : RD w b s p v) : w.frozen? ⟨b, 1, none⟩ = false := frozen_of_row w b 1 _ _ h.row
theorem RD.f2 (h : RD w b s p v) : w.frozen? ⟨b, 2, none⟩ = false := frozen_of_row w b 2 _ _ h.row
theorem RD.keep (h : RD w b s p v) (hb : w'.heap[b]? = w.heap[b]?) : RD w' b s p v := ⟨hb.trans h.row, h.le, h.sz⟩
theorem RD.drew (h : RD w b s p v) : RD w.drew b s p v := ⟨h.row, h.le, h.sz⟩
theorem RD.drewN (h : RD w b s p v) (n : Nat) : RD (w.drewN n) b s p v := ⟨h.row, h.le, h.sz⟩
theorem RD.below (h : RD w b s p v) (hb : Below w.heap.size w w') : RD w' b s p v := h.keep (hb.block b h.lt)
theorem RD.at (h : RD w b s p v) (q : Nat) (hq : q ≤ s.size) : RD (w.setCell ⟨b, 1, none⟩ (.int .i64 (q : Int))) b s q v :=
 ⟨by have := heap_setCell_same w b 1 _ _ (.int .i64 (q : Int)) h.row; simpa using this, hq, h.sz⟩
end
theorem only_trans {b : Nat} {w w1 w2 : World} (h : Only (· = b) w w1) (k : Only (· = b) w1 w2) : Only (· = b) w w2 := h.trans k (fun _ _ h => h)
def Qt (w w' : World) : Prop := ∃ n, w' = w.drewN n
theorem Qt.refl (w : World) : Qt w w := ⟨0, rfl⟩
theorem Qt.trans {a b c : World} (h : Qt a b) (k : Qt b c) : Qt a c := by
 obtain ⟨n, rfl⟩ := h
 obtain ⟨m, rfl⟩ := k
 exact ⟨n + m, by unfold World.drewN; simp [Nat.add_assoc]⟩
theorem Qt.drewN {a b : World} (h : Qt a b) (n : Nat) : Qt a (b.drewN n) := h.trans ⟨n, rfl⟩
theorem Qt.rd {w w' : World} {b p : Nat} {s : ByteArray} {v : Value} (h : RD w b s p v) (k : Qt w w') : RD w' b s p v := by obtain ⟨n, rfl⟩ := k; exact h.drewN n
theorem Qt.only {w w' : World} (k : Qt w w') (B : Nat → Prop) : Only B w w' := by obtain ⟨n, rfl⟩ := k; exact (Only.refl _ _).drewN n
theorem Qt.below {w w' : World} (k : Qt w w') : Below w.heap.size w w' := by obtain ⟨n, rfl⟩ := k; exact below_drewN (Below.refl _ _) n
def pan (n : Int) : List PanicEntry := [{ v := .iface 32 (.int .i64 n), recovered := false }]
def Moved (w : World) (b : Nat) (s : ByteArray) (v : Value) (o : Option Nat) (e : Ending) (w' : World) : Prop :=
 match o with
 | some q => e = .returned (.tuple #[]) ∧ Kept (RD w' b s q v) ∧ Kept (Only (· = b) w w')
 | none => e = .panicked (pan 80) ∧ Kept (Only (· = b) w w')
set_option maxRecDepth 100000 in
theorem ended_any (w : World) (b : Nat) (s : ByteArray) (p : Nat) (v : Value) (t : Bool) (h : RD w b s p v) (ht : t = decide (p = s.size)) :
   Calls Tryz.prog 47 #[.pointer (some ⟨b, 0, none⟩)] w fun e w' => e = .returned (.bool t) ∧ Qt w w' := by
 have c0 := h.c0
 have c1 := h.c1
 have HT : Kept ((Value.bool (decide ((p : Int) = (s.size : Int)))) = .bool t) := ⟨by subst ht; congr 1; simp only [decide_eq_decide]; omega⟩
 have HT2 : Kept ((Value.bool ((p : Int) == (s.size : Int))) = .bool t) := ⟨by rw [← HT.out]; congr 1⟩
 clear h ht
 go_enter Tryz.func47, Tryz.ntmps47
 go_wp2
 go_quiet (fail)
 go_wp2
 go_ret
 exact ⟨by rw [← HT2.out]; rfl, ⟨_, rfl⟩⟩
set_option maxRecDepth 100000 in
theorem rest_any (w : World) (b : Nat) (s : ByteArray) (p : Nat) (v : Value) (h : RD w b s p v) :
   Calls Tryz.prog 84 #[.pointer (some ⟨b, 0, none⟩)] w fun e w' => e = .returned (.string (s.extract p s.size)) ∧ Qt w w' := by
 have c0 := h.c0
 have c1 := h.c1
 have hle := h.le
 have hfrom : ∀ W : World, (Instr.slice 9 (.string s) (some (.int .i64 (p : Int))) none none).run Tryz.prog W = .ok (.string (s.extract p s.size)) W := fun W => by
   rw [run_slice_string_from_if W 9 s .i64 _ Tryz.underlying9, if_pos ⟨by omega, by omega⟩, Int.toNat_natCast]
 clear h hle
 go_enter Tryz.func84, Tryz.ntmps84
 go_wp2
 go_quiet (fail)
 go_wp2
 go_ret
 exact ⟨rfl, ⟨_, rfl⟩⟩
set_option maxRecDepth 100000 in
theorem skip_ok (w : World) (b : Nat) (s : ByteArray) (p n : Nat) (v : Value) (h : RD w b s p v) (hn : p + n ≤ s.size) :
   Calls Tryz.prog 86 #[.pointer (some ⟨b, 0, none⟩), .int .i64 (n : Int)] w (Moved w b s v (some (p + n))) := by
 have H := Kept.mk h
 have hz : ((s.extract p s.size).size : Int) = s.size - p := by have := h.le; simp; omega
 have hz2 : ¬ s.size - p < n := by omega
 have hsz := h.sz
 have hp : (p : Int) ≤ 20000 := by have := h.le; omega
 have hn2 : (n : Int) ≤ 20000 := by omega
 have HE : Kept ((p : Int) + n = ((p + n : Nat) : Int)) := ⟨by omega⟩
 have HN := Kept.mk hn
 clear h hz hn
 go_enter Tryz.func86, Tryz.ntmps86
 go_wp2_with (go_at_call 84; refine (rest_any _ b s p v H.out).mono ?_; rintro e w1 ⟨rfl, k, rfl⟩; have c1 := (H.out.drewN k).c1; have f1 := (H.out.drewN k).f1)
 refine bodyPost_end (results_none rfl _ _ _) rfl ?_
 refine ⟨rfl, ⟨?_⟩, ⟨?_⟩⟩
 · rw [HE.out]; exact (H.out.drewN k).at (p + n) HN.out
 · exact ((Only.refl _ _).drewN k).setCell _ _ (fun _ => rfl)
set_option maxRecDepth 100000 in
theorem skip_bad (w : World) (b : Nat) (s : ByteArray) (p n : Nat) (v : Value) (h : RD w b s p v) (hn : ¬ p + n ≤ s.size) :
   Calls Tryz.prog 86 #[.pointer (some ⟨b, 0, none⟩), .int .i64 (n : Int)] w (Moved w b s v none) := by
 have H := Kept.mk h
 have hz : ((s.extract p s.size).size : Int) = s.size - p := by have := h.le; simp; omega
 have hz2 : s.size - p < n := by omega
 clear h hz hn
 go_enter Tryz.func86, Tryz.ntmps86
 go_wp2_with (go_at_call 84; refine (rest_any _ b s p v H.out).mono ?_; rintro e w1 ⟨rfl, k, rfl⟩)
 first | exact ⟨rfl, rfl, ⟨(Only.refl _ _).drewN k⟩⟩ | exact ⟨rfl, ⟨(Only.refl _ _).drewN k⟩⟩
theorem skip_any (w : World) (b : Nat) (s : ByteArray) (p n : Nat) (v : Value) (h : RD w b s p v) (o : Option Nat) (ho : o = if p + n ≤ s.size then some (p + n) else none) (m : Int) (hm : m = n) :
   Calls Tryz.prog 86 #[.pointer (some ⟨b, 0, none⟩), .int .i64 m] w (Moved w b s v o) := by
 subst ho hm
 split
 · exact skip_ok w b s p n v h ‹_›
 · exact skip_bad w b s p n v h ‹_›
set_option maxRecDepth 100000 in
theorem next_ok (w : World) (b : Nat) (s : ByteArray) (p : Nat) (v : Value) (c : UInt8) (h : RD w b s p v) (hp : p < s.size) (hc : s[p]'hp = c) :
   Calls Tryz.prog 162 #[.pointer (some ⟨b, 0, none⟩)] w fun e w' => e = .returned (.int .u8 (c.toNat : Int)) ∧ Qt w w' := by
 have H := Kept.mk h
 have HC := Kept.mk hc
 have HF : Kept (false = decide (p = s.size)) := ⟨(decide_eq_false (by omega)).symm⟩
 have z : (p : Int) < s.size := by omega
 clear h hc
 go_enter Tryz.func162, Tryz.ntmps162
 go_wp2_with (go_at_call 47; refine (ended_any _ b s p v false H.out HF.out).mono ?_; rintro e w1 ⟨rfl, hq⟩; have H1 := Kept.mk (hq.rd H.out); have HQ := Kept.mk hq; have c0 := H1.out.c0; have c1 := H1.out.c1; clear hq)
 go_quiet (fail)
 go_wp2
 go_ret
 exact ⟨by rw [← HC.out]; rfl, HQ.out.drewN _⟩
set_option maxRecDepth 100000 in
theorem next_bad (w : World) (b : Nat) (s : ByteArray) (p : Nat) (v : Value) (h : RD w b s p v) (hp : p = s.size) :
   Calls Tryz.prog 162 #[.pointer (some ⟨b, 0, none⟩)] w (Moved w b s v none) := by
 have H := Kept.mk h
 have HF : Kept (true = decide (p = s.size)) := ⟨(decide_eq_true (by omega)).symm⟩
 clear h hp
 go_enter Tryz.func162, Tryz.ntmps162
 go_wp2_with (go_at_call 47; refine (ended_any _ b s p v true H.out HF.out).mono ?_; rintro e w1 ⟨rfl, k, rfl⟩)
 first | exact ⟨rfl, rfl, ⟨(Only.refl _ _).drewN k⟩⟩ | exact ⟨rfl, ⟨(Only.refl _ _).drewN k⟩⟩
end Lx
end
section
open Tx
namespace Lx
def ahead (c : UInt8) (s : List UInt8) : Nat := (s.takeWhile (· ≠ c)).length
theorem ahead_le (c : UInt8) (s : List UInt8) : ahead c s ≤ s.length := (List.takeWhile_prefix _).length_le
theorem ahead_same (c : UInt8) (s : List UInt8) : ahead c (c :: s) = 0 := by simp [ahead]
theorem ahead_other {c b : UInt8} (h : b ≠ c) (s : List UInt8) : ahead c (b :: s) = ahead c s + 1 := by
 unfold ahead
 rw [List.takeWhile_cons, if_pos (by simpa using h)]
 rfl
theorem index_one (c : UInt8) (s : List UInt8) : Lib.index s [c] = if ahead c s < s.length then (ahead c s : Int) else -1 := by
 induction s with
 | nil => rfl
 | cons b s ih =>
   unfold Lib.index
   by_cases h : b = c
   · subst h
     rw [ahead_same, if_pos (by simp [List.isPrefixOf]), if_pos (by simp)]
     rfl
   · rw [ahead_other h, if_neg (by simpa [List.isPrefixOf] using fun e => h e.symm), ih, List.length_cons]
     by_cases h2 : ahead c s < s.length
     · rw [if_pos h2, if_neg (by simp), if_pos (by omega)]
       omega
     · rw [if_neg h2, if_pos (by simp), if_neg (by omega)]
theorem cut_len (c : UInt8) (s : List UInt8) : (Lib.cut s [c]).1.length = ahead c s := by
 have := ahead_le c s
 unfold Lib.cut
 rw [index_one]
 by_cases h : ahead c s < s.length
 · rw [if_pos h, if_pos (by omega)]
   simp; omega
 · rw [if_neg h, if_neg (by omega)]
   simp; omega
theorem quoted_is (s : List UInt8) : quoted s = if ahead 39 s < s.length then some (ahead 39 s + 1) else none := by
 induction s with
 | nil => rfl
 | cons b s ih =>
   unfold quoted
   by_cases h : b = 39
   · subst h
     rw [ahead_same, if_pos rfl, if_pos (by simp)]
   · rw [if_neg h, ahead_other h, ih, List.length_cons]
     by_cases h2 : ahead 39 s < s.length
     · rw [if_pos h2, if_pos (by omega)]; rfl
     · rw [if_neg h2, if_neg (by omega)]; rfl
theorem dropW_is (s : List UInt8) : s.dropWhile (· ≠ 10) = s.drop (ahead 10 s) := by
 induction s with
 | nil => rfl
 | cons b s ih =>
   by_cases h : b = 10
   · subst h; rw [ahead_same]; simp
   · rw [ahead_other h, List.dropWhile_cons, if_pos (by simpa using h), ih]; rfl
theorem index_stops (c : UInt8) : decide (0 ≤ Lib.indexByte [10, 59, 124, 38, 40, 41, 60, 62] c) = (c == 10 || isOp c) := by
 have : ∀ i : Fin 256, decide (0 ≤ Lib.indexByte [10, 59, 124, 38, 40, 41, 60, 62] (UInt8.ofNat i.val)) = (UInt8.ofNat i.val == 10 || isOp (UInt8.ofNat i.val)) := by decide +kernel
 have h := this ⟨c.toNat, c.toNat_lt⟩
 simpa using h
def leadS (l : List UInt8) : ByteArray := bs ((lead l).getD [])
theorem leadS_none {l : List UInt8} (h : lead l = none) : leadS l = ⟨#[]⟩ := by unfold leadS; rw [h]; rfl
theorem leadS_some {l o : List UInt8} (h : lead l = some o) : leadS l = bs o := by unfold leadS; rw [h]; rfl
end Lx
end
section
open Go.RowKit Tx
namespace Lx
def opVals : Array Value := #[.string ⟨#[38, 38]⟩, .string ⟨#[124, 124]⟩, .string ⟨#[59, 59]⟩, .string ⟨#[62, 62]⟩, .string ⟨#[59]⟩, .string ⟨#[124]⟩, .string ⟨#[38]⟩, .string ⟨#[40]⟩, .string ⟨#[41]⟩, .string ⟨#[60]⟩, .string ⟨#[62]⟩]
structure Kit (w : World) : Prop where
 max : ∃ m, w.cell? ⟨1, 0, none⟩ = some (.int .i64 m)
 ops : ∃ t fr, w.heap[0]? = some (.cells opVals t fr)
theorem Kit.keep {w w' : World} (h : Kit w) (h0 : w'.heap[0]? = w.heap[0]?) (h1 : w'.heap[1]? = w.heap[1]?) : Kit w' := by
 obtain ⟨⟨m, hm⟩, t, fr, ho⟩ := h
 exact ⟨⟨m, (World.cell?_of_block (w := w) (a := ⟨1, 0, none⟩) h1).trans hm⟩, t, fr, h0.trans ho⟩
theorem Kit.lt {w : World} (h : Kit w) : 0 < w.heap.size ∧ 1 < w.heap.size := by
 obtain ⟨⟨m, hm⟩, t, fr, ho⟩ := h
 exact ⟨(Array.getElem?_eq_some_iff.1 ho).1, World.block_lt_of_cell? w _ hm⟩
theorem Kit.below {w w' : World} (h : Kit w) (hb : Below w.heap.size w w') : Kit w' := h.keep (hb.block _ h.lt.1) (hb.block _ h.lt.2)
theorem Kit.only {w w' : World} {B : Nat → Prop} (h : Kit w) (hb : Only B w w') (h0 : ¬ B 0) (h1 : ¬ B 1) : Kit w' := h.keep (hb.block _ h.lt.1 h0) (hb.block _ h.lt.2 h1)
structure RM (w : World) (b : Nat) (s : ByteArray) (p : Nat) (v : Value) : Prop where
 rd : RD w b s p v
 kit : Kit w
 n0 : 0 < b
 n1 : 1 < b
theorem RM.on {w w' : World} {b p q : Nat} {s : ByteArray} {v u : Value} (h : RM w b s p v) (hr : RD w' b s q u) (ho : Only (· = b) w w') : RM w' b s q u := ⟨hr, h.kit.only ho (Nat.ne_of_lt h.n0) (Nat.ne_of_lt h.n1), h.n0, h.n1⟩
theorem RM.qt {w w' : World} {b p : Nat} {s : ByteArray} {v : Value} (h : RM w b s p v) (hq : Qt w w') : RM w' b s p v := h.on (hq.rd h.rd) (hq.only _)
theorem RM.mv {w w' : World} {b p q : Nat} {s : ByteArray} {v : Value} (h : RM w b s p v) (hm : Kept (RD w' b s q v) ∧ Kept (Only (· = b) w w')) : RM w' b s q v := h.on hm.1.out hm.2.out
theorem blank_any (c : UInt8) (w : World) (t : Bool) (ht : t = (c == 32 || c == 9)) : Calls Tryz.prog 85 #[.int .u8 (c.toNat : Int)] w fun e w' => e = .returned (.bool t) ∧ w' = w := by
 by_cases h1 : c = 32
 · subst h1
   obtain rfl : t = true := ht
   go_enter Tryz.func85, Tryz.ntmps85
   go_wp2
   go_ret
   exact ⟨rfl, rfl⟩
 · have h3 : ¬ (c.toNat : Int) = 32 := fun e => h1 (UInt8.toNat_inj.1 (show c.toNat = 32 by omega))
   have h1b : ((c.toNat : Int) == 32) = false := by simpa using h3
   by_cases h2 : c = 9
   · subst h2
     obtain rfl : t = true := ht
     go_enter Tryz.func85, Tryz.ntmps85
     go_wp2
     go_ret
     exact ⟨rfl, rfl⟩
   · have h4 : ¬ (c.toNat : Int) = 9 := fun e => h2 (UInt8.toNat_inj.1 (show c.toNat = 9 by omega))
     have h2b : ((c.toNat : Int) == 9) = false := by simpa using h4
     obtain rfl : t = false := by rw [ht]; simp [h1, h2]
     clear h1 h2 h3 h4 ht
     go_enter Tryz.func85, Tryz.ntmps85
     go_wp2
     go_ret
     exact ⟨rfl, rfl⟩
theorem stop_any (c : UInt8) (w : World) (t : Bool) (ht : t = stops c) : Calls Tryz.prog 125 #[.int .u8 (c.toNat : Int)] w fun e w' => e = .returned (.bool t) ∧ w' = w := by
 rw [stops_is] at ht
 by_cases h1 : c = 32 ∨ c = 9
 · have HB : Kept (true = (c == 32 || c == 9)) := ⟨by rcases h1 with rfl | rfl <;> rfl⟩
   obtain rfl : t = true := by rcases h1 with rfl | rfl <;> exact ht
   clear h1 ht
   go_enter Tryz.func125, Tryz.ntmps125
   go_wp2_with (go_at_call 85; refine (blank_any c _ true HB.out).mono ?_; rintro e w1 ⟨rfl, rfl⟩)
   go_ret
   exact ⟨rfl, rfl⟩
 · have HB : Kept (false = (c == 32 || c == 9)) := ⟨by simpa [not_or] using h1⟩
   have ht2 : t = decide (0 ≤ Lib.indexByte [10, 59, 124, 38, 40, 41, 60, 62] c) := by
     rw [index_stops, ht, ← HB.out]; rfl
   have HT : Kept (decide (0 ≤ Lib.indexByte [10, 59, 124, 38, 40, 41, 60, 62] c) = t) := ⟨ht2.symm⟩
   clear h1 ht ht2
   go_enter Tryz.func125, Tryz.ntmps125
   go_wp2_with (first
     | (go_at_call 85; refine (blank_any c _ false HB.out).mono ?_; rintro e w1 ⟨rfl, rfl⟩)
     | (go_at_call 136; refine (Tryz.strings_IndexByte _ _ _).mono ?_; rintro e w1 ⟨rfl, rfl⟩))
   go_ret
   exact ⟨by rw [← HT.out]; rfl, rfl⟩
theorem op_at (k : Nat) (hk : k < 11) : ∃ o, opers[k]? = some o ∧ ∀ W : World, (Instr.index 131 (.agg opVals) (.int .i64 (k : Int))).run Tryz.prog W = .ok (.string (bs o)) W := by
 match k, hk with
 | 0, _ => exact ⟨_, rfl, fun W => by kernel_rfl⟩
 | 1, _ => exact ⟨_, rfl, fun W => by kernel_rfl⟩
 | 2, _ => exact ⟨_, rfl, fun W => by kernel_rfl⟩
 | 3, _ => exact ⟨_, rfl, fun W => by kernel_rfl⟩
 | 4, _ => exact ⟨_, rfl, fun W => by kernel_rfl⟩
 | 5, _ => exact ⟨_, rfl, fun W => by kernel_rfl⟩
 | 6, _ => exact ⟨_, rfl, fun W => by kernel_rfl⟩
 | 7, _ => exact ⟨_, rfl, fun W => by kernel_rfl⟩
 | 8, _ => exact ⟨_, rfl, fun W => by kernel_rfl⟩
 | 9, _ => exact ⟨_, rfl, fun W => by kernel_rfl⟩
 | 10, _ => exact ⟨_, rfl, fun W => by kernel_rfl⟩
 | k + 11, h => omega
theorem prefix_any (s : ByteArray) (o : List UInt8) (w : World) (t : Bool) (ht : t = o.isPrefixOf (toL s)) : Calls Tryz.prog 123 #[.string s, .string (bs o)] w fun e w' => e = .returned (.bool t) ∧ w' = w := by
 refine (Tryz.strings_HasPrefix s (bs o) w).mono ?_
 rintro e w' ⟨rfl, rfl⟩
 exact ⟨by rw [ht]; rfl, rfl⟩
set_option maxRecDepth 100000 in
theorem leading_any (s : ByteArray) (w : World) (hK : Kit w) : Calls Tryz.prog 83 #[.string s] w fun e w' => e = .returned (.string (leadS (toL s))) ∧ w' = w := by
 obtain ⟨_, tt, fr, ho⟩ := hK
 go_enter Tryz.func83, Tryz.ntmps83
 go_wp2_with (refine wpList_load_row rfl 131 _ rfl 0 rfl tt opVals fr _ ho Tryz.underlying131 rfl (by kernel_rfl) ?_)
 go_loop [6] (fun i => ∃ k : Nat, k ≤ 11 ∧ i = .int .i64 (k : Int) ∧ Kept (lead (toL s) = (opers.drop k).find? fun o => o.isPrefixOf (toL s))) (fun i => 11 - (intOf i).toNat)
 case atStart => exact ⟨0, by omega, rfl, ⟨rfl⟩⟩
 case round =>
   obtain ⟨k, hk, rfl, HL⟩ := hrel
   by_cases hlt : k < 11
   · obtain ⟨o, ho, hix⟩ := op_at k hlt
     have hd : opers.drop k = o :: opers.drop (k + 1) := by
       obtain ⟨h1, h2⟩ := List.getElem?_eq_some_iff.1 ho
       rw [List.drop_eq_getElem_cons h1, h2]
     have z : (k : Int) < 11 := by omega
     cases hp : o.isPrefixOf (toL s) with
     | true =>
       have HP : Kept (true = o.isPrefixOf (toL s)) := ⟨hp.symm⟩
       have HR : Kept (leadS (toL s) = bs o) := ⟨leadS_some (by rw [HL.out, hd, List.find?_cons, hp])⟩
       clear hp hd ho
       go_wp2_with (go_at_call 123; refine (prefix_any s o _ true HP.out).mono ?_; rintro e w1 ⟨rfl, rfl⟩)
       go_ret
       exact ⟨by rw [HR.out]; rfl, rfl⟩
     | false =>
       have HP : Kept (false = o.isPrefixOf (toL s)) := ⟨hp.symm⟩
       have HL2 : Kept (lead (toL s) = (opers.drop (k + 1)).find? fun o => o.isPrefixOf (toL s)) := ⟨by rw [HL.out, hd, List.find?_cons, hp]⟩
       clear hp hd ho HL
       go_wp2_with (go_at_call 123; refine (prefix_any s o _ false HP.out).mono ?_; rintro e w1 ⟨rfl, rfl⟩)
       go_round
       case rel => exact ⟨k + 1, by omega, by go_num, HL2⟩
       case measure => simp [intOf]; omega
   · obtain rfl : k = 11 := by omega
     have HR : Kept (leadS (toL s) = ⟨#[]⟩) := ⟨leadS_none (by rw [HL.out]; rfl)⟩
     clear hlt hk HL
     go_wp2
     go_ret
     exact ⟨by rw [HR.out]; rfl, rfl⟩
theorem cut_call (s : ByteArray) (c : UInt8) (w : World) (hs : s.size ≤ 4000000000) (hK : Kit w) :
   Calls Tryz.prog 124 #[.string s, .string ⟨#[c]⟩] w fun e w' => ∃ (a b : ByteArray) (t : Bool), e = .returned (.tuple #[.string a, .string b, .bool t]) ∧ Qt w w' ∧ Kept (a.size = ahead c (toL s)) := by
 obtain ⟨m, hm⟩ := hK.max
 refine (Tryz.strings_Cut s ⟨#[c]⟩ m w (by omega) hm).mono ?_
 rintro e w' ⟨rfl, hq⟩
 refine ⟨_, _, _, rfl, hq, ⟨?_⟩⟩
 rw [← cut_len]
 exact bs_size _
theorem drop_ext (s : ByteArray) (p : Nat) : toL (s.extract p s.size) = (toL s).drop p := by
 rw [toL_extract]
 exact List.take_of_length_le (by rw [List.length_drop, toL_length]; omega)
set_option maxRecDepth 100000 in
theorem quoted_any (w : World) (b : Nat) (s : ByteArray) (p : Nat) (v : Value) (h : RM w b s p v) (hp : p < s.size) (o : Option Nat) (ho : o = (quoted ((toL s).drop (p + 1))).map (p + 1 + ·)) :
   Calls Tryz.prog 137 #[.pointer (some ⟨b, 0, none⟩)] w (Moved w b s v o) := by
 have H := Kept.mk h
 have HP : Kept (some (p + 1) = if p + 1 ≤ s.size then some (p + 1) else none) := ⟨(if_pos (by omega)).symm⟩
 have HO : Kept (∀ k : Nat, k = ahead 39 (toL (s.extract (p + 1) s.size)) → o = if (p + 1) + (k + 1) ≤ s.size then some ((p + 1) + (k + 1)) else none) := ⟨by
   rintro k rfl
   rw [ho, quoted_is, drop_ext]
   have : ((toL s).drop (p + 1)).length = s.size - (p + 1) := by rw [List.length_drop, toL_length]
   have h2 := ahead_le 39 ((toL s).drop (p + 1))
   rw [this] at h2 ⊢
   by_cases h3 : ahead 39 ((toL s).drop (p + 1)) < s.size - (p + 1)
   · rw [if_pos h3, if_pos (by omega)]; rfl
   · rw [if_neg h3, if_neg (by omega)]; rfl⟩
 have hsz := h.rd.sz
 have hx : (s.extract (p + 1) s.size).size ≤ 4000000000 := by simp; omega
 have HX := Kept.mk hx
 have hal : ahead 39 (toL (s.extract (p + 1) s.size)) ≤ 20000 := by
   have := ahead_le 39 (toL (s.extract (p + 1) s.size))
   rw [toL_length] at this
   simp at this; omega
 have HAl := Kept.mk hal
 clear h hp ho hx hal
 go_enter Tryz.func137, Tryz.ntmps137
 go_wp2_with fail
 refine (skip_any w b s p 1 v H.out.rd _ HP.out _ rfl).mono ?_
 rintro e w1 ⟨rfl, h1, h1o⟩
 have H1 := Kept.mk (H.out.mv ⟨h1, h1o⟩)
 have HO1 := h1o
 clear h1 h1o H
 go_wp2_with (first
   | (go_at_call 84; refine (rest_any w1 b s (p + 1) v H1.out.rd).mono ?_; rintro e w2 ⟨rfl, hq⟩; have H2 := Kept.mk (H1.out.qt hq); have HO2 : Kept (Only (· = b) w w2) := ⟨HO1.out.trans (hq.only _) (fun _ _ h => h)⟩; clear hq)
   | (go_at_call 124; refine (cut_call _ 39 w2 HX.out H2.out.kit).mono ?_; rintro e w3 ⟨x, y, t, rfl, hq, hx⟩; have H3 := Kept.mk (H2.out.qt hq); have HO3 : Kept (Only (· = b) w w3) := ⟨HO2.out.trans (hq.only _) (fun _ _ h => h)⟩; have HK := Kept.mk (HO.out _ hx.out); have hx2 : x.size ≤ 20000 := (by rw [hx.out]; exact HAl.out); clear hq hx))
 refine (skip_any w3 b s (p + 1) (x.size + 1) v H3.out.rd o HK.out _ (by omega)).mono ?_
 rintro e w4 hm
 cases o with
 | none =>
   obtain ⟨rfl, h4⟩ := hm
   exact ⟨rfl, rfl, ⟨only_trans HO3.out h4.out⟩⟩
 | some q =>
   obtain ⟨rfl, h4, h5⟩ := hm
   have H4 := Kept.mk h4
   clear h4
   go_wp2
   refine bodyPost_end (results_none rfl _ _ _) rfl ?_
   exact ⟨rfl, H4.out, ⟨only_trans HO3.out h5.out⟩⟩
set_option maxRecDepth 100000 in
theorem comment_any (w : World) (b : Nat) (s : ByteArray) (p : Nat) (v : Value) (h : RM w b s p v) (o : Option Nat) (ho : o = some (p + ahead 10 ((toL s).drop p))) :
   Calls Tryz.prog 87 #[.pointer (some ⟨b, 0, none⟩)] w (Moved w b s v o) := by
 have H := Kept.mk h
 have h2 := ahead_le 10 ((toL s).drop p)
 rw [List.length_drop, toL_length] at h2
 have hle := h.rd.le
 have HO : Kept (∀ k : Nat, k = ahead 10 (toL (s.extract p s.size)) → o = if p + k ≤ s.size then some (p + k) else none) := ⟨by
   rintro k rfl
   rw [ho, drop_ext, if_pos (by omega)]⟩
 have hsz := h.rd.sz
 have hx : (s.extract p s.size).size ≤ 4000000000 := by simp; omega
 have HX := Kept.mk hx
 have hal : ahead 10 (toL (s.extract p s.size)) ≤ 20000 := by rw [drop_ext]; omega
 have HAl := Kept.mk hal
 clear h ho hx hal h2 hle
 go_enter Tryz.func87, Tryz.ntmps87
 go_wp2_with (first
   | (go_at_call 84; refine (rest_any w b s p v H.out.rd).mono ?_; rintro e w2 ⟨rfl, hq⟩; have H2 := Kept.mk (H.out.qt hq); have HO2 : Kept (Only (· = b) w w2) := ⟨hq.only _⟩; clear hq)
   | (go_at_call 124; refine (cut_call _ 10 w2 HX.out H2.out.kit).mono ?_; rintro e w3 ⟨x, y, t, rfl, hq, hx⟩; have H3 := Kept.mk (H2.out.qt hq); have HO3 : Kept (Only (· = b) w w3) := ⟨HO2.out.trans (hq.only _) (fun _ _ h => h)⟩; have HK := Kept.mk (HO.out _ hx.out); have hx2 : x.size ≤ 20000 := (by rw [hx.out]; exact HAl.out); clear hq hx))
 refine (skip_any w3 b s p x.size v H3.out.rd o HK.out _ (by omega)).mono ?_
 rintro e w4 hm
 cases o with
 | none =>
   obtain ⟨rfl, h4⟩ := hm
   exact ⟨rfl, rfl, ⟨only_trans HO3.out h4.out⟩⟩
 | some q =>
   obtain ⟨rfl, h4, h5⟩ := hm
   have H4 := Kept.mk h4
   clear h4
   go_wp2
   refine bodyPost_end (results_none rfl _ _ _) rfl ?_
   exact ⟨rfl, H4.out, ⟨only_trans HO3.out h5.out⟩⟩
end Lx
end
end Go.Proofs.YtahjonfmhejoeaaGreatDoor
