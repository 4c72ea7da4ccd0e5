/-
  What the library's words for texts have to do with a script's units. Nothing of the program stands here.
-/
import Derived.Test.YtnafecdionhnfaaDoorLx2
import Derived.Test.YtnafecdionhnfaaDoorTxt
import Derived.Lib.IndexMore
import Derived.Lib.Bytealg
import Derived.Lib.Strings
namespace Go.Proofs.YtnafecdionhnfaaDoor
open Tx
namespace Lx

/-- How many bytes there are ahead of the first c. -/
def ahead (c : UInt8) (s : List UInt8) : Nat := (s.takeWhile (· ≠ c)).length
theorem ahead_le (c : UInt8) (s : List UInt8) : ahead c s ≤ s.length := (List.takeWhile_prefix _).length_le
theorem ahead_nil (c : UInt8) : ahead c [] = 0 := rfl
theorem ahead_same (c : UInt8) (s : List UInt8) : ahead c (c :: s) = 0 := by simp [ahead]
theorem ahead_other {c b : UInt8} (h : b ≠ c) (s : List UInt8) : ahead c (b :: s) = ahead c s + 1 := by
  unfold ahead
  rw [List.takeWhile_cons, if_pos (by simpa using h)]
  rfl
theorem index_one (c : UInt8) (s : List UInt8) : Lib.index s [c] = if ahead c s < s.length then (ahead c s : Int) else -1 := by
  induction s with
  | nil => rfl
  | cons b s ih =>
    unfold Lib.index
    by_cases h : b = c
    · subst h
      rw [ahead_same, if_pos (by simp [List.isPrefixOf]), if_pos (by simp)]
      rfl
    · rw [ahead_other h, if_neg (by simpa [List.isPrefixOf] using fun e => h e.symm), ih, List.length_cons]
      by_cases h2 : ahead c s < s.length
      · rw [if_pos h2, if_neg (by simp), if_pos (by omega)]
        omega
      · rw [if_neg h2, if_pos (by simp), if_neg (by omega)]
theorem cut_len (c : UInt8) (s : List UInt8) : (Lib.cut s [c]).1.length = ahead c s := by
  have := ahead_le c s
  unfold Lib.cut
  rw [index_one]
  by_cases h : ahead c s < s.length
  · rw [if_pos h, if_pos (by omega)]
    simp; omega
  · rw [if_neg h, if_neg (by omega)]
    simp; omega
theorem quoted_is (s : List UInt8) : quoted s = if ahead 39 s < s.length then some (ahead 39 s + 1) else none := by
  induction s with
  | nil => rfl
  | cons b s ih =>
    unfold quoted
    by_cases h : b = 39
    · subst h
      rw [ahead_same, if_pos rfl, if_pos (by simp)]
    · rw [if_neg h, ahead_other h, ih, List.length_cons]
      by_cases h2 : ahead 39 s < s.length
      · rw [if_pos h2, if_pos (by omega)]; rfl
      · rw [if_neg h2, if_neg (by omega)]; rfl
theorem dropW_is (s : List UInt8) : s.dropWhile (· ≠ 10) = s.drop (ahead 10 s) := by
  induction s with
  | nil => rfl
  | cons b s ih =>
    by_cases h : b = 10
    · subst h; rw [ahead_same]; simp
    · rw [ahead_other h, List.dropWhile_cons, if_pos (by simpa using h), ih]; rfl
theorem index_stops (c : UInt8) : decide (0 ≤ Lib.indexByte [10, 59, 124, 38, 40, 41, 60, 62] c) = (c == 10 || isOp c) := by
  have : ∀ i : Fin 256, decide (0 ≤ Lib.indexByte [10, 59, 124, 38, 40, 41, 60, 62] (UInt8.ofNat i.val)) = (UInt8.ofNat i.val == 10 || isOp (UInt8.ofNat i.val)) := by decide +kernel
  have h := this ⟨c.toNat, c.toNat_lt⟩
  simpa using h
/-- The operator that stands ahead, as a text. -/
def leadS (l : List UInt8) : ByteArray := bs ((lead l).getD [])
theorem leadS_none {l : List UInt8} (h : lead l = none) : leadS l = ⟨#[]⟩ := by unfold leadS; rw [h]; rfl
theorem leadS_some {l o : List UInt8} (h : lead l = some o) : leadS l = bs o := by unfold leadS; rw [h]; rfl
end Lx
end Go.Proofs.YtnafecdionhnfaaDoor
