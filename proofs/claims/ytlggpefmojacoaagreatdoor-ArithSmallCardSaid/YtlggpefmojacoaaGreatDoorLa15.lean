/-
  Parts of the proof, merged.
-/
import Derived.BigCall
import Derived.BigQuiet
import Derived.Deep.QuietTactic
import Derived.Laws.DeepStrings4
import Derived.Laws.Strings
import Derived.LoopTactic
import Derived.Test.YtlggpefmojacoaaGreatDoorLa14
import Derived.WalkKit
namespace Go.Proofs.YtlggpefmojacoaaGreatDoor
section
open Go.RowKit Tx
namespace Wx
theorem drop_at {s : ByteArray} {p : Nat} (hp : p < s.size) : (toL s).drop p = s[p]'hp :: (toL s).drop (p + 1) := by
 rw [List.drop_eq_getElem_cons (by rw [toL_length]; exact hp)]
 rfl
theorem drop_end {s : ByteArray} {p : Nat} (hp : s.size ≤ p) : (toL s).drop p = [] := List.drop_eq_nil_of_le (by rw [toL_length]; exact hp)
theorem name_first {s : ByteArray} (h : 0 < s.size) : nameL (toL s) = if letter (s[0]'h) then 1 + (((toL s).drop 1).takeWhile fun c => letter c || digit c).length else 0 := by
 have := drop_at h
 rw [List.drop_zero] at this
 rw [this]
 rfl
theorem takeW_go {f : UInt8 → Bool} {s : ByteArray} {p : Nat} (hp : p < s.size) (h : f (s[p]'hp) = true) : (((toL s).drop p).takeWhile f).length = 1 + (((toL s).drop (p + 1)).takeWhile f).length := by
 rw [drop_at hp, List.takeWhile_cons, if_pos h, List.length_cons]; omega
theorem takeW_no {f : UInt8 → Bool} {s : ByteArray} {p : Nat} (hp : p < s.size) (h : f (s[p]'hp) = false) : (((toL s).drop p).takeWhile f).length = 0 := by
 rw [drop_at hp, List.takeWhile_cons, if_neg (by simp [h])]; rfl
theorem takeW_end {f : UInt8 → Bool} {s : ByteArray} {p : Nat} (hp : s.size ≤ p) : (((toL s).drop p).takeWhile f).length = 0 := by rw [drop_end hp]; rfl
theorem empty_of {s : ByteArray} (h : s.size = 0) : s = ⟨#[]⟩ := by
 apply toL_inj
 have : (toL s).length = 0 := by rw [toL_length]; exact h
 rw [List.eq_nil_of_length_eq_zero this]; rfl
theorem not_empty {s : ByteArray} (h : 0 < s.size) : (s.toList == ([] : List UInt8)) = false := by
 have e : (⟨#[]⟩ : ByteArray).toList = [] := by decide +kernel
 rw [← e, beq_str]
 exact decide_eq_false (fun h2 => by rw [h2] at h; exact absurd h (by decide))
end Wx
end
end Go.Proofs.YtlggpefmojacoaaGreatDoor
