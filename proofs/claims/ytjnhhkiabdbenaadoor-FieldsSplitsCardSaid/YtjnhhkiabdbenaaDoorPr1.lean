/-
  The document's patterns: what is escaped, plain, special; how many stars there are.
-/
import Derived.Test.YtjnhhkiabdbenaaDoorPm
import Derived.Test.YtjnhhkiabdbenaaDoorTxt
import Derived.Test.YtjnhhkiabdbenaaDoorChecked
import Derived.WalkKit
import Derived.BigCall
import Derived.Laws.Strings
import Derived.Laws.Concat
import Derived.Laws.DeepStrings4
import Derived.LoopTactic
import Derived.IntWalk
namespace Go.Proofs.YtjnhhkiabdbenaaDoor
open Go.RowKit Tx
namespace Pm
theorem drop_at {s : ByteArray} {p : Nat} (hp : p < s.size) : (toL s).drop p = s[p]'hp :: (toL s).drop (p + 1) := by
  rw [List.drop_eq_getElem_cons (by rw [toL_length]; exact hp)]
  rfl
theorem toL_app (x y : ByteArray) : toL (x ++ y) = toL x ++ toL y := by
  unfold toL
  rw [ByteArray.data_append, Array.toList_append]
theorem str_cut {s : ByteArray} {i j : Nat} (h1 : i ≤ j) (h2 : j ≤ s.size) (W : World) : (Instr.slice 9 (.string s) (some (.int .i64 (i : Int))) (some (.int .i64 (j : Int))) none).run Tryd.prog W = .ok (.string (s.extract i j)) W := by
  rw [run_slice_string_if W 9 s .i64 .i64 _ _ Tryd.underlying9, if_pos ⟨by omega, by omega⟩, if_pos ⟨by omega, by omega⟩, Int.toNat_natCast, Int.toNat_natCast]
theorem one_cut {s : ByteArray} {j : Nat} (h : j < s.size) (W : World) : (Instr.slice 9 (.string s) (some (.int .i64 (j : Int))) (some (.int .i64 ((j : Int) + 1))) none).run Tryd.prog W = .ok (.string (s.extract j (j + 1))) W := str_cut (i := j) (j := j + 1) (by omega) h W
theorem toL_one {s : ByteArray} {j : Nat} (h : j < s.size) : toL (s.extract j (j + 1)) = [s[j]'h] := by
  rw [toL_extract, drop_at h, Nat.add_sub_cancel_left]
  rfl
theorem take_on {s : ByteArray} {j : Nat} (h : j < s.size) : (toL s).take (j + 1) = (toL s).take j ++ [s[j]'h] := by
  rw [List.take_succ_eq_append_getElem (by rw [toL_length]; exact h)]
  rfl
theorem esc_app (l m : List UInt8) : esc (l ++ m) = esc l ++ esc m := by
  unfold esc
  rw [List.flatMap_append]
set_option maxHeartbeats 1000000 in
set_option maxRecDepth 100000 in
theorem refEsc_any (s : ByteArray) (w : World) (hs : s.size ≤ 1000) : Calls Tryd.prog 19 #[.string s] w fun e w' => e = .returned (.string (bs (esc (toL s)))) ∧ w = w' := by
  go_enter Tryd.func19, Tryd.ntmps19
  go_wp2_with fail
  go_loop [3, 4] (fun o i => ∃ (j : Nat) (x : ByteArray), j ≤ s.size ∧ i = .int .i64 (j : Int) ∧ o = .string x ∧ x.size = 2 * j ∧ Kept (toL x = esc ((toL s).take j))) (fun _ i => s.size - (intOf i).toNat)
  case atStart => exact ⟨0, ⟨#[]⟩, by omega, rfl, rfl, rfl, ⟨rfl⟩⟩
  case round =>
    obtain ⟨j, x, hj, rfl, rfl, hx, HX⟩ := hrel
    by_cases hlt : j < s.size
    · have hl2 : (j : Int) < (s.size : Int) := by omega
      have hj1 : (j : Int) + 1 ≤ (s.size : Int) := by omega
      have hj5 : (j : Int) ≤ 1000 := by omega
      obtain ⟨Y, hY⟩ : ∃ Y, Y = s.extract j (j + 1) := ⟨_, rfl⟩
      have hYs : Y.size ≤ 1 := by rw [hY, ByteArray.size_extract]; omega
      have hYz : Y.size = 1 := by rw [hY, ByteArray.size_extract]; omega
      have hsl : ∀ W : World, (Instr.slice 9 (.string s) (some (.int .i64 (j : Int))) (some (.int .i64 ((j : Int) + 1))) none).run Tryd.prog W = .ok (.string Y) W := fun W => by rw [hY]; exact one_cut hlt W
      have HX2 : Kept (toL (x ++ (⟨#[92]⟩ : ByteArray) ++ Y) = esc ((toL s).take (j + 1))) := ⟨by
        rw [take_on hlt, esc_app, toL_app, toL_app, HX.out, hY, toL_one hlt, List.append_assoc]; rfl⟩
      have HZ : Kept ((x ++ (⟨#[92]⟩ : ByteArray) ++ Y).size = 2 * (j + 1)) := ⟨by
        simp only [ByteArray.size_append]; show x.size + 1 + Y.size = _; omega⟩
      have h1 : ¬ 9223372036854775807 < x.size + 1 := by omega
      have h2 : ¬ 9223372036854775807 < x.size + 1 + Y.size := by omega
      clear hY hYz hx
      go_wp2_with fail
      go_round
      case rel => exact ⟨j + 1, _, by omega, by go_num, rfl, HZ.out, HX2⟩
      case measure => simp [intOf]; omega
    · obtain rfl : j = s.size := by omega
      have HR : Kept (x = bs (esc (toL s))) := ⟨by
        have := HX.out
        rw [List.take_of_length_le (by rw [toL_length]; exact Nat.le_refl _)] at this
        rw [← this, bs_toL]⟩
      clear hlt hx
      go_wp2_with fail
      go_ret
      exact ⟨by rw [← HR.out]; rfl, rfl⟩
end Pm
end Go.Proofs.YtjnhhkiabdbenaaDoor
