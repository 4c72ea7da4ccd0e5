/-
  The document's patterns: what is escaped, plain, special; how many stars there are.
-/
import Derived.Test.YtkifnabkoidhcaaPm
import Derived.Test.YtkifnabkoidhcaaTxt
import Derived.Test.YtkifnabkoidhcaaChecked
import Derived.WalkKit
import Derived.BigCall
import Derived.Laws.Strings
import Derived.Laws.Concat
import Derived.Laws.DeepStrings4
import Derived.LoopTactic
import Derived.IntWalk
namespace Go.Proofs.Ytkifnabkoidhcaa
open Go.RowKit Tx
namespace Pm

theorem drop_at {s : ByteArray} {p : Nat} (hp : p < s.size) : (toL s).drop p = s[p]'hp :: (toL s).drop (p + 1) := by
  rw [List.drop_eq_getElem_cons (by rw [toL_length]; exact hp)]
  rfl
theorem drop_end {s : ByteArray} {p : Nat} (hp : s.size ≤ p) : (toL s).drop p = [] := List.drop_eq_nil_of_le (by rw [toL_length]; exact hp)
theorem toL_app (x y : ByteArray) : toL (x ++ y) = toL x ++ toL y := by
  unfold toL
  rw [ByteArray.data_append, Array.toList_append]
theorem str_cut {s : ByteArray} {i j : Nat} (h1 : i ≤ j) (h2 : j ≤ s.size) (W : World) : (Instr.slice 9 (.string s) (some (.int .i64 (i : Int))) (some (.int .i64 (j : Int))) none).run Try.prog W = .ok (.string (s.extract i j)) W := by
  rw [run_slice_string_if W 9 s .i64 .i64 _ _ Try.underlying9, if_pos ⟨by omega, by omega⟩, if_pos ⟨by omega, by omega⟩, Int.toNat_natCast, Int.toNat_natCast]
theorem one_cut {s : ByteArray} {j : Nat} (h : j < s.size) (W : World) : (Instr.slice 9 (.string s) (some (.int .i64 (j : Int))) (some (.int .i64 ((j : Int) + 1))) none).run Try.prog W = .ok (.string (s.extract j (j + 1))) W := str_cut (i := j) (j := j + 1) (by omega) h W
theorem toL_one {s : ByteArray} {j : Nat} (h : j < s.size) : toL (s.extract j (j + 1)) = [s[j]'h] := by
  rw [toL_extract, drop_at h, Nat.add_sub_cancel_left]
  rfl
theorem take_on {s : ByteArray} {j : Nat} (h : j < s.size) : (toL s).take (j + 1) = (toL s).take j ++ [s[j]'h] := by
  rw [List.take_succ_eq_append_getElem (by rw [toL_length]; exact h)]
  rfl
theorem esc_app (l m : List UInt8) : esc (l ++ m) = esc l ++ esc m := by
  unfold esc
  rw [List.flatMap_append]
theorem plain_esc92 (y : UInt8) (r : List UInt8) : plain (92 :: y :: r) = y :: plain r := by rw [plain, if_pos rfl]
theorem plain_byte {x : UInt8} {r : List UInt8} (h : x ≠ 92 ∨ r = []) : plain (x :: r) = x :: plain r := by
  cases r with
  | nil => rfl
  | cons y r => rw [plain, if_neg (h.resolve_right (by simp))]
theorem special_esc92 (r : List UInt8) : special (92 :: r) = special r.tail := by
  cases r with
  | nil => rfl
  | cons y r => rw [special, if_pos rfl]; rfl
theorem special_byte {x : UInt8} {r : List UInt8} (h : x ≠ 92) : special (x :: r) = (sign x || special r) := by
  cases r with
  | nil => rw [special, special, Bool.or_false]
  | cons y r => rw [special, if_neg h]
theorem toNat_ne {a b : UInt8} (h : a ≠ b) : ¬ ((a.toNat : Nat) : Int) = ((b.toNat : Nat) : Int) := fun e => h (UInt8.toNat_inj.1 (by omega))
set_option maxHeartbeats 1000000 in
set_option maxRecDepth 100000 in
theorem refEsc_any (s : ByteArray) (w : World) (hs : s.size ≤ 1000) : Calls Try.prog 24 #[.string s] w fun e w' => e = .returned (.string (bs (esc (toL s)))) ∧ w = w' := by
  go_enter Try.func24, Try.ntmps24
  go_wp2_with fail
  go_loop [3, 4] (fun o i => ∃ (j : Nat) (x : ByteArray), j ≤ s.size ∧ i = .int .i64 (j : Int) ∧ o = .string x ∧ x.size = 2 * j ∧ Kept (toL x = esc ((toL s).take j))) (fun _ i => s.size - (intOf i).toNat)
  case atStart => exact ⟨0, ⟨#[]⟩, by omega, rfl, rfl, rfl, ⟨rfl⟩⟩
  case round =>
    obtain ⟨j, x, hj, rfl, rfl, hx, HX⟩ := hrel
    by_cases hlt : j < s.size
    · have hl2 : (j : Int) < (s.size : Int) := by omega
      have hj1 : (j : Int) + 1 ≤ (s.size : Int) := by omega
      have hj5 : (j : Int) ≤ 1000 := by omega
      obtain ⟨Y, hY⟩ : ∃ Y, Y = s.extract j (j + 1) := ⟨_, rfl⟩
      have hYs : Y.size ≤ 1 := by rw [hY, ByteArray.size_extract]; omega
      have hYz : Y.size = 1 := by rw [hY, ByteArray.size_extract]; omega
      have hsl : ∀ W : World, (Instr.slice 9 (.string s) (some (.int .i64 (j : Int))) (some (.int .i64 ((j : Int) + 1))) none).run Try.prog W = .ok (.string Y) W := fun W => by rw [hY]; exact one_cut hlt W
      have HX2 : Kept (toL (x ++ (⟨#[92]⟩ : ByteArray) ++ Y) = esc ((toL s).take (j + 1))) := ⟨by
        rw [take_on hlt, esc_app, toL_app, toL_app, HX.out, hY, toL_one hlt, List.append_assoc]; rfl⟩
      have HZ : Kept ((x ++ (⟨#[92]⟩ : ByteArray) ++ Y).size = 2 * (j + 1)) := ⟨by
        simp only [ByteArray.size_append]; show x.size + 1 + Y.size = _; omega⟩
      have h1 : ¬ 9223372036854775807 < x.size + 1 := by omega
      have h2 : ¬ 9223372036854775807 < x.size + 1 + Y.size := by omega
      clear hY hYz hx
      go_wp2_with fail
      go_round
      case rel => exact ⟨j + 1, _, by omega, by go_num, rfl, HZ.out, HX2⟩
      case measure => simp [intOf]; omega
    · obtain rfl : j = s.size := by omega
      have HR : Kept (x = bs (esc (toL s))) := ⟨by
        have := HX.out
        rw [List.take_of_length_le (by rw [toL_length]; exact Nat.le_refl _)] at this
        rw [← this, bs_toL]⟩
      clear hlt hx
      go_wp2_with fail
      go_ret
      exact ⟨by rw [← HR.out]; rfl, rfl⟩
set_option maxHeartbeats 1000000 in
set_option maxRecDepth 100000 in
theorem refPlain_any (s : ByteArray) (w : World) (hs : s.size ≤ 1000) : Calls Try.prog 18 #[.string s] w fun e w' => e = .returned (.string (bs (plain (toL s)))) ∧ w = w' := by
  go_enter Try.func18, Try.ntmps18
  go_wp2_with fail
  go_loop [3, 4] (fun o i => ∃ (j : Nat) (x : ByteArray), j ≤ s.size ∧ i = .int .i64 (j : Int) ∧ o = .string x ∧ x.size ≤ j ∧ Kept (plain (toL s) = toL x ++ plain ((toL s).drop j))) (fun _ i => s.size - (intOf i).toNat)
  case atStart => exact ⟨0, ⟨#[]⟩, by omega, rfl, rfl, by decide, ⟨rfl⟩⟩
  case round =>
    obtain ⟨j, x, hj, rfl, rfl, hx, HX⟩ := hrel
    by_cases hlt : j < s.size
    · have hl2 : (j : Int) < (s.size : Int) := by omega
      have hj5 : (j : Int) ≤ 1000 := by omega
      have hd := drop_at hlt
      by_cases h92 : s[j]'hlt = 92 ∧ j + 1 < s.size
      · obtain ⟨e92, hn⟩ := h92
        have hn2 : (j : Int) + 1 < (s.size : Int) := by omega
        have hj2 : (j : Int) + 1 + 1 ≤ (s.size : Int) := by omega
        have z92 : ((s[j]'hlt).toNat : Int) = 92 := by rw [e92]; rfl
        obtain ⟨Y, hY⟩ : ∃ Y, Y = s.extract (j + 1) (j + 1 + 1) := ⟨_, rfl⟩
        have hYs : Y.size ≤ 1 := by rw [hY, ByteArray.size_extract]; omega
        have hsl : ∀ W : World, (Instr.slice 9 (.string s) (some (.int .i64 ((j : Int) + 1))) (some (.int .i64 ((j : Int) + 1 + 1))) none).run Try.prog W = .ok (.string Y) W := fun W => by rw [hY]; exact one_cut (j := j + 1) hn W
        have HX2 : Kept (plain (toL s) = toL (x ++ Y) ++ plain ((toL s).drop (j + 1 + 1))) := ⟨by
          rw [HX.out, hd, e92, drop_at hn, plain_esc92, toL_app, hY, toL_one hn, List.append_assoc]; rfl⟩
        have h1 : ¬ 9223372036854775807 < x.size + Y.size := by omega
        have HZ : Kept ((x ++ Y).size ≤ j + 1 + 1) := ⟨by rw [ByteArray.size_append]; omega⟩
        clear hY hd e92 hx HX
        go_wp2_with fail
        go_round
        case rel => exact ⟨j + 1 + 1, _, by omega, by go_num, rfl, HZ.out, HX2⟩
        case measure => simp [intOf]; omega
      · have hj1 : (j : Int) + 1 ≤ (s.size : Int) := by omega
        obtain ⟨Y, hY⟩ : ∃ Y, Y = s.extract j (j + 1) := ⟨_, rfl⟩
        have hYs : Y.size ≤ 1 := by rw [hY, ByteArray.size_extract]; omega
        have hsl : ∀ W : World, (Instr.slice 9 (.string s) (some (.int .i64 (j : Int))) (some (.int .i64 ((j : Int) + 1))) none).run Try.prog W = .ok (.string Y) W := fun W => by rw [hY]; exact one_cut hlt W
        have HX2 : Kept (plain (toL s) = toL (x ++ Y) ++ plain ((toL s).drop (j + 1))) := ⟨by
          rw [HX.out, hd, plain_byte, toL_app, hY, toL_one hlt, List.append_assoc]; rfl
          by_cases e : s[j]'hlt = 92
          · exact .inr (drop_end (by have : ¬ j + 1 < s.size := fun h => h92 ⟨e, h⟩; omega))
          · exact .inl e⟩
        have h1 : ¬ 9223372036854775807 < x.size + Y.size := by omega
        have HZ : Kept ((x ++ Y).size ≤ j + 1) := ⟨by rw [ByteArray.size_append]; omega⟩
        by_cases e92 : s[j]'hlt = 92
        · have z92 : ((s[j]'hlt).toNat : Int) = 92 := by rw [e92]; rfl
          have hn2 : ¬ (j : Int) + 1 < (s.size : Int) := by have : ¬ j + 1 < s.size := fun h => h92 ⟨e92, h⟩; omega
          clear hY hd e92 h92 hx HX
          go_wp2_with fail
          go_round
          case rel => exact ⟨j + 1, _, by omega, by go_num, rfl, HZ.out, HX2⟩
          case measure => simp [intOf]; omega
        · have z92 : ¬ ((s[j]'hlt).toNat : Int) = 92 := toNat_ne (b := 92) e92
          clear hY hd e92 h92 hx HX
          go_wp2_with fail
          go_round
          case rel => exact ⟨j + 1, _, by omega, by go_num, rfl, HZ.out, HX2⟩
          case measure => simp [intOf]; omega
    · obtain rfl : j = s.size := by omega
      have HR : Kept (x = bs (plain (toL s))) := ⟨by
        have := HX.out
        rw [drop_end (Nat.le_refl _), plain, List.append_nil] at this
        rw [this, bs_toL]⟩
      clear hlt hx HX
      go_wp2_with fail
      go_ret
      exact ⟨by rw [← HR.out]; rfl, rfl⟩
set_option maxHeartbeats 1000000 in
set_option maxRecDepth 100000 in
theorem refSpecial_any (s : ByteArray) (w : World) (hs : s.size ≤ 1000) : Calls Try.prog 20 #[.string s] w fun e w' => e = .returned (.bool (special (toL s))) ∧ w = w' := by
  go_enter Try.func20, Try.ntmps20
  go_wp2_with fail
  go_loop [3] (fun i => ∃ (j : Nat), j ≤ s.size + 1 ∧ i = .int .i64 (j : Int) ∧ Kept (special (toL s) = special ((toL s).drop j))) (fun i => s.size + 1 - (intOf i).toNat)
  case atStart => exact ⟨0, by omega, rfl, ⟨rfl⟩⟩
  case round =>
    obtain ⟨j, hj, rfl, HX⟩ := hrel
    by_cases hlt : j < s.size
    · have hl2 : (j : Int) < (s.size : Int) := by omega
      have hj5 : (j : Int) ≤ 1000 := by omega
      have hd := drop_at hlt
      by_cases e92 : s[j]'hlt = 92
      · have z92 : ((s[j]'hlt).toNat : Int) = 92 := by rw [e92]; rfl
        have HX2 : Kept (special (toL s) = special ((toL s).drop (j + 1 + 1))) := ⟨by
          rw [HX.out, hd, e92, special_esc92, List.tail_drop]⟩
        clear hd e92 HX
        go_wp2_with fail
        go_round
        case rel => exact ⟨j + 1 + 1, by omega, by go_num, HX2⟩
        case measure => simp [intOf]; omega
      · have z92 : ¬ ((s[j]'hlt).toNat : Int) = 92 := toNat_ne (b := 92) e92
        by_cases hs2 : sign (s[j]'hlt) = true
        · have HR : Kept (special (toL s) = true) := ⟨by rw [HX.out, hd, special_byte e92, hs2, Bool.true_or]⟩
          simp only [sign, Bool.or_eq_true, beq_iff_eq] at hs2
          rcases hs2 with (h | h) | h
          · have z1 : ((s[j]'hlt).toNat : Int) = 42 := by rw [h]; rfl
            clear h hd e92 HX
            go_wp2_with fail
            go_ret
            exact ⟨by rw [HR.out]; rfl, rfl⟩
          · have z1 : ((s[j]'hlt).toNat : Int) = 63 := by rw [h]; rfl
            clear h hd e92 HX
            go_wp2_with fail
            go_ret
            exact ⟨by rw [HR.out]; rfl, rfl⟩
          · have z1 : ((s[j]'hlt).toNat : Int) = 91 := by rw [h]; rfl
            clear h hd e92 HX
            go_wp2_with fail
            go_ret
            exact ⟨by rw [HR.out]; rfl, rfl⟩
        · have hsf : sign (s[j]'hlt) = false := by simpa using hs2
          have HX2 : Kept (special (toL s) = special ((toL s).drop (j + 1))) := ⟨by rw [HX.out, hd, special_byte e92, hsf, Bool.false_or]⟩
          simp only [sign, Bool.or_eq_false_iff, beq_eq_false_iff_ne] at hsf
          have z1 : ¬ ((s[j]'hlt).toNat : Int) = 42 := toNat_ne (b := 42) hsf.1.1
          have z2 : ¬ ((s[j]'hlt).toNat : Int) = 63 := toNat_ne (b := 63) hsf.1.2
          have z3 : ¬ ((s[j]'hlt).toNat : Int) = 91 := toNat_ne (b := 91) hsf.2
          clear hsf hs2 hd e92 HX
          go_wp2_with fail
          go_round
          case rel => exact ⟨j + 1, by omega, by go_num, HX2⟩
          case measure => simp [intOf]; omega
    · have HR : Kept (special (toL s) = false) := ⟨by rw [HX.out, drop_end (by omega)]; rfl⟩
      have hl2 : ¬ (j : Int) < (s.size : Int) := by omega
      clear hlt HX
      go_wp2_with fail
      go_ret
      exact ⟨by rw [HR.out]; rfl, rfl⟩
end Pm
end Go.Proofs.Ytkifnabkoidhcaa
