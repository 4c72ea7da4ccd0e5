/-
  The laws of patterns over any program: with the document's answer.
-/
import Derived.Test.YtkifnabkoidhcaaPl1
namespace Go.Proofs.Ytkifnabkoidhcaa
open Go.RowKit Tx
namespace Pm
open Pc
variable {K : World → Prop}

set_option maxHeartbeats 2000000 in
set_option maxRecDepth 100000 in
theorem stars_any (p : ByteArray) (w : World) (hp : p.size ≤ 1000) : Calls Try.prog 12 #[.string p] w fun e w' => ∃ n : Nat, e = .returned (.int .i64 (n : Int)) ∧ n ≤ p.size ∧ w = w' := by
  go_enter Try.func12, Try.ntmps12
  go_wp2_with fail
  go_loop [3, 4] (fun n i => ∃ j k : Nat, j ≤ p.size ∧ k ≤ j ∧ i = .int .i64 (j : Int) ∧ n = .int .i64 (k : Int)) (fun _ i => p.size - (intOf i).toNat)
  case atStart => exact ⟨0, 0, by omega, by omega, rfl, rfl⟩
  case round =>
    obtain ⟨j, k, hj, hk, rfl, rfl⟩ := hrel
    by_cases hlt : j < p.size
    · have hl2 : (j : Int) < (p.size : Int) := by omega
      have hj5 : (j : Int) ≤ 1000 := by omega
      have hk5 : (k : Int) ≤ 1000 := by omega
      by_cases h42 : ((p[j]'hlt).toNat : Int) = 42
      · go_wp2_with fail
        go_round
        case rel => exact ⟨j + 1, k + 1, by omega, by omega, by go_num, by go_num⟩
        case measure => simp [intOf]; omega
      · go_wp2_with fail
        go_round
        case rel => exact ⟨j + 1, k, by omega, by omega, by go_num, rfl⟩
        case measure => simp [intOf]; omega
    · have hl2 : ¬ (j : Int) < (p.size : Int) := by omega
      clear hlt
      go_wp2_with fail
      go_ret
      exact ⟨k, rfl, by omega, rfl⟩
set_option maxHeartbeats 2000000 in
set_option maxRecDepth 100000 in
theorem matches_any (M : PaK K) (p s : ByteArray) (w : World) (hK : K w)  :
    Calls Try.prog 3 #[.string p, .string s] w fun e w' => e = .returned (.bool true) ∧ Below w.heap.size w w' := by
  have HK := Kept.mk hK
  clear hK
  go_enter Try.func3, Try.ntmps3
  go_wp2_with fail
  go_at_call 11
  refine (awake_any M w HK.out).mono ?_
  rintro e w1 ⟨rfl, hb⟩
  have HB1 := Kept.mk hb
  clear hb
  by_cases h60 : (60 : Int) < (p.size : Int)
  · go_wp2_with fail
    go_ret
    exact ⟨rfl, HB1.out⟩
  by_cases h30 : (30 : Int) < (s.size : Int)
  · go_wp2_with fail
    go_ret
    exact ⟨rfl, HB1.out⟩
  have hp6 : p.size ≤ 60 := by omega
  have hs3 : s.size ≤ 30 := by omega
  go_wp2_with fail
  go_at_call 12
  refine (stars_any p _ (by omega)).mono ?_
  rintro e v ⟨n, rfl, hn, rfl⟩
  by_cases h6 : (6 : Int) < (n : Int)
  · go_wp2_with fail
    go_ret
    exact ⟨rfl, HB1.out⟩
  obtain ⟨b, hb0⟩ : ∃ b, b = mat (toL p) (toL s) := ⟨_, rfl⟩
  have HBm := Kept.mk hb0
  clear hb0
  go_wp2_with fail
  go_at_call 13
  refine (M.mat1 (b := b) p s w1 (M.keep _ _ HK.out HB1.out) (by omega) (by omega) HBm.out).mono ?_
  rintro e w2 ⟨rfl, hb⟩
  have HB2 := Kept.mk (HB1.out.trans (hb.mono HB1.out.size))
  clear hb
  go_wp2_with fail
  go_at_call 14
  refine ((refMat_any p s w2 (by omega) (by omega) b HBm.out).mono fun e uu h => (⟨h.1, h.2.below⟩ : e = .returned (.bool b) ∧ Below w2.heap.size w2 uu)).mono ?_
  rintro e w3 ⟨rfl, hb⟩
  have HB3 := Kept.mk (HB2.out.trans (hb.mono HB2.out.size))
  clear hb
  go_wp2_with fail
  go_ret
  exact ⟨rfl, HB3.out⟩
set_option maxHeartbeats 2000000 in
set_option maxRecDepth 100000 in
theorem texts_any (M : PaK K) (s : ByteArray) (w : World) (hK : K w)  :
    Calls Try.prog 5 #[.string s] w fun e w' => e = .returned (.bool true) ∧ Below w.heap.size w w' := by
  have HK := Kept.mk hK
  clear hK
  go_enter Try.func5, Try.ntmps5
  go_wp2_with fail
  go_at_call 11
  refine (awake_any M w HK.out).mono ?_
  rintro e w1 ⟨rfl, hb⟩
  have HB1 := Kept.mk hb
  clear hb
  by_cases h3 : (300 : Int) < (s.size : Int)
  · go_wp2_with fail
    go_ret
    exact ⟨rfl, HB1.out⟩
  have hs3 : s.size ≤ 300 := by omega
  obtain ⟨x, hx0⟩ : ∃ x, x = bs (esc (toL s)) := ⟨_, rfl⟩
  have HX := Kept.mk hx0
  obtain ⟨y, hy0⟩ : ∃ y, y = bs (plain (toL s)) := ⟨_, rfl⟩
  have HY := Kept.mk hy0
  obtain ⟨b, hb0⟩ : ∃ b, b = special (toL s) := ⟨_, rfl⟩
  have HBm := Kept.mk hb0
  clear hx0 hy0 hb0
  go_wp2_with fail
  go_at_call 23
  refine (M.esc1 (x := x) s w1 (M.keep _ _ HK.out HB1.out) hs3 HX.out).mono ?_
  rintro e w2 ⟨rfl, hb⟩
  have HB2 := Kept.mk (HB1.out.trans (hb.mono HB1.out.size))
  clear hb
  go_wp2_with fail
  go_at_call 24
  refine ((refEsc_any s w2 (by omega)).mono fun e uu h => (⟨by rw [HX.out]; exact h.1, h.2⟩ : e = .returned (.string x) ∧ w2 = uu)).mono ?_
  rintro e v ⟨rfl, rfl⟩
  go_wp2_with fail
  go_at_call 17
  refine (M.plain1 (x := y) s w2 (M.keep _ _ HK.out HB2.out) hs3 HY.out).mono ?_
  rintro e w3 ⟨rfl, hb⟩
  have HB3 := Kept.mk (HB2.out.trans (hb.mono HB2.out.size))
  clear hb
  go_wp2_with fail
  go_at_call 18
  refine ((refPlain_any s w3 (by omega)).mono fun e uu h => (⟨by rw [HY.out]; exact h.1, h.2⟩ : e = .returned (.string y) ∧ w3 = uu)).mono ?_
  rintro e v ⟨rfl, rfl⟩
  go_wp2_with fail
  go_at_call 19
  refine (M.special1 (b := b) s w3 (M.keep _ _ HK.out HB3.out) hs3 HBm.out).mono ?_
  rintro e w4 ⟨rfl, hb⟩
  have HB4 := Kept.mk (HB3.out.trans (hb.mono HB3.out.size))
  clear hb
  go_wp2_with fail
  go_at_call 20
  refine ((refSpecial_any s w4 (by omega)).mono fun e uu h => (⟨by rw [HBm.out]; exact h.1, h.2⟩ : e = .returned (.bool b) ∧ w4 = uu)).mono ?_
  rintro e v ⟨rfl, rfl⟩
  go_wp2_with fail
  go_ret
  exact ⟨rfl, HB4.out⟩
set_option maxHeartbeats 2000000 in
set_option maxRecDepth 100000 in
theorem removes_any (M : PaK K) (s p : ByteArray) (en mo : Bool) (w : World) (hK : K w)  :
    Calls Try.prog 6 #[.string s, .string p, .bool en, .bool mo] w fun e w' => e = .returned (.bool true) ∧ Below w.heap.size w w' := by
  have HK := Kept.mk hK
  clear hK
  go_enter Try.func6, Try.ntmps6
  go_wp2_with fail
  go_at_call 11
  refine (awake_any M w HK.out).mono ?_
  rintro e w1 ⟨rfl, hb⟩
  have HB1 := Kept.mk hb
  clear hb
  by_cases h3 : (30 : Int) < (p.size : Int)
  · go_wp2_with fail
    go_ret
    exact ⟨rfl, HB1.out⟩
  by_cases h2 : (20 : Int) < (s.size : Int)
  · go_wp2_with fail
    go_ret
    exact ⟨rfl, HB1.out⟩
  have hp6 : p.size ≤ 30 := by omega
  have hs3 : s.size ≤ 20 := by omega
  go_wp2_with fail
  go_at_call 12
  refine (stars_any p _ (by omega)).mono ?_
  rintro e v ⟨n, rfl, hn, rfl⟩
  by_cases h6 : (4 : Int) < (n : Int)
  · go_wp2_with fail
    go_ret
    exact ⟨rfl, HB1.out⟩
  obtain ⟨x, hx0⟩ : ∃ x, x = bs (rem (toL s) (toL p) en mo) := ⟨_, rfl⟩
  have HX := Kept.mk hx0
  clear hx0
  go_wp2_with fail
  go_at_call 21
  refine (M.rem1 (x := x) s p en mo w1 (M.keep _ _ HK.out HB1.out) (by omega) (by omega) HX.out).mono ?_
  rintro e w2 ⟨rfl, hb⟩
  have HB2 := Kept.mk (HB1.out.trans (hb.mono HB1.out.size))
  clear hb
  go_wp2_with fail
  go_at_call 22
  refine ((refRem_any s p en mo w2 (by omega) (by omega) x HX.out).mono fun e uu h => (⟨h.1, h.2.below⟩ : e = .returned (.string x) ∧ Below w2.heap.size w2 uu)).mono ?_
  rintro e w3 ⟨rfl, hb⟩
  have HB3 := Kept.mk (HB2.out.trans (hb.mono HB2.out.size))
  clear hb
  go_wp2_with fail
  go_ret
  exact ⟨rfl, HB3.out⟩
end Pm
end Go.Proofs.Ytkifnabkoidhcaa
