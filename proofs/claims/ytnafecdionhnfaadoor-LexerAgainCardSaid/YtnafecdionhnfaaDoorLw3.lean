/-
  The law of units that stand in one another, very deeply.
-/
import Derived.Test.YtnafecdionhnfaaDoorLw2
namespace Go.Proofs.YtnafecdionhnfaaDoor
open Go.RowKit Tx
namespace Lx

set_option maxHeartbeats 2000000 in
set_option maxRecDepth 100000 in
theorem deep_any (a c : Int) (w : World) (hK : Kit w) (ha : 0 ≤ a ∧ a ≤ 255) (hc : 0 ≤ c ∧ c ≤ 255) :
    Calls Tryd.prog 4 #[.int .u8 a, .int .u8 c] w fun e w' => e = .returned (.bool true) ∧ Below w.heap.size w w' := by
  have HK := Kept.mk hK
  obtain ⟨a0, a1⟩ := ha
  obtain ⟨c0, c1⟩ := hc
  have e1 : a.tmod 30 = a % 30 := Int.tmod_eq_emod_of_nonneg a0
  have e2 : c.tmod 4 = c % 4 := Int.tmod_eq_emod_of_nonneg c0
  have r0 : 0 ≤ a % 30 := Int.emod_nonneg _ (by omega)
  have r1 : a % 30 < 30 := Int.emod_lt_of_pos _ (by omega)
  have s0 : 0 ≤ c % 4 := Int.emod_nonneg _ (by omega)
  have s1 : c % 4 < 4 := Int.emod_lt_of_pos _ (by omega)
  clear hK
  go_enter Tryd.func4, Tryd.ntmps4
  go_wp2_with fail
  have HW : Kept (Below w.heap.size w ((w.alloc (.cells #[.string ⟨#[36, 40]⟩, .string ⟨#[36, 123]⟩, .string ⟨#[34, 36, 40]⟩, .string ⟨#[36, 40, 40]⟩] 9)).alloc (.cells #[.string ⟨#[41]⟩, .string ⟨#[125]⟩, .string ⟨#[41, 34]⟩, .string ⟨#[41, 41]⟩] 9))) := ⟨((Below.refl _ _).alloc (Nat.le_refl _) _).alloc (by simp) _⟩
  have hA : ((w.alloc (.cells #[.string ⟨#[36, 40]⟩, .string ⟨#[36, 123]⟩, .string ⟨#[34, 36, 40]⟩, .string ⟨#[36, 40, 40]⟩] 9)).alloc (.cells #[.string ⟨#[41]⟩, .string ⟨#[125]⟩, .string ⟨#[41, 34]⟩, .string ⟨#[41, 41]⟩] 9)).heap[w.heap.size]? = some (.cells #[.string ⟨#[36, 40]⟩, .string ⟨#[36, 123]⟩, .string ⟨#[34, 36, 40]⟩, .string ⟨#[36, 40, 40]⟩] 9 (0, 0)) := (Below.heap_alloc _ _ _ (by simp)).trans (heap_alloc_new w _)
  have hB : ((w.alloc (.cells #[.string ⟨#[36, 40]⟩, .string ⟨#[36, 123]⟩, .string ⟨#[34, 36, 40]⟩, .string ⟨#[36, 40, 40]⟩] 9)).alloc (.cells #[.string ⟨#[41]⟩, .string ⟨#[125]⟩, .string ⟨#[41, 34]⟩, .string ⟨#[41, 41]⟩] 9)).heap[w.heap.size + 1]? = some (.cells #[.string ⟨#[41]⟩, .string ⟨#[125]⟩, .string ⟨#[41, 34]⟩, .string ⟨#[41, 41]⟩] 9 (0, 0)) := by
    have := heap_alloc_new (w.alloc (.cells #[.string ⟨#[36, 40]⟩, .string ⟨#[36, 123]⟩, .string ⟨#[34, 36, 40]⟩, .string ⟨#[36, 40, 40]⟩] 9)) (.cells #[.string ⟨#[41]⟩, .string ⟨#[125]⟩, .string ⟨#[41, 34]⟩, .string ⟨#[41, 41]⟩] 9)
    rw [World.size_alloc] at this
    exact this
  have HFA := Kept.mk (few_of hA (by decide +kernel))
  have HFB := Kept.mk (few_of hB (by decide +kernel))
  generalize (w.alloc (.cells #[.string ⟨#[36, 40]⟩, .string ⟨#[36, 123]⟩, .string ⟨#[34, 36, 40]⟩, .string ⟨#[36, 40, 40]⟩] 9)).alloc (.cells #[.string ⟨#[41]⟩, .string ⟨#[125]⟩, .string ⟨#[41, 34]⟩, .string ⟨#[41, 41]⟩] 9) = w1 at HW HFA HFB ⊢
  clear hA hB
  obtain ⟨y, hy, hys⟩ := HFA.out (c % 4).toNat (show _ < 4 by omega)
  obtain ⟨u, hu, hus⟩ := HFB.out (c % 4).toNat (show _ < 4 by omega)
  go_loop [8, 9] (fun v i => ∃ (j : Nat) (x : ByteArray), (j : Int) ≤ 10 + a % 30 ∧ i = .int .i64 (j : Int) ∧ v = .string x ∧ x.size ≤ 5 * j) (fun _ i => 50 - (intOf i).toNat)
  case atStart => exact ⟨0, ⟨#[]⟩, by omega, rfl, rfl, by decide⟩
  case round =>
    obtain ⟨j, x, hj, rfl, rfl, hx⟩ := hrel
    by_cases hlt : (j : Int) < 10 + a % 30
    · have hsum : ¬ 9223372036854775807 < x.size + y.size := by omega
      have HC : Kept (x.size + y.size ≤ 5 * (j + 1)) := ⟨by omega⟩
      go_wp2_with fail
      go_round
      case rel => exact ⟨j + 1, x ++ y, by omega, by go_num, rfl, by rw [ByteArray.size_append]; exact HC.out⟩
      case measure => simp [intOf]; omega
    · go_wp2_with fail
      go_loop [8, 10] (fun v i => ∃ (j : Nat) (x : ByteArray), (j : Int) ≤ 10 + a % 30 ∧ i = .int .i64 (j : Int) ∧ v = .string x ∧ x.size ≤ 200 + 5 * j) (fun _ i => 50 - (intOf i).toNat)
      case atStart => exact ⟨0, x, by omega, rfl, rfl, by omega⟩
      case round =>
        clear hx
        obtain ⟨q, x, hq, rfl, rfl, hx⟩ := hrel
        by_cases hlt : (q : Int) < 10 + a % 30
        · have hsum : ¬ 9223372036854775807 < x.size + u.size := by omega
          have HC : Kept (x.size + u.size ≤ 200 + 5 * (q + 1)) := ⟨by omega⟩
          go_wp2_with fail
          go_round
          case rel => exact ⟨q + 1, x ++ u, by omega, by go_num, rfl, by rw [ByteArray.size_append]; exact HC.out⟩
          case measure => simp [intOf]; omega
        · have hxs : x.size ≤ 20000 := by omega
          have HB2 := HW
          cases ht : toks (toL x) with
          | none =>
            have HT := Kept.mk ht
            clear ht
            go_wp2_with (first
              | (go_at_call 9; refine (tokens_no x w1 (HK.out.below HB2.out) hxs HT).mono ?_; rintro e w3 ⟨rfl, hb⟩; have HB3 := Kept.mk (HB2.out.trans (hb.mono HB2.out.size)); clear hb)
              | (go_at_call 10; refine (ref_no x w3 hxs HT).mono ?_; rintro e w4 ⟨rfl, hb⟩; have HB4 := Kept.mk (HB3.out.trans (hb.mono HB3.out.size)); clear hb)
              | (go_at_call 11; refine (awake_any w4 (HK.out.below HB4.out)).mono ?_; rintro e w5 ⟨rfl, hb⟩; have HB5 := Kept.mk (HB4.out.trans (hb.mono HB4.out.size)); clear hb)
              | (go_at_call 12; refine (same_any [] 0 0 none none 0 0 w5 (Rt.nil _ _) (Rt.nil _ _) (by decide) rfl rfl).mono ?_; rintro e w6 ⟨rfl, hb⟩; have HB6 := Kept.mk (HB5.out.trans (hb.mono HB5.out.size)); clear hb))
            go_ret
            exact ⟨rfl, HB6.out⟩
          | some ts =>
            have HT := Kept.mk ht
            have HTs : Kept (ts.length ≤ 1000000) := ⟨by have := (goes_size (goes_iff.1 ht)).2; rw [toL_length] at this; omega⟩
            clear ht
            go_wp2_with (first
              | (go_at_call 9; refine (tokens_ok x w1 ts (HK.out.below HB2.out) hxs HT).mono ?_; rintro e w3 ⟨C, p, rfl, hR, hb⟩; have HR3 := hR; have HB3 := Kept.mk (HB2.out.trans (hb.mono HB2.out.size)); clear hR hb)
              | (go_at_call 10; refine (ref_ok x w3 ts hxs HT).mono ?_; rintro e w4 ⟨D, q, rfl, hR, hb⟩; have HR4 := Kept.mk (And.intro (HR3.out.below hb) hR.out); have HB4 := Kept.mk (HB3.out.trans (hb.mono HB3.out.size)); clear hR hb HR3)
              | (go_at_call 11; refine (awake_any w4 (HK.out.below HB4.out)).mono ?_; rintro e w5 ⟨rfl, hb⟩; have HR5 := Kept.mk (And.intro (HR4.out.1.below hb) (HR4.out.2.below hb)); have HB5 := Kept.mk (HB4.out.trans (hb.mono HB4.out.size)); clear hb HR4)
              | (go_at_call 12; refine (same_any ts _ _ C D p q w5 HR5.out.1 HR5.out.2 HTs.out rfl rfl).mono ?_; rintro e w6 ⟨rfl, hb⟩; have HB6 := Kept.mk (HB5.out.trans (hb.mono HB5.out.size)); clear hb))
            go_ret
            exact ⟨rfl, HB6.out⟩
end Lx
end Go.Proofs.YtnafecdionhnfaaDoor
