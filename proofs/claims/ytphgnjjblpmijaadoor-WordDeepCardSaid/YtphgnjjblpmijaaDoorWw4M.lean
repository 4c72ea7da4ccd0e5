/-
  The law of words in words, very deeply, over any program that parses as the chapter says.
-/
import Derived.Test.YtphgnjjblpmijaaDoorWw1M
namespace Go.Proofs.YtphgnjjblpmijaaDoor
open Go.RowKit Tx
namespace Wx
open Lx
variable {K : World → Prop}

set_option maxHeartbeats 4000000 in
set_option maxRecDepth 100000 in
theorem deep_any (M : PrK K) (a : Int) (q : Bool) (w : World) (hK : K w) (ha : 0 ≤ a ∧ a ≤ 255) :
    Calls Tryd.prog 4 #[.int .u8 a, .bool q] w fun e w' => e = .returned (.bool true) ∧ Below w.heap.size w w' := by
  have HK := Kept.mk hK
  obtain ⟨ha0, ha1⟩ := ha
  have e1 : a.tmod 21 = a % 21 := Int.tmod_eq_emod_of_nonneg ha0
  have r0 : 0 ≤ a % 21 := Int.emod_nonneg _ (by omega)
  have r1 : a % 21 < 21 := Int.emod_lt_of_pos _ (by omega)
  have HB2 : Kept (Below w.heap.size w w) := ⟨Below.refl _ _⟩
  clear hK
  go_enter Tryd.func4, Tryd.ntmps4
  go_wp2_with fail
  go_loop [6, 7, 8] (fun s t i => ∃ (j : Nat) (x y : ByteArray), (j : Int) ≤ 20 + a % 21 ∧ s = .string x ∧ t = .string y ∧ i = .int .i64 (j : Int) ∧ x.size ≤ 5 * j ∧ y.size ≤ j) (fun _ _ i => 50 - (intOf i).toNat)
  case atStart => exact ⟨0, ⟨#[]⟩, ⟨#[]⟩, by omega, rfl, rfl, rfl, by decide, by decide⟩
  case round =>
    obtain ⟨j, x, y, hj, rfl, rfl, rfl, hx, hy⟩ := hrel
    by_cases hlt : (j : Int) < 20 + a % 21
    · have hsx : ¬ 9223372036854775807 < x.size + 5 := by omega
      have hsy : ¬ 9223372036854775807 < y.size + 1 := by omega
      have HX : Kept (x.size + 5 ≤ 5 * (j + 1) ∧ y.size + 1 ≤ j + 1) := ⟨by omega⟩
      go_wp2_with fail
      go_round
      case rel => exact ⟨j + 1, x ++ ⟨#[36, 123, 120, 58, 45]⟩, y ++ ⟨#[125]⟩, by omega, rfl, rfl, by go_num, by rw [ByteArray.size_append]; exact HX.out.1, by rw [ByteArray.size_append]; exact HX.out.2⟩
      case measure => simp [intOf]; omega
    · have hsx : ¬ 9223372036854775807 < x.size + 1 := by omega
      have hsy : ¬ 9223372036854775807 < x.size + 1 + y.size := by omega
      have hsz : ¬ 9223372036854775807 < 1 + (x.size + 1 + y.size) := by omega
      have hsu : ¬ 9223372036854775807 < 1 + (x.size + 1 + y.size) + 1 := by omega
      have HZ : Kept (x.size + 1 + y.size ≤ 300) := ⟨by omega⟩
      have hlt2 : decide ((j : Int) < 20 + a % 21) = false := decide_eq_false hlt
      clear hlt
      cases q with
      | true =>
        go_wp2_with fail
        generalize hX : (⟨#[34]⟩ : ByteArray) ++ (x ++ (⟨#[97]⟩ : ByteArray) ++ y) ++ (⟨#[34]⟩ : ByteArray) = X at *
        have hxs : X.size ≤ 400 := by
          rw [← hX]
          simp only [ByteArray.size_append]
          have := HZ.out
          show 1 + (x.size + 1 + y.size) + 1 ≤ 400
          omega
        clear hX
        cases ht : parts 30 (toL X) with
        | error c =>
          have HT := Kept.mk ht
          clear ht
          go_at_call 10
          refine (M.no X _ (M.keep _ _ HK.out HB2.out) (by omega) c HT).mono ?_
          rintro e w3 ⟨A3, k3, rfl, hn3, hc, hb⟩
          have HN3 := hn3
          have HB3 := Kept.mk (HB2.out.trans (hb.mono HB2.out.size))
          clear hb hn3
          go_wp2_with fail
          go_at_call 11
          refine (ref_no X _ (by omega) c HT).mono ?_
          rintro e w4 ⟨rfl, _, hb⟩
          have HB4 := Kept.mk (HB3.out.trans (hb.mono HB3.out.size))
          clear hb
          go_wp2_with fail
          go_at_call 12
          refine (awake_any M _ (M.keep _ _ HK.out HB4.out)).mono ?_
          rintro e w5 ⟨rfl, hb⟩
          have HB5 := Kept.mk (HB4.out.trans (hb.mono HB4.out.size))
          clear hb
          go_wp2_with fail
          go_at_call 13
          refine (same_any _ (fun _ => False) (fun _ => False) [] A3 none 0 0 k3 0 _ rfl (.nil _ _ HN3.out) (.nil _ _ (fun _ => rfl)) (by decide)).mono ?_
          rintro e w6 ⟨rfl, hb⟩
          have HB6 := Kept.mk (HB5.out.trans (hb.mono HB5.out.size))
          clear hb
          go_wp2_with fail
          go_ret
          exact ⟨rfl, HB6.out⟩
        | ok l =>
          have HT := Kept.mk ht
          have hwl := parts_wt 30 _ _ ht
          rw [toL_length] at hwl
          have HCl : Kept (cnt l ≤ 100000) := ⟨by have := cnt_wt l; omega⟩
          clear ht hwl
          go_at_call 10
          refine (M.ok X _ (M.keep _ _ HK.out HB2.out) (by omega) l HT).mono ?_
          rintro e w3 ⟨A3, k3, rfl, hl3, hb⟩
          have HL3 := hl3
          have HB3 := Kept.mk (HB2.out.trans (hb.mono HB2.out.size))
          clear hb hl3
          go_wp2_with fail
          go_at_call 11
          refine (ref_ok X _ (by omega) l HT).mono ?_
          rintro e w4 ⟨A4, k4, rfl, hl4, hb⟩
          have HL3 := Kept.mk (HL3.out.keep hb)
          have HL4 := hl4
          have HB4 := Kept.mk (HB3.out.trans (hb.mono HB3.out.size))
          clear hb hl4
          generalize l.length = ll at *
          go_wp2_with fail
          go_at_call 12
          refine (awake_any M _ (M.keep _ _ HK.out HB4.out)).mono ?_
          rintro e w5 ⟨rfl, hb⟩
          have HL3 := Kept.mk (HL3.out.keep hb)
          have HL4 := Kept.mk (HL4.out.keep hb)
          have HB5 := Kept.mk (HB4.out.trans (hb.mono HB4.out.size))
          clear hb
          go_wp2_with fail
          go_at_call 13
          refine (same_any _ _ _ l A3 A4 ll ll k3 k4 _ rfl HL3.out HL4.out HCl.out).mono ?_
          rintro e w6 ⟨rfl, hb⟩
          have HB6 := Kept.mk (HB5.out.trans (hb.mono HB5.out.size))
          clear hb
          go_wp2_with fail
          go_ret
          exact ⟨rfl, HB6.out⟩
      | false =>
        go_wp2_with fail
        generalize hX : x ++ (⟨#[97]⟩ : ByteArray) ++ y = X at *
        have hxs : X.size ≤ 400 := by
          rw [← hX]
          simp only [ByteArray.size_append]
          have := HZ.out
          show x.size + 1 + y.size ≤ 400
          omega
        clear hX
        cases ht : parts 30 (toL X) with
        | error c =>
          have HT := Kept.mk ht
          clear ht
          go_at_call 10
          refine (M.no X _ (M.keep _ _ HK.out HB2.out) (by omega) c HT).mono ?_
          rintro e w3 ⟨A3, k3, rfl, hn3, hc, hb⟩
          have HN3 := hn3
          have HB3 := Kept.mk (HB2.out.trans (hb.mono HB2.out.size))
          clear hb hn3
          go_wp2_with fail
          go_at_call 11
          refine (ref_no X _ (by omega) c HT).mono ?_
          rintro e w4 ⟨rfl, _, hb⟩
          have HB4 := Kept.mk (HB3.out.trans (hb.mono HB3.out.size))
          clear hb
          go_wp2_with fail
          go_at_call 12
          refine (awake_any M _ (M.keep _ _ HK.out HB4.out)).mono ?_
          rintro e w5 ⟨rfl, hb⟩
          have HB5 := Kept.mk (HB4.out.trans (hb.mono HB4.out.size))
          clear hb
          go_wp2_with fail
          go_at_call 13
          refine (same_any _ (fun _ => False) (fun _ => False) [] A3 none 0 0 k3 0 _ rfl (.nil _ _ HN3.out) (.nil _ _ (fun _ => rfl)) (by decide)).mono ?_
          rintro e w6 ⟨rfl, hb⟩
          have HB6 := Kept.mk (HB5.out.trans (hb.mono HB5.out.size))
          clear hb
          go_wp2_with fail
          go_ret
          exact ⟨rfl, HB6.out⟩
        | ok l =>
          have HT := Kept.mk ht
          have hwl := parts_wt 30 _ _ ht
          rw [toL_length] at hwl
          have HCl : Kept (cnt l ≤ 100000) := ⟨by have := cnt_wt l; omega⟩
          clear ht hwl
          go_at_call 10
          refine (M.ok X _ (M.keep _ _ HK.out HB2.out) (by omega) l HT).mono ?_
          rintro e w3 ⟨A3, k3, rfl, hl3, hb⟩
          have HL3 := hl3
          have HB3 := Kept.mk (HB2.out.trans (hb.mono HB2.out.size))
          clear hb hl3
          go_wp2_with fail
          go_at_call 11
          refine (ref_ok X _ (by omega) l HT).mono ?_
          rintro e w4 ⟨A4, k4, rfl, hl4, hb⟩
          have HL3 := Kept.mk (HL3.out.keep hb)
          have HL4 := hl4
          have HB4 := Kept.mk (HB3.out.trans (hb.mono HB3.out.size))
          clear hb hl4
          generalize l.length = ll at *
          go_wp2_with fail
          go_at_call 12
          refine (awake_any M _ (M.keep _ _ HK.out HB4.out)).mono ?_
          rintro e w5 ⟨rfl, hb⟩
          have HL3 := Kept.mk (HL3.out.keep hb)
          have HL4 := Kept.mk (HL4.out.keep hb)
          have HB5 := Kept.mk (HB4.out.trans (hb.mono HB4.out.size))
          clear hb
          go_wp2_with fail
          go_at_call 13
          refine (same_any _ _ _ l A3 A4 ll ll k3 k4 _ rfl HL3.out HL4.out HCl.out).mono ?_
          rintro e w6 ⟨rfl, hb⟩
          have HB6 := Kept.mk (HB5.out.trans (hb.mono HB5.out.size))
          clear hb
          go_wp2_with fail
          go_ret
          exact ⟨rfl, HB6.out⟩
end Wx
end Go.Proofs.YtphgnjjblpmijaaDoor
