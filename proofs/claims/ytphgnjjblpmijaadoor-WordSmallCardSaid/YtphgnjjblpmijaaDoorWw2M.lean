/-
  The laws of few pieces, and of any parts told, over any program that parses and prints as the chapter says.
-/
import Derived.Test.YtphgnjjblpmijaaDoorWw1M
namespace Go.Proofs.YtphgnjjblpmijaaDoor
open Go.RowKit Tx
namespace Wx
open Lx
variable {K : World → Prop}

set_option maxHeartbeats 4000000 in
set_option maxRecDepth 100000 in
theorem lsmall_any (M : PrK K) (A : Option Addr) (n k : Nat) (w : World) (hK : K w) (hl : By8 w A n) (hn : n ≤ 9223372036854775807) :
    Calls Tryd.prog 3 #[.slice A n k] w fun e w' => e = .returned (.bool true) ∧ Below w.heap.size w w' := by
  have HK := Kept.mk hK
  have HL := Kept.mk hl
  clear hK hl
  go_enter Tryd.func3, Tryd.ntmps3
  go_wp2_with (first
    | (go_at_call 9; refine (signs_any _).mono ?_; rintro e w1 ⟨g, rfl, hg, hf, hb⟩; have HB1 := Kept.mk hb; have HF := hf; clear hg hf hb)
    | (go_at_call 8; refine (pieces_any A n k g 24 24 w1 (HL.out.below HB1.out) hn HF.out (by omega) (by omega)).mono ?_; rintro e w2 ⟨x, rfl, hx, rfl⟩; have HB2 := HB1; have hxs : x.size ≤ 112 := hx))
  cases ht : parts 30 (toL x) with
  | error c =>
    have HT := Kept.mk ht
    clear ht
    go_at_call 10
    refine (M.no x _ (M.keep _ _ HK.out HB2.out) (by omega) c HT).mono ?_
    rintro e w3 ⟨A3, k3, rfl, hn3, hc, hb⟩
    have HN3 := hn3
    have HB3 := Kept.mk (HB2.out.trans (hb.mono HB2.out.size))
    clear hb hn3
    go_wp2_with fail
    go_at_call 11
    refine (ref_no x _ (by omega) c HT).mono ?_
    rintro e w4 ⟨rfl, _, hb⟩
    have HB4 := Kept.mk (HB3.out.trans (hb.mono HB3.out.size))
    clear hb
    go_wp2_with fail
    go_at_call 12
    refine (awake_any M _ (M.keep _ _ HK.out HB4.out)).mono ?_
    rintro e w5 ⟨rfl, hb⟩
    have HB5 := Kept.mk (HB4.out.trans (hb.mono HB4.out.size))
    clear hb
    go_wp2_with fail
    go_at_call 13
    refine (same_any _ (fun _ => False) (fun _ => False) [] A3 none 0 0 k3 0 _ rfl (.nil _ _ HN3.out) (.nil _ _ (fun _ => rfl)) (by decide)).mono ?_
    rintro e w6 ⟨rfl, hb⟩
    have HB6 := Kept.mk (HB5.out.trans (hb.mono HB5.out.size))
    clear hb
    go_wp2_with fail
    go_at_call 14
    refine (M.print (fun _ => False) [] none 0 0 _ (M.keep _ _ HK.out HB6.out) (.nil _ _ (fun _ => rfl)) (by rw [wt_nil]; omega)).mono ?_
    rintro e w7 ⟨rfl, hb⟩
    have HB7 := Kept.mk (HB6.out.trans (hb.mono HB6.out.size))
    clear hb
    go_wp2_with fail
    go_at_call 15
    refine (print_any _ (fun _ => False) [] none 0 0 _ rfl (.nil _ _ (fun _ => rfl)) (by rw [wt_nil]; omega)).mono ?_
    rintro e w8 ⟨rfl, hb⟩
    have HB8 := Kept.mk (HB7.out.trans (hb.mono HB7.out.size))
    clear hb
    generalize bs (print []) = y
    go_wp2_with fail
    go_ret
    exact ⟨rfl, HB8.out⟩
  | ok l =>
    have HT := Kept.mk ht
    have hwl := parts_wt 30 _ _ ht
    rw [toL_length] at hwl
    have HWl : Kept (wt l ≤ 224) := ⟨by omega⟩
    have HCl : Kept (cnt l ≤ 100000) := ⟨by have := cnt_wt l; omega⟩
    clear ht hwl
    go_at_call 10
    refine (M.ok x _ (M.keep _ _ HK.out HB2.out) (by omega) l HT).mono ?_
    rintro e w3 ⟨A3, k3, rfl, hl3, hb⟩
    have HL3 := hl3
    have HB3 := Kept.mk (HB2.out.trans (hb.mono HB2.out.size))
    clear hb hl3
    go_wp2_with fail
    go_at_call 11
    refine (ref_ok x _ (by omega) l HT).mono ?_
    rintro e w4 ⟨A4, k4, rfl, hl4, hb⟩
    have HL3 := Kept.mk (HL3.out.keep hb)
    have HL4 := hl4
    have HB4 := Kept.mk (HB3.out.trans (hb.mono HB3.out.size))
    clear hb hl4
    generalize l.length = ll at *
    go_wp2_with fail
    go_at_call 12
    refine (awake_any M _ (M.keep _ _ HK.out HB4.out)).mono ?_
    rintro e w5 ⟨rfl, hb⟩
    have HL3 := Kept.mk (HL3.out.keep hb)
    have HL4 := Kept.mk (HL4.out.keep hb)
    have HB5 := Kept.mk (HB4.out.trans (hb.mono HB4.out.size))
    clear hb
    go_wp2_with fail
    go_at_call 13
    refine (same_any _ _ _ l A3 A4 ll ll k3 k4 _ rfl HL3.out HL4.out HCl.out).mono ?_
    rintro e w6 ⟨rfl, hb⟩
    have HL4 := Kept.mk (HL4.out.keep hb)
    have HB6 := Kept.mk (HB5.out.trans (hb.mono HB5.out.size))
    clear hb
    go_wp2_with fail
    go_at_call 14
    refine (M.print _ l A4 ll k4 _ (M.keep _ _ HK.out HB6.out) HL4.out (by have := HWl.out; omega)).mono ?_
    rintro e w7 ⟨rfl, hb⟩
    have HL4 := Kept.mk (HL4.out.keep hb)
    have HB7 := Kept.mk (HB6.out.trans (hb.mono HB6.out.size))
    clear hb
    go_wp2_with fail
    go_at_call 15
    refine (print_any _ _ l A4 ll k4 _ rfl HL4.out (by have := HWl.out; omega)).mono ?_
    rintro e w8 ⟨rfl, hb⟩
    have HB8 := Kept.mk (HB7.out.trans (hb.mono HB7.out.size))
    clear hb
    generalize bs (print l) = y
    go_wp2_with fail
    go_ret
    exact ⟨rfl, HB8.out⟩
set_option maxHeartbeats 4000000 in
set_option maxRecDepth 100000 in
theorem prints_any (M : PrK K) (P : Nat → Prop) (l : List Pt) (A : Option Addr) (n k : Nat) (w : World) (hK : K w) (hl : LV P w (.slice A n k) l) (hw : wt l ≤ 2000000) :
    Calls Tryd.prog 5 #[.slice A n k] w fun e w' => e = .returned (.bool true) ∧ Below w.heap.size w w' := by
  have HK := Kept.mk hK
  have HL := Kept.mk hl
  have HW := Kept.mk hw
  clear hK hl hw
  go_enter Tryd.func5, Tryd.ntmps5
  go_wp2_with fail
  go_at_call 12
  refine (awake_any M _ HK.out).mono ?_
  rintro e w1 ⟨rfl, hb⟩
  have HB1 := Kept.mk hb
  have HL := Kept.mk (HL.out.keep hb)
  clear hb
  go_wp2_with fail
  go_at_call 16
  refine (size_any _ l A n k 1000 _ _ rfl HL.out HW.out (by omega) rfl).mono ?_
  rintro e w2 ⟨rfl, hb⟩
  have HL := Kept.mk (HL.out.keep hb)
  have HB2 := Kept.mk (HB1.out.trans (hb.mono HB1.out.size))
  clear hb
  by_cases hz : 1000 < szOn 1000 0 l
  · have z1 : (1000 : Int) < ((szOn 1000 0 l : Nat) : Int) := by omega
    clear hz
    generalize szOn 1000 0 l = z at *
    go_wp2_with fail
    go_ret
    exact ⟨rfl, HB2.out⟩
  · have z1 : ¬ (1000 : Int) < ((szOn 1000 0 l : Nat) : Int) := by omega
    have HWl : Kept (wt l ≤ 1000) := ⟨by have := szOn_is 1000 0 l (by omega); omega⟩
    clear hz
    generalize szOn 1000 0 l = z at *
    go_wp2_with fail
    go_at_call 14
    refine (M.print _ l A n k _ (M.keep _ _ HK.out HB2.out) HL.out (by have := HWl.out; omega)).mono ?_
    rintro e w7 ⟨rfl, hb⟩
    have HL := Kept.mk (HL.out.keep hb)
    have HB7 := Kept.mk (HB2.out.trans (hb.mono HB2.out.size))
    clear hb
    go_wp2_with fail
    go_at_call 15
    refine (print_any _ _ l A n k _ rfl HL.out (by have := HWl.out; omega)).mono ?_
    rintro e w8 ⟨rfl, hb⟩
    have HB8 := Kept.mk (HB7.out.trans (hb.mono HB7.out.size))
    clear hb
    generalize bs (print l) = y
    go_wp2_with fail
    go_ret
    exact ⟨rfl, HB8.out⟩
end Wx
end Go.Proofs.YtphgnjjblpmijaaDoor
