/-
  The laws of patterns over any program: of few pieces, with the document's answer.
-/
import Derived.Test.YtkifnabkoidhcaaPl3
namespace Go.Proofs.Ytkifnabkoidhcaa
open Go.RowKit Tx
namespace Pm
open Pc
variable {K : World → Prop}

set_option maxHeartbeats 2000000 in
set_option maxRecDepth 100000 in
theorem small_any (M : PaK K) (A : Option Addr) (n k : Nat) (A2 : Option Addr) (n2 k2 : Nat) (en mo : Bool) (w : World) (hK : K w) (hl : By8 w A n) (hn : n ≤ 9223372036854775807) (hl2 : By8 w A2 n2) (hn2 : n2 ≤ 9223372036854775807) :
    Calls Try.prog 4 #[.slice A n k, .slice A2 n2 k2, .bool en, .bool mo] w fun e w' => e = .returned (.bool true) ∧ Below w.heap.size w w' := by
  have HK := Kept.mk hK
  clear hK
  have HL := Kept.mk hl
  have HL2 := Kept.mk hl2
  clear hl hl2
  go_enter Try.func4, Try.ntmps4
  go_wp2_with fail
  go_at_call 16
  refine (signs_any w).mono ?_
  rintro e w1 ⟨g, rfl, hg, hf, hb⟩
  have HB1 := Kept.mk hb
  clear hb
  have HFw := hf
  clear hf hg
  go_wp2_with fail
  go_at_call 15
  refine (pieces_any 5 (by decide) A n k g 16 16 w1 (HL.out.below HB1.out) hn HFw.out (by omega) (by omega)).mono ?_
  rintro e v ⟨p, rfl, hpz, rfl⟩
  have hp70 : p.size ≤ 70 := hpz
  clear hpz
  go_wp2_with fail
  go_at_call 15
  refine (pieces_any 1 (by decide) A2 n2 k2 w1.heap.size 10 10 _ (HL2.out.below (HB1.out.alloc HB1.out.size _)) hn2 (few_of (M := 1) (heap_alloc_new w1 _) (by decide +kernel)) (by omega) (by omega)).mono ?_
  rintro e w2 ⟨s, rfl, hsz, hv⟩
  have HB2 : Kept (Below w.heap.size w w2) := ⟨hv ▸ HB1.out.alloc HB1.out.size _⟩
  have hs14 : s.size ≤ 14 := by omega
  clear hv hsz
  go_wp2_with fail
  go_at_call 12
  refine (stars_any p _ (by omega)).mono ?_
  rintro e v ⟨n6, rfl, hn6, rfl⟩
  by_cases h6 : (6 : Int) < (n6 : Int)
  · go_wp2_with fail
    go_at_call 11
    refine (awake_any M w2 (M.keep _ _ HK.out HB2.out)).mono ?_
    rintro e w3 ⟨rfl, hb⟩
    have HB3 := Kept.mk (HB2.out.trans (hb.mono HB2.out.size))
    clear hb
    go_wp2_with fail
    go_ret
    exact ⟨rfl, HB3.out⟩
  go_wp2_with fail
  go_at_call 11
  refine (awake_any M w2 (M.keep _ _ HK.out HB2.out)).mono ?_
  rintro e w3 ⟨rfl, hb⟩
  have HB3 := Kept.mk (HB2.out.trans (hb.mono HB2.out.size))
  clear hb
  obtain ⟨b, hb0⟩ : ∃ b, b = mat (toL p) (toL s) := ⟨_, rfl⟩
  have HBm := Kept.mk hb0
  obtain ⟨y, hy0⟩ : ∃ y, y = bs (plain (toL p)) := ⟨_, rfl⟩
  have HY := Kept.mk hy0
  obtain ⟨sp, hsp⟩ : ∃ b, b = special (toL p) := ⟨_, rfl⟩
  have HS := Kept.mk hsp
  obtain ⟨x, hx0⟩ : ∃ x, x = bs (rem (toL s) (toL p) en mo) := ⟨_, rfl⟩
  have HX := Kept.mk hx0
  clear hb0 hy0 hsp hx0
  go_wp2_with fail
  go_at_call 13
  refine (M.mat1 (b := b) p s w3 (M.keep _ _ HK.out HB3.out) (by omega) (by omega) HBm.out).mono ?_
  rintro e w4 ⟨rfl, hb⟩
  have HB4 := Kept.mk (HB3.out.trans (hb.mono HB3.out.size))
  clear hb
  go_wp2_with fail
  go_at_call 14
  refine ((refMat_any p s w4 (by omega) (by omega) b HBm.out).mono fun e uu h => (⟨h.1, h.2.below⟩ : e = .returned (.bool b) ∧ Below w4.heap.size w4 uu)).mono ?_
  rintro e w5 ⟨rfl, hb⟩
  have HB5 := Kept.mk (HB4.out.trans (hb.mono HB4.out.size))
  clear hb
  go_wp2_with fail
  go_at_call 17
  refine (M.plain1 (x := y) p w5 (M.keep _ _ HK.out HB5.out) (by omega) HY.out).mono ?_
  rintro e w6 ⟨rfl, hb⟩
  have HB6 := Kept.mk (HB5.out.trans (hb.mono HB5.out.size))
  clear hb
  go_wp2_with fail
  go_at_call 18
  refine ((refPlain_any p w6 (by omega)).mono fun e uu h => (⟨by rw [HY.out]; exact h.1, h.2⟩ : e = .returned (.string y) ∧ w6 = uu)).mono ?_
  rintro e v ⟨rfl, rfl⟩
  go_wp2_with fail
  go_at_call 19
  refine (M.special1 (b := sp) p w6 (M.keep _ _ HK.out HB6.out) (by omega) HS.out).mono ?_
  rintro e w7 ⟨rfl, hb⟩
  have HB7 := Kept.mk (HB6.out.trans (hb.mono HB6.out.size))
  clear hb
  go_wp2_with fail
  go_at_call 20
  refine ((refSpecial_any p w7 (by omega)).mono fun e uu h => (⟨by rw [HS.out]; exact h.1, h.2⟩ : e = .returned (.bool sp) ∧ w7 = uu)).mono ?_
  rintro e v ⟨rfl, rfl⟩
  go_wp2_with fail
  go_at_call 21
  refine (M.rem1 (x := x) s p en mo w7 (M.keep _ _ HK.out HB7.out) (by omega) (by omega) HX.out).mono ?_
  rintro e w8 ⟨rfl, hb⟩
  have HB8 := Kept.mk (HB7.out.trans (hb.mono HB7.out.size))
  clear hb
  go_wp2_with fail
  go_at_call 22
  refine ((refRem_any s p en mo w8 (by omega) (by omega) x HX.out).mono fun e uu h => (⟨h.1, h.2.below⟩ : e = .returned (.string x) ∧ Below w8.heap.size w8 uu)).mono ?_
  rintro e w9 ⟨rfl, hb⟩
  have HB9 := Kept.mk (HB8.out.trans (hb.mono HB8.out.size))
  clear hb
  go_wp2_with fail
  go_ret
  exact ⟨rfl, HB9.out⟩
end Pm
end Go.Proofs.Ytkifnabkoidhcaa
