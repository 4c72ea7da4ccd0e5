/-
  Parts of the proof, merged.
-/
import Derived.Test.YtpagcoiekeijbaaDoorKa28
namespace Go.Proofs.YtpagcoiekeijbaaDoor
section
open Go.RowKit Tx
namespace Va
open Wx (Kit)
def res (l : List Vr) (d : Do) : Except Int (List Vr) := if d.what % 5 = 3 then mark l (nameOf d) d.a d.b else if d.what % 5 = 4 then unset l (nameOf d) else set l (nameOf d) d.value
def next (l : List Vr) (d : Do) : List Vr :=
 match res l d with
 | .ok m => m
 | .error _ => l
def NEnd (w : World) (m : List Vr) (e : Ending) (w' : World) : Prop := ∃ A2 n2 k2, e = .returned (.tuple #[.slice A2 n2 k2, .bool true]) ∧ m.length = n2 ∧ Kept (VS w' A2 k2 m) ∧ Below w.heap.size w w'
structure BX (w w1 : World) (d : Do) : Prop where
 r : w1.heap[w.heap.size]? = some (.cells #[.int .u8 (d.what : Int), .int .u8 (d.name : Int), .string d.raw, .string d.value, .bool d.a, .bool d.b] 26 (0, 0))
 bl : Below w.heap.size w w1
theorem BX.begin (w : World) (d : Do) : BX w (w.alloc (.cells #[.int .u8 (d.what : Int), .int .u8 (d.name : Int), .string d.raw, .string d.value, .bool d.a, .bool d.b] 26)) d := ⟨heap_alloc_new w _, (Below.refl _ _).alloc (Nat.le_refl _) _⟩
theorem BX.below {w w1 w2 : World} {d : Do} (h : BX w w1 d) (hb : Below w1.heap.size w1 w2) : BX w w2 d := ⟨(hb.block _ (Array.getElem?_eq_some_iff.1 h.r).1).trans h.r, h.bl.trans (hb.mono h.bl.size)⟩
theorem BX.c0 {w w1 : World} {d : Do} (h : BX w w1 d) : w1.cell? ⟨w.heap.size, 0, none⟩ = some (.int .u8 (d.what : Int)) := cell_of_row _ _ 0 _ _ _ h.r
theorem BX.c3 {w w1 : World} {d : Do} (h : BX w w1 d) : w1.cell? ⟨w.heap.size, 3, none⟩ = some (.string d.value) := cell_of_row _ _ 3 _ _ _ h.r
theorem BX.c4 {w w1 : World} {d : Do} (h : BX w w1 d) : w1.cell? ⟨w.heap.size, 4, none⟩ = some (.bool d.a) := cell_of_row _ _ 4 _ _ _ h.r
theorem BX.c5 {w w1 : World} {d : Do} (h : BX w w1 d) : w1.cell? ⟨w.heap.size, 5, none⟩ = some (.bool d.b) := cell_of_row _ _ 5 _ _ _ h.r
set_option maxHeartbeats 2000000 in
set_option maxRecDepth 100000 in
theorem does_mark_yes (l : List Vr) (A : Option Addr) (ln k : Nat) (d : Do) (w : World) (hK : Kit w) (hV : VS w A k l) (hn : l.length = ln) (hl : ln ≤ 50000) (hf : Fine l) (hd : d.ok) (hs : (nameOf d).size ≤ 1400000) (h3 : d.what % 5 = 3) (m : List Vr) (hr : mark l (nameOf d) d.a d.b = .ok m) (mn : Nat) (hm : m.length = mn) (hmn : mn ≤ 100000) :
   Calls Tryd.prog 7 #[.slice A ln k, .agg #[.int .u8 (d.what : Int), .int .u8 (d.name : Int), .string d.raw, .string d.value, .bool d.a, .bool d.b]] w (NEnd w m) := by
 have HK := Kept.mk hK
 have HV := Kept.mk hV
 have HN := Kept.mk hn
 have HG := Kept.mk hf
 have HD := Kept.mk hd
 have HSz := Kept.mk hs
 have HR := Kept.mk hr
 have hl2 : ln ≤ 100000 := by omega
 have HM := Kept.mk hm
 have b3 : (((d.what : Int) % 5) == 3) = true := by rw [beq_iff_eq]; omega
 have HX0 := Kept.mk (BX.begin w d)
 clear hK hV hn hf hd hs hr hm h3
 go_enter Tryd.func7, Tryd.ntmps7
 go_wp2_with (first
     | (go_at_call 9; refine (name_law d HD.out _).mono ?_; rintro e w1 ⟨rfl, hb0⟩
        have HX1 := Kept.mk (HX0.out.below hb0)
        have HV1 := Kept.mk (HV.out.below HX1.out.bl)
        clear hb0
        have c0 := HX1.out.c0
        have c4 := HX1.out.c4
        have c5 := HX1.out.c5)
     | (go_at_call 19; refine (pMark_any l A ln k (nameOf d) d.a d.b w1 HV1.out HN.out hl2 HSz.out HG.out.good.rise (HK.out.below HX1.out.bl)).mono ?_; intro e w2 h1; rw [HR.out] at h1; obtain ⟨A1, k1, rfl, hv1, hb1⟩ := h1.ok (mn := mn) HM.out
        have HX2 := Kept.mk (HX1.out.below hb1)
        have HV2 := Kept.mk (HV1.out.below hb1)
        clear hb1 h1
        have d0 := HX2.out.c0
        have d4 := HX2.out.c4
        have d5 := HX2.out.c5)
     | (go_at_call 20; refine (refMark_any l A ln k (nameOf d) d.a d.b w2 HV2.out HN.out hl2 (Nat.le_trans HSz.out (by omega))).mono ?_; intro e w3 h1; rw [HR.out] at h1; obtain ⟨A2, k2, rfl, hv2, hb2⟩ := h1.ok (mn := mn) HM.out
        have HX3 := Kept.mk (HX2.out.below hb2)
        clear h1)
     | (go_at_call 23; refine (same_vars m A1 A2 mn k1 k2 w3 (hv1.out.below hb2) hv2.out HM.out hmn).mono ?_; rintro e w4 ⟨rfl, hb4⟩
        have HX4 := Kept.mk (HX3.out.below hb4)
        have HV4 := Kept.mk (hv1.out.below (hb2.trans (hb4.mono hb2.size)))
        clear hb4))
 go_ret2
 exact ⟨_, _, _, rfl, HM.out, ⟨HV4.out⟩, HX4.out.bl⟩
set_option maxHeartbeats 2000000 in
set_option maxRecDepth 100000 in
theorem does_mark_no (l : List Vr) (A : Option Addr) (ln k : Nat) (d : Do) (w : World) (hK : Kit w) (hV : VS w A k l) (hn : l.length = ln) (hl : ln ≤ 50000) (hf : Fine l) (hd : d.ok) (hs : (nameOf d).size ≤ 1400000) (h3 : d.what % 5 = 3) (c : Int) (hr : mark l (nameOf d) d.a d.b = .error c) (hc : c = 1 ∨ c = 150) :
   Calls Tryd.prog 7 #[.slice A ln k, .agg #[.int .u8 (d.what : Int), .int .u8 (d.name : Int), .string d.raw, .string d.value, .bool d.a, .bool d.b]] w (NEnd w l) := by
 have HK := Kept.mk hK
 have HV := Kept.mk hV
 have HN := Kept.mk hn
 have HG := Kept.mk hf
 have HD := Kept.mk hd
 have HSz := Kept.mk hs
 have HR := Kept.mk hr
 have hl2 : ln ≤ 100000 := by omega
 have hc0 : (c != 0) = true := by rcases hc with rfl | rfl <;> rfl
 have hc1 : (c == 0) = false := by rcases hc with rfl | rfl <;> rfl
 have b3 : (((d.what : Int) % 5) == 3) = true := by rw [beq_iff_eq]; omega
 have HX0 := Kept.mk (BX.begin w d)
 clear hK hV hn hf hd hs hr hc h3
 go_enter Tryd.func7, Tryd.ntmps7
 go_wp2_with (first
     | (go_at_call 9; refine (name_law d HD.out _).mono ?_; rintro e w1 ⟨rfl, hb0⟩
        have HX1 := Kept.mk (HX0.out.below hb0)
        have HV1 := Kept.mk (HV.out.below HX1.out.bl)
        clear hb0
        have c0 := HX1.out.c0
        have c4 := HX1.out.c4
        have c5 := HX1.out.c5)
     | (go_at_call 19; refine (pMark_any l A ln k (nameOf d) d.a d.b w1 HV1.out HN.out hl2 HSz.out HG.out.good.rise (HK.out.below HX1.out.bl)).mono ?_; intro e w2 h1; rw [HR.out] at h1; obtain ⟨A1, k1, rfl, hv1, hb1⟩ := h1.no
        have HX2 := Kept.mk (HX1.out.below hb1)
        have HV2 := Kept.mk (HV1.out.below hb1)
        clear hb1 h1
        have d0 := HX2.out.c0
        have d4 := HX2.out.c4
        have d5 := HX2.out.c5)
     | (go_at_call 20; refine (refMark_any l A ln k (nameOf d) d.a d.b w2 HV2.out HN.out hl2 (Nat.le_trans HSz.out (by omega))).mono ?_; intro e w3 h1; rw [HR.out] at h1; obtain ⟨A2, k2, rfl, hv2, hb2⟩ := h1.no
        have HX3 := Kept.mk (HX2.out.below hb2)
        clear h1)
     | (go_at_call 23; refine (same_vars [] A1 A2 0 k1 k2 w3 (hv1.out.below hb2) hv2.out rfl (by omega)).mono ?_; rintro e w4 ⟨rfl, hb4⟩
        have HX4 := Kept.mk (HX3.out.below hb4)
        have HV4 := Kept.mk (HV.out.below (HX3.out.bl.trans (hb4.mono HX3.out.bl.size)))
        clear hb4))
 go_ret2
 exact ⟨_, _, _, rfl, HN.out, ⟨HV4.out⟩, HX4.out.bl⟩
set_option maxHeartbeats 2000000 in
set_option maxRecDepth 100000 in
theorem does_unset_yes (l : List Vr) (A : Option Addr) (ln k : Nat) (d : Do) (w : World) (hK : Kit w) (hV : VS w A k l) (hn : l.length = ln) (hl : ln ≤ 50000) (hf : Fine l) (hd : d.ok) (hs : (nameOf d).size ≤ 1400000) (h3 : d.what % 5 = 4) (m : List Vr) (hr : unset l (nameOf d) = .ok m) (mn : Nat) (hm : m.length = mn) (hmn : mn ≤ 100000) :
   Calls Tryd.prog 7 #[.slice A ln k, .agg #[.int .u8 (d.what : Int), .int .u8 (d.name : Int), .string d.raw, .string d.value, .bool d.a, .bool d.b]] w (NEnd w m) := by
 have HK := Kept.mk hK
 have HV := Kept.mk hV
 have HN := Kept.mk hn
 have HG := Kept.mk hf
 have HD := Kept.mk hd
 have HSz := Kept.mk hs
 have HR := Kept.mk hr
 have hl2 : ln ≤ 100000 := by omega
 have HM := Kept.mk hm
 have b3 : (((d.what : Int) % 5) == 3) = false := by rw [beq_eq_false_iff_ne]; omega
 have b4 : (((d.what : Int) % 5) == 4) = true := by rw [beq_iff_eq]; omega
 have HX0 := Kept.mk (BX.begin w d)
 clear hK hV hn hf hd hs hr hm h3
 go_enter Tryd.func7, Tryd.ntmps7
 go_wp2_with (first
     | (go_at_call 9; refine (name_law d HD.out _).mono ?_; rintro e w1 ⟨rfl, hb0⟩
        have HX1 := Kept.mk (HX0.out.below hb0)
        have HV1 := Kept.mk (HV.out.below HX1.out.bl)
        clear hb0
        have c0 := HX1.out.c0)
     | (go_at_call 18; refine (pUnset_any l A ln k (nameOf d) w1 HV1.out HN.out hl2 HG.out.good.rise).mono ?_; intro e w2 h1; rw [HR.out] at h1; obtain ⟨A1, k1, rfl, hv1, hb1⟩ := h1.ok (mn := mn) HM.out
        have HX2 := Kept.mk (HX1.out.below hb1)
        have HV2 := Kept.mk (HV1.out.below hb1)
        clear hb1 h1
        have d0 := HX2.out.c0)
     | (go_at_call 22; refine (refUnset_any l A ln k (nameOf d) w2 HV2.out HN.out hl2 ).mono ?_; intro e w3 h1; rw [HR.out] at h1; obtain ⟨A2, k2, rfl, hv2, hb2⟩ := h1.ok (mn := mn) HM.out
        have HX3 := Kept.mk (HX2.out.below hb2)
        clear h1)
     | (go_at_call 23; refine (same_vars m A1 A2 mn k1 k2 w3 (hv1.out.below hb2) hv2.out HM.out hmn).mono ?_; rintro e w4 ⟨rfl, hb4⟩
        have HX4 := Kept.mk (HX3.out.below hb4)
        have HV4 := Kept.mk (hv1.out.below (hb2.trans (hb4.mono hb2.size)))
        clear hb4))
 go_ret2
 exact ⟨_, _, _, rfl, HM.out, ⟨HV4.out⟩, HX4.out.bl⟩
set_option maxHeartbeats 2000000 in
set_option maxRecDepth 100000 in
theorem does_unset_no (l : List Vr) (A : Option Addr) (ln k : Nat) (d : Do) (w : World) (hK : Kit w) (hV : VS w A k l) (hn : l.length = ln) (hl : ln ≤ 50000) (hf : Fine l) (hd : d.ok) (hs : (nameOf d).size ≤ 1400000) (h3 : d.what % 5 = 4) (c : Int) (hr : unset l (nameOf d) = .error c) (hc : c = 1 ∨ c = 150) :
   Calls Tryd.prog 7 #[.slice A ln k, .agg #[.int .u8 (d.what : Int), .int .u8 (d.name : Int), .string d.raw, .string d.value, .bool d.a, .bool d.b]] w (NEnd w l) := by
 have HK := Kept.mk hK
 have HV := Kept.mk hV
 have HN := Kept.mk hn
 have HG := Kept.mk hf
 have HD := Kept.mk hd
 have HSz := Kept.mk hs
 have HR := Kept.mk hr
 have hl2 : ln ≤ 100000 := by omega
 have hc0 : (c != 0) = true := by rcases hc with rfl | rfl <;> rfl
 have hc1 : (c == 0) = false := by rcases hc with rfl | rfl <;> rfl
 have b3 : (((d.what : Int) % 5) == 3) = false := by rw [beq_eq_false_iff_ne]; omega
 have b4 : (((d.what : Int) % 5) == 4) = true := by rw [beq_iff_eq]; omega
 have HX0 := Kept.mk (BX.begin w d)
 clear hK hV hn hf hd hs hr hc h3
 go_enter Tryd.func7, Tryd.ntmps7
 go_wp2_with (first
     | (go_at_call 9; refine (name_law d HD.out _).mono ?_; rintro e w1 ⟨rfl, hb0⟩
        have HX1 := Kept.mk (HX0.out.below hb0)
        have HV1 := Kept.mk (HV.out.below HX1.out.bl)
        clear hb0
        have c0 := HX1.out.c0)
     | (go_at_call 18; refine (pUnset_any l A ln k (nameOf d) w1 HV1.out HN.out hl2 HG.out.good.rise).mono ?_; intro e w2 h1; rw [HR.out] at h1; obtain ⟨A1, k1, rfl, hv1, hb1⟩ := h1.no
        have HX2 := Kept.mk (HX1.out.below hb1)
        have HV2 := Kept.mk (HV1.out.below hb1)
        clear hb1 h1
        have d0 := HX2.out.c0)
     | (go_at_call 22; refine (refUnset_any l A ln k (nameOf d) w2 HV2.out HN.out hl2 ).mono ?_; intro e w3 h1; rw [HR.out] at h1; obtain ⟨A2, k2, rfl, hv2, hb2⟩ := h1.no
        have HX3 := Kept.mk (HX2.out.below hb2)
        clear h1)
     | (go_at_call 23; refine (same_vars [] A1 A2 0 k1 k2 w3 (hv1.out.below hb2) hv2.out rfl (by omega)).mono ?_; rintro e w4 ⟨rfl, hb4⟩
        have HX4 := Kept.mk (HX3.out.below hb4)
        have HV4 := Kept.mk (HV.out.below (HX3.out.bl.trans (hb4.mono HX3.out.bl.size)))
        clear hb4))
 go_ret2
 exact ⟨_, _, _, rfl, HN.out, ⟨HV4.out⟩, HX4.out.bl⟩
set_option maxHeartbeats 2000000 in
set_option maxRecDepth 100000 in
theorem does_set_yes (l : List Vr) (A : Option Addr) (ln k : Nat) (d : Do) (w : World) (hK : Kit w) (hV : VS w A k l) (hn : l.length = ln) (hl : ln ≤ 50000) (hf : Fine l) (hd : d.ok) (hs : (nameOf d).size ≤ 1400000) (h3 : d.what % 5 ≠ 3) (h4 : d.what % 5 ≠ 4) (m : List Vr) (hr : set l (nameOf d) d.value = .ok m) (mn : Nat) (hm : m.length = mn) (hmn : mn ≤ 100000) :
   Calls Tryd.prog 7 #[.slice A ln k, .agg #[.int .u8 (d.what : Int), .int .u8 (d.name : Int), .string d.raw, .string d.value, .bool d.a, .bool d.b]] w (NEnd w m) := by
 have HK := Kept.mk hK
 have HV := Kept.mk hV
 have HN := Kept.mk hn
 have HG := Kept.mk hf
 have HD := Kept.mk hd
 have HSz := Kept.mk hs
 have HR := Kept.mk hr
 have hl2 : ln ≤ 100000 := by omega
 have HM := Kept.mk hm
 have b3 : (((d.what : Int) % 5) == 3) = false := by rw [beq_eq_false_iff_ne]; omega
 have b4 : (((d.what : Int) % 5) == 4) = false := by rw [beq_eq_false_iff_ne]; omega
 have HX0 := Kept.mk (BX.begin w d)
 clear hK hV hn hf hd hs hr hm h3 h4
 go_enter Tryd.func7, Tryd.ntmps7
 go_wp2_with (first
     | (go_at_call 9; refine (name_law d HD.out _).mono ?_; rintro e w1 ⟨rfl, hb0⟩
        have HX1 := Kept.mk (HX0.out.below hb0)
        have HV1 := Kept.mk (HV.out.below HX1.out.bl)
        clear hb0
        have c0 := HX1.out.c0
        have c3 := HX1.out.c3)
     | (go_at_call 16; refine (pSet_any l A ln k (nameOf d) d.value w1 HV1.out HN.out hl2 HSz.out HG.out.good.rise (HK.out.below HX1.out.bl)).mono ?_; intro e w2 h1; rw [HR.out] at h1; obtain ⟨A1, k1, rfl, hv1, hb1⟩ := h1.ok (mn := mn) HM.out
        have HX2 := Kept.mk (HX1.out.below hb1)
        have HV2 := Kept.mk (HV1.out.below hb1)
        clear hb1 h1
        have d0 := HX2.out.c0
        have d3 := HX2.out.c3)
     | (go_at_call 21; refine (refSet_any l A ln k (nameOf d) d.value w2 HV2.out HN.out hl2 (Nat.le_trans HSz.out (by omega))).mono ?_; intro e w3 h1; rw [HR.out] at h1; obtain ⟨A2, k2, rfl, hv2, hb2⟩ := h1.ok (mn := mn) HM.out
        have HX3 := Kept.mk (HX2.out.below hb2)
        clear h1)
     | (go_at_call 23; refine (same_vars m A1 A2 mn k1 k2 w3 (hv1.out.below hb2) hv2.out HM.out hmn).mono ?_; rintro e w4 ⟨rfl, hb4⟩
        have HX4 := Kept.mk (HX3.out.below hb4)
        have HV4 := Kept.mk (hv1.out.below (hb2.trans (hb4.mono hb2.size)))
        clear hb4))
 go_ret2
 exact ⟨_, _, _, rfl, HM.out, ⟨HV4.out⟩, HX4.out.bl⟩
set_option maxHeartbeats 2000000 in
set_option maxRecDepth 100000 in
theorem does_set_no (l : List Vr) (A : Option Addr) (ln k : Nat) (d : Do) (w : World) (hK : Kit w) (hV : VS w A k l) (hn : l.length = ln) (hl : ln ≤ 50000) (hf : Fine l) (hd : d.ok) (hs : (nameOf d).size ≤ 1400000) (h3 : d.what % 5 ≠ 3) (h4 : d.what % 5 ≠ 4) (c : Int) (hr : set l (nameOf d) d.value = .error c) (hc : c = 1 ∨ c = 150) :
   Calls Tryd.prog 7 #[.slice A ln k, .agg #[.int .u8 (d.what : Int), .int .u8 (d.name : Int), .string d.raw, .string d.value, .bool d.a, .bool d.b]] w (NEnd w l) := by
 have HK := Kept.mk hK
 have HV := Kept.mk hV
 have HN := Kept.mk hn
 have HG := Kept.mk hf
 have HD := Kept.mk hd
 have HSz := Kept.mk hs
 have HR := Kept.mk hr
 have hl2 : ln ≤ 100000 := by omega
 have hc0 : (c != 0) = true := by rcases hc with rfl | rfl <;> rfl
 have hc1 : (c == 0) = false := by rcases hc with rfl | rfl <;> rfl
 have b3 : (((d.what : Int) % 5) == 3) = false := by rw [beq_eq_false_iff_ne]; omega
 have b4 : (((d.what : Int) % 5) == 4) = false := by rw [beq_eq_false_iff_ne]; omega
 have HX0 := Kept.mk (BX.begin w d)
 clear hK hV hn hf hd hs hr hc h3 h4
 go_enter Tryd.func7, Tryd.ntmps7
 go_wp2_with (first
     | (go_at_call 9; refine (name_law d HD.out _).mono ?_; rintro e w1 ⟨rfl, hb0⟩
        have HX1 := Kept.mk (HX0.out.below hb0)
        have HV1 := Kept.mk (HV.out.below HX1.out.bl)
        clear hb0
        have c0 := HX1.out.c0
        have c3 := HX1.out.c3)
     | (go_at_call 16; refine (pSet_any l A ln k (nameOf d) d.value w1 HV1.out HN.out hl2 HSz.out HG.out.good.rise (HK.out.below HX1.out.bl)).mono ?_; intro e w2 h1; rw [HR.out] at h1; obtain ⟨A1, k1, rfl, hv1, hb1⟩ := h1.no
        have HX2 := Kept.mk (HX1.out.below hb1)
        have HV2 := Kept.mk (HV1.out.below hb1)
        clear hb1 h1
        have d0 := HX2.out.c0
        have d3 := HX2.out.c3)
     | (go_at_call 21; refine (refSet_any l A ln k (nameOf d) d.value w2 HV2.out HN.out hl2 (Nat.le_trans HSz.out (by omega))).mono ?_; intro e w3 h1; rw [HR.out] at h1; obtain ⟨A2, k2, rfl, hv2, hb2⟩ := h1.no
        have HX3 := Kept.mk (HX2.out.below hb2)
        clear h1)
     | (go_at_call 23; refine (same_vars [] A1 A2 0 k1 k2 w3 (hv1.out.below hb2) hv2.out rfl (by omega)).mono ?_; rintro e w4 ⟨rfl, hb4⟩
        have HX4 := Kept.mk (HX3.out.below hb4)
        have HV4 := Kept.mk (HV.out.below (HX3.out.bl.trans (hb4.mono HX3.out.bl.size)))
        clear hb4))
 go_ret2
 exact ⟨_, _, _, rfl, HN.out, ⟨HV4.out⟩, HX4.out.bl⟩
theorem does_law (l : List Vr) (A : Option Addr) (ln k : Nat) (d : Do) (w : World) (hK : Kit w) (hV : VS w A k l) (hn : l.length = ln) (hl : ln ≤ 50000) (hf : Fine l) (hd : d.ok) (hs : (nameOf d).size ≤ 1400000) :
   Calls Tryd.prog 7 #[.slice A ln k, .agg #[.int .u8 (d.what : Int), .int .u8 (d.name : Int), .string d.raw, .string d.value, .bool d.a, .bool d.b]] w (NEnd w (next l d)) := by
 unfold next res
 by_cases h3 : d.what % 5 = 3
 · rw [if_pos h3]
   cases hr : mark l (nameOf d) d.a d.b with
   | ok m => exact does_mark_yes l A ln k d w hK hV hn hl hf hd hs h3 m hr _ rfl (by have := mark_le hr; omega)
   | error c => exact does_mark_no l A ln k d w hK hV hn hl hf hd hs h3 c hr (mark_err hr)
 · rw [if_neg h3]
   by_cases h4 : d.what % 5 = 4
   · rw [if_pos h4]
     cases hr : unset l (nameOf d) with
     | ok m => exact does_unset_yes l A ln k d w hK hV hn hl hf hd hs h4 m hr _ rfl (by have := unset_le hr; omega)
     | error c => exact does_unset_no l A ln k d w hK hV hn hl hf hd hs h4 c hr (unset_err hr)
   · rw [if_neg h4]
     cases hr : set l (nameOf d) d.value with
     | ok m => exact does_set_yes l A ln k d w hK hV hn hl hf hd hs h3 h4 m hr _ rfl (by have := set_le hr; omega)
     | error c => exact does_set_no l A ln k d w hK hV hn hl hf hd hs h3 h4 c hr (set_err hr)
theorem next_fine {l : List Vr} {d : Do} (hf : Fine l) (hd : d.ok) (hs : (nameOf d).size ≤ 1400000) : Fine (next l d) ∧ (next l d).length ≤ l.length + 1 := by
 unfold next res
 by_cases h3 : d.what % 5 = 3
 · rw [if_pos h3]
   cases hr : mark l (nameOf d) d.a d.b with
   | ok m => exact ⟨fine_mark hf hr hs, mark_le hr⟩
   | error c => exact ⟨hf, by simp⟩
 · rw [if_neg h3]
   by_cases h4 : d.what % 5 = 4
   · rw [if_pos h4]
     cases hr : unset l (nameOf d) with
     | ok m => exact ⟨fine_unset hf hr hs, unset_le hr⟩
     | error c => exact ⟨hf, by simp⟩
   · rw [if_neg h4]
     cases hr : set l (nameOf d) d.value with
     | ok m => exact ⟨fine_set hf hr hs hd.value, set_le hr⟩
     | error c => exact ⟨hf, by simp⟩
end Va
end
section
open Go.RowKit Tx
namespace Va
open Wx (Kit)
structure OneDo (w : World) (g off : Nat) (d : Do) : Prop where
 ok : d.ok
 c0 : w.cell? ⟨g, off, none⟩ = some (.int .u8 (d.what : Int))
 c1 : w.cell? ⟨g, off + 1, none⟩ = some (.int .u8 (d.name : Int))
 c2 : w.cell? ⟨g, off + 2, none⟩ = some (.string d.raw)
 c3 : w.cell? ⟨g, off + 3, none⟩ = some (.string d.value)
 c4 : w.cell? ⟨g, off + 4, none⟩ = some (.bool d.a)
 c5 : w.cell? ⟨g, off + 5, none⟩ = some (.bool d.b)
theorem OneDo.keep {w w' : World} {g off : Nat} {d : Do} (h : OneDo w g off d) (hg : g < w.heap.size) (hb : Below w.heap.size w w') : OneDo w' g off d :=
 ⟨h.ok, (hb.cell (p := ⟨g, off, none⟩) hg).trans h.c0, (hb.cell (p := ⟨g, off + 1, none⟩) hg).trans h.c1, (hb.cell (p := ⟨g, off + 2, none⟩) hg).trans h.c2, (hb.cell (p := ⟨g, off + 3, none⟩) hg).trans h.c3, (hb.cell (p := ⟨g, off + 4, none⟩) hg).trans h.c4, (hb.cell (p := ⟨g, off + 5, none⟩) hg).trans h.c5⟩
def DS (w : World) (A : Option Addr) (n : Nat) : Prop := ∀ i, i < n → ∃ g off d, A = some ⟨g, off, none⟩ ∧ g < w.heap.size ∧ OneDo w g (off + i * 6) d
theorem DS.below {w w' : World} {A : Option Addr} {n : Nat} (h : DS w A n) (hb : Below w.heap.size w w') : DS w' A n := fun i hi => by
 obtain ⟨g, off, d, hA, hg, ho⟩ := h i hi
 exact ⟨g, off, d, hA, Nat.lt_of_lt_of_le hg hb.size, ho.keep hg hb⟩
set_option maxHeartbeats 4000000 in
set_option maxRecDepth 100000 in
theorem plays_any (A : Option Addr) (n k : Nat) (w : World) (hK : Kit w) (hD : DS w A n) (hn : n ≤ 4611686018427387904) :
   Calls Tryd.prog 3 #[.slice A n k] w fun e w' => e = .returned (.bool true) ∧ Below w.heap.size w w' := by
 have HK := Kept.mk hK
 have HD := Kept.mk hD
 clear hK hD
 go_enter Tryd.func3, Tryd.ntmps3
 go_wp2_with (go_at_call 6; refine (awake_any w HK.out).mono ?_; rintro e w1 ⟨rfl, hb1⟩; have HB1 := Kept.mk hb1; clear hb1)
 go_loopw [4, 5] (fun v i wr => ∃ (j m q : Nat) (B : Option Addr) (l : List Vr), j ≤ n ∧ j ≤ 20 ∧ m ≤ j ∧ i = .int .i64 (j : Int) ∧ v = .slice B m q ∧ Kept (VS wr B q l) ∧ Kept (l.length = m) ∧ Kept (Fine l) ∧ Kept (Below w.heap.size w wr)) (fun _ i _ => n - (intOf i).toNat)
 case atStart => exact ⟨0, 0, 0, none, [], by omega, by omega, by omega, rfl, rfl, ⟨VS.empty _⟩, ⟨rfl⟩, ⟨Fine.nil⟩, HB1⟩
 case round =>
   obtain ⟨j, m, q, B, l, hj, hj20, hmj, rfl, rfl, hV, hL, hF, hB⟩ := hrel
   have j0 : (0 : Int) ≤ (j : Int) := by omega
   by_cases hgo : j < n ∧ j < 20
   · obtain ⟨g, off, d, rfl, hg, ho0⟩ := HD.out j hgo.1
     have HO := Kept.mk ho0
     have HGg := Kept.mk hg
     have ho := ho0.keep hg (Below.mono hB.out (Nat.le_refl _))
     have j1 : (j : Int) < (n : Int) := by omega
     have j2 : (j : Int) < 20 := by omega
     have c2 := ho.c2
     have c3 := ho.c3
     have hrz := ho.ok.raw
     have hvz := ho.ok.value
     have hw1 : IntKind.i64.wrap ((d.raw.size : Int) + (d.value.size : Int)) = (d.raw.size : Int) + (d.value.size : Int) := IntWalk.i64_in _ (by omega)
     clear ho ho0 hg
     by_cases hbig : 100 < d.raw.size + d.value.size
     · have hb1 : (100 : Int) < (d.raw.size : Int) + (d.value.size : Int) := by omega
       clear hbig hgo
       go_wp2_with fail
       go_quiet (fail)
       go_wp2_with fail
       go_ret
       exact ⟨rfl, below_drewN hB.out _⟩
     · have hb1 : ¬ (100 : Int) < (d.raw.size : Int) + (d.value.size : Int) := by omega
       have HNs : Kept ((nameOf d).size ≤ 1400000) := ⟨nameOf_small (by omega) (by omega)⟩
       have hm50 : m ≤ 50000 := by omega
       clear hbig hgo
       go_wp2_with fail
       go_quiet (fail)
       generalize hwq : World.drewN wr _ = W
       have HBw : Kept (Below wr.heap.size wr W) := ⟨by rw [← hwq]; exact below_drewN (Below.refl _ _) _⟩
       have HBW : Kept (Below w.heap.size w W) := ⟨hB.out.trans (HBw.out.mono hB.out.size)⟩
       have hVW := Kept.mk (hV.out.below HBw.out)
       clear hwq c2 c3
       obtain ⟨l2, hl2⟩ : ∃ l2, next l d = l2 := ⟨_, rfl⟩
       have HDo := Kept.mk (does_law l B m q d W (HK.out.below HBW.out) hVW.out hL.out hm50 hF.out HO.out.ok HNs.out)
       have hnf := next_fine hF.out HO.out.ok HNs.out
       rw [hl2] at HDo hnf
       obtain ⟨v, hv⟩ : ∃ v, getD l2 (nameOf d) = v := ⟨_, rfl⟩
       obtain ⟨b, hb⟩ : ∃ b, found l2 (nameOf d) = b := ⟨_, rfl⟩
       have HVv := Kept.mk hv
       have HBb := Kept.mk hb
       have HF2 := Kept.mk hnf.1
       have HLe : Kept (l2.length ≤ m + 1) := ⟨by have := hnf.2; rwa [hL.out] at this⟩
       have HOW := HO.out.keep HGg.out HBW.out
       have e0 := HOW.c0
       have e1 := HOW.c1
       have e2 := HOW.c2
       have e3 := HOW.c3
       have e4 := HOW.c4
       have e5 := HOW.c5
       have n0 : (v.name.toList == v.name.toList) = true := beq_true rfl
       have n1 : (v.value.toList == v.value.toList) = true := beq_true rfl
       have T1 : Kept True := ⟨trivial⟩
       have T2 : Kept True := ⟨trivial⟩
       have T3 : Kept True := ⟨trivial⟩
       have T4 : Kept True := ⟨trivial⟩
       clear hnf hl2 hv hb HOW
       go_wp2_with (first
         | (go_at_call 7; refine HDo.out.mono ?_; rintro e w2 ⟨B2, m2, q2, rfl, hm2, hV2, hb2⟩
            have HM2 := Kept.mk hm2
            have hm2b : m2 ≤ m + 1 := by rw [← hm2]; exact HLe.out
            have HB2 : Kept (Below w.heap.size w w2) := ⟨HBW.out.trans (hb2.mono HBW.out.size)⟩
            have HO2 := HO.out.keep HGg.out HB2.out
            have p0 := HO2.c0
            have p1 := HO2.c1
            have p2 := HO2.c2
            have p3 := HO2.c3
            have p4 := HO2.c4
            have p5 := HO2.c5
            clear hm2 hb2 HO2)
         | (go_at_call 9; have := T1; refine (name_law d HO.out.ok w2).mono ?_; clear T1; rintro e w3 ⟨rfl, hb3⟩
            have HB3 := Kept.mk hb3
            clear hb3)
         | (go_at_call 8; refine (get_any l2 B2 m2 q2 (nameOf d) w3 (hV2.out.below HB3.out) HM2.out (by omega) HF2.out.good.rise v b HVv.out HBb.out).mono ?_; rintro e w4 ⟨rfl, hb4⟩
            have HX := Kept.mk (VX.zero (HB3.out.trans (hb4.mono HB3.out.size)))
            clear hb4)
         | (have := T2; refine wpList_store_row rfl 30 _ _ rfl _ _ rfl rfl 30 _ HX.out.r (by kernel_rfl) rfl (by simp [Value.oneCell']) ?_
            clear T2
            have HXa := Kept.mk (HX.out.row v)
            generalize World.setRow _ _ _ = W5 at HXa ⊢
            have HB5 : Kept (Below w.heap.size w W5) := ⟨HB2.out.trans (HXa.out.bl.mono HB2.out.size)⟩
            have HO5 := HO.out.keep HGg.out HB5.out
            have r0 := HO5.c0
            have r1 := HO5.c1
            have r2 := HO5.c2
            have r3 := HO5.c3
            have r4 := HO5.c4
            have r5 := HO5.c5
            clear HO5)
         | (go_at_call 9; have := T3; refine (name_law d HO.out.ok W5).mono ?_; clear T3; rintro e w6 ⟨rfl, hb6⟩
            have HB6 := Kept.mk hb6
            clear hb6)
         | (go_at_call 10; refine (refGet_any l2 B2 m2 q2 (nameOf d) w6 (hV2.out.below (HXa.out.bl.trans (HB6.out.mono HXa.out.bl.size))) HM2.out (by omega) v b HVv.out HBb.out).mono ?_; rintro e w7 ⟨rfl, hb7⟩
            have HY := Kept.mk (VX.zero (HB6.out.trans (hb7.mono HB6.out.size)))
            clear hb7)
         | (have := HY; have := T4; refine wpList_store_row rfl 30 _ _ rfl _ _ rfl rfl 30 _ HY.out.r (by kernel_rfl) rfl (by simp [Value.oneCell']) ?_
            clear T4
            have HYa := Kept.mk (HY.out.row v)
            generalize World.setRow _ _ _ = W8 at HYa ⊢
            have HXb := Kept.mk (HXa.out.below HYa.out.bl))
         | (have := HXb; refine wpList_load_row rfl 30 _ rfl w4.heap.size rfl 30 #[.string v.name, .string v.value, .bool v.ex, .bool v.ro] (0, 0) _ HXb.out.r Tryd.underlying30 rfl (by kernel_rfl) ?_)
         | (have := HXb; refine wpList_load_row rfl 30 _ rfl w7.heap.size rfl 30 #[.string v.name, .string v.value, .bool v.ex, .bool v.ro] (0, 0) _ HYa.out.r Tryd.underlying30 rfl (by kernel_rfl) ?_)
         | (go_at_call 11; refine (right_any l2 B2 m2 q2 W8 (hV2.out.below HXb.out.bl) HM2.out (by omega) HF2.out.good).mono ?_; rintro e w9 ⟨rfl, hb9⟩
            have hV9 := Kept.mk ((hV2.out.below HXb.out.bl).below hb9)
            have HB9 : Kept (Below w.heap.size w w9) := ⟨(HB2.out.trans (HXb.out.bl.mono HB2.out.size)).trans (hb9.mono (HB2.out.trans (HXb.out.bl.mono HB2.out.size)).size)⟩
            clear hb9))
       go_round
       case rel => exact ⟨j + 1, m2, q2, B2, l2, by omega, by omega, by omega, by go_num, rfl, hV9, HM2, HF2, HB9⟩
       case measure => simp [intOf]; omega
   · have hstop : (¬ (j : Int) < (n : Int)) ∨ ((j : Int) < (n : Int) ∧ ¬ (j : Int) < 20) := by omega
     have hmf : m ≤ 100000 := by omega
     clear hgo
     rcases hstop with h1 | ⟨h1, h2⟩
     all_goals
       go_wp2_with (first
         | (go_at_call 13; refine (pEnviron_any l B m q _ hV.out hL.out hmf hF.out.few).mono ?_; rintro e w2 ⟨A2, n2, k2, rfl, hn2, hR2, hb2⟩
            have HN2 := Kept.mk hn2
            have HB2 := Kept.mk hb2
            clear hn2 hb2)
         | (go_at_call 14; refine (refEnviron_any l B m q _ (hV.out.below HB2.out) hL.out hmf hF.out.few).mono ?_; rintro e w3 ⟨A3, n3, k3, rfl, hn3, hR3, hb3⟩
            obtain rfl : n2 = n3 := HN2.out.symm.trans hn3
            have HB3 := Kept.mk hb3
            clear hb3 hn3)
         | (go_at_call 12; refine (same_texts (environ l) A2 A3 n2 k2 k3 _ (hR2.out.below HB3.out) hR3.out HN2.out (by have := environ_le l; have := HN2.out; have := hL.out; omega)).mono ?_; rintro e w4 ⟨rfl, hb4⟩
            have HB4 : Kept (Below w.heap.size w w4) := ⟨((hB.out.trans (HB2.out.mono hB.out.size)).trans (HB3.out.mono (hB.out.trans (HB2.out.mono hB.out.size)).size)).trans (hb4.mono ((hB.out.trans (HB2.out.mono hB.out.size)).trans (HB3.out.mono (hB.out.trans (HB2.out.mono hB.out.size)).size)).size)⟩
            clear hb4))
       go_ret
       exact ⟨rfl, HB4.out⟩
end Va
end
end Go.Proofs.YtpagcoiekeijbaaDoor
