/-
  Parts of the proof, merged.
-/
import Derived.Test.YtahjonfmhejoeaaGreatDoorVa40
namespace Go.Proofs.YtahjonfmhejoeaaGreatDoor
section
open Go.RowKit Tx
namespace Sy
open Lx (Tok tv tvs tvs_at Qt pan)
open Wx (Pt LV Nw parts)
theorem command_bad (w : World) (g d : Nat) (ts : List Tok) (h : PM w g d ts) (hd : 30 < d) :
   Calls Tryz.prog 129 #[.pointer (some ⟨g, 0, none⟩)] w (RE w g d (nodV w) (.error 2)) := by
 have H := Kept.mk h
 have c1 := (h.below ((Below.refl w.heap.size w).alloc (Nat.le_refl _) (.cells #[.int .i64 0, .bool false, .string ⟨#[]⟩, .slice none 0 0, .slice none 0 0, .slice none 0 0, .slice none 0 0, .slice none 0 0] 31))).c1.1
 have hz : ¬ (d : Int) ≤ 30 := by omega
 have hz2 : decide ((d : Int) ≤ 30) = false := decide_eq_false hz
 clear h hd hz
 go_enter Tryz.func129, Tryz.ntmps129
 go_wp2_with (first
   | (go_at_call 26
      try rw [hz2]
      refine (check_any _ false 2).mono ?_
      rintro e w3 ⟨rfl, rfl⟩))
 first | exact ⟨rfl, rfl, ⟨only_alloc (Only.refl _ _)⟩⟩ | exact ⟨rfl, ⟨only_alloc (Only.refl _ _)⟩⟩
set_option maxHeartbeats 8000000 in
set_option maxRecDepth 100000 in
theorem command_none (w : World) (g d : Nat) (ts : List Tok) (h : PM w g d ts) (hd : d ≤ 30) (hf : consF (kindT ts) (textT ts) = none) (c : List Tok → R Nd) (HC : Kept (RdC 129 g (d + 1) c)) (R0 : R Nd) (hR0 : R0 = if ends ts || isT 0 [33] ts then .error 100 else if atFun ts then defP c ts else simple ts) :
   Calls Tryz.prog 129 #[.pointer (some ⟨g, 0, none⟩)] w (RE w g d (nodV w) R0) := by
 have h1 := h.below ((Below.refl w.heap.size w).alloc (Nat.le_refl _) (.cells #[.int .i64 0, .bool false, .string ⟨#[]⟩, .slice none 0 0, .slice none 0 0, .slice none 0 0, .slice none 0 0, .slice none 0 0] 31))
 obtain ⟨A, k, m, hr, htk, ⟨es, clock, hm, hlk⟩, hmg⟩ := h1.row
 have hlen : (textT ts).length ≤ 20000 := by
   cases ts with
   | nil => exact Nat.zero_le _
   | cons a b => have := h.short a (by simp); show a.text.length ≤ _; omega
 have hkd : 0 ≤ kindT ts ∧ kindT ts ≤ 2 := by
   cases ts with
   | nil => exact ⟨Int.le_refl _, by decide⟩
   | cons a b => have := (h.good a (by simp)).k; show 0 ≤ a.kind ∧ a.kind ≤ 2; omega
 have hlk2 : ∀ W : World, W.heap[m]? = some (.map es clock) → (Instr.lookup 49 (.map (some m)) (.agg #[.int .i64 (kindT ts), .string (bs (textT ts))]) true).run Tryz.prog W = .ok (.tuple #[.nilFunc, .bool false]) W := fun W hW => by
   have := hlk W (kindT ts) (textT ts) hkd hlen hW
   rw [hf] at this
   exact this
 have H := Kept.mk h1
 have HGl := Kept.mk h.lt
 have HMg : Kept (m < g) := ⟨hmg⟩
 have HD := Kept.mk hd
 have c1 := h1.c1.1
 have c2 : (w.alloc (.cells #[.int .i64 0, .bool false, .string ⟨#[]⟩, .slice none 0 0, .slice none 0 0, .slice none 0 0, .slice none 0 0, .slice none 0 0] 31)).cell? ⟨g, 2, none⟩ = some (.map (some m)) := cell_of_row _ _ 2 _ _ _ hr
 have hz : (d : Int) ≤ 30 := by omega
 have hz2 : decide ((d : Int) ≤ 30) = true := decide_eq_true hz
 have HR := Kept.mk hR0
 clear h hR0 h1 hr htk hlk hlen hkd hf hd hmg
 go_enter Tryz.func129, Tryz.ntmps129
 go_upto_region 2 with (first
   | (go_at_call 26
      try rw [hz2]
      clear hz2 c1 hz
      refine (check_any _ true 2).mono ?_
      rintro e w3 ⟨rfl, rfl⟩))
 have HSz : Kept (w.heap.size < (w.alloc (.cells #[.int .i64 0, .bool false, .string ⟨#[]⟩, .slice none 0 0, .slice none 0 0, .slice none 0 0, .slice none 0 0, .slice none 0 0] 31)).heap.size) := ⟨by simp⟩
 have HO1 : Kept (Only (· = g) w (w.alloc (.cells #[.int .i64 0, .bool false, .string ⟨#[]⟩, .slice none 0 0, .slice none 0 0, .slice none 0 0, .slice none 0 0, .slice none 0 0] 31))) := ⟨(Only.refl _ _).alloc _⟩
 have HRs : Kept ((w.alloc (.cells #[.int .i64 0, .bool false, .string ⟨#[]⟩, .slice none 0 0, .slice none 0 0, .slice none 0 0, .slice none 0 0, .slice none 0 0] 31)).heap[w.heap.size]? = some (.cells #[.int .i64 0, .bool false, .string ⟨#[]⟩, .slice none 0 0, .slice none 0 0, .slice none 0 0, .slice none 0 0, .slice none 0 0] 31 (0, 0))) := ⟨heap_alloc_new w _⟩
 generalize w.alloc (.cells #[.int .i64 0, .bool false, .string ⟨#[]⟩, .slice none 0 0, .slice none 0 0, .slice none 0 0, .slice none 0 0, .slice none 0 0] 31) = w1 at *
 go_region_held3 (fun w' => w'.cell? ⟨g, 2, none⟩ = some (.map (some m)) ∧ w'.heap[m]? = some (.map es clock))
   (first
     | exact ⟨e2, em⟩
     | exact ⟨c2, hm⟩
     | (refine ⟨?_, ?_⟩ <;> go_keep))
   (first
     | (go_at_call 103
        refine (next_any _ g d ts (H.out.below (Below.refl _ _).drew)).mono ?_
        rintro e w2 ⟨rfl, hb⟩
        have HB2 : Kept (Below w1.heap.size w1 w2) := ⟨(Below.refl _ _).drew.trans hb⟩
        have e2 : w2.cell? ⟨g, 2, none⟩ = some (.map (some m)) := (World.cell?_of_block (HB2.out.block g (by have := HGl.out; have := HSz.out; omega))).trans c2
        have em : w2.heap[m]? = some (.map es clock) := (HB2.out.block m (by have := HGl.out; have := HSz.out; have := HMg.out; omega)).trans hm
        clear hb))
 have HP2 := Kept.mk (H.out.below HB2.out)
 have HO2 : Kept (Only (· = g) w w2) := ⟨only_on HO1.out HB2.out⟩
 have HRs2 : Kept (w2.heap[w.heap.size]? = some (.cells #[.int .i64 0, .bool false, .string ⟨#[]⟩, .slice none 0 0, .slice none 0 0, .slice none 0 0, .slice none 0 0, .slice none 0 0] 31 (0, 0))) := ⟨(HB2.out.block _ HSz.out).trans HRs.out⟩
 have HSz2 : Kept (w.heap.size < w2.heap.size) := ⟨Nat.lt_of_lt_of_le HSz.out HB2.out.size⟩
 clear e2 em c2 hm H HSz HO1 HRs HB2 hlk2 HMg
 cases hen : ends ts with
 | true =>
   have HEn := Kept.mk hen.symm
   obtain rfl : R0 = .error 100 := by rw [HR.out, hen]; rfl
   clear hen HR
   go_wp2_with (first
     | (go_at_call 56; refine (atListEnd_any _ g d ts HP2.out true HEn.out).mono ?_; rintro e w4 ⟨rfl, hb⟩; have HP4 := Kept.mk (HP2.out.below hb); have HB4 := Kept.mk hb; clear hb)
     | (go_at_call 26; refine (check_any _ false 100).mono ?_; rintro e w7 ⟨rfl, rfl⟩))
   first | exact ⟨rfl, rfl, ⟨only_on HO2.out HB4.out⟩⟩ | exact ⟨rfl, ⟨only_on HO2.out HB4.out⟩⟩
 | false =>
   have HEn := Kept.mk hen.symm
   cases hba : isT 0 [33] ts with
   | true =>
     have HBa : Kept (true = decide (textT ts = toL ⟨#[33]⟩)) := ⟨hba.symm.trans (at_word HP2.out.good (by decide)).symm⟩
     obtain rfl : R0 = .error 100 := by rw [HR.out, hen, hba]; rfl
     clear hen hba HR
     go_wp2_with (first
       | (go_at_call 56; refine (atListEnd_any _ g d ts HP2.out false HEn.out).mono ?_; rintro e w4 ⟨rfl, hb⟩; have HP4 := Kept.mk (HP2.out.below hb); have HB4 := Kept.mk hb; clear hb)
       | (go_at_call 93; refine (at_any _ g d ts ⟨#[33]⟩ HP4.out true HBa.out).mono ?_; rintro e w5 ⟨rfl, hb⟩; have HP5 := Kept.mk (HP4.out.below hb); have HB5 : Kept (Below w2.heap.size w2 w5) := ⟨HB4.out.trans (hb.mono HB4.out.size)⟩; clear hb HP4 HB4)
       | (go_at_call 26; refine (check_any _ false 100).mono ?_; rintro e w7 ⟨rfl, rfl⟩))
     first | exact ⟨rfl, rfl, ⟨only_on HO2.out HB5.out⟩⟩ | exact ⟨rfl, ⟨only_on HO2.out HB5.out⟩⟩
   | false =>
     have HBa : Kept (false = decide (textT ts = toL ⟨#[33]⟩)) := ⟨hba.symm.trans (at_word HP2.out.good (by decide)).symm⟩
     have HR2 : Kept (R0 = if atFun ts then defP c ts else simple ts) := ⟨by rw [HR.out, hen, hba, if_neg (by decide)]⟩
     clear hen hba HR
     cases hfn : atFun ts with
     | true =>
       have HFn := Kept.mk hfn.symm
       have HR3 : Kept (R0 = defP c ts) := ⟨by rw [HR2.out, if_pos hfn]⟩
       clear hfn HR2
       go_upto_region 10 with (first
         | (go_at_call 56; refine (atListEnd_any _ g d ts HP2.out false HEn.out).mono ?_; rintro e w4 ⟨rfl, hb⟩; have HP4 := Kept.mk (HP2.out.below hb); have HB4 := Kept.mk hb; clear hb)
         | (go_at_call 93; refine (at_any _ g d ts ⟨#[33]⟩ HP4.out false HBa.out).mono ?_; rintro e w5 ⟨rfl, hb⟩; have HP5 := Kept.mk (HP4.out.below hb); have HB5 : Kept (Below w2.heap.size w2 w5) := ⟨HB4.out.trans (hb.mono HB4.out.size)⟩; clear hb HP4 HB4)
         | (go_at_call 26; refine (check_any _ true 100).mono ?_; rintro e w7 ⟨rfl, rfl⟩)
         | (go_at_call 142; refine (atFunction_any _ g d ts HP5.out true HFn.out).mono ?_; rintro e w8 ⟨rfl, hb⟩; have HP8 := Kept.mk (HP5.out.below hb); have HB8 : Kept (Below w2.heap.size w2 w8) := ⟨HB5.out.trans (hb.mono HB5.out.size)⟩; clear hb HP5 HB5))
       have HO5 : Kept (Only (· = g) w w8) := ⟨only_on HO2.out HB8.out⟩
       have HRs5 : Kept (w8.heap[w.heap.size]? = some (.cells #[.int .i64 0, .bool false, .string ⟨#[]⟩, .slice none 0 0, .slice none 0 0, .slice none 0 0, .slice none 0 0, .slice none 0 0] 31 (0, 0))) := ⟨(HB8.out.block _ HSz2.out).trans HRs2.out⟩
       have HSz5 : Kept (w.heap.size < w8.heap.size) := ⟨Nat.lt_of_lt_of_le HSz2.out HB8.out.size⟩
       clear HO2 HRs2 HSz2 HB8 HP2
       go_wp2_with fail
       go_at_call 143
       refine (function_any _ g d ts HP8.out HFn.out.symm (by have := HD.out; omega) c HC R0 HR3.out).mono ?_
       intro e w6 hE
       cases R0 with
       | error e2 =>
         obtain ⟨rfl, ho⟩ := hE
         first | exact ⟨rfl, rfl, ⟨only_two HO5.out ho.out⟩⟩ | exact ⟨rfl, ⟨only_two HO5.out ho.out⟩⟩
       | ok z =>
         obtain ⟨x, us⟩ := z
         obtain ⟨u, rfl, hu, hp, ho⟩ := hE
         obtain ⟨k, q, n, A1, n1, k1, A2, n2, k2, A3, n3, k3, A4, n4, k4, A5, n5, k5, ws5, gs5, rs5, os5, ks5, rfl, hxe, _, hkd⟩ := nv_parts hu.out
         have hres2 : w6.heap[w.heap.size]? = some (.cells #[.int .i64 0, .bool false, .string ⟨#[]⟩, .slice none 0 0, .slice none 0 0, .slice none 0 0, .slice none 0 0, .slice none 0 0] 31 (0, 0)) := (ho.out.block _ HSz5.out (by have := HGl.out; omega)).trans HRs5.out
         have HRes2 := Kept.mk hres2
         have HRow : Kept ((w6.setRow w.heap.size #[.int .i64 k, .bool q, .string (bs n), .slice A1 n1 k1, .slice A2 n2 k2, .slice A3 n3 k3, .slice A4 n4 k4, .slice A5 n5 k5]).heap[w.heap.size]? = some (.cells #[.int .i64 k, .bool q, .string (bs n), .slice A1 n1 k1, .slice A2 n2 k2, .slice A3 n3 k3, .slice A4 n4 k4, .slice A5 n5 k5] 31 (0, 0))) := ⟨setRow_heap _ _ _ _ _ _ hres2⟩
         have hgl := HGl.out
         have HPf : Kept (PM (w6.setRow w.heap.size #[.int .i64 k, .bool q, .string (bs n), .slice A1 n1 k1, .slice A2 n2 k2, .slice A3 n3 k3, .slice A4 n4 k4, .slice A5 n5 k5]) g d us) := ⟨hp.out.low (fun i hi _ => setRow_other _ _ i _ (by omega)) (by rw [setRow_size]; exact Nat.le_refl _)⟩
         have hoA : Only (· = g) w w6 := only_two HO5.out ho.out
         have HOf : Kept (Only (· = g) w (w6.setRow w.heap.size #[.int .i64 k, .bool q, .string (bs n), .slice A1 n1 k1, .slice A2 n2 k2, .slice A3 n3 k3, .slice A4 n4 k4, .slice A5 n5 k5])) := ⟨⟨hoA.os, hoA.tape, hoA.output, by rw [setRow_size]; exact hoA.size, fun i hi hn => (setRow_other _ _ i _ (by omega)).trans (hoA.block i hi hn)⟩⟩
         have HN : Kept (NV (Nw w.heap.size) (w6.setRow w.heap.size #[.int .i64 k, .bool q, .string (bs n), .slice A1 n1 k1, .slice A2 n2 k2, .slice A3 n3 k3, .slice A4 n4 k4, .slice A5 n5 k5]) (.agg #[.int .i64 k, .bool q, .string (bs n), .slice A1 n1 k1, .slice A2 n2 k2, .slice A3 n3 k3, .slice A4 n4 k4, .slice A5 n5 k5]) x) := ⟨nv_done hu.out HSz5.out (Nat.le_of_lt HSz5.out) _⟩
         clear hu hp ho hres2 hxe hkd hoA hgl
         go_wp2_with (refine wpList_store_row rfl 31 _ _ rfl w.heap.size #[.int .i64 k, .bool q, .string (bs n), .slice A1 n1 k1, .slice A2 n2 k2, .slice A3 n3 k3, .slice A4 n4 k4, .slice A5 n5 k5] rfl rfl _ _ HRes2.out (by kernel_rfl) rfl (all_node _ _ _ _ _ _ _ _ _ _ _ _ _ _ _ _ _ _) ?_)
         refine bodyPost_ret (results_cell_row rfl _ _ w.heap.size _ _ (0, 0) _ rfl HRow.out Tryz.underlying31 rfl (by kernel_rfl)) rfl ?_
         exact ⟨_, rfl, HN, HPf, HOf⟩
     | false =>
       have HFn := Kept.mk hfn.symm
       have HR3 : Kept (R0 = simple ts) := ⟨by rw [HR2.out, if_neg (by rw [hfn]; decide)]⟩
       clear hfn HR2
       go_upto_region 11 with (first
         | (go_at_call 56; refine (atListEnd_any _ g d ts HP2.out false HEn.out).mono ?_; rintro e w4 ⟨rfl, hb⟩; have HP4 := Kept.mk (HP2.out.below hb); have HB4 := Kept.mk hb; clear hb)
         | (go_at_call 93; refine (at_any _ g d ts ⟨#[33]⟩ HP4.out false HBa.out).mono ?_; rintro e w5 ⟨rfl, hb⟩; have HP5 := Kept.mk (HP4.out.below hb); have HB5 : Kept (Below w2.heap.size w2 w5) := ⟨HB4.out.trans (hb.mono HB4.out.size)⟩; clear hb HP4 HB4)
         | (go_at_call 26; refine (check_any _ true 100).mono ?_; rintro e w7 ⟨rfl, rfl⟩)
         | (go_at_call 142; refine (atFunction_any _ g d ts HP5.out false HFn.out).mono ?_; rintro e w8 ⟨rfl, hb⟩; have HP8 := Kept.mk (HP5.out.below hb); have HB8 : Kept (Below w2.heap.size w2 w8) := ⟨HB5.out.trans (hb.mono HB5.out.size)⟩; clear hb HP5 HB5))
       have HO5 : Kept (Only (· = g) w w8) := ⟨only_on HO2.out HB8.out⟩
       have HRs5 : Kept (w8.heap[w.heap.size]? = some (.cells #[.int .i64 0, .bool false, .string ⟨#[]⟩, .slice none 0 0, .slice none 0 0, .slice none 0 0, .slice none 0 0, .slice none 0 0] 31 (0, 0))) := ⟨(HB8.out.block _ HSz2.out).trans HRs2.out⟩
       have HSz5 : Kept (w.heap.size < w8.heap.size) := ⟨Nat.lt_of_lt_of_le HSz2.out HB8.out.size⟩
       clear HO2 HRs2 HSz2 HB8 HP2
       go_wp2_with fail
       go_at_call 144
       refine (simple_any _ g d ts HP8.out R0 HR3.out).mono ?_
       intro e w6 hE
       cases R0 with
       | error e2 =>
         obtain ⟨rfl, ho⟩ := hE
         first | exact ⟨rfl, rfl, ⟨only_two HO5.out ho.out⟩⟩ | exact ⟨rfl, ⟨only_two HO5.out ho.out⟩⟩
       | ok z =>
         obtain ⟨x, us⟩ := z
         obtain ⟨u, rfl, hu, hp, ho⟩ := hE
         obtain ⟨k, q, n, A1, n1, k1, A2, n2, k2, A3, n3, k3, A4, n4, k4, A5, n5, k5, ws5, gs5, rs5, os5, ks5, rfl, hxe, _, hkd⟩ := nv_parts hu.out
         have hres2 : w6.heap[w.heap.size]? = some (.cells #[.int .i64 0, .bool false, .string ⟨#[]⟩, .slice none 0 0, .slice none 0 0, .slice none 0 0, .slice none 0 0, .slice none 0 0] 31 (0, 0)) := (ho.out.block _ HSz5.out (by have := HGl.out; omega)).trans HRs5.out
         have HRes2 := Kept.mk hres2
         have HRow : Kept ((w6.setRow w.heap.size #[.int .i64 k, .bool q, .string (bs n), .slice A1 n1 k1, .slice A2 n2 k2, .slice A3 n3 k3, .slice A4 n4 k4, .slice A5 n5 k5]).heap[w.heap.size]? = some (.cells #[.int .i64 k, .bool q, .string (bs n), .slice A1 n1 k1, .slice A2 n2 k2, .slice A3 n3 k3, .slice A4 n4 k4, .slice A5 n5 k5] 31 (0, 0))) := ⟨setRow_heap _ _ _ _ _ _ hres2⟩
         have hgl := HGl.out
         have HPf : Kept (PM (w6.setRow w.heap.size #[.int .i64 k, .bool q, .string (bs n), .slice A1 n1 k1, .slice A2 n2 k2, .slice A3 n3 k3, .slice A4 n4 k4, .slice A5 n5 k5]) g d us) := ⟨hp.out.low (fun i hi _ => setRow_other _ _ i _ (by omega)) (by rw [setRow_size]; exact Nat.le_refl _)⟩
         have hoA : Only (· = g) w w6 := only_two HO5.out ho.out
         have HOf : Kept (Only (· = g) w (w6.setRow w.heap.size #[.int .i64 k, .bool q, .string (bs n), .slice A1 n1 k1, .slice A2 n2 k2, .slice A3 n3 k3, .slice A4 n4 k4, .slice A5 n5 k5])) := ⟨⟨hoA.os, hoA.tape, hoA.output, by rw [setRow_size]; exact hoA.size, fun i hi hn => (setRow_other _ _ i _ (by omega)).trans (hoA.block i hi hn)⟩⟩
         have HN : Kept (NV (Nw w.heap.size) (w6.setRow w.heap.size #[.int .i64 k, .bool q, .string (bs n), .slice A1 n1 k1, .slice A2 n2 k2, .slice A3 n3 k3, .slice A4 n4 k4, .slice A5 n5 k5]) (.agg #[.int .i64 k, .bool q, .string (bs n), .slice A1 n1 k1, .slice A2 n2 k2, .slice A3 n3 k3, .slice A4 n4 k4, .slice A5 n5 k5]) x) := ⟨nv_done hu.out HSz5.out (Nat.le_of_lt HSz5.out) _⟩
         clear hu hp ho hres2 hxe hkd hoA hgl
         go_wp2_with (refine wpList_store_row rfl 31 _ _ rfl w.heap.size #[.int .i64 k, .bool q, .string (bs n), .slice A1 n1 k1, .slice A2 n2 k2, .slice A3 n3 k3, .slice A4 n4 k4, .slice A5 n5 k5] rfl rfl _ _ HRes2.out (by kernel_rfl) rfl (all_node _ _ _ _ _ _ _ _ _ _ _ _ _ _ _ _ _ _) ?_)
         refine bodyPost_ret (results_cell_row rfl _ _ w.heap.size _ _ (0, 0) _ rfl HRow.out Tryz.underlying31 rfl (by kernel_rfl)) rfl ?_
         exact ⟨_, rfl, HN, HPf, HOf⟩
end Sy
end
section
open Go.RowKit Tx
namespace Sy
open Lx (Tok tv tvs tvs_at Qt pan)
open Wx (Pt LV Nw parts)
theorem isT_head (k : Int) (x : List UInt8) (t : Tok) (r : List Tok) : isT k x (t :: r) = decide (t.kind = k ∧ t.text = x) := by
 show (t.kind == k && t.text == x) = _
 by_cases h1 : t.kind = k <;> by_cases h2 : t.text = x <;> simp [h1, h2]
theorem cons_cases (c b : List Tok → R Nd) (ts : List Tok) :
   (consF (kindT ts) (textT ts) = none ∧ constructP c b ts = none) ∨
   (isT 1 [40] ts = true ∧ consF (kindT ts) (textT ts) = some 49 ∧ constructP c b ts = some (andThen (upTo 1 [41] (list (andOr (pipe c)) false ts.tail)) fun l r => .ok (.mk 5 false [] [] [] [] [] [l], r))) ∨
   (isT 0 [123] ts = true ∧ consF (kindT ts) (textT ts) = some 50 ∧ constructP c b ts = some (andThen (upTo 0 [125] (list (andOr (pipe c)) false ts.tail)) fun l r => .ok (.mk 4 false [] [] [] [] [] [l], r))) ∨
   (ts ≠ [] ∧ consF (kindT ts) (textT ts) = some 51 ∧ constructP c b ts = some (choice (list (andOr (pipe c))) b ts.tail)) ∨
   (ts ≠ [] ∧ consF (kindT ts) (textT ts) = some 52 ∧ constructP c b ts = some (loop (list (andOr (pipe c))) ts)) ∨
   (isT 0 kFor ts = true ∧ consF (kindT ts) (textT ts) = some 53 ∧ constructP c b ts = some (each (list (andOr (pipe c))) ts.tail)) ∨
   (isT 0 kCase ts = true ∧ consF (kindT ts) (textT ts) = some 54 ∧ constructP c b ts = some (cases (list (andOr (pipe c))) ts.tail)) := by
 cases ts with
 | nil => exact .inl ⟨rfl, rfl⟩
 | cons t r =>
   have hk : kindT (t :: r) = t.kind := rfl
   have hx : textT (t :: r) = t.text := rfl
   have hne : t :: r ≠ [] := by simp
   unfold constructP consF
   rw [hk, hx]
   simp only [isT_head]
   by_cases h1 : t.kind = 1 ∧ t.text = [40]
   · exact .inr (.inl ⟨by rw [decide_eq_true h1], by rw [if_pos h1], by rw [if_pos (decide_eq_true h1)]⟩)
   have e1 : decide (t.kind = 1 ∧ t.text = [40]) = false := decide_eq_false h1
   rw [if_neg h1, e1, if_neg Bool.false_ne_true]
   by_cases h2 : t.kind = 0 ∧ t.text = [123]
   · exact .inr (.inr (.inl ⟨by rw [decide_eq_true h2], by rw [if_pos h2], by rw [if_pos (decide_eq_true h2)]⟩))
   have e2 : decide (t.kind = 0 ∧ t.text = [123]) = false := decide_eq_false h2
   rw [if_neg h2, e2, if_neg Bool.false_ne_true]
   by_cases h3 : t.kind = 0 ∧ t.text = kIf
   · exact .inr (.inr (.inr (.inl ⟨hne, by rw [if_pos h3], by rw [if_pos (decide_eq_true h3)]⟩)))
   have e3 : decide (t.kind = 0 ∧ t.text = kIf) = false := decide_eq_false h3
   rw [if_neg h3, e3, if_neg Bool.false_ne_true]
   by_cases h4 : t.kind = 0 ∧ (t.text = kWhile ∨ t.text = kUntil)
   · refine .inr (.inr (.inr (.inr (.inl ⟨hne, by rw [if_pos h4], ?_⟩))))
     rw [if_pos]
     rcases h4 with ⟨a, b | b⟩
     · rw [decide_eq_true (show t.kind = 0 ∧ t.text = kWhile from ⟨a, b⟩)]; rfl
     · rw [decide_eq_true (show t.kind = 0 ∧ t.text = kUntil from ⟨a, b⟩), Bool.or_true]
   have h4a : ¬ (t.kind = 0 ∧ t.text = kWhile) := fun h => h4 ⟨h.1, .inl h.2⟩
   have h4b : ¬ (t.kind = 0 ∧ t.text = kUntil) := fun h => h4 ⟨h.1, .inr h.2⟩
   have e4 : (decide (t.kind = 0 ∧ t.text = kWhile) || decide (t.kind = 0 ∧ t.text = kUntil)) = false := by rw [decide_eq_false h4a, decide_eq_false h4b]; rfl
   rw [if_neg h4, e4, if_neg Bool.false_ne_true]
   by_cases h5 : t.kind = 0 ∧ t.text = kFor
   · exact .inr (.inr (.inr (.inr (.inr (.inl ⟨by rw [decide_eq_true h5], by rw [if_pos h5], by rw [if_pos (decide_eq_true h5)]⟩)))))
   have e5 : decide (t.kind = 0 ∧ t.text = kFor) = false := decide_eq_false h5
   rw [if_neg h5, e5, if_neg Bool.false_ne_true]
   by_cases h6 : t.kind = 0 ∧ t.text = kCase
   · exact .inr (.inr (.inr (.inr (.inr (.inr ⟨by rw [decide_eq_true h6], by rw [if_pos h6], by rw [if_pos (decide_eq_true h6)]⟩)))))
   have e6 : decide (t.kind = 0 ∧ t.text = kCase) = false := decide_eq_false h6
   rw [if_neg h6, e6, if_neg Bool.false_ne_true]
   exact .inl ⟨rfl, rfl⟩
theorem command_any (w : World) (g d : Nat) (ts : List Tok) (h : PM w g d ts) (hd : d ≤ 30) (c b : List Tok → R Nd) (hc : Lt c) (HC : Kept (RdC 129 g (d + 1) c)) (HI : Kept (InC g d (andOr (pipe c)))) (HE : Kept (RdN 95 g (d + 1) b)) (HT : Kept (ItC g d (list (andOr (pipe c))))) :
   Calls Tryz.prog 129 #[.pointer (some ⟨g, 0, none⟩)] w (RE w g d (nodV w) (commandP c b ts)) := by
 unfold commandP
 rcases cons_cases c b ts with ⟨hf, hp⟩ | ⟨ht, hf, hp⟩ | ⟨ht, hf, hp⟩ | ⟨ht, hf, hp⟩ | ⟨ht, hf, hp⟩ | ⟨ht, hf, hp⟩ | ⟨ht, hf, hp⟩
 · rw [hp]
   exact command_none w g d ts h hd hf c HC _ rfl
 · rw [hp]
   exact command_some w g d ts h hd _ hf ⟨fun W => by kernel_rfl⟩ _ ⟨fun W hW => sub_any W g d ts hW ht _ HI _ rfl⟩ _ rfl
 · rw [hp]
   exact command_some w g d ts h hd _ hf ⟨fun W => by kernel_rfl⟩ _ ⟨fun W hW => group_any W g d ts hW ht _ HI _ rfl⟩ _ rfl
 · rw [hp]
   obtain ⟨t, r, rfl⟩ : ∃ t r, ts = t :: r := by
     cases ts with
     | nil => exact absurd rfl ht
     | cons t r => exact ⟨t, r, rfl⟩
   exact command_some w g d _ h hd _ hf ⟨fun W => by kernel_rfl⟩ _ ⟨fun W hW => choice_any W g d t r hW (by omega) _ b HI HE _ rfl⟩ _ rfl
 · rw [hp]
   obtain ⟨t, r, rfl⟩ : ∃ t r, ts = t :: r := by
     cases ts with
     | nil => exact absurd rfl ht
     | cons t r => exact ⟨t, r, rfl⟩
   exact command_some w g d _ h hd _ hf ⟨fun W => by kernel_rfl⟩ _ ⟨fun W hW => while_any W g d t r hW _ HI _ rfl⟩ _ rfl
 · rw [hp]
   exact command_some w g d ts h hd _ hf ⟨fun W => by kernel_rfl⟩ _ ⟨fun W hW => each_any W g d ts hW ht _ HI _ rfl⟩ _ rfl
 · rw [hp]
   exact command_some w g d ts h hd _ hf ⟨fun W => by kernel_rfl⟩ _ ⟨fun W hW => cases_any W g d ts hW ht _ (item_lt fun e => list_le (andOr_lt (pipe_lt hc)).le e) HT _ rfl⟩ _ rfl
theorem list_c (g d : Nat) (c : List Tok → R Nd) (hc : Lt c) (HC : RdC 129 g d c) : RdC 25 g d (list (andOr (pipe c)) true) :=
 fun W us h => list_any W g d us h (andOr (pipe c)) (andOr_lt (pipe_lt hc)) ⟨fun W us h => andOr_any W g d us h (pipe c) (pipe_lt hc) ⟨fun W us h => pipe_any W g d us h c hc ⟨HC⟩ _ rfl⟩ _ rfl⟩
theorem both_any (g : Nat) : ∀ (k d : Nat), d + k = 31 → RdC 129 g d (bothP k).1 ∧ RdN 95 g d (bothP k).2
 | 0, d, hd => ⟨fun W us h => command_bad W g d us h (by omega), fun W us _ h => elif_bad W g d us h (by omega)⟩
 | k + 1, d, hd => by
   obtain ⟨h1, h2⟩ := both_any g k (d + 1) (by omega)
   have hc := (bothP_lt k).1
   have HL := list_c g (d + 1) _ hc h1
   have HI : InC g d (andOr (pipe (bothP k).1)) := inner_c g d (by omega) _ ⟨HL⟩
   have HT : ItC g d (list (andOr (pipe (bothP k).1))) := fun W us h => item_any W g d us h (by omega) _ ⟨HL⟩ _ rfl
   refine ⟨fun W us h => command_any W g d us h (by omega) _ _ hc ⟨h1⟩ ⟨HI⟩ ⟨h2⟩ ⟨HT⟩, fun W us hne h => ?_⟩
   cases us with
   | nil => exact absurd rfl hne
   | cons t r => exact elif_any W g d t r h (by omega) _ _ ⟨HI⟩ ⟨h2⟩ _ rfl
theorem whole_any (w : World) (g : Nat) (ts : List Tok) (h : PM w g 1 ts) : Calls Tryz.prog 25 #[.pointer (some ⟨g, 0, none⟩)] w (RE w g 1 (nodV w) (list (andOr (pipe (bothP 30).1)) true ts)) :=
 list_c g 1 _ (bothP_lt 30).1 (both_any g 30 1 rfl).1 w ts h
end Sy
end
end Go.Proofs.YtahjonfmhejoeaaGreatDoor
