/-
  Parts of the proof, merged.
-/
import Derived.Deep.RegionHeld3
import Derived.Test.YtahjonfmhejoeaaGreatDoorVa39
namespace Go.Proofs.YtahjonfmhejoeaaGreatDoor
section
open Go.RowKit Tx
namespace Sy
open Lx (Tok tv tvs tvs_at Qt pan)
open Wx (Pt LV Nw parts)
theorem atFun_name {ts : List Tok} (h : GoodL ts) (ha : atFun ts = true) : isName (textT ts) = true ∧ isT 1 [40] ts.tail = true := by
 unfold atFun at ha
 rw [Bool.and_eq_true, Bool.and_eq_true, beq_iff_eq] at ha
 obtain ⟨⟨h1, h2⟩, h3⟩ := ha
 refine ⟨?_, h3⟩
 rw [isName_word h]
 simp [h1, h2]
set_option maxHeartbeats 8000000 in
set_option maxRecDepth 100000 in
theorem function_any (w : World) (g d : Nat) (ts : List Tok) (h : PM w g d ts) (ha : atFun ts = true) (hd39 : d ≤ 39) (c : List Tok → R Nd) (HC : Kept (RdC 129 g (d + 1) c)) (R0 : R Nd) (hR0 : R0 = defP c ts) :
   Calls Tryz.prog 143 #[.pointer (some ⟨g, 0, none⟩)] w (RE w g d (nodV w) R0) := by
 have H := Kept.mk h
 have HGl := Kept.mk h.lt
 have HD39 := Kept.mk hd39
 obtain ⟨hnm, hpa⟩ := atFun_name h.good ha
 have HNm : Kept (nameR ts = .ok (textT ts, ts.tail)) := ⟨by unfold nameR; rw [if_pos hnm]⟩
 have HPa := Kept.mk hpa.symm
 have HR : Kept (R0 = if isT 1 [41] ts.tail.tail then andThen (c (lines ts.tail.tail.tail)) fun k r => if k.kind = 11 ∨ k.kind = 0 then .error 100 else .ok (.mk 11 false (textT ts) [] [] [] [] [k], r) else .error 100) := ⟨by
   rw [hR0]
   have : ts.drop 3 = ts.tail.tail.tail := by match ts with | [] => rfl | [_] => rfl | [_, _] => rfl | _ :: _ :: _ :: _ => rfl
   unfold defP
   rw [this]⟩
 have hmf : ∀ (fn : Fn) (first cap : Array Value) (w : World), (Instr.makeFunc fn first cap).run Tryz.prog w = .ok (.func fn first cap) w := fun _ _ _ _ => rfl
 clear h hR0 hd39 ha hnm hpa
 go_enter Tryz.func143, Tryz.ntmps143
 go_wp2_with (first
   | (go_at_call 99; refine (name_any _ g d ts (H.out.below ((Below.refl _ _).alloc (Nat.le_refl _) _))).mono ?_; rw [HNm.out]; rintro e w1 ⟨u9, rfl, hu, hp, ho⟩; have hu : u9 = .string (bs (textT ts)) := hu.out; subst hu; have HB := Kept.mk (BS.hold (res_on ho.out HGl.out rfl) hp.out (only_alloc ho.out) HGl.out #[.int .i64 11, .bool false, .string (bs (textT ts)), .slice none 0 0, .slice none 0 0, .slice none 0 0, .slice none 0 0, .slice none 0 0]); clear hp ho)
   | (go_at_call 90; refine (expOp_any _ g d ts.tail ⟨#[40]⟩ HB.out.pm (by decide) true HPa.out).mono ?_; rintro e w2 ⟨u8, rfl, hu, hp, ho⟩; have hu : u8 = .tuple #[] := hu.out; subst hu; have HB2 := Kept.mk (HB.out.mv ho.out hp.out); clear hp ho HB))
 generalize hnb : w1.heap.size = nb at *
 clear hnb
 cases hcl : isT 1 [41] ts.tail.tail with
 | false =>
   have HTc := Kept.mk hcl.symm
   obtain rfl : R0 = .error 100 := by rw [HR.out, if_neg (by rw [hcl]; decide)]
   clear hcl HR
   go_at_call 90
   refine (expOp_any _ g d ts.tail.tail ⟨#[41]⟩ HB2.out.pm (by decide) false HTc.out).mono ?_
   rintro e w5 ⟨rfl, ho⟩
   first | exact ⟨rfl, rfl, ⟨only_two HB2.out.only ho.out⟩⟩ | exact ⟨rfl, ⟨only_two HB2.out.only ho.out⟩⟩
 | true =>
   have HTc := Kept.mk hcl.symm
   have HR2 : Kept (R0 = andThen (c (lines ts.tail.tail.tail)) fun k r => if k.kind = 11 ∨ k.kind = 0 then .error 100 else .ok (.mk 11 false (textT ts) [] [] [] [] [k], r)) := ⟨by rw [HR.out, if_pos hcl]⟩
   clear hcl HR
   go_at_call 90
   refine (expOp_any _ g d ts.tail.tail ⟨#[41]⟩ HB2.out.pm (by decide) true HTc.out).mono ?_
   rintro e w3 ⟨u8, rfl, hu, hp, ho⟩
   have hu : u8 = .tuple #[] := hu.out
   subst hu
   have HB3 := Kept.mk (HB2.out.mv ho.out hp.out)
   clear hp ho HB2
   go_wp2_with (first
     | (go_at_call 55; refine (skipLines_any _ g d ts.tail.tail.tail HB3.out.pm).mono ?_; rintro e w4 ⟨rfl, hp, ho⟩; have HB4 := Kept.mk (HB3.out.mv ho.out hp.out); clear hp ho HB3))
   go_at_call 94
   refine (deeper_command _ g d (lines ts.tail.tail.tail) HB4.out.pm HD39.out c HC).mono ?_
   intro e w6 hE
   cases hcu : c (lines ts.tail.tail.tail) with
   | error e2 =>
     rw [hcu] at hE
     obtain ⟨rfl, ho⟩ := hE
     obtain rfl : R0 = .error e2 := by rw [HR2.out, hcu]; rfl
     first | exact ⟨rfl, rfl, ⟨only_two HB4.out.only ho.out⟩⟩ | exact ⟨rfl, ⟨only_two HB4.out.only ho.out⟩⟩
   | ok z =>
     obtain ⟨x, vs⟩ := z
     rw [hcu] at hE
     obtain ⟨u, rfl, hu, hp, ho⟩ := hE
     obtain ⟨k, q, n, A1, n1, k1, A2, n2, k2, A3, n3, k3, A4, n4, k4, A5, n5, k5, ws5, gs5, rs5, os5, ks5, rfl, hxe, _, hkd⟩ := nv_parts hu.out
     have HRe : Kept (R0 = if k = 11 ∨ k = 0 then .error 100 else .ok (.mk 11 false (textT ts) [] [] [] [] [x], vs)) := ⟨by rw [HR2.out, hcu, hxe]; rfl⟩
     have HB6 := Kept.mk (HB4.out.mv ho.out hp.out)
     have hlt := (Array.getElem?_eq_some_iff.1 HB4.out.row).1
     have hos := ho.out.size
     have hu2 := hu.out.below_alloc (.cells #[.int .i64 k, .bool q, .string (bs n), .slice A1 n1 k1, .slice A2 n2 k2, .slice A3 n3 k3, .slice A4 n4 k4, .slice A5 n5 k5] 31)
     have HB7 := Kept.mk (HB6.out.below ((Below.refl w6.heap.size w6).alloc (Nat.le_refl _) (.cells #[.int .i64 k, .bool q, .string (bs n), .slice A1 n1 k1, .slice A2 n2 k2, .slice A3 n3 k3, .slice A4 n4 k4, .slice A5 n5 k5] 31)))
     have HRw : Kept ((w6.alloc (.cells #[.int .i64 k, .bool q, .string (bs n), .slice A1 n1 k1, .slice A2 n2 k2, .slice A3 n3 k3, .slice A4 n4 k4, .slice A5 n5 k5] 31)).heap[w6.heap.size]? = some (.cells #[.int .i64 k, .bool q, .string (bs n), .slice A1 n1 k1, .slice A2 n2 k2, .slice A3 n3 k3, .slice A4 n4 k4, .slice A5 n5 k5] 31 (0, 0))) := ⟨heap_alloc_new w6 _⟩
     have HK7 := Kept.mk (nl_one2 (w := w6.alloc (.cells #[.int .i64 k, .bool q, .string (bs n), .slice A1 n1 k1, .slice A2 n2 k2, .slice A3 n3 k3, .slice A4 n4 k4, .slice A5 n5 k5] 31)) (nb := nb) (off := 7) (v := .slice (some ⟨(w6.alloc (.cells #[.int .i64 k, .bool q, .string (bs n), .slice A1 n1 k1, .slice A2 n2 k2, .slice A3 n3 k3, .slice A4 n4 k4, .slice A5 n5 k5] 31)).heap.size, 0, none⟩) 1 1) hu2 hlt (Nat.le_trans hos (by simp)))
     have c0 : (w6.alloc (.cells #[.int .i64 k, .bool q, .string (bs n), .slice A1 n1 k1, .slice A2 n2 k2, .slice A3 n3 k3, .slice A4 n4 k4, .slice A5 n5 k5] 31)).cell? ⟨w6.heap.size, 0, none⟩ = some (.int .i64 k) := cell_of_row _ _ 0 _ _ _ HRw.out
     clear hu hp ho hkd hcu HR2 HB4 HB6 hlt hos hu2 hxe
     go_upto_region 6 with fail
     generalize w6.alloc (.cells #[.int .i64 k, .bool q, .string (bs n), .slice A1 n1 k1, .slice A2 n2 k2, .slice A3 n3 k3, .slice A4 n4 k4, .slice A5 n5 k5] 31) = w7 at *
     generalize w6.heap.size = bb at *
     by_cases h11 : k = 11
     · subst h11
       obtain rfl : R0 = .error 100 := by rw [HRe.out, if_pos (by decide)]
       clear HRe
       go_wp2_with (first
         | (go_at_call 26; refine (check_any _ false 100).mono ?_; rintro e w8 ⟨rfl, rfl⟩))
       first | exact ⟨rfl, rfl, ⟨HB7.out.only⟩⟩ | exact ⟨rfl, ⟨HB7.out.only⟩⟩
     · by_cases h0 : k = 0
       · subst h0
         obtain rfl : R0 = .error 100 := by rw [HRe.out, if_pos (by decide)]
         clear HRe
         go_wp2_with (first
           | (go_at_call 26; refine (check_any _ false 100).mono ?_; rintro e w8 ⟨rfl, rfl⟩))
         first | exact ⟨rfl, rfl, ⟨HB7.out.only⟩⟩ | exact ⟨rfl, ⟨HB7.out.only⟩⟩
       · skip
         have HRes : Kept (R0 = .ok (.mk 11 false (textT ts) [] [] [] [] [x], vs)) := ⟨by rw [HRe.out, if_neg (by rintro (h | h) <;> contradiction)]⟩
         clear HRe
         have hz1 : (k == 11) = false := beq_eq_false_iff_ne.2 h11
         have hz2 : (k == 0) = false := beq_eq_false_iff_ne.2 h0
         have hz3 : (k != 11) = true := bne_iff_ne.2 h11
         have hz4 : (k != 0) = true := bne_iff_ne.2 h0
         go_upto_region 7 with (first
           | (go_at_call 26
              clear hz1 hz2 hz3 hz4 h11 h0 c0
              refine (check_any _ true 100).mono ?_
              rintro e w8 ⟨rfl, rfl⟩))
         have HB8 := Kept.mk (HB7.out.one #[.int .i64 k, .bool q, .string (bs n), .slice A1 n1 k1, .slice A2 n2 k2, .slice A3 n3 k3, .slice A4 n4 k4, .slice A5 n5 k5] 7 (.slice (some ⟨w7.heap.size, 0, none⟩) 1 1))
         have hlt7 := (Array.getElem?_eq_some_iff.1 HB7.out.row).1
         have c7 : (w7.alloc (.cells #[.int .i64 k, .bool q, .string (bs n), .slice A1 n1 k1, .slice A2 n2 k2, .slice A3 n3 k3, .slice A4 n4 k4, .slice A5 n5 k5] 31)).cell? ⟨nb, 7, none⟩ = some (.slice none 0 0) := cell_of_row _ _ 7 _ _ _ ((Below.heap_alloc w7 _ nb hlt7).trans HB7.out.row)
         have f7 : (w7.alloc (.cells #[.int .i64 k, .bool q, .string (bs n), .slice A1 n1 k1, .slice A2 n2 k2, .slice A3 n3 k3, .slice A4 n4 k4, .slice A5 n5 k5] 31)).frozen? ⟨nb, 7, none⟩ = false := frozen_of_row _ _ 7 _ _ ((Below.heap_alloc w7 _ nb hlt7).trans HB7.out.row)
         clear hlt7
         go_upto_region 8 with (first
           | (refine wpList_load_row rfl 31 _ rfl bb rfl 31 #[.int .i64 k, .bool q, .string (bs n), .slice A1 n1 k1, .slice A2 n2 k2, .slice A3 n3 k3, .slice A4 n4 k4, .slice A5 n5 k5] (0, 0) _ HRw.out Tryz.underlying31 rfl (by kernel_rfl) ?_))
         clear c7 f7
         generalize (w7.alloc (.cells #[.int .i64 k, .bool q, .string (bs n), .slice A1 n1 k1, .slice A2 n2 k2, .slice A3 n3 k3, .slice A4 n4 k4, .slice A5 n5 k5] 31)).setCell ⟨nb, 7, none⟩ (.slice (some ⟨w7.heap.size, 0, none⟩) 1 1) = w8 at *
         obtain ⟨old, hres, ho8⟩ := HB8.out.res
         have HOld := Kept.mk hres
         have HDn := Kept.mk HB8.out.done
         have HFk := Kept.mk (fun cs : Array Value => nl_done HK7.out (r := w.heap.size) (n := w.heap.size) (by have := HB8.out.nr; omega) (by have := HB8.out.nr; omega) cs)
         clear hres
         refine App.give (n := 3) (r := 2) (t := 30) (nt := 31) (rb := w.heap.size) HB8.out.row HOld.out Tryz.underlying31 rfl (by kernel_rfl) ho8 (all_node _ _ _ _ _ _ _ _ _ _ _ _ _ _ _ _ _ _) rfl rfl (by decide) (by simp) ?_
         go_wp2_with fail
         refine bodyPost_ret (results_cell_row rfl _ _ w.heap.size _ _ (0, 0) _ rfl HDn.out.1 Tryz.underlying31 rfl (by kernel_rfl)) rfl ?_
         rw [HRes.out]
         exact ⟨_, rfl, ⟨nv_kids (HFk.out _)⟩, ⟨HDn.out.2.1⟩, ⟨HDn.out.2.2⟩⟩
end Sy
end
section
open Go.RowKit Tx
namespace Sy
open Lx (Tok tv tvs tvs_at Qt pan)
open Wx (Pt LV Nw parts)
theorem nv_redirs {P : Nat → Prop} {w : World} {u : Value} {x : Nd} (h : NV P w u x) {a0 a1 a2 a3 a4 a5 a6 a7 : Value} (hu : u = .agg #[a0, a1, a2, a3, a4, a5, a6, a7]) {A : Option Addr} {n k : Nat} {rs : List (List UInt8 × List Pt)} (hr : SL P w (AC P w) (.slice A n k) rs) : NV P w (.agg #[a0, a1, a2, a3, a4, .slice A n k, a6, a7]) (withRedirs x rs) := by
 cases h with
 | mk k q n ws gs rs os ks vw va vr vo vk hp h1 hk =>
   injection hu with hu
   have hu := congrArg Array.toList hu
   simp [nvs] at hu
   obtain ⟨rfl, rfl, rfl, rfl, rfl, rfl, rfl, rfl⟩ := hu
   obtain ⟨p1, p2, p3, p4, hw, hg, _, ho⟩ := hp
   exact .mk k q n ws gs _ os ks _ _ _ _ _ ⟨p1, p2, rfl, p4, hw, hg, hr, ho⟩ h1 hk
set_option maxHeartbeats 8000000 in
set_option maxRecDepth 100000 in
theorem command_some (w : World) (g d : Nat) (ts : List Tok) (h : PM w g d ts) (hd : d ≤ 30) (f : Nat) (hf : consF (kindT ts) (textT ts) = some f) (HCf : Kept (∀ W, (callFunc f #[.pointer (some ⟨g, 0, none⟩)]).run Tryz.prog W = .ok (.enter f #[.pointer (some ⟨g, 0, none⟩)]) W)) (X : R Nd) (HF : Kept (∀ W, PM W g d ts → Calls Tryz.prog f #[.pointer (some ⟨g, 0, none⟩)] W (RE W g d (nodR W) X))) (R0 : R Nd) (hR0 : R0 = andThen X fun x r => andThen (redirsF (r.length + 1) [] r) fun rs r2 => .ok (withRedirs x rs, r2)) :
   Calls Tryz.prog 129 #[.pointer (some ⟨g, 0, none⟩)] w (RE w g d (nodV w) R0) := by
 have h1 := h.below ((Below.refl w.heap.size w).alloc (Nat.le_refl _) (.cells #[.int .i64 0, .bool false, .string ⟨#[]⟩, .slice none 0 0, .slice none 0 0, .slice none 0 0, .slice none 0 0, .slice none 0 0] 31))
 obtain ⟨A, k, m, hr, htk, ⟨es, clock, hm, hlk⟩, hmg⟩ := h1.row
 have hlen : (textT ts).length ≤ 20000 := by
   cases ts with
   | nil => exact Nat.zero_le _
   | cons a b => have := h.short a (by simp); show a.text.length ≤ _; omega
 have hkd : 0 ≤ kindT ts ∧ kindT ts ≤ 2 := by
   cases ts with
   | nil => exact ⟨Int.le_refl _, by decide⟩
   | cons a b => have := (h.good a (by simp)).k; show 0 ≤ a.kind ∧ a.kind ≤ 2; omega
 have hlk2 : ∀ W : World, W.heap[m]? = some (.map es clock) → (Instr.lookup 49 (.map (some m)) (.agg #[.int .i64 (kindT ts), .string (bs (textT ts))]) true).run Tryz.prog W = .ok (.tuple #[.func (.func f) #[] #[], .bool true]) W := fun W hW => by
   have := hlk W (kindT ts) (textT ts) hkd hlen hW
   rw [hf] at this
   exact this
 have H := Kept.mk h1
 have HGl := Kept.mk h.lt
 have HMg : Kept (m < g) := ⟨hmg⟩
 have HD := Kept.mk hd
 have c1 := h1.c1.1
 have c2 : (w.alloc (.cells #[.int .i64 0, .bool false, .string ⟨#[]⟩, .slice none 0 0, .slice none 0 0, .slice none 0 0, .slice none 0 0, .slice none 0 0] 31)).cell? ⟨g, 2, none⟩ = some (.map (some m)) := cell_of_row _ _ 2 _ _ _ hr
 have hz : (d : Int) ≤ 30 := by omega
 have hz2 : decide ((d : Int) ≤ 30) = true := decide_eq_true hz
 have HR := Kept.mk hR0
 clear h hR0 h1 hr htk hlk hlen hkd hf hd hmg
 go_enter Tryz.func129, Tryz.ntmps129
 go_upto_region 2 with (first
   | (go_at_call 26
      try rw [hz2]
      clear hz2 c1 hz
      refine (check_any _ true 2).mono ?_
      rintro e w3 ⟨rfl, rfl⟩))
 have HSz : Kept (w.heap.size < (w.alloc (.cells #[.int .i64 0, .bool false, .string ⟨#[]⟩, .slice none 0 0, .slice none 0 0, .slice none 0 0, .slice none 0 0, .slice none 0 0] 31)).heap.size) := ⟨by simp⟩
 have HO1 : Kept (Only (· = g) w (w.alloc (.cells #[.int .i64 0, .bool false, .string ⟨#[]⟩, .slice none 0 0, .slice none 0 0, .slice none 0 0, .slice none 0 0, .slice none 0 0] 31))) := ⟨(Only.refl _ _).alloc _⟩
 have HRs : Kept ((w.alloc (.cells #[.int .i64 0, .bool false, .string ⟨#[]⟩, .slice none 0 0, .slice none 0 0, .slice none 0 0, .slice none 0 0, .slice none 0 0] 31)).heap[w.heap.size]? = some (.cells #[.int .i64 0, .bool false, .string ⟨#[]⟩, .slice none 0 0, .slice none 0 0, .slice none 0 0, .slice none 0 0, .slice none 0 0] 31 (0, 0))) := ⟨heap_alloc_new w _⟩
 generalize w.alloc (.cells #[.int .i64 0, .bool false, .string ⟨#[]⟩, .slice none 0 0, .slice none 0 0, .slice none 0 0, .slice none 0 0, .slice none 0 0] 31) = w1 at *
 go_region_held3 (fun w' => w'.cell? ⟨g, 2, none⟩ = some (.map (some m)) ∧ w'.heap[m]? = some (.map es clock))
   (first
     | exact ⟨e2, em⟩
     | exact ⟨c2, hm⟩
     | (refine ⟨?_, ?_⟩ <;> go_keep))
   (first
     | (go_at_call 103
        refine (next_any _ g d ts (H.out.below (Below.refl _ _).drew)).mono ?_
        rintro e w2 ⟨rfl, hb⟩
        have HB2 : Kept (Below w1.heap.size w1 w2) := ⟨(Below.refl _ _).drew.trans hb⟩
        have e2 : w2.cell? ⟨g, 2, none⟩ = some (.map (some m)) := (World.cell?_of_block (HB2.out.block g (by have := HGl.out; have := HSz.out; omega))).trans c2
        have em : w2.heap[m]? = some (.map es clock) := (HB2.out.block m (by have := HGl.out; have := HSz.out; have := HMg.out; omega)).trans hm
        clear hb))
 have HP2 := Kept.mk (H.out.below HB2.out)
 have HO2 : Kept (Only (· = g) w w2) := ⟨only_on HO1.out HB2.out⟩
 have HRs2 : Kept (w2.heap[w.heap.size]? = some (.cells #[.int .i64 0, .bool false, .string ⟨#[]⟩, .slice none 0 0, .slice none 0 0, .slice none 0 0, .slice none 0 0, .slice none 0 0] 31 (0, 0))) := ⟨(HB2.out.block _ HSz.out).trans HRs.out⟩
 have HSz2 : Kept (w.heap.size < w2.heap.size) := ⟨Nat.lt_of_lt_of_le HSz.out HB2.out.size⟩
 clear e2 em c2 hm H HSz HO1 HRs HB2 hlk2 HMg
 go_wp2_with fail
 rw [HCf.out, Oper.upon_enter]
 refine (HF.out w2 HP2.out).mono ?_
 intro e w3 hE
 cases hcu : X with
 | error e2 =>
   rw [hcu] at hE
   obtain ⟨rfl, ho⟩ := hE
   obtain rfl : R0 = .error e2 := by rw [HR.out, hcu]; rfl
   first | exact ⟨rfl, rfl, ⟨only_two HO2.out ho.out⟩⟩ | exact ⟨rfl, ⟨only_two HO2.out ho.out⟩⟩
 | ok z =>
   obtain ⟨x, vs⟩ := z
   rw [hcu] at hE
   obtain ⟨u, rfl, hu, hp, ho⟩ := hE
   obtain ⟨k, q, n, A1, n1, k1, A2, n2, k2, A3, n3, k3, A4, n4, k4, A5, n5, k5, ws5, gs5, rs5, os5, ks5, rfl, hxe, _, hkd⟩ := nv_parts hu.out.1
   obtain ⟨rfl, rfl, rfl⟩ : A3 = none ∧ n3 = 0 ∧ k3 = 0 := by
     have h5 : some (Value.slice A3 n3 k3) = some (Value.slice none 0 0) := hu.out.2
     injection h5 with h5
     injection h5 with h5 h6 h7
     exact ⟨h5, h6, h7⟩
   have HR3 : Kept (R0 = andThen (redirsF (vs.length + 1) [] vs) fun rs r2 => .ok (withRedirs x rs, r2)) := ⟨by rw [HR.out, hcu]; rfl⟩
   have hs3 := ho.out.size
   have HU : Kept (NV (Nw w2.heap.size) w3 (.agg #[.int .i64 k, .bool q, .string (bs n), .slice A1 n1 k1, .slice A2 n2 k2, .slice none 0 0, .slice A4 n4 k4, .slice A5 n5 k5]) x) := ⟨hu.out.1⟩
   have HB := Kept.mk (BS.hold (w0 := w) ⟨_, (ho.out.block _ HSz2.out (by have := HGl.out; omega)).trans HRs2.out, rfl⟩ hp.out (only_two HO2.out ho.out) HGl.out #[.int .i64 k, .bool q, .string (bs n), .slice A1 n1 k1, .slice A2 n2 k2, .slice none 0 0, .slice A4 n4 k4, .slice A5 n5 k5])
   have HKp : Kept (∀ b, b < w3.heap.size → b ≠ g → (w3.alloc (.cells #[.int .i64 k, .bool q, .string (bs n), .slice A1 n1 k1, .slice A2 n2 k2, .slice none 0 0, .slice A4 n4 k4, .slice A5 n5 k5] 31)).heap[b]? = w3.heap[b]?) := ⟨fun b hb _ => Below.heap_alloc w3 _ b hb⟩
   have HKs3 : Kept (w3.heap.size ≤ (w3.alloc (.cells #[.int .i64 k, .bool q, .string (bs n), .slice A1 n1 k1, .slice A2 n2 k2, .slice none 0 0, .slice A4 n4 k4, .slice A5 n5 k5] 31)).heap.size) := ⟨by simp⟩
   have HS3 : Kept (w2.heap.size ≤ w3.heap.size) := ⟨hs3⟩
   have HFew := Kept.mk hp.out.few
   have HG : Kept (Gr (fun _ => False) (w3.alloc (.cells #[.int .i64 k, .bool q, .string (bs n), .slice A1 n1 k1, .slice A2 n2 k2, .slice none 0 0, .slice A4 n4 k4, .slice A5 n5 k5] 31)) (w3.heap.size + 1) 66 2 AC (.slice none 0 0) []) := ⟨Gr.nil ac_stable _ _ _ _ _⟩
   clear hu hp ho hkd hcu HR hs3 hxe HF HP2 HO2 HRs2
   go_wp2_with fail
   generalize w3.alloc (.cells #[.int .i64 k, .bool q, .string (bs n), .slice A1 n1 k1, .slice A2 n2 k2, .slice none 0 0, .slice A4 n4 k4, .slice A5 n5 k5] 31) = w4 at *
   generalize hnb : w3.heap.size = nb at *
   obtain ⟨tiRedirs, zRedirs, hftRedirs⟩ := fitsRedirs (nb) g 141 (fun W => by kernel_rfl)
   have FTRedirs := Kept.mk hftRedirs
   clear hftRedirs
   go_loopg [] vs.length (fun m9 wr => ∃ us rs vr bz k9, us.length ≤ m9 ∧ Kept (BS w wr g d nb #[.int .i64 k, .bool q, .string (bs n), .slice A1 n1 k1, .slice A2 n2 k2, vr, .slice A4 n4 k4, .slice A5 n5 k5] us) ∧ Kept (Gr bz wr (nb + 1) 66 2 AC vr rs) ∧ Kept (∀ b, bz b → b < wr.heap.size) ∧ Kept (rs.length + us.length ≤ 20001) ∧ Kept (us.length + 1 ≤ k9) ∧ Kept (∀ b, b < nb → b ≠ g → wr.heap[b]? = w3.heap[b]?) ∧ Kept (w3.heap.size ≤ wr.heap.size) ∧ Kept (R0 = andThen (redirsF k9 rs us) fun rs r2 => .ok (withRedirs x rs, r2)))
   case atStart => exact ⟨vs, [], .slice none 0 0, fun _ => False, vs.length + 1, Nat.le_refl _, HB, HG, ⟨fun _ h => h.elim⟩, ⟨by have := HFew.out; simp; omega⟩, ⟨Nat.le_refl _⟩, HKp, (by rw [hnb]; exact HKs3), HR3⟩
   case round =>
     obtain ⟨us, rs, vr, bz, k9, hm, HB, HG, HZ, HKs, HN, HKp, HKz, HRr⟩ := hrel
     have HM := Kept.mk hm
     clear hm HR3 HKs3
     cases hrd : redir us with
     | false =>
       have HRd := Kept.mk hrd.symm
       have HRes : Kept (R0 = .ok (withRedirs x rs, us)) := ⟨by
         rw [HRr.out]
         obtain ⟨j, rfl⟩ : ∃ j, k9 = j + 1 := ⟨k9 - 1, by have := HN.out; omega⟩
         rw [redirsF, if_neg (by rw [hrd]; decide)]; rfl⟩
       clear hrd HRr
       go_upto_region 7 with (first
         | (go_at_call 140; refine (atRedirection_any _ g d us HB.out.pm false HRd.out).mono ?_; rintro e w8 ⟨rfl, hb⟩; have HB4 := Kept.mk (HB.out.below hb); have HO4 : Kept (Only (· = g) wr w8) := ⟨(Only.refl _ _).below hb⟩; have HKp4 : Kept (∀ b, b < nb → b ≠ g → w8.heap[b]? = w3.heap[b]?) := ⟨fun b h1 h2 => (hb.block b (by have := (Array.getElem?_eq_some_iff.1 HB.out.row).1; omega)).trans (HKp.out b h1 h2)⟩; clear hb))
       have HG4 : Kept (Gr bz w8 (nb + 1) 66 2 AC vr rs) := ⟨HG.out.on ac_stable (B := (· = g)) HO4.out (fun b h1 h2 => by have := HB.out.gn; have := HB.out.nr; omega) (fun o h1 h2 => by have := HG.out.lt o h1; have := HB.out.gn; have := HB.out.nr; omega) (fun _ h => h) (fun _ _ h => h)⟩
       obtain ⟨A6, k6, rfl⟩ := HG4.out.slice
       obtain ⟨old, hres, ho8⟩ := HB4.out.res
       have HOld := Kept.mk hres
       have HDn := Kept.mk HB4.out.done
       have hUn : NV (Nw (w.heap.size + 1)) w8 (.agg #[.int .i64 k, .bool q, .string (bs n), .slice A1 n1 k1, .slice A2 n2 k2, .slice none 0 0, .slice A4 n4 k4, .slice A5 n5 k5]) x := HU.out.same (fun b hP hl => ⟨by have : w2.heap.size ≤ b := hP; have := HSz2.out; show w.heap.size + 1 ≤ b; omega, HKp4.out b (by rw [← hnb]; exact hl) (by have : w2.heap.size ≤ b := hP; have := HSz2.out; have := HGl.out; omega)⟩) (Nat.le_trans HKz.out HO4.out.size)
       have HFu := Kept.mk (fun cs : Array Value => nv_done hUn (r := w.heap.size) (n := w.heap.size) (by omega) (by omega) cs)
       have HFr := Kept.mk (fun cs : Array Value => sl_done ac_stable (HG4.out.read ac_stable (by decide)) (r := w.heap.size) (n := w.heap.size) (by have := HB4.out.nr; omega) (by have := HB4.out.nr; omega) cs)
       clear hres hUn
       refine App.give (n := 5) (r := 2) (t := 35) (nt := 31) (rb := w.heap.size) HB4.out.row HOld.out Tryz.underlying31 rfl (by kernel_rfl) ho8 (all_node _ _ _ _ _ _ _ _ _ _ _ _ _ _ _ _ _ _) rfl rfl (by decide) (by simp) ?_
       go_wp2_with fail
       refine bodyPost_ret (results_cell_row rfl _ _ w.heap.size _ _ (0, 0) _ rfl HDn.out.1 Tryz.underlying31 rfl (by kernel_rfl)) rfl ?_
       rw [HRes.out]
       exact ⟨_, rfl, ⟨nv_redirs (HFu.out _) rfl (HFr.out _)⟩, ⟨HDn.out.2.1⟩, ⟨HDn.out.2.2⟩⟩
     | true =>
       have HRd := Kept.mk hrd.symm
       obtain ⟨u1, us1, rfl⟩ : ∃ u1 us1, us = u1 :: us1 := by
         cases us with
         | nil => cases hrd
         | cons a b => exact ⟨a, b, rfl⟩
       have HRc : Kept (match redirect (u1 :: us1) with | .error e => R0 = .error e | .ok (y, r2) => ∃ j, k9 = j + 1 ∧ r2.length < (u1 :: us1).length ∧ R0 = andThen (redirsF j (rs ++ [y]) r2) fun rs r2 => .ok (withRedirs x rs, r2)) := ⟨by
         obtain ⟨j, rfl⟩ : ∃ j, k9 = j + 1 := ⟨k9 - 1, by have := HN.out; omega⟩
         have := HRr.out
         rw [redirsF, if_pos hrd] at this
         cases hcu : redirect (u1 :: us1) with
         | error e => rw [hcu] at this; exact this
         | ok z =>
           rw [hcu] at this
           exact ⟨j, rfl, redirect_lt hcu, this⟩⟩
       clear hrd HRr
       go_upto_region 6 with (first
         | (go_at_call 140; refine (atRedirection_any _ g d (u1 :: us1) HB.out.pm true HRd.out).mono ?_; rintro e w8 ⟨rfl, hb⟩; have HB4 := Kept.mk (HB.out.below hb); have HO4 : Kept (Only (· = g) wr w8) := ⟨(Only.refl _ _).below hb⟩; have HKp4 : Kept (∀ b, b < nb → b ≠ g → w8.heap[b]? = w3.heap[b]?) := ⟨fun b h1 h2 => (hb.block b (by have := (Array.getElem?_eq_some_iff.1 HB.out.row).1; omega)).trans (HKp.out b h1 h2)⟩; clear hb))
       have HG4 : Kept (Gr bz w8 (nb + 1) 66 2 AC vr rs) := ⟨HG.out.on ac_stable (B := (· = g)) HO4.out (fun b h1 h2 => by have := HB.out.gn; have := HB.out.nr; omega) (fun o h1 h2 => by have := HG.out.lt o h1; have := HB.out.gn; have := HB.out.nr; omega) (fun _ h => h) (fun _ _ h => h)⟩
       have HZ4 : Kept (∀ b, bz b → b < w8.heap.size) := ⟨fun b h => Nat.lt_of_lt_of_le (HZ.out b h) (HO4.out).size⟩
       have HKz4 : Kept (w3.heap.size ≤ w8.heap.size) := ⟨Nat.le_trans HKz.out HO4.out.size⟩
       clear HB HG HZ HO4 HKp HKz
       refine grow ac_stable (n := 5) (p := 0) (t := 28) (fo := 5) (off := 5) (nt := 31) (lt := 28) (et := 66) (pt := 94) (rt := 66) (f := 141) (fun d _ _ _ _ h => by cases d <;> exact h) FTRedirs.out (by kernel_rfl) (by kernel_rfl) (by decide) (by decide) (by simp) rfl rfl HB4.out.row rfl HG4.out HB4.out.pm HZ4.out rfl (by have := HB4.out.gn; have := HB4.out.nr; omega) (by have := HKs.out; omega) (by decide) (fun W h => redirection_c g d u1 us1 W h) (val := fun W w9 => redV (Nw W.heap.size) w9) valRed ?_ ?_
       · intro e we he ho a' hd
         have hR := HRc.out
         rw [he] at hR
         refine ⟨hd, ?_⟩
         rw [hR]
         exact ⟨rfl, ⟨only_two HB4.out.only ho.out⟩⟩
       · intro y r2 hx w6 v2 bz2 u2 s2 q2 hrow hgr hpm hz1 hz2 hz3 honly hlies
         have hR := HRc.out
         rw [hx] at hR
         obtain ⟨j, rfl, hlt, hRj⟩ := hR
         have HRj := Kept.mk hRj
         have HLt2 := Kept.mk hlt
         have HB5 := Kept.mk (HB4.out.grown hrow.out hpm.out honly.out (fun o h => by have := HG4.out.lt o h; omega))
         have HG5 := hgr
         have HZ5 := Kept.mk hz3
         have HKp5 : Kept (∀ b, b < nb → b ≠ g → w6.heap[b]? = w3.heap[b]?) := ⟨fun b h1 h2 => (honly.out.block b (by have := (Array.getElem?_eq_some_iff.1 HB4.out.row).1; omega) (by rintro (h | h | h) <;> first | exact h2 h | omega | (have := HG4.out.lt b h; omega))).trans (HKp4.out b h1 h2)⟩
         have HKz5 : Kept (w3.heap.size ≤ w6.heap.size) := ⟨Nat.le_trans HKz4.out honly.out.size⟩
         clear hrow hpm honly hlies hz1 hz2 hz3 hRj hlt hgr HRc hx
         simp only [Act.put, List.setIfInBounds_toArray, List.set_cons_zero, List.set_cons_succ]
         go_wp2_with fail
         go_roundg r2.length
         case measure => have := HM.out; have := HLt2.out; omega
         case rel => exact ⟨r2, rs ++ [y], v2, bz2, j, Nat.le_refl _, HB5, HG5, HZ5, ⟨by have := HKs.out; have := HLt2.out; rw [List.length_append, List.length_singleton]; omega⟩, ⟨by have := HN.out; have := HLt2.out; omega⟩, HKp5, HKz5, HRj⟩
end Sy
end
end Go.Proofs.YtahjonfmhejoeaaGreatDoor
