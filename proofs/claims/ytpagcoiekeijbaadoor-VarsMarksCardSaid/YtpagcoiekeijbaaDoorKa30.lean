/-
  Parts of the proof, merged.
-/
import Derived.Test.YtpagcoiekeijbaaDoorKa29
namespace Go.Proofs.YtpagcoiekeijbaaDoor
section
open Go.RowKit Tx
namespace Va
open Wx (Kit)
structure SetFacts (l m : List Vr) (n x : ByteArray) : Prop where
 here : getD m n = ⟨n, x, (getD l n).ex, false⟩
 is : found m n = true
 other : ∀ o, o ≠ n → getD m o = getD l o ∧ found m o = found l o
 un : unset m n = .ok (put m n [])
 gone : found (put m n []) n = false
 less : (put m n []).length + 1 = m.length
 was : found l n = decide (m.length = l.length)
theorem set_facts {l m : List Vr} {n x : ByteArray} (hs : Sorted l) (hr : set l n x = .ok m) : SetFacts l m n x := by
 unfold set at hr
 split at hr
 · cases hr
 · split at hr
   · cases hr
   · rename_i hro
     have hro : (getD l n).ro = false := by simpa using hro
     rw [hro] at hr
     cases hr
     have hm : ([(⟨n, x, (getD l n).ex, false⟩ : Vr)] : List Vr) = [] ∨ ∃ v, [(⟨n, x, (getD l n).ex, false⟩ : Vr)] = [v] ∧ v.name = n := .inr ⟨_, rfl, rfl⟩
     have hp := fun o => put_get (o := o) hs hm
     have hps := put_sorted hs hm
     have h1 : get? (put l n [⟨n, x, (getD l n).ex, false⟩]) n = some ⟨n, x, (getD l n).ex, false⟩ := by rw [hp n, if_pos rfl]; rfl
     have hg : getD (put l n [⟨n, x, (getD l n).ex, false⟩]) n = ⟨n, x, (getD l n).ex, false⟩ := by
       show (get? (put l n [⟨n, x, (getD l n).ex, false⟩]) n).getD Vr.zero = _
       rw [h1]; rfl
     have hi : found (put l n [⟨n, x, (getD l n).ex, false⟩]) n = true := by unfold found; rw [h1]; rfl
     refine ⟨hg, hi, fun o ho => ?_, ?_, ?_, ?_, ?_⟩
     · have h2 := hp o
       rw [if_neg ho] at h2
       constructor
       · show (get? (put l n [⟨n, x, (getD l n).ex, false⟩]) o).getD Vr.zero = _
         rw [h2]; rfl
       · unfold found; rw [h2]
     · unfold unset
       rw [hg]; rfl
     · have := put_get (o := n) (m := []) (n := n) hps (.inl rfl)
       rw [if_pos rfl] at this
       unfold found
       rw [this]; rfl
     · have := put_len (put l n [⟨n, x, (getD l n).ex, false⟩]) n []
       rw [hi] at this
       simpa using this
     · have := put_len l n [⟨n, x, (getD l n).ex, false⟩]
       cases h : found l n with
       | true =>
         rw [h] at this
         exact (decide_eq_true (by simpa using this)).symm
       | false =>
         rw [h] at this
         have h3 : (put l n [⟨n, x, (getD l n).ex, false⟩]).length = l.length + 1 := by simpa using this
         exact (decide_eq_false (by omega)).symm
theorem set_refused {l : List Vr} {n x : ByteArray} {c : Int} (hr : set l n x = .error c) : (getD l n).ro = true ∨ isName n = false := by
 unfold set at hr
 split at hr
 · exact .inr (by assumption)
 · split at hr
   · exact .inl (by assumption)
   · cases hr
def sixes : List ByteArray := [⟨#[97]⟩, ⟨#[98]⟩, ⟨#[99]⟩, ⟨#[73, 70, 83]⟩, ⟨#[120]⟩, ⟨#[121]⟩]
def six (n : Nat) : ByteArray := sixes.getD (n % 6) ⟨#[]⟩
theorem six_small (n : Nat) : (six n).size ≤ 3 := by
 have : ∀ j : Fin 6, (sixes.getD j.val ⟨#[]⟩).size ≤ 3 := by decide +kernel
 exact this ⟨n % 6, Nat.mod_lt _ (by omega)⟩
theorem six_name (n : Nat) : isName (six n) = true := by
 have : ∀ j : Fin 6, isName (sixes.getD j.val ⟨#[]⟩) = true := by decide +kernel
 exact this ⟨n % 6, Nat.mod_lt _ (by omega)⟩
theorem mark_six (l : List Vr) (n : Nat) (a b : Bool) : ∃ m, mark l (six n) a b = .ok m := by
 unfold mark
 rw [six_name n]
 exact ⟨_, rfl⟩
set_option maxHeartbeats 4000000 in
set_option maxRecDepth 100000 in
theorem made_any (A : Option Addr) (n k : Nat) (w : World) (hD : DS w A n) (hn : n ≤ 4611686018427387904) :
   Calls Tryd.prog 15 #[.slice A n k] w fun e w' => ∃ B m q l, e = .returned (.slice B m q) ∧ Kept (l.length = m) ∧ m ≤ 30 ∧ Kept (VS w' B q l) ∧ Kept (Fine l) ∧ Below w.heap.size w w' := by
 have HD := Kept.mk hD
 clear hD
 go_enter Tryd.func15, Tryd.ntmps15
 go_wp2_with fail
 go_loopw [3, 4] (fun v i wr => ∃ (j m q : Nat) (B : Option Addr) (l : List Vr), j ≤ n ∧ j ≤ 12 ∧ m ≤ 2 * j ∧ i = .int .i64 (j : Int) ∧ v = .slice B m q ∧ Kept (VS wr B q l) ∧ Kept (l.length = m) ∧ Kept (Fine l) ∧ Kept (Below w.heap.size w wr)) (fun _ i _ => n - (intOf i).toNat)
 case atStart => exact ⟨0, 0, 0, none, [], by omega, by omega, by omega, rfl, rfl, ⟨VS.empty _⟩, ⟨rfl⟩, ⟨Fine.nil⟩, ⟨Below.refl _ _⟩⟩
 case round =>
   obtain ⟨j, m, q, B, l, hj, hj20, hmj, rfl, rfl, hV, hL, hF, hB⟩ := hrel
   have j0 : (0 : Int) ≤ (j : Int) := by omega
   by_cases hgo : j < n ∧ j < 12
   · obtain ⟨g, off, d, rfl, hg, ho0⟩ := HD.out j hgo.1
     have HO := Kept.mk ho0
     have HGg := Kept.mk hg
     have ho := ho0.keep hg hB.out
     have j1 : (j : Int) < (n : Int) := by omega
     have j2 : (j : Int) < 12 := by omega
     have hok := ho.ok
     obtain ⟨s, hs⟩ : ∃ s, six d.name = s := ⟨_, rfl⟩
     have HSs : Kept (s.size ≤ 3) := ⟨by rw [← hs]; exact six_small _⟩
     have HSn : Kept (∀ l a b, ∃ m, mark l s a b = .ok m) := ⟨fun l a b => by rw [← hs]; exact mark_six l _ a b⟩
     have q1 := u8_i64 d.name hok.name
     have q2 : (d.name : Int).tmod 6 = ((d.name % 6 : Nat) : Int) := by rw [Int.tmod_eq_emod_of_nonneg (by omega)]; omega
     have hm6 : d.name % 6 < 6 := Nat.mod_lt _ (by omega)
     have hA := Own.At.fresh (c := Value.string) wr _ 9 sixes rfl
     have hc := hA.cell (d.name % 6) (by simpa [sixes] using hm6)
     rw [Nat.zero_add] at hc
     have hp : Kept (sixes[d.name % 6]'(by simpa [sixes] using hm6) = s) := ⟨by rw [← hs]; unfold six; rw [List.getD_eq_getElem?_getD, List.getElem?_eq_getElem (by simpa [sixes] using hm6), Option.getD_some]⟩
     rw [hp.out] at hc
     simp only [sixes, List.map_cons, List.map_nil, List.toArray] at hc
     have z0 : (0 : Int) ≤ ((d.name % 6 : Nat) : Int) := by omega
     have z1 : ((d.name % 6 : Nat) : Int) < 6 := by omega
     have HVz := Kept.mk hok.value
     -- the world behind the literal
     have HB1 : Kept (Below wr.heap.size wr (wr.alloc (.cells #[.string ⟨#[97]⟩, .string ⟨#[98]⟩, .string ⟨#[99]⟩, .string ⟨#[73, 70, 83]⟩, .string ⟨#[120]⟩, .string ⟨#[121]⟩] 9))) := ⟨(Below.refl _ _).alloc (Nat.le_refl _) _⟩
     have e1 := (ho0.keep hg (hB.out.trans (HB1.out.mono hB.out.size))).c1
     have e3 := (ho0.keep hg (hB.out.trans (HB1.out.mono hB.out.size))).c3
     clear ho ho0 hg hgo hok hA hs hp
     have hm29 : m ≤ 28 := by omega
     cases hr : set l s d.value with
     | ok l1 =>
       have HR := Kept.mk hr
       have HF1 := Kept.mk (fine_set hF.out hr (Nat.le_trans HSs.out (by omega)) HVz.out)
       have hle1 := set_le hr
       rw [hL.out] at hle1
       obtain ⟨m1, hm1⟩ : ∃ m1, l1.length = m1 := ⟨_, rfl⟩
       rw [hm1] at hle1
       have HL1 := Kept.mk hm1
       clear hr hm1
       by_cases h4 : d.what % 4 = 0
       · skip
         have hwh : ((d.what : Int) % 4 == 0) = true := by rw [beq_iff_eq]; omega
         clear h4
         go_wp2_with (first
           | (go_at_call 21; refine (refSet_any l B m q s d.value _ (hV.out.below HB1.out) hL.out (by omega) (Nat.le_trans HSs.out (by omega))).mono ?_; intro e w2 h2; rw [HR.out] at h2; obtain ⟨B1, q1, rfl, hv1, hb2⟩ := h2.ok (mn := m1) HL1.out
              have HV1 := hv1
              have HB2 : Kept (Below wr.heap.size wr w2) := ⟨HB1.out.trans (hb2.mono HB1.out.size)⟩
              have HBw : Kept (Below w.heap.size w w2) := ⟨hB.out.trans (HB2.out.mono hB.out.size)⟩
              have HOW := HO.out.keep HGg.out HBw.out
              have o0 := HOW.c0
              have o4 := HOW.c4
              have o5 := HOW.c5
              clear h2 hb2 HOW))
         obtain ⟨l3, hl3⟩ := HSn.out l1 d.a d.b
         have HR3 := Kept.mk hl3
         have HF3 := Kept.mk (fine_mark HF1.out hl3 (Nat.le_trans HSs.out (by omega)))
         have hle3 := mark_le hl3
         rw [HL1.out] at hle3
         obtain ⟨m3, hm3⟩ : ∃ m3, l3.length = m3 := ⟨_, rfl⟩
         rw [hm3] at hle3
         have HL3 := Kept.mk hm3
         clear hl3 hm3
         go_region_held3 (fun w' => w'.cell? ⟨g, off + j * 6 + 4, none⟩ = some (.bool d.a) ∧ w'.cell? ⟨g, off + j * 6 + 5, none⟩ = some (.bool d.b))
           (first
           | exact ⟨o4, o5⟩
           | exact ⟨x4, x5⟩)
           (first
           | (go_at_call 20; refine (refMark_any l1 B1 m1 q1 s d.a d.b _ (HV1.out.below (Below.refl _ _).drew) HL1.out (by omega) (Nat.le_trans HSs.out (by omega))).mono ?_; intro e w4 h4; rw [HR3.out] at h4; obtain ⟨B3, q3, rfl, HV3, hb4⟩ := h4.ok (mn := m3) HL3.out
              have HB4 : Kept (Below w.heap.size w w4) := ⟨HBw.out.drew.trans (hb4.mono HBw.out.size)⟩
              have HOX := HO.out.keep HGg.out HB4.out
              have x4 := HOX.c4
              have x5 := HOX.c5
              clear h4 hb4 HOX))
         go_wp2_with fail
         go_round
         case rel => exact ⟨j + 1, m3, q3, B3, l3, by omega, by omega, by omega, by go_num, rfl, HV3, HL3, HF3, HB4⟩
         case measure => simp [intOf]; omega
       · skip
         have hwh : ((d.what : Int) % 4 == 0) = false := by rw [beq_eq_false_iff_ne]; omega
         clear h4
         go_wp2_with (first
           | (go_at_call 21; refine (refSet_any l B m q s d.value _ (hV.out.below HB1.out) hL.out (by omega) (Nat.le_trans HSs.out (by omega))).mono ?_; intro e w2 h2; rw [HR.out] at h2; obtain ⟨B1, q1, rfl, hv1, hb2⟩ := h2.ok (mn := m1) HL1.out
              have HV1 := hv1
              have HB2 : Kept (Below wr.heap.size wr w2) := ⟨HB1.out.trans (hb2.mono HB1.out.size)⟩
              have HBw : Kept (Below w.heap.size w w2) := ⟨hB.out.trans (HB2.out.mono hB.out.size)⟩
              have HOW := HO.out.keep HGg.out HBw.out
              have o0 := HOW.c0
              have o4 := HOW.c4
              have o5 := HOW.c5
              clear h2 hb2 HOW))
         go_round
         case rel => exact ⟨j + 1, m1, q1, B1, l1, by omega, by omega, by omega, by go_num, rfl, HV1, HL1, HF1, HBw⟩
         case measure => simp [intOf]; omega
     | error c =>
       have HR := Kept.mk hr
       have hc := set_err hr
       have hc0 : (c != 0) = true := by rcases hc with rfl | rfl <;> rfl
       have hc1 : (c == 0) = false := by rcases hc with rfl | rfl <;> rfl
       clear hr hc
       by_cases h4 : d.what % 4 = 0
       · skip
         have hwh : ((d.what : Int) % 4 == 0) = true := by rw [beq_iff_eq]; omega
         clear h4
         go_wp2_with (first
           | (go_at_call 21; refine (refSet_any l B m q s d.value _ (hV.out.below HB1.out) hL.out (by omega) (Nat.le_trans HSs.out (by omega))).mono ?_; intro e w2 h2; rw [HR.out] at h2; obtain ⟨B1, q1, rfl, _, hb2⟩ := h2.no
              have HV1 := Kept.mk ((hV.out.below HB1.out).below hb2)
              have HB2 : Kept (Below wr.heap.size wr w2) := ⟨HB1.out.trans (hb2.mono HB1.out.size)⟩
              have HBw : Kept (Below w.heap.size w w2) := ⟨hB.out.trans (HB2.out.mono hB.out.size)⟩
              have HOW := HO.out.keep HGg.out HBw.out
              have o0 := HOW.c0
              have o4 := HOW.c4
              have o5 := HOW.c5
              clear h2 hb2 HOW))
         obtain ⟨l3, hl3⟩ := HSn.out l d.a d.b
         have HR3 := Kept.mk hl3
         have HF3 := Kept.mk (fine_mark hF.out hl3 (Nat.le_trans HSs.out (by omega)))
         have hle3 := mark_le hl3
         rw [hL.out] at hle3
         obtain ⟨m3, hm3⟩ : ∃ m3, l3.length = m3 := ⟨_, rfl⟩
         rw [hm3] at hle3
         have HL3 := Kept.mk hm3
         clear hl3 hm3
         go_region_held3 (fun w' => w'.cell? ⟨g, off + j * 6 + 4, none⟩ = some (.bool d.a) ∧ w'.cell? ⟨g, off + j * 6 + 5, none⟩ = some (.bool d.b))
           (first
           | exact ⟨o4, o5⟩
           | exact ⟨x4, x5⟩)
           (first
           | (go_at_call 20; refine (refMark_any l B m q s d.a d.b _ (HV1.out.below (Below.refl _ _).drew) hL.out (by omega) (Nat.le_trans HSs.out (by omega))).mono ?_; intro e w4 h4; rw [HR3.out] at h4; obtain ⟨B3, q3, rfl, HV3, hb4⟩ := h4.ok (mn := m3) HL3.out
              have HB4 : Kept (Below w.heap.size w w4) := ⟨HBw.out.drew.trans (hb4.mono HBw.out.size)⟩
              have HOX := HO.out.keep HGg.out HB4.out
              have x4 := HOX.c4
              have x5 := HOX.c5
              clear h4 hb4 HOX))
         go_wp2_with fail
         go_round
         case rel => exact ⟨j + 1, m3, q3, B3, l3, by omega, by omega, by omega, by go_num, rfl, HV3, HL3, HF3, HB4⟩
         case measure => simp [intOf]; omega
       · skip
         have hwh : ((d.what : Int) % 4 == 0) = false := by rw [beq_eq_false_iff_ne]; omega
         clear h4
         go_wp2_with (first
           | (go_at_call 21; refine (refSet_any l B m q s d.value _ (hV.out.below HB1.out) hL.out (by omega) (Nat.le_trans HSs.out (by omega))).mono ?_; intro e w2 h2; rw [HR.out] at h2; obtain ⟨B1, q1, rfl, _, hb2⟩ := h2.no
              have HV1 := Kept.mk ((hV.out.below HB1.out).below hb2)
              have HB2 : Kept (Below wr.heap.size wr w2) := ⟨HB1.out.trans (hb2.mono HB1.out.size)⟩
              have HBw : Kept (Below w.heap.size w w2) := ⟨hB.out.trans (HB2.out.mono hB.out.size)⟩
              have HOW := HO.out.keep HGg.out HBw.out
              have o0 := HOW.c0
              have o4 := HOW.c4
              have o5 := HOW.c5
              clear h2 hb2 HOW))
         go_round
         case rel => exact ⟨j + 1, m, q, B, l, by omega, by omega, by omega, by go_num, rfl, HV1, hL, hF, HBw⟩
         case measure => simp [intOf]; omega
   · have hstop : (¬ (j : Int) < (n : Int)) ∨ ((j : Int) < (n : Int) ∧ ¬ (j : Int) < 12) := by omega
     clear hgo
     rcases hstop with h1 | ⟨h1, h2⟩
     all_goals
       go_wp2_with fail
       go_ret
       exact ⟨_, _, _, rfl, _, hL, by omega, hV, hF, hB.out⟩
end Va
end
section
open Go.RowKit Tx
namespace Va
open Wx (Kit)
def bare (n : Nat) : Do := ⟨0, n, ⟨#[]⟩, ⟨#[]⟩, false, false⟩
theorem bare_ok {n : Nat} (h : n < 256) : (bare n).ok := ⟨by show 0 < 256; omega, h, by show 0 ≤ _; omega, by show 0 ≤ _; omega⟩
theorem bare_small (n : Nat) (h : n < 128) : (nameOf (bare n)).size ≤ 3 := by
 unfold nameOf
 rw [if_neg (by show ¬ 128 ≤ n; omega)]
 exact few_small _
set_option maxHeartbeats 8000000 in
set_option maxRecDepth 100000 in
theorem sets_any (A : Option Addr) (n k : Nat) (d : Do) (qq : Nat) (w : World) (hK : Kit w) (hD : DS w A n) (hn : n ≤ 4611686018427387904) (hd : d.ok) (hr : d.raw.size ≤ 1400000) :
   Calls Tryd.prog 4 #[.slice A n k, .agg #[.int .u8 (d.what : Int), .int .u8 (d.name : Int), .string d.raw, .string d.value, .bool d.a, .bool d.b], .int .u8 (qq : Int)] w fun e w' => e = .returned (.bool true) ∧ Below w.heap.size w w' := by
 have HK := Kept.mk hK
 have HD := Kept.mk hD
 have HDo := Kept.mk hd
 have HOb := Kept.mk (bare_ok (n := qq % 8) (by omega))
 have HNn : Kept ((nameOf d).size ≤ 1400000) := ⟨nameOf_small hr (by omega)⟩
 have HNo : Kept ((nameOf (bare (qq % 8))).size ≤ 1400000) := ⟨Nat.le_trans (bare_small _ (by omega)) (by omega)⟩
 have hrem : (qq : Int) % 8 = ((qq % 8 : Nat) : Int) := by omega
 have HX0 := Kept.mk (BX.begin w d)
 have hnb : ∀ W : World, Calls Tryd.prog 9 #[.agg #[.int .u8 0, .int .u8 ((qq % 8 : Nat) : Int), .string ⟨#[]⟩, .string ⟨#[]⟩, .bool false, .bool false]] W fun e w' => e = .returned (.string (nameOf (bare (qq % 8)))) ∧ Below W.heap.size W w' := fun W => name_law (bare (qq % 8)) HOb.out W
 have HNb := Kept.mk hnb
 obtain ⟨N, hN⟩ : ∃ N, nameOf d = N := ⟨_, rfl⟩
 obtain ⟨O, hO⟩ : ∃ O, nameOf (bare (qq % 8)) = O := ⟨_, rfl⟩
 rw [hO] at HNb HNo
 have HNl : Kept (∀ W : World, Calls Tryd.prog 9 #[.agg #[.int .u8 (d.what : Int), .int .u8 (d.name : Int), .string d.raw, .string d.value, .bool d.a, .bool d.b]] W fun e w' => e = .returned (.string N) ∧ Below W.heap.size W w') := ⟨fun W => by rw [← hN]; exact name_law d HDo.out W⟩
 rw [hN] at HNn
 have T1 : Kept True := ⟨trivial⟩
 have T2 : Kept True := ⟨trivial⟩
 have T3 : Kept True := ⟨trivial⟩
 have T4 : Kept True := ⟨trivial⟩
 have T5 : Kept True := ⟨trivial⟩
 have T6 : Kept True := ⟨trivial⟩
 have T7 : Kept True := ⟨trivial⟩
 have T8 : Kept True := ⟨trivial⟩
 clear hK hD hd hr hnb hN hO
 generalize hqr : ((qq % 8 : Nat) : Int) = qi at *
 clear hqr
 go_enter Tryd.func4, Tryd.ntmps4
 go_wp2_with (first
   | (go_at_call 6; refine (awake_any _ (HK.out.below HX0.out.bl)).mono ?_; rintro e w1 ⟨rfl, hb1⟩
      have HX1 := Kept.mk (HX0.out.below hb1)
      have HD1 := Kept.mk (HD.out.below HX1.out.bl)
      clear hb1)
   | (go_at_call 15; refine (made_any A n k w1 HD1.out hn).mono ?_; rintro e w2 ⟨B, m, q, l, rfl, HM, hm30, HV2, HF, hb2⟩
      have HX2 := Kept.mk (HX1.out.below hb2)
      have a0 := HX2.out.c0
      have a1 : w2.cell? ⟨w.heap.size, 1, none⟩ = some (.int .u8 (d.name : Int)) := cell_of_row _ _ 1 _ _ _ HX2.out.r
      have a2 : w2.cell? ⟨w.heap.size, 2, none⟩ = some (.string d.raw) := cell_of_row _ _ 2 _ _ _ HX2.out.r
      have a3 := HX2.out.c3
      have a4 := HX2.out.c4
      have a5 := HX2.out.c5
      obtain ⟨v, hv⟩ : ∃ v, getD l N = v := ⟨_, rfl⟩
      obtain ⟨b, hb⟩ : ∃ b, found l N = b := ⟨_, rfl⟩
      obtain ⟨u, hu⟩ : ∃ u, getD l O = u := ⟨_, rfl⟩
      obtain ⟨c, hc⟩ : ∃ c, found l O = c := ⟨_, rfl⟩
      have HVv := Kept.mk hv
      have HBb := Kept.mk hb
      have HUu := Kept.mk hu
      have HCc := Kept.mk hc
      clear hb2 hv hb hu hc)
   | (go_at_call 9; have := T1; refine (HNl.out w2).mono ?_; clear T1; rintro e w3 ⟨rfl, hb3⟩
      have HX3 := Kept.mk (HX2.out.below hb3)
      have HV3 := Kept.mk (HV2.out.below hb3)
      clear hb3)
   | (go_at_call 9; have := T2; refine (HNb.out w3).mono ?_; clear T2; rintro e w4 ⟨rfl, hb4⟩
      have HX4 := Kept.mk (HX3.out.below hb4)
      have HV4 := Kept.mk (HV3.out.below hb4)
      clear hb4)
   | (go_at_call 8; have := T3; refine (get_any l B m q N w4 HV4.out HM.out (by omega) HF.out.good.rise v b HVv.out HBb.out).mono ?_; clear T3; rintro e w5 ⟨rfl, hbz⟩
      have HZ1 := Kept.mk (VX.zero hbz)
      clear hbz)
   | (have := HZ1; have := T4; refine wpList_store_row rfl 30 _ _ rfl _ _ rfl rfl 30 _ HZ1.out.r (by kernel_rfl) rfl (by simp [Value.oneCell']) ?_
      clear T4
      have HZ2 := Kept.mk (HZ1.out.row v)
      generalize World.setRow _ _ _ = W5 at HZ2 ⊢
      have HX5 := Kept.mk (HX4.out.below HZ2.out.bl)
      have HV5 := Kept.mk (HV4.out.below HZ2.out.bl))
   | (go_at_call 8; have := T5; refine (get_any l B m q O W5 HV5.out HM.out (by omega) HF.out.good.rise u c HUu.out HCc.out).mono ?_; clear T5; rintro e w6 ⟨rfl, hbz⟩
      have HZ3 := Kept.mk (VX.zero hbz)
      clear hbz)
   | (have := HZ3; have := T6; refine wpList_store_row rfl 30 _ _ rfl _ _ rfl rfl 30 _ HZ3.out.r (by kernel_rfl) rfl (by simp [Value.oneCell']) ?_
      clear T6
      have HZ4 := Kept.mk (HZ3.out.row u)
      generalize World.setRow _ _ _ = W6 at HZ4 ⊢
      have HX6 := Kept.mk (HX5.out.below HZ4.out.bl)
      have HV6 := Kept.mk (HV5.out.below HZ4.out.bl)
      have HZ5 := Kept.mk (HZ2.out.below HZ4.out.bl)
      have x3 := HX6.out.c3))
 cases hr : set l N d.value with
 | error e7 =>
   have HR := Kept.mk hr
   have hc := set_err hr
   have hc0 : (e7 != 0) = true := by rcases hc with rfl | rfl <;> rfl
   have hc1 : (e7 == 0) = false := by rcases hc with rfl | rfl <;> rfl
   have hfb := set_refused hr
   rw [HVv.out] at hfb
   clear hr hc
   by_cases hro : v.ro = true
   · have HRo := Kept.mk hro
     clear hro hfb
     go_at_call 16
     refine (pSet_any l B m q N d.value W6 HV6.out HM.out (by omega) HNn.out HF.out.good.rise (HK.out.below HX6.out.bl)).mono ?_
     intro e w7 h7
     rw [HR.out] at h7
     obtain ⟨A1, k1, rfl, _, hb7⟩ := h7.no
     have y3 := (HZ5.out.below hb7).c3
     rw [HRo.out] at y3
     have HX7 := Kept.mk (HX6.out.below hb7)
     clear h7 hb7
     go_wp2_with fail
     go_ret
     exact ⟨rfl, HX7.out.bl⟩
   · have hro : v.ro = false := by simpa using hro
     have HRo := Kept.mk hro
     have HNa := Kept.mk (show isName N = false by rcases hfb with h | h; exact absurd h (by rw [hro]; decide); exact h)
     clear hro hfb
     go_at_call 16
     refine (pSet_any l B m q N d.value W6 HV6.out HM.out (by omega) HNn.out HF.out.good.rise (HK.out.below HX6.out.bl)).mono ?_
     intro e w7 h7
     rw [HR.out] at h7
     obtain ⟨A1, k1, rfl, _, hb7⟩ := h7.no
     have y3 := (HZ5.out.below hb7).c3
     rw [HRo.out] at y3
     have HX7 := Kept.mk (HX6.out.below hb7)
     clear h7 hb7
     go_wp2_with (go_at_call 17; refine (isName_any N w7 (Nat.le_trans HNn.out (by omega)) false HNa.out).mono ?_; rintro e w8 ⟨rfl, rfl⟩)
     go_ret
     exact ⟨rfl, HX7.out.bl⟩
 | ok L2 =>
   have HR := Kept.mk hr
   have HSF := Kept.mk (set_facts HF.out.good.rise hr)
   have HF2 := Kept.mk (fine_set HF.out hr HNn.out HDo.out.value)
   have hle := set_le hr
   rw [HM.out] at hle
   obtain ⟨m2, hm2⟩ : ∃ m2, L2.length = m2 := ⟨_, rfl⟩
   rw [hm2] at hle
   have HM2 := Kept.mk hm2
   have HGv : Kept (getD L2 N = ⟨N, d.value, v.ex, false⟩) := ⟨by rw [HSF.out.here, HVv.out]⟩
   obtain ⟨K3, hK3⟩ : ∃ K3, put L2 N [] = K3 := ⟨_, rfl⟩
   obtain ⟨kn, hkn⟩ : ∃ kn, K3.length = kn := ⟨_, rfl⟩
   have HUn := Kept.mk HSF.out.un
   have HGone := Kept.mk HSF.out.gone
   have hless := HSF.out.less
   have HFs := Kept.mk (put_sorted HF2.out.good.rise (n := N) (m := []) (.inl rfl))
   rw [hK3] at HUn HGone hless HFs
   rw [hkn, hm2] at hless
   have HKn := Kept.mk hkn
   have hbw : ((m2 : Int) == (m : Int)) = b := by
     rw [← HBb.out, HSF.out.was, hm2, HM.out, Bool.eq_iff_iff, beq_iff_eq, decide_eq_true_iff]
     omega
   have hw1 : IntKind.i64.wrap ((kn : Int) + 1) = (kn : Int) + 1 := IntWalk.i64_in _ (by omega)
   have hl1 : ((kn : Int) + 1 == (m2 : Int)) = true := by rw [beq_iff_eq]; omega
   have hl2 : ((kn : Int) + 1 != (m2 : Int)) = false := by unfold bne; rw [hl1]; rfl
   have t1 : (d.value.toList == d.value.toList) = true := beq_true rfl
   have t2 : (d.value.toList != d.value.toList) = false := by unfold bne; rw [t1]; rfl
   have n0 : (u.name.toList == u.name.toList) = true := beq_true rfl
   have n1 : (u.value.toList == u.value.toList) = true := beq_true rfl
   obtain ⟨v5, hv5⟩ : ∃ v5, getD K3 N = v5 := ⟨_, rfl⟩
   have HV5' := Kept.mk hv5
   obtain ⟨r, hr4⟩ : ∃ r, getD L2 O = r := ⟨_, rfl⟩
   obtain ⟨s, hs4⟩ : ∃ s, found L2 O = s := ⟨_, rfl⟩
   have HR4 := Kept.mk hr4
   have HS4 := Kept.mk hs4
   have HOt : Kept (O ≠ N → r = u ∧ s = c) := ⟨fun h => by
     obtain ⟨h1, h2⟩ := HSF.out.other O h
     rw [← hr4, ← hs4, h1, h2, HUu.out, HCc.out]; exact ⟨rfl, rfl⟩⟩
   clear hr hm2 hK3 hkn hv5 hr4 hs4
   go_at_call 16
   refine (pSet_any l B m q N d.value W6 HV6.out HM.out (by omega) HNn.out HF.out.good.rise (HK.out.below HX6.out.bl)).mono ?_
   intro e w7 h7
   rw [HR.out] at h7
   obtain ⟨B2, q2, rfl, HV7, hb7⟩ := h7.ok (mn := m2) HM2.out
   have HZa := Kept.mk (HZ5.out.below hb7)
   have HZb := Kept.mk (HZ4.out.below hb7)
   have HX7 := Kept.mk (HX6.out.below hb7)
   clear h7 hb7 x3
   by_cases hON : O = N
   · have hE := beq_true hON
     clear hON HOt
     have T1 : Kept True := ⟨trivial⟩
     have T2 : Kept True := ⟨trivial⟩
     have T3 : Kept True := ⟨trivial⟩
     have T4 : Kept True := ⟨trivial⟩
     have T5 : Kept True := ⟨trivial⟩
     have T6 : Kept True := ⟨trivial⟩
     go_wp2_with (first
     | (go_at_call 8; have := T1; refine (get_any L2 B2 m2 q2 N w7 HV7.out HM2.out (by omega) HF2.out.good.rise ⟨N, d.value, v.ex, false⟩ true HGv.out HSF.out.is).mono ?_; clear T1; rintro e w8 ⟨rfl, hbz⟩
        have HZ6 := Kept.mk (VX.zero hbz)
        clear hbz)
     | (have := HZ6; have := T2; refine wpList_store_row rfl 30 _ _ rfl _ _ rfl rfl 30 _ HZ6.out.r (by kernel_rfl) rfl (by simp [Value.oneCell']) ?_
        clear T2
        have HZ7 := Kept.mk (HZ6.out.row ⟨N, d.value, v.ex, false⟩)
        generalize World.setRow _ _ _ = W8 at HZ7 ⊢
        have HV8 := Kept.mk (HV7.out.below HZ7.out.bl))
     | (go_at_call 8; have := T3; refine (get_any L2 B2 m2 q2 O W8 HV8.out HM2.out (by omega) HF2.out.good.rise r s HR4.out HS4.out).mono ?_; clear T3; rintro e w9 ⟨rfl, hbz⟩
        have HZ8 := Kept.mk (VX.zero hbz)
        clear hbz)
     | (have := HZ8; have := T4; refine wpList_store_row rfl 30 _ _ rfl _ _ rfl rfl 30 _ HZ8.out.r (by kernel_rfl) rfl (by simp [Value.oneCell']) ?_
        clear T4
        have HZ9 := Kept.mk (HZ8.out.row r)
        generalize World.setRow _ _ _ = W9 at HZ9 ⊢
        have HV9 := Kept.mk (HV8.out.below HZ9.out.bl))
     | (go_at_call 18; refine (pUnset_any L2 B2 m2 q2 N W9 HV9.out HM2.out (by omega) HF2.out.good.rise).mono ?_; intro e w10 h10; rw [HUn.out] at h10; obtain ⟨B3, q3, rfl, HV10, hb10⟩ := h10.ok (mn := kn) HKn.out
        have HB10 := Kept.mk hb10
        clear h10 hb10)
     | (go_at_call 8; have := T5; refine (get_any K3 B3 kn q3 N w10 HV10.out HKn.out (by omega) HFs.out v5 false HV5'.out HGone.out).mono ?_; clear T5; rintro e w11 ⟨rfl, hbz⟩
        have HZ10 := Kept.mk (VX.zero hbz)
        clear hbz)
     | (have := HZ10; have := T6; refine wpList_store_row rfl 30 _ _ rfl _ _ rfl rfl 30 _ HZ10.out.r (by kernel_rfl) rfl (by simp [Value.oneCell']) ?_
        clear T6
        have HZ11 := Kept.mk (HZ10.out.row v5)
        generalize World.setRow _ _ _ = W12 at HZ11 ⊢
        have B10 : Kept (Below W9.heap.size W9 W12) := ⟨HB10.out.trans (HZ11.out.bl.mono HB10.out.size)⟩
        have B8 : Kept (Below W8.heap.size W8 W12) := ⟨HZ9.out.bl.trans (B10.out.mono HZ9.out.bl.size)⟩
        have B7 : Kept (Below w7.heap.size w7 W12) := ⟨HZ7.out.bl.trans (B8.out.mono HZ7.out.bl.size)⟩
        have HXz := Kept.mk (HX7.out.below B7.out)
        have HQ1 := Kept.mk (HZa.out.below B7.out)
        have HQ2 := Kept.mk (HZb.out.below B7.out)
        have HQ3 := Kept.mk (HZ7.out.below B8.out)
        have HQ4 := Kept.mk (HZ9.out.below B10.out)
        have u1 := HQ3.out.c1
        have u2 := HQ3.out.c2
        have u3 := HXz.out.c3
        have u4 := HQ1.out.c2))
     go_ret
     exact ⟨rfl, HXz.out.bl⟩
   · have hE := beq_false hON
     obtain ⟨h1, h2⟩ := HOt.out hON
     rw [h1] at HR4
     rw [h2] at HS4
     clear hON HOt h1 h2
     have T1 : Kept True := ⟨trivial⟩
     have T2 : Kept True := ⟨trivial⟩
     have T3 : Kept True := ⟨trivial⟩
     have T4 : Kept True := ⟨trivial⟩
     have T5 : Kept True := ⟨trivial⟩
     have T6 : Kept True := ⟨trivial⟩
     go_wp2_with (first
     | (go_at_call 8; have := T1; refine (get_any L2 B2 m2 q2 N w7 HV7.out HM2.out (by omega) HF2.out.good.rise ⟨N, d.value, v.ex, false⟩ true HGv.out HSF.out.is).mono ?_; clear T1; rintro e w8 ⟨rfl, hbz⟩
        have HZ6 := Kept.mk (VX.zero hbz)
        clear hbz)
     | (have := HZ6; have := T2; refine wpList_store_row rfl 30 _ _ rfl _ _ rfl rfl 30 _ HZ6.out.r (by kernel_rfl) rfl (by simp [Value.oneCell']) ?_
        clear T2
        have HZ7 := Kept.mk (HZ6.out.row ⟨N, d.value, v.ex, false⟩)
        generalize World.setRow _ _ _ = W8 at HZ7 ⊢
        have HV8 := Kept.mk (HV7.out.below HZ7.out.bl))
     | (go_at_call 8; have := T3; refine (get_any L2 B2 m2 q2 O W8 HV8.out HM2.out (by omega) HF2.out.good.rise u c HR4.out HS4.out).mono ?_; clear T3; rintro e w9 ⟨rfl, hbz⟩
        have HZ8 := Kept.mk (VX.zero hbz)
        clear hbz)
     | (have := HZ8; have := T4; refine wpList_store_row rfl 30 _ _ rfl _ _ rfl rfl 30 _ HZ8.out.r (by kernel_rfl) rfl (by simp [Value.oneCell']) ?_
        clear T4
        have HZ9 := Kept.mk (HZ8.out.row u)
        generalize World.setRow _ _ _ = W9 at HZ9 ⊢
        have HV9 := Kept.mk (HV8.out.below HZ9.out.bl))
     | (go_at_call 18; refine (pUnset_any L2 B2 m2 q2 N W9 HV9.out HM2.out (by omega) HF2.out.good.rise).mono ?_; intro e w10 h10; rw [HUn.out] at h10; obtain ⟨B3, q3, rfl, HV10, hb10⟩ := h10.ok (mn := kn) HKn.out
        have HB10 := Kept.mk hb10
        clear h10 hb10)
     | (go_at_call 8; have := T5; refine (get_any K3 B3 kn q3 N w10 HV10.out HKn.out (by omega) HFs.out v5 false HV5'.out HGone.out).mono ?_; clear T5; rintro e w11 ⟨rfl, hbz⟩
        have HZ10 := Kept.mk (VX.zero hbz)
        clear hbz)
     | (have := HZ10; have := T6; refine wpList_store_row rfl 30 _ _ rfl _ _ rfl rfl 30 _ HZ10.out.r (by kernel_rfl) rfl (by simp [Value.oneCell']) ?_
        clear T6
        have HZ11 := Kept.mk (HZ10.out.row v5)
        generalize World.setRow _ _ _ = W12 at HZ11 ⊢
        have B10 : Kept (Below W9.heap.size W9 W12) := ⟨HB10.out.trans (HZ11.out.bl.mono HB10.out.size)⟩
        have B8 : Kept (Below W8.heap.size W8 W12) := ⟨HZ9.out.bl.trans (B10.out.mono HZ9.out.bl.size)⟩
        have B7 : Kept (Below w7.heap.size w7 W12) := ⟨HZ7.out.bl.trans (B8.out.mono HZ7.out.bl.size)⟩
        have HXz := Kept.mk (HX7.out.below B7.out)
        have HQ1 := Kept.mk (HZa.out.below B7.out)
        have HQ2 := Kept.mk (HZb.out.below B7.out)
        have HQ3 := Kept.mk (HZ7.out.below B8.out)
        have HQ4 := Kept.mk (HZ9.out.below B10.out)
        have u1 := HQ3.out.c1
        have u2 := HQ3.out.c2
        have u3 := HXz.out.c3
        have u4 := HQ1.out.c2
        have k0 := HQ4.out.c0
        have j0 := HQ2.out.c0
        have k1 := HQ4.out.c1
        have j1 := HQ2.out.c1
        have k2 := HQ4.out.c2
        have j2 := HQ2.out.c2
        have k3 := HQ4.out.c3
        have j3 := HQ2.out.c3))
     go_ret
     exact ⟨rfl, HXz.out.bl⟩
end Va
end
end Go.Proofs.YtpagcoiekeijbaaDoor
