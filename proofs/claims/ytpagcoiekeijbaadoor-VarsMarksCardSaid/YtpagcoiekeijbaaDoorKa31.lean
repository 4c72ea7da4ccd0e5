/-
  Parts of the proof, merged.
-/
import Derived.Carry
import Derived.ChangeMaps5
import Derived.ChangeOld
import Derived.ChangeSame
import Derived.ChangeShapes
import Derived.Deep.DeepHandedRow
import Derived.Deep.Slices
import Derived.LaidLaws
import Derived.Lib.LaidTab
import Derived.OpenShut
import Derived.ProofKit
import Derived.SizedLaws
import Derived.SliceStrings
import Derived.Stop.LaidErr
import Derived.Test.YtpagcoiekeijbaaDoorCards
import Derived.Test.YtpagcoiekeijbaaDoorKa30
import Derived.Test.YtpagcoiekeijbaaDoorTie
namespace Go.Proofs.YtpagcoiekeijbaaDoor
section
open Go.RowKit Tx
namespace Va
open Wx (Kit)
theorem SEnd.gen {w w' : World} {e : Ending} {r : Except Int (List Vr)} {L : List Vr} {c : Int} {n : Nat} (h : SEnd w r e w') (hl : outL r = L) (hc : outE r = c) (hn : L.length = n) : ∃ A k, e = .returned (.tuple #[.slice A n k, .int .i64 c]) ∧ Kept (VS w' A k L) ∧ Below w.heap.size w w' := by
 subst hl hc hn
 obtain ⟨A, n, k, he, hn, hV, hb⟩ := h
 subst hn
 exact ⟨A, k, he, hV, hb⟩
theorem out_fine {r : Except Int (List Vr)} (h : ∀ m, r = .ok m → Fine m) : Fine (outL r) := by
 cases r with
 | ok m => exact h m rfl
 | error c => exact Fine.nil
theorem out_le {r : Except Int (List Vr)} {n : Nat} (h : ∀ m, r = .ok m → m.length ≤ n) : (outL r).length ≤ n := by
 cases r with
 | ok m => exact h m rfl
 | error c => exact Nat.zero_le _
set_option maxHeartbeats 8000000 in
set_option maxRecDepth 100000 in
theorem marks_any (A : Option Addr) (n k : Nat) (nn : Nat) (a b : Bool) (x : ByteArray) (w : World) (hK : Kit w) (hD : DS w A n) (hn : n ≤ 4611686018427387904) :
   Calls Tryd.prog 5 #[.slice A n k, .int .u8 (nn : Int), .bool a, .bool b, .string x] w fun e w' => e = .returned (.bool true) ∧ Below w.heap.size w w' := by
 have HK := Kept.mk hK
 have HD := Kept.mk hD
 have HOb := Kept.mk (bare_ok (n := nn % 128) (by omega))
 have HNs : Kept ((nameOf (bare (nn % 128))).size ≤ 3) := ⟨bare_small _ (by omega)⟩
 have hrem : (nn : Int) % 128 = ((nn % 128 : Nat) : Int) := by omega
 have HNb : Kept (∀ W : World, Calls Tryd.prog 9 #[.agg #[.int .u8 0, .int .u8 ((nn % 128 : Nat) : Int), .string ⟨#[]⟩, .string ⟨#[]⟩, .bool false, .bool false]] W fun e w' => e = .returned (.string (nameOf (bare (nn % 128)))) ∧ Below W.heap.size W w') := ⟨fun W => name_law (bare (nn % 128)) HOb.out W⟩
 obtain ⟨S, hS⟩ : ∃ S, nameOf (bare (nn % 128)) = S := ⟨_, rfl⟩
 rw [hS] at HNb HNs
 have T1 : Kept True := ⟨trivial⟩
 have T2 : Kept True := ⟨trivial⟩
 have T3 : Kept True := ⟨trivial⟩
 have T4 : Kept True := ⟨trivial⟩
 have T5 : Kept True := ⟨trivial⟩
 have T6 : Kept True := ⟨trivial⟩
 have T7 : Kept True := ⟨trivial⟩
 clear hK hD hS
 generalize hqr : ((nn % 128 : Nat) : Int) = qi at *
 clear hqr
 by_cases hx : 100 < x.size
 · have hx1 : (100 : Int) < (x.size : Int) := by omega
   clear hx
   go_enter Tryd.func5, Tryd.ntmps5
   go_wp2_with (first
     | (go_at_call 15; refine (made_any A n k w HD.out hn).mono ?_; rintro e w2 ⟨B, m, q, l, rfl, HM, hm30, HV2, HF, hb2⟩
        have HB2 := Kept.mk hb2
        clear hb2)
     | (go_at_call 9; refine (HNb.out w2).mono ?_; rintro e w3 ⟨rfl, hb3⟩
        have HB3 := Kept.mk (HB2.out.trans (hb3.mono HB2.out.size))
        clear hb3)
     | (go_at_call 6; refine (awake_any _ (HK.out.below HB3.out)).mono ?_; rintro e w4 ⟨rfl, hb4⟩
        have HB4 := Kept.mk (HB3.out.trans (hb4.mono HB3.out.size))
        clear hb4))
   go_ret
   exact ⟨rfl, HB4.out⟩
 · have hx1 : ¬ (100 : Int) < (x.size : Int) := by omega
   have HXs : Kept (x.size ≤ 100) := ⟨by omega⟩
   clear hx
   go_enter Tryd.func5, Tryd.ntmps5
   go_wp2_with (first
     | (go_at_call 15; refine (made_any A n k w HD.out hn).mono ?_; rintro e w2 ⟨B, m, q, l, rfl, HM, hm30, HV2, HF, hb2⟩
        have HB2 := Kept.mk hb2
        clear hb2)
     | (go_at_call 9; refine (HNb.out w2).mono ?_; rintro e w3 ⟨rfl, hb3⟩
        have HB3 := Kept.mk (HB2.out.trans (hb3.mono HB2.out.size))
        have HV3 := Kept.mk (HV2.out.below hb3)
        clear hb3))
   have HF1 := Kept.mk (out_fine (r := mark l S a b) fun m h => fine_mark HF.out h (Nat.le_trans HNs.out (by omega)))
   have hL1 := out_le (r := mark l S a b) (n := m + 1) fun m h => by have := mark_le h; rw [HM.out] at this; exact this
   obtain ⟨r1, hr1⟩ : ∃ r1, mark l S a b = r1 := ⟨_, rfl⟩
   rw [hr1] at HF1 hL1
   obtain ⟨K1, hK1⟩ : ∃ K1, outL r1 = K1 := ⟨_, rfl⟩
   obtain ⟨c1, hc1⟩ : ∃ c1, outE r1 = c1 := ⟨_, rfl⟩
   obtain ⟨n1, hn1⟩ : ∃ n1, K1.length = n1 := ⟨_, rfl⟩
   rw [hK1] at HF1 hL1
   have HF2 := Kept.mk (out_fine (r := set K1 S x) fun m h => fine_set HF1.out h (Nat.le_trans HNs.out (by omega)) (by have := HXs.out; omega))
   have hL2 := out_le (r := set K1 S x) (n := n1 + 1) fun m h => by have := set_le h; rw [hn1] at this; exact this
   obtain ⟨r2, hr2⟩ : ∃ r2, set K1 S x = r2 := ⟨_, rfl⟩
   rw [hr2] at HF2 hL2
   obtain ⟨K2, hK2⟩ : ∃ K2, outL r2 = K2 := ⟨_, rfl⟩
   obtain ⟨c2, hc2⟩ : ∃ c2, outE r2 = c2 := ⟨_, rfl⟩
   obtain ⟨n2, hn2⟩ : ∃ n2, K2.length = n2 := ⟨_, rfl⟩
   rw [hK2] at HF2 hL2
   have hL3 := out_le (r := unset K2 S) (n := n2 + 1) fun m h => by have := unset_le h; rw [hn2] at this; exact this
   obtain ⟨r3, hr3⟩ : ∃ r3, unset K2 S = r3 := ⟨_, rfl⟩
   rw [hr3] at hL3
   obtain ⟨K3, hK3⟩ : ∃ K3, outL r3 = K3 := ⟨_, rfl⟩
   obtain ⟨c3, hc3⟩ : ∃ c3, outE r3 = c3 := ⟨_, rfl⟩
   obtain ⟨n3, hn3⟩ : ∃ n3, K3.length = n3 := ⟨_, rfl⟩
   rw [hK3] at hL3
   rw [hn1] at hL1
   rw [hn2] at hL2
   rw [hn3] at hL3
   have R1 := Kept.mk hr1
   have R2 := Kept.mk hr2
   have R3 := Kept.mk hr3
   have E1 := Kept.mk hc1
   have E2 := Kept.mk hc2
   have E3 := Kept.mk hc3
   have O1 := Kept.mk hK1
   have O2 := Kept.mk hK2
   have O3 := Kept.mk hK3
   have N1 := Kept.mk hn1
   have N2 := Kept.mk hn2
   have N3 := Kept.mk hn3
   clear hr1 hr2 hr3 hc1 hc2 hc3 hK1 hK2 hK3 hn1 hn2 hn3
   go_at_call 19
   refine (pMark_any l B m q S a b w3 HV3.out HM.out (by omega) (Nat.le_trans HNs.out (by omega)) HF.out.good.rise (HK.out.below HB3.out)).mono ?_
   intro e w4 h4
   rw [R1.out] at h4
   obtain ⟨B4, k4, rfl, HV4, hb4⟩ := h4.gen O1.out E1.out N1.out
   have HB4 := Kept.mk (HB3.out.trans (hb4.mono HB3.out.size))
   have HL4 := Kept.mk (HV3.out.below hb4)
   clear h4 hb4
   go_wp2_with (first
     | (go_at_call 20; refine (refMark_any l B m q S a b w4 HL4.out HM.out (by omega) (Nat.le_trans HNs.out (by omega))).mono ?_; intro e w5 h5; rw [R1.out] at h5; obtain ⟨B5, k5, rfl, HV5, hb5⟩ := h5.gen O1.out E1.out N1.out
        have HB5 := Kept.mk (HB4.out.trans (hb5.mono HB4.out.size))
        have HP5 := Kept.mk (HV4.out.below hb5)
        clear h5 hb5)
     | (go_at_call 16; refine (pSet_any K1 B5 n1 k5 S x w5 HV5.out N1.out (by omega) (Nat.le_trans HNs.out (by omega)) HF1.out.good.rise (HK.out.below HB5.out)).mono ?_; intro e w6 h6; rw [R2.out] at h6; obtain ⟨B6, k6, rfl, HV6, hb6⟩ := h6.gen O2.out E2.out N2.out
        have HB6 := Kept.mk (HB5.out.trans (hb6.mono HB5.out.size))
        have HP6 := Kept.mk (HP5.out.below hb6)
        have HQ6 := Kept.mk (HV5.out.below hb6)
        clear h6 hb6)
     | (go_at_call 21; refine (refSet_any K1 B5 n1 k5 S x w6 HQ6.out N1.out (by omega) (Nat.le_trans HNs.out (by omega))).mono ?_; intro e w7 h7; rw [R2.out] at h7; obtain ⟨B7, k7, rfl, HV7, hb7⟩ := h7.gen O2.out E2.out N2.out
        have HB7 := Kept.mk (HB6.out.trans (hb7.mono HB6.out.size))
        have HP7 := Kept.mk (HP6.out.below hb7)
        have HQ7 := Kept.mk (HQ6.out.below hb7)
        have HR7 := Kept.mk (HV6.out.below hb7)
        clear h7 hb7)
     | (go_at_call 18; refine (pUnset_any K2 B7 n2 k7 S w7 HV7.out N2.out (by omega) HF2.out.good.rise).mono ?_; intro e w8 h8; rw [R3.out] at h8; obtain ⟨B8, k8, rfl, HV8, hb8⟩ := h8.gen O3.out E3.out N3.out
        have HB8 := Kept.mk (HB7.out.trans (hb8.mono HB7.out.size))
        have HP8 := Kept.mk (HP7.out.below hb8)
        have HQ8 := Kept.mk (HQ7.out.below hb8)
        have HR8 := Kept.mk (HR7.out.below hb8)
        have HS8 := Kept.mk (HV7.out.below hb8)
        clear h8 hb8)
     | (go_at_call 22; refine (refUnset_any K2 B7 n2 k7 S w8 HS8.out N2.out (by omega)).mono ?_; intro e w9 h9; rw [R3.out] at h9; obtain ⟨B9, k9, rfl, HV9, hb9⟩ := h9.gen O3.out E3.out N3.out
        have HB9 := Kept.mk (HB8.out.trans (hb9.mono HB8.out.size))
        have HP9 := Kept.mk (HP8.out.below hb9)
        have HQ9 := Kept.mk (HQ8.out.below hb9)
        have HR9 := Kept.mk (HR8.out.below hb9)
        have HS9 := Kept.mk (HS8.out.below hb9)
        have HT9 := Kept.mk (HV8.out.below hb9)
        clear h9 hb9)
     | (go_at_call 6; refine (awake_any w9 (HK.out.below HB9.out)).mono ?_; rintro e wa ⟨rfl, hba⟩
        have HBa := Kept.mk hba
        clear hba)
     | (go_at_call 23; have := T1; refine (same_vars K1 B4 B5 n1 k4 k5 wa (HP9.out.below HBa.out) (HQ9.out.below HBa.out) N1.out (by omega)).mono ?_; clear T1; rintro e wb ⟨rfl, hbb⟩
        have HBb : Kept (Below w9.heap.size w9 wb) := ⟨HBa.out.trans (hbb.mono HBa.out.size)⟩
        clear hbb)
     | (go_at_call 23; have := T2; refine (same_vars K2 B6 B7 n2 k6 k7 wb (HR9.out.below HBb.out) (HS9.out.below HBb.out) N2.out (by omega)).mono ?_; clear T2; rintro e wc ⟨rfl, hbc⟩
        have HBc : Kept (Below w9.heap.size w9 wc) := ⟨HBb.out.trans (hbc.mono HBb.out.size)⟩
        clear hbc)
     | (go_at_call 23; have := T3; refine (same_vars K3 B8 B9 n3 k8 k9 wc (HT9.out.below HBc.out) (HV9.out.below HBc.out) N3.out (by omega)).mono ?_; clear T3; rintro e wd ⟨rfl, hbd⟩
        have HBd : Kept (Below w9.heap.size w9 wd) := ⟨HBc.out.trans (hbd.mono HBc.out.size)⟩
        clear hbd)
     | (go_at_call 13; have := T4; refine (pEnviron_any K2 B7 n2 k7 wd (HS9.out.below HBd.out) N2.out (by omega) HF2.out.few).mono ?_; clear T4; intro e we he; obtain ⟨Ce, ke, rfl, HRe, hbe⟩ := he.len rfl
        have HBe : Kept (Below w9.heap.size w9 we) := ⟨HBd.out.trans (hbe.mono HBd.out.size)⟩
        clear he hbe)
     | (go_at_call 14; have := T5; refine (refEnviron_any K2 B7 n2 k7 we (HS9.out.below HBe.out) N2.out (by omega) HF2.out.few).mono ?_; clear T5; intro e wf hf; obtain ⟨Cf, kf, rfl, HRf, hbf⟩ := hf.len rfl
        have HBf : Kept (Below w9.heap.size w9 wf) := ⟨HBe.out.trans (hbf.mono HBe.out.size)⟩
        have HUf := Kept.mk (HRe.out.below hbf)
        clear hf hbf)
     | (go_at_call 12; have := T6; refine (same_texts (environ K2) Ce Cf _ ke kf wf HUf.out HRf.out rfl (by have := environ_le K2; have := N2.out; omega)).mono ?_; clear T6; rintro e wg ⟨rfl, hbg⟩
        have HBg : Kept (Below w9.heap.size w9 wg) := ⟨HBf.out.trans (hbg.mono HBf.out.size)⟩
        clear hbg)
     | (go_at_call 13; refine (pEnviron_any K1 B5 n1 k5 wg (HQ9.out.below HBg.out) N1.out (by omega) HF1.out.few).mono ?_; intro e wh hh; obtain ⟨Ch, kh, rfl, HRh, hbh⟩ := hh.len rfl
        have HBh : Kept (Below w9.heap.size w9 wh) := ⟨HBg.out.trans (hbh.mono HBg.out.size)⟩
        clear hh hbh)
     | (go_at_call 14; refine (refEnviron_any K1 B5 n1 k5 wh (HQ9.out.below HBh.out) N1.out (by omega) HF1.out.few).mono ?_; intro e wi hi; obtain ⟨Ci, ki, rfl, HRi, hbi⟩ := hi.len rfl
        have HBi : Kept (Below w9.heap.size w9 wi) := ⟨HBh.out.trans (hbi.mono HBh.out.size)⟩
        have HUi := Kept.mk (HRh.out.below hbi)
        clear hi hbi)
     | (go_at_call 12; refine (same_texts (environ K1) Ch Ci _ kh ki wi HUi.out HRi.out rfl (by have := environ_le K1; have := N1.out; omega)).mono ?_; rintro e wj ⟨rfl, hbj⟩
        have HBj : Kept (Below w9.heap.size w9 wj) := ⟨HBi.out.trans (hbj.mono HBi.out.size)⟩
        clear hbj))
   go_ret
   exact ⟨rfl, HB9.out.trans (HBj.out.mono HB9.out.size)⟩
end Va
end
section
open Go.RowKit Go.ChangeShapes
namespace Law
variable {H : Type} {enc : TypeId × Value → H} {P : Program}
def typesOk (P : Program) (ts : List TypeId) : Bool := ts.all fun t => P.readableRec t && decide (t < P.types.size)
theorem all_stay (hl : laidOutB P = true) {W W' : World} {sp : Nat → Bool} : ∀ {ts : List TypeId} {vs : List Value} {ds : List (DataW H)} {ps : List MemPlace}, typesOk P ts = true →
   DataW.TrodAll enc P W 0 (fun _ => true) true ts vs ds ps → (∀ p ∈ ps, W.sameAt W' p) → (∀ p ∈ ps, sp p.block = true) → DataW.TrodAll enc P W' 0 sp true ts vs ds ps
 | [], [], [], _, _, h, _, _ => h
 | t :: ts, v :: vs, d :: ds, ps, hr, h, hs, hsp => by
   obtain ⟨p, q, h1, h2, rfl⟩ := h
   simp only [typesOk, List.all_cons, Bool.and_eq_true, decide_eq_true_eq] at hr
   exact ⟨p, q, WideElems.Trod_stays hl hr.1.1 hr.1.2 h1 (fun x hx => hs x (List.mem_append_left _ hx)) (fun x hx => hsp x (List.mem_append_left _ hx)),
     all_stay hl hr.2 h2 (fun x hx => hs x (List.mem_append_right _ hx)) (fun x hx => hsp x (List.mem_append_right _ hx)), rfl⟩
theorem true_trod {W : World} {b : Nat} {sp : Nat → Bool} {hd : Bool} {B : TypeId} (hB : P.underlying B = some .bool) : DataW.Trod enc P W b sp hd B (.bool true) (.lit (.bool true)) [] :=
 ⟨1, by simp [DataW.trod, Value.cells, hB]⟩
theorem post {f : Func} {s : ChangeSpec} {apart fresh handsOn again : Bool} {W W' : World} {args : Array Value} {ds : List (DataW H)} {before : List MemPlace} {B : TypeId}
   (hl : laidOutB P = true) (hts : typesOk P f.params.toList = true) (hrt : f.resultTypes = #[B]) (hB : P.underlying B = some .bool) (hvars : s.vars = [])
   (hfn : s.fn H (ds ++ []) = { results := [.lit (.bool true)], args := ds }) (hW : DataW.Whole enc P f.params.toList s.vars apart W args.toList ds [] before) (hb : Below W.heap.size W W') :
   s.post enc P f apart fresh handsOn again W args (.bool true) W' := by
 have hlt : ∀ p ∈ before, p.block < W.heap.size := fun p hp => hW.lt p hp
 obtain ⟨p, q, hA, hV, hpq, hz, hn⟩ := id hW
 have hV' := hV
 rw [hvars] at hV'
 obtain ⟨-, rfl⟩ := trodVars_none hV'
 rw [List.append_nil] at hpq
 subst hpq
 have stays : ∀ sp : Nat → Bool, (∀ x ∈ before, sp x.block = true) → DataW.TrodAll enc P W' 0 sp true f.params.toList args.toList ds before :=
   fun sp hsp => all_stay hl hts hA (fun x hx => hb.same (hlt x hx)) hsp
 have res : ∀ (b : Nat) (sp : Nat → Bool) (hd : Bool), DataW.TrodAll enc P W' b sp hd f.resultTypes.toList ((Value.bool true).resultList f.resultTypes.size) [.lit (.bool true)] [] := by
   intro b sp hd
   rw [hrt]
   exact ⟨[], [], true_trod hB, rfl, rfl⟩
 have noVars : ∀ sp : Nat → Bool, DataW.TrodVars enc P W' sp s.vars ([] : List (DataW H)) [] := fun sp => by rw [hvars]; rfl
 refine ⟨ds, [], before, [], before, [], hW, by rw [hfn]; exact res _ _ _, by rw [hfn]; exact stays _ (fun x hx => decide_eq_true (hlt x hx)), by rw [hfn]; exact noVars _, ?_, fun _ => ⟨ok_one hrt rfl (okWide_bool_mk hB true), ?_⟩⟩
 · exact World.keptBut_mono (fun x hx => ⟨hx, .inr (.inl hx)⟩) (hb.frame (· ∈ before))
 · refine ⟨_, _, [] ++ before ++ [], ⟨[] ++ before, [], trodAll_append (stays _ (fun _ _ => rfl)) (res _ _ _), noVars _, rfl, ?_, ?_⟩, ?_⟩
   · intro b off hp
     have hin : MemPlace.cell b off ∈ before := by simpa using hp
     rw [hb.frozen (p := ⟨b, off, none⟩) (hlt _ hin)]
     exact hz b off hin
   · intro ha
     simpa using hn ha
   · intro x hx _
     simpa using hx
end Law
end
section
open Go.ChangeShapes Go.WideShapes Go.ChangeAt Go.RowKit Tx
namespace Va
open Wx (Kit opVals wops)
theorem own : ownKnob Tryd.prog.godebug = none := by kernel_rfl
theorem laidOut : laidOutB Tryd.prog = true := by kernel_rfl
theorem gOps : Tryd.prog.globalNamed "scullion/word.operators" = some 1 := by kernel_rfl
theorem gOpsType : (Tryd.prog.globals[1]?).map (·.type) = some 97 := by kernel_rfl
theorem cellsOps : Tryd.prog.cellsOf 97 = 12 := by kernel_rfl
theorem cellsStr : Tryd.prog.cellsOf 9 = 1 := by kernel_rfl
theorem cellsByte : Tryd.prog.cellsOf 5 = 1 := by kernel_rfl
theorem cellsBool : Tryd.prog.cellsOf 4 = 1 := by kernel_rfl
theorem cellsAct : Tryd.prog.cellsOf 26 = 6 := by kernel_rfl
theorem bytesAct : Tryd.prog.bytesOf 26 = 48 := by kernel_rfl
def laid : List (String × DataW Unit) := [("scullion/word.operators", Rows.laid_scullion_word_operators)]
theorem cells_of_strs {H : Type} {enc : TypeId × Value → H} {P : Program} {w : World} {base : Nat} {sp : Nat → Bool} {held : Bool} {fuel : Nat} {t e : TypeId} {n : Nat} {cs : List Value} {ls : List (List UInt8)} {p : List MemPlace}
   (ht : P.underlying t = some (.array n e)) (he : P.underlying e = some .string) (hce : P.cellsOf e = 1) (hct : P.cellsOf t = n)
   (h : DataW.trod enc P w base sp held fuel t cs = some (.agg (ls.map fun l => .lit (.string l)), p)) : cs = ls.map fun l => Value.string (bs l) := by
 cases fuel with
 | zero => simp [DataW.trod] at h
 | succ fuel =>
   simp only [DataW.trod, ht, hce, hct, Nat.mul_one] at h
   split at h
   · rename_i hl
     obtain ⟨xs, hm, hx⟩ := Option.map_eq_some_iff.1 h
     have hxs : xs.map (·.1) = ls.map fun l => (DataW.lit (.string l) : DataW H) := by
       have := congrArg Prod.fst hx
       simpa using this
     have hxl : xs.length = n := by simpa using Lib.mapM_length hm
     have hzl : ls.length = n := by
       have := congrArg List.length hxs
       simp at this
       omega
     apply List.ext_getElem?
     intro i
     by_cases hi : i < n
     · obtain ⟨b, hb, hf⟩ := Lib.mapM_at hm i i (by simp [hi])
       obtain ⟨z, hc, rfl, _⟩ := DataW.trod_string he hf
       have h1 : cs[i]? = some (.string z) := by
         have := congrArg (·[0]?) hc
         simpa [List.getElem?_take, List.getElem?_drop] using this
       have h2 : (xs.map (·.1))[i]? = some (DataW.lit (.string z.data.toList) : DataW H) := by simp [hb]
       rw [hxs] at h2
       simp only [List.getElem?_map, Option.map_eq_some_iff, DataW.lit.injEq, Lit.string.injEq] at h2
       obtain ⟨l, hl2, e2⟩ := h2
       have e3 : bs l = z := by rw [e2]; exact bs_toL z
       simp [h1, hl2, e3]
     · rw [List.getElem?_eq_none (by omega), List.getElem?_eq_none (by simp; omega)]
   · cases h
theorem var_block {P : Program} {w : World} {n : String} {cs : Array Value} {g : Nat} (hg : P.globalNamed n = some g) (h : w.var? P n = some cs) : ∃ t fr, w.heap[g]? = some (.cells cs t fr) := by
 unfold World.var? at h
 rw [hg] at h
 simp only [Option.bind_some] at h
 split at h
 · rename_i cs' t fr hx
   obtain rfl := Option.some.inj h
   exact ⟨t, fr, hx⟩
 · cases h
theorem kit_head {W : World} {r : List (String × DataW Unit)} (h1 : laidMet Tryd.prog (("scullion/word.operators", Rows.laid_scullion_word_operators) :: r) W) (hsh : W.ShapedOpen Tryd.prog) : Kit W := by
 refine ⟨Tryd.laysM145.s1_3 W hsh, ?_⟩
 obtain ⟨ps, ⟨g', t', cs, fuel, p, q, hg', ht', hvar, hd, _, _⟩, _⟩ := h1
 obtain rfl := Option.some.inj (gOps.symm.trans hg')
 obtain rfl := Option.some.inj (gOpsType.symm.trans ht')
 have hc := cells_of_strs (ls := wops) Tryd.underlying97 Tryd.underlying9 cellsStr cellsOps hd
 have hcs : cs = opVals := Array.ext' (by rw [hc]; rfl)
 obtain ⟨t, fr, hb⟩ := var_block gOps hvar
 exact ⟨t, fr, by rw [← hcs]; exact hb⟩
theorem kit_of {W : World} (h : laidMetH Tryd.prog laid W) (hsh : W.ShapedOpen Tryd.prog) : Kit W := kit_head (show laidMet Tryd.prog laid W from h) hsh
theorem wf_u8 {n : Int} (h : (Lit.int .u8 n).wf = true) : 0 ≤ n ∧ n < 256 := by
 simp only [Lit.wf, Bool.and_eq_true, decide_eq_true_eq] at h
 have e0 : IntKind.u8.min = 0 := by decide
 have e1 : IntKind.u8.max = 255 := by decide
 rw [e0, e1] at h
 omega
theorem act_is : ∃ f0 f1 f2 f3 f4 f5 : Field, Tryd.prog.underlying 26 = some (.struct #[f0, f1, f2, f3, f4, f5]) ∧ f0.type = 5 ∧ f1.type = 5 ∧ f2.type = 9 ∧ f3.type = 9 ∧ f4.type = 4 ∧ f5.type = 4 ∧
   f0.offset = 0 ∧ f1.offset = 1 ∧ f2.offset = 2 ∧ f3.offset = 3 ∧ f4.offset = 4 ∧ f5.offset = 5 :=
 ⟨_, _, _, _, _, _, Tryd.underlying26, rfl, rfl, rfl, rfl, rfl, rfl, rfl, rfl, rfl, rfl, rfl, rfl⟩
set_option maxRecDepth 100000 in
theorem act_cells {H : Type} {enc : TypeId × Value → H} {W : World} {n base : Nat} {sp : Nat → Bool} {hd : Bool} {cs : List Value} {x : DataW H × List MemPlace} (h2 : DataW.trod enc Tryd.prog W base sp hd n 26 cs = some x)
   (hw : ∀ k ∈ DataW.weights Tryd.prog 26 x.1, k ≤ reachBytes) : ∃ d : Do, d.ok ∧ cs = [.int .u8 (d.what : Int), .int .u8 (d.name : Int), .string d.raw, .string d.value, .bool d.a, .bool d.b] ∧ d.raw.size + 1 ≤ Rows.uptoBulk x.1 := by
 obtain ⟨f0, f1, f2, f3, f4, f5, hu, t0, t1, t2, t3, t4, t5, o0, o1, o2, o3, o4, o5⟩ := act_is
 obtain ⟨xs, n', _, hxe, hcl, hxl, hfs⟩ := DataW.trod_struct hu h2
 rw [cellsAct] at hcl
 match cs, hcl, xs, hxl with
 | [v0, v1, v2, v3, v4, v5], _, [x0, x1, x2, x3, x4, x5], _ =>
   have g0 := hfs 0 f0 rfl
   have g1 := hfs 1 f1 rfl
   have g2 := hfs 2 f2 rfl
   have g3 := hfs 3 f3 rfl
   have g4 := hfs 4 f4 rfl
   have g5 := hfs 5 f5 rfl
   rw [t0, o0, cellsByte] at g0
   rw [t1, o1, cellsByte] at g1
   rw [t2, o2, cellsStr] at g2
   rw [t3, o3, cellsStr] at g3
   rw [t4, o4, cellsBool] at g4
   rw [t5, o5, cellsBool] at g5
   obtain ⟨n0, e0, y0, w0⟩ := DataW.trod_int Tryd.underlying5 g0
   obtain ⟨n1, e1, y1, w1⟩ := DataW.trod_int Tryd.underlying5 g1
   obtain ⟨s2, e2, y2, -⟩ := DataW.trod_string Tryd.underlying9 g2
   obtain ⟨s3, e3, y3, -⟩ := DataW.trod_string Tryd.underlying9 g3
   obtain ⟨b4, e4, y4⟩ := DataW.trod_bool Tryd.underlying4 g4
   obtain ⟨b5, e5, y5⟩ := DataW.trod_bool Tryd.underlying4 g5
   simp at e0 e1 e2 e3 e4 e5
   subst e0 e1 e2 e3 e4 e5 y0 y1 y2 y3 y4 y5 hxe
   have b0 := wf_u8 w0
   have b1 := wf_u8 w1
   obtain ⟨q0, rfl⟩ := Int.eq_ofNat_of_zero_le b0.1
   obtain ⟨q1, rfl⟩ := Int.eq_ofNat_of_zero_le b1.1
   have hr := hw s2.data.toList.length (by simp [DataW.weights, hu, DataW.weightsEach])
   have hv := hw s3.data.toList.length (by simp [DataW.weights, hu, DataW.weightsEach])
   have z2 : s2.data.toList.length = s2.size := toL_length s2
   have z3 : s3.data.toList.length = s3.size := toL_length s3
   unfold reachBytes at hr hv
   refine ⟨⟨q0, q1, s2, s3, b4, b5⟩, ⟨by show q0 < 256; omega, by show q1 < 256; omega, by show s2.size ≤ _; omega, by show s3.size ≤ _; omega⟩, rfl, ?_⟩
   show s2.size + 1 ≤ Rows.uptoBulk (DataW.agg [.lit (.int .u8 (q0 : Int)), .lit (.int .u8 (q1 : Int)), .lit (.string s2.data.toList), .lit (.string s3.data.toList), .lit (.bool b4), .lit (.bool b5)])
   simp only [Rows.uptoBulk, Rows.uptoBulkAll]
   omega
set_option maxRecDepth 100000 in
theorem open_act {H : Type} {enc : TypeId × Value → H} {W : World} {base : Nat} {ts : List TypeId} {ds : List (DataW H)} (hsz : (DataW.weightsEach Tryd.prog ts ds).all (· ≤ reachBytes) = true) {j : Nat} {v : Value} {d : DataW H} {p : List MemPlace}
   (ht : ts[j]? = some 26) (hd : ds[j]? = some d) (hv : Value.okWide Tryd.prog W .any base 26 v) (h : DataW.Trod enc Tryd.prog W 0 (fun _ => true) true 26 v d p) :
   ∃ a : Do, v = .agg #[.int .u8 (a.what : Int), .int .u8 (a.name : Int), .string a.raw, .string a.value, .bool a.a, .bool a.b] ∧ a.ok ∧ a.raw.size + 1 ≤ Rows.uptoBulk d := by
 obtain ⟨cs, rfl, hcs⟩ := okWide_struct Tryd.underlying26 hv
 obtain ⟨fuel, hf⟩ := h
 obtain ⟨a, ha, he, hb⟩ := act_cells hf (fun k hk => of_decide_eq_true (List.all_eq_true.1 hsz k (DataW.weights_mem_each ht hd k hk)))
 refine ⟨a, ?_, ha, hb⟩
 have e1 : cs.toList = _ := he
 rw [← Array.toArray_toList (xs := cs), e1]
theorem weightsAll_mem {H : Type} {P : Program} {e : TypeId} : ∀ {l : List (DataW H)} {d : DataW H}, d ∈ l → ∀ n ∈ d.weights P e, n ∈ DataW.weightsAll P e l
 | d' :: r, d, hd, n, hn => by
   simp only [DataW.weightsAll, List.mem_append]
   rcases List.mem_cons.1 hd with rfl | h
   · exact Or.inl hn
   · exact Or.inr (weightsAll_mem h n hn)
set_option maxRecDepth 100000 in
theorem open_acts {H : Type} {enc : TypeId × Value → H} {W : World} {base : Nat} {ts : List TypeId} {ds : List (DataW H)} (hsz : (DataW.weightsEach Tryd.prog ts ds).all (· ≤ reachBytes) = true) {j : Nat} {v : Value} {d : DataW H} {p : List MemPlace}
   (ht : ts[j]? = some 22) (hd : ds[j]? = some d) (hv : Value.okWide Tryd.prog W .any base 22 v) (h : DataW.Trod enc Tryd.prog W 0 (fun _ => true) true 22 v d p) :
   ∃ A len cap, v = .slice A len cap ∧ DS W A len ∧ len ≤ 140737488355328 := by
 obtain ⟨a0, len, cap, rfl⟩ := okWide_slice Tryd.underlying22 hv
 obtain ⟨fuel, hf⟩ := h
 rcases Go.Deep.open_slice Tryd.underlying22 hf with ⟨hcs, hx⟩ | ⟨a, len', cap', m, n, D, Pl, hcs, _, hl, hm, hmm, hx, hall⟩
 · simp [Value.cells] at hcs
   obtain ⟨rfl, rfl, rfl⟩ := hcs
   exact ⟨none, 0, 0, rfl, fun i hi => by omega, by omega⟩
 · simp [Value.cells] at hcs
   obtain ⟨rfl, rfl, rfl⟩ := hcs
   simp only [Prod.mk.injEq] at hx
   obtain ⟨rfl, rfl⟩ := hx
   have hs := sized_slice hsz ht hd Tryd.underlying22
   rw [bytesAct] at hs
   simp only [List.length_map, List.length_range, reachBytes] at hs
   have hlm : len ≤ m := by rw [hmm]; split <;> omega
   refine ⟨some a, len, cap, rfl, ?_, by omega⟩
   intro i hi
   obtain ⟨cs', h1, h2⟩ := hall i (by omega)
   rw [cellsAct] at h1
   have hwt : ∀ k ∈ DataW.weights Tryd.prog 26 (D i), k ≤ reachBytes := fun k hk => by
     refine of_decide_eq_true (List.all_eq_true.1 hsz k (DataW.weights_mem_each ht hd k ?_))
     simp only [DataW.weights, Tryd.underlying22, List.mem_cons, List.mem_append]
     exact Or.inr (Or.inl (weightsAll_mem (List.mem_map.2 ⟨i, List.mem_range.2 hi, rfl⟩) k hk))
   obtain ⟨a', ha', rfl, _⟩ := act_cells h2 hwt
   obtain ⟨_, _, hc⟩ := World.cells?_some h1
   obtain ⟨g, off, spot⟩ := a
   have hspot : spot = none := by
     obtain ⟨cs0, h1, _⟩ := hall 0 (by omega)
     rw [cellsAct] at h1
     obtain ⟨_, _, hc⟩ := World.cells?_some h1
     obtain ⟨v, hv⟩ : ∃ v, cs0[0]? = some v := ⟨cs0[0]'(by omega), List.getElem?_eq_getElem _⟩
     have k0 := (hc 0 (by omega)).trans hv
     simpa [Addr.add] using World.cell?_spot k0
   subst hspot
   have k0 := hc 0 (by omega)
   have k1 := hc 1 (by omega)
   have k2 := hc 2 (by omega)
   have k3 := hc 3 (by omega)
   have k4 := hc 4 (by omega)
   have k5 := hc 5 (by omega)
   rw [Addr.add_lit, Addr.add_lit] at k0 k1 k2 k3 k4 k5
   simp only [List.getElem?_cons_zero, List.getElem?_cons_succ, Nat.add_zero] at k0 k1 k2 k3 k4 k5
   exact ⟨g, off, a', rfl, World.block_lt_of_cell? W _ k0, ha', k0, k1, k2, k3, k4, k5⟩
noncomputable def putRow1 (h : Array Obj) (g : Nat) (cs : Array Value) : Array Obj := h.modify g fun
 | .cells _ t frozen => .cells cs t frozen
 | o => o
noncomputable def laidWorld (os : Os) : World :=
 let w0 := World.holding Tryd.prog os ⟨#[], #[], []⟩
 { w0 with heap := putRow1 w0.heap 1 opVals }
theorem laid_met (os : Os) (args : Array Value) : laidMet Tryd.prog laid ((laidWorld os).forCall (fun _ _ => 0) ⟨#[], args, []⟩).memory :=
 laidMet_of_run' 8 (by kernel_rfl) (by kernel_rfl)
end Va
end
end Go.Proofs.YtpagcoiekeijbaaDoor
