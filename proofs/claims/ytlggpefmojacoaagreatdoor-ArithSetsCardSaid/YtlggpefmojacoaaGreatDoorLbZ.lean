/-
  PROVED: what is set is told by the name (the law ArithSets answers true, and leaves its arguments as they were).
  Conditions: the tables that it reads lie at the start as the program's text lays them (the card ties this).
-/
import Derived.Carry
import Derived.ChangeMaps5
import Derived.ChangeOld
import Derived.ChangeSame
import Derived.ChangeShapes
import Derived.Deep.DeepHandedRow
import Derived.Deep.Slices
import Derived.LaidLaws
import Derived.Lib.LaidTab
import Derived.OpenShut
import Derived.ProofKit
import Derived.SizedLaws
import Derived.SliceStrings
import Derived.Stop.LaidErr
import Derived.Test.YtlggpefmojacoaaGreatDoorCards
import Derived.Test.YtlggpefmojacoaaGreatDoorLa54
import Derived.Test.YtlggpefmojacoaaGreatDoorTie
namespace Go.Proofs.YtlggpefmojacoaaGreatDoor
open Go.RowKit Tx
namespace Ar
open Va (Vr VS VO getD Sorted)

def vA (d : ByteArray) : Vr := ⟨⟨#[97]⟩, d, false, false⟩
def vB (d : ByteArray) : Vr := ⟨⟨#[98]⟩, d, false, false⟩
theorem get_a (da db : ByteArray) : getD [vA da, vB db] (bs [97]) = vA da := rfl
theorem get_b (da db : ByteArray) : getD [vA da, vB db] (bs [98]) = vB db := rfl
theorem toL_dig (n : Int) : toL (digitsOf n) = Lib.itoa n := toL_bs _
def rngN (n : Int) : Prop := -9223372036854775807 ≤ n ∧ n ≤ 9223372036854775807
theorem snd16 {o : Tok} (h : o ∈ ops16) (n : Int) (f : List Vr → V) (l : List Vr) : snd o n f l = match f l with | .error c => .error c | .ok (m, l2) => (match two o n m with | .error c => .error c | .ok r => .ok (r, l2)) := by
  unfold snd
  rw [if_neg (fun e => by subst e; revert h; decide), if_neg (fun e => by subst e; revert h; decide)]
  cases f l <;> rfl
theorem text16 {o : Tok} (h : o ∈ ops16) : toks ([97, 32] ++ o ++ [32, 98]) = [[97], o, [98]] ∧ whole [[97], o, [98]] = .ok (.bin o (.var [97]) (.var [98])) := by
  simp only [ops16, List.mem_cons, List.not_mem_nil, or_false] at h
  rcases h with rfl | rfl | rfl | rfl | rfl | rfl | rfl | rfl | rfl | rfl | rfl | rfl | rfl | rfl | rfl | rfl
  all_goals exact ⟨by kernel_rfl, by kernel_rfl⟩
def withL (l : List Vr) : Except Int Int → V
  | .ok m => .ok (m, l)
  | .error c => .error c
theorem two_eval {o : Tok} (h : o ∈ ops16) {a b : Int} (ha : rngN a) (hb : rngN b) : eval ([97, 32] ++ o ++ [32, 98]) [vA (digitsOf a), vB (digitsOf b)] = withL [vA (digitsOf a), vB (digitsOf b)] (two o a b) := by
  obtain ⟨h1, h2⟩ := text16 h
  have e1 : ev (.var [97]) [vA (digitsOf a), vB (digitsOf b)] = .ok (a, [vA (digitsOf a), vB (digitsOf b)]) := by
    rw [ev, get_a]
    show (match valV (toL (digitsOf a)) with | some n => _ | none => _) = _
    rw [toL_dig, val_itoa ha]
  have e2 : ev (.var [98]) [vA (digitsOf a), vB (digitsOf b)] = .ok (b, [vA (digitsOf a), vB (digitsOf b)]) := by
    rw [ev, get_b]
    show (match valV (toL (digitsOf b)) with | some n => _ | none => _) = _
    rw [toL_dig, val_itoa hb]
  rw [eval, if_neg (by rw [h1]; simp), h1, h2]
  show ev _ _ = _
  rw [ev, e1]
  show snd o a (ev (.var [98])) _ = _
  rw [snd16 h, e2]
  show (match two o a b with | .error c => _ | .ok r => _) = _
  cases two o a b <;> rfl
theorem two_err {o : Tok} {a b c : Int} (e : two o a b = .error c) : c = 131 := by
  unfold two at e
  by_cases h1 : o = [43]
  · rw [if_pos h1] at e; cases e
  rw [if_neg h1] at e
  by_cases h2 : o = [45]
  · rw [if_pos h2] at e; cases e
  rw [if_neg h2] at e
  by_cases h3 : o = [42]
  · rw [if_pos h3] at e; cases e
  rw [if_neg h3] at e
  by_cases h4 : o = [47]
  · rw [if_pos h4] at e
    split at e
    · cases e; rfl
    · cases e
  rw [if_neg h4] at e
  by_cases h5 : o = [37]
  · rw [if_pos h5] at e
    split at e
    · cases e; rfl
    · cases e
  rw [if_neg h5] at e
  exfalso
  by_cases h6 : o = [60, 60]
  · rw [if_pos h6] at e; cases e
  rw [if_neg h6] at e
  by_cases h7 : o = [62, 62]
  · rw [if_pos h7] at e; cases e
  rw [if_neg h7] at e
  by_cases h8 : o = [38]
  · rw [if_pos h8] at e; cases e
  rw [if_neg h8] at e
  by_cases h9 : o = [124]
  · rw [if_pos h9] at e; cases e
  rw [if_neg h9] at e
  by_cases h10 : o = [94]
  · rw [if_pos h10] at e; cases e
  rw [if_neg h10] at e
  repeat' split at e
  all_goals cases e
theorem dig_size {n : Int} (h : rng n) : (digitsOf n).size ≤ 21 := by unfold digitsOf; rw [bs_size]; exact itoa_len h
theorem ok_two {da db : ByteArray} (h1 : da.size ≤ 21) (h2 : db.size ≤ 21) : Ok [vA da, vB db] := by
  refine ⟨?_, fun v hv => ?_⟩
  · exact List.pairwise_cons.2 ⟨fun v hv => by rw [List.mem_singleton.1 hv]; exact (by decide : Va.lt (⟨#[97]⟩ : ByteArray) ⟨#[98]⟩), List.pairwise_singleton _ _⟩
  · rcases List.mem_cons.1 hv with rfl | hv
    · exact Nat.le_trans h1 (by decide)
    · rw [List.mem_singleton.1 hv]; exact Nat.le_trans h2 (by decide)
theorem vs_new (w : World) (l : List Vr) (n : Nat) (cs : Array Value) (t : TypeId) (h : cs = (Va.pvl l).toArray) (hn : n = l.length) : VS (w.alloc (.cells cs t)) (some ⟨w.heap.size, 0, none⟩) n l := by
  subst h hn
  refine ⟨Nat.le_refl _, fun e => (by cases e), fun _ => ⟨w.heap.size, 0, rfl, by simp, fun j u hu => ?_⟩⟩
  rw [Nat.zero_add, cell_of_row _ _ j _ _ _ (heap_alloc_new w _)]
  simpa using hu
end Ar
end Go.Proofs.YtlggpefmojacoaaGreatDoor
namespace Go.Proofs.YtlggpefmojacoaaGreatDoor
open Go.RowKit Tx
namespace Ar
open Va (Vr VS VO getD Sorted)

theorem rng_is {n : Int} (h : rng n) (h0 : (n == -9223372036854775808) = false) : rngN n := by
  have := beq_eq_false_iff_ne.1 h0
  obtain ⟨h1, h2⟩ := h
  exact ⟨by omega, h2⟩
theorem get_1 (da : ByteArray) : getD [vA da] (bs [97]) = vA da := rfl
theorem put_b (da : ByteArray) : Va.set [vA da] (bs [98]) da = .ok [vA da, vB da] := by kernel_rfl
theorem put_a (da d0 : ByteArray) : Va.set [vA da, vB da] (bs [97]) d0 = .ok [vA d0, vB da] := by kernel_rfl
theorem ev_a1 {a : Int} (ha : rngN a) : ev (.var [97]) [vA (digitsOf a)] = .ok (a, [vA (digitsOf a)]) := by
  rw [ev, get_1]
  show (match valV (toL (digitsOf a)) with | some n => _ | none => _) = _
  rw [toL_dig, val_itoa ha]
theorem ev_b2 {a : Int} (ha : rngN a) (d : ByteArray) : ev (.var [98]) [vA d, vB (digitsOf a)] = .ok (a, [vA d, vB (digitsOf a)]) := by
  rw [ev, get_b]
  show (match valV (toL (digitsOf a)) with | some n => _ | none => _) = _
  rw [toL_dig, val_itoa ha]
theorem sets1 {a : Int} (ha : rngN a) : eval [98, 32, 61, 32, 97] [vA (digitsOf a)] = .ok (a, [vA (digitsOf a), vB (digitsOf a)]) := by
  have ht : toks [98, 32, 61, 32, 97] = [[98], [61], [97]] := by kernel_rfl
  have hw : whole [[98], [61], [97]] = .ok (.asg [98] [61] (.var [97])) := by kernel_rfl
  rw [eval, if_neg (by rw [ht]; simp), ht, hw]
  show ev _ _ = _
  rw [ev, ev_a1 ha]
  show putV [98] a _ = _
  unfold putV
  rw [put_b]
theorem sets2 {a : Int} (ha : rngN a) : eval [98] [vA (digitsOf a), vB (digitsOf a)] = .ok (a, [vA (digitsOf a), vB (digitsOf a)]) := by
  have ht : toks [98] = [[98]] := by kernel_rfl
  have hw : whole [[98]] = .ok (.var [98]) := by kernel_rfl
  rw [eval, if_neg (by rw [ht]; simp), ht, hw]
  exact ev_b2 ha _
theorem sets3 (l : List Vr) : eval [97, 32, 43, 61, 32, 98, 44, 32, 49] l = .error 130 := by
  have ht : toks [97, 32, 43, 61, 32, 98, 44, 32, 49] = [[97], [43, 61], [98], [44], [49]] := by kernel_rfl
  have hw : whole [[97], [43, 61], [98], [44], [49]] = .error 130 := by kernel_rfl
  rw [eval, if_neg (by rw [ht]; simp), ht, hw]
theorem sets4 {a : Int} (ha : rngN a) : eval [97, 32, 45, 61, 32, 98] [vA (digitsOf a), vB (digitsOf a)] = .ok (0, [vA (digitsOf 0), vB (digitsOf a)]) := by
  have ht : toks [97, 32, 45, 61, 32, 98] = [[97], [45, 61], [98]] := by kernel_rfl
  have hw : whole [[97], [45, 61], [98]] = .ok (.asg [97] [45, 61] (.var [98])) := by kernel_rfl
  have h1 : asgV [97] [45, 61] a [vA (digitsOf a), vB (digitsOf a)] = .ok 0 := by
    unfold asgV
    rw [if_neg (by decide), get_a]
    show (match valV (toL (digitsOf a)) with | none => _ | some q => _) = _
    rw [toL_dig, val_itoa ha]
    show two [45] a a = _
    unfold two
    rw [if_neg (by decide), if_pos rfl, Int.sub_self, show wrap64 0 = 0 by unfold wrap64; decide]
  rw [eval, if_neg (by rw [ht]; simp), ht, hw]
  show ev _ _ = _
  rw [ev, ev_b2 ha]
  show (match asgV [97] [45, 61] a _ with | .error c => _ | .ok m => putV [97] m _) = _
  rw [h1]
  show putV [97] 0 _ = _
  unfold putV
  rw [put_a]
theorem ok_one {da : ByteArray} (h1 : da.size ≤ 21) : Ok [vA da] := ⟨List.pairwise_singleton _ _, fun v hv => by rw [List.mem_singleton.1 hv]; exact Nat.le_trans h1 (by decide)⟩
set_option maxHeartbeats 4000000 in
set_option maxRecDepth 100000 in
theorem sets_any (a b : Int) (w : World) (hK : KT w) (hra : rng a) (hrb : rng b) :
    Calls Tryz.prog 8 #[.int .i64 a, .int .i64 b] w fun e w' => e = .returned (.bool true) ∧ Below w.heap.size w w' := by
  have HK := Kept.mk hK
  have HRa := Kept.mk hra
  have HAw := Kept.mk (awake_any w hK)
  obtain ⟨da, hda⟩ : ∃ da, da = digitsOf a := ⟨_, rfl⟩
  have HDa := Kept.mk hda
  have HA := Kept.mk (fun W => digits_any a W hra)
  rw [← hda] at HA
  clear hK hra hrb hda
  cases ha : (a == -9223372036854775808) with
  | true =>
    go_enter Tryz.func8, Tryz.ntmps8
    go_wp2_with (go_at_call 11; refine HAw.out.mono ?_; rintro e w1 ⟨rfl, hb⟩; have HB1 := Kept.mk hb; clear hb)
    go_ret
    exact ⟨rfl, HB1.out⟩
  | false =>
    cases hb : (b == -9223372036854775808) with
    | true =>
      go_enter Tryz.func8, Tryz.ntmps8
      go_wp2_with (go_at_call 11; refine HAw.out.mono ?_; rintro e w1 ⟨rfl, hb⟩; have HB1 := Kept.mk hb; clear hb)
      go_ret
      exact ⟨rfl, HB1.out⟩
    | false =>
      have HRn := Kept.mk (rng_is HRa.out ha)
      have HSz : Kept (da.size ≤ 21) := ⟨by rw [HDa.out]; exact dig_size HRa.out⟩
      have E1 := Kept.mk (sets1 HRn.out)
      have E2 := Kept.mk (sets2 HRn.out)
      have E4 := Kept.mk (sets4 HRn.out)
      rw [← HDa.out] at E1 E2 E4
      go_enter Tryz.func8, Tryz.ntmps8
      go_upto_region 7 with (first
        | (go_at_call 11; refine HAw.out.mono ?_; rintro e w1 ⟨rfl, hb⟩; have HB1 := Kept.mk hb; clear hb)
        | (go_at_call 16; refine (HA.out w1).mono ?_; rintro e w2 ⟨rfl, hb2⟩; have HB2 := Kept.mk (HB1.out.trans (hb2.mono HB1.out.size)); clear hb2))
      obtain ⟨w3, hw3⟩ : ∃ w3, w3 = w2.alloc (.cells #[.string ⟨#[97]⟩, .string da, .bool false, .bool false] 31) := ⟨_, rfl⟩
      have HB3 : Kept (Below w.heap.size w w3) := ⟨by rw [hw3]; exact HB2.out.alloc HB2.out.size _⟩
      have HV3 : Kept (VS w3 (some ⟨w2.heap.size, 0, none⟩) 1 [vA da]) := ⟨by rw [hw3]; exact vs_new w2 _ 1 _ _ rfl rfl⟩
      have H1 := Kept.mk (eval_any ⟨#[98, 32, 61, 32, 97]⟩ [vA da] w3 (some ⟨w2.heap.size, 0, none⟩) 1 1 HV3.out rfl (ok_one HSz.out) (HK.out.below HB3.out) (by decide) (show 1 ≤ 1000 by decide))
      rw [show eval (toL ⟨#[98, 32, 61, 32, 97]⟩) [vA da] = .ok (a, [vA da, vB da]) from E1.out] at H1
      rw [← hw3]
      clear hw3
      have T1 : Kept True := ⟨trivial⟩
      have T2 : Kept True := ⟨trivial⟩
      have T3 : Kept True := ⟨trivial⟩
      have T4 : Kept True := ⟨trivial⟩
      go_wp2_with (first
        | (go_at_call 17; have := T1; refine H1.out.mono ?_; clear T1; intro e w4 h1; obtain ⟨A4, k4, rfl, hV4, hb4⟩ := EvE.ok (n := a) (m := [vA da, vB da]) (mn := 2) h1 rfl
           have HB4 := Kept.mk (HB3.out.trans (hb4.out.mono HB3.out.size))
           have HV4 := hV4
           have H2 := Kept.mk (eval_any ⟨#[98]⟩ [vA da, vB da] w4 A4 2 k4 hV4.out rfl (ok_two HSz.out HSz.out) (HK.out.below HB4.out) (by decide) (show 2 ≤ 1000 by decide))
           rw [show eval (toL ⟨#[98]⟩) [vA da, vB da] = .ok (a, [vA da, vB da]) from E2.out] at H2
           clear h1 hb4 hV4)
        | (go_at_call 17; have := T2; refine H2.out.mono ?_; clear T2; intro e w5 h1; obtain ⟨A5, k5, rfl, hV5, hb5⟩ := EvE.ok (n := a) (m := [vA da, vB da]) (mn := 2) h1 rfl
           have HB5 := Kept.mk (HB4.out.trans (hb5.out.mono HB4.out.size))
           have HV5 := hV5
           have H3 := Kept.mk (eval_any ⟨#[97, 32, 43, 61, 32, 98, 44, 32, 49]⟩ [vA da, vB da] w5 A5 2 k5 hV5.out rfl (ok_two HSz.out HSz.out) (HK.out.below HB5.out) (by decide) (show 2 ≤ 1000 by decide))
           rw [show eval (toL ⟨#[97, 32, 43, 61, 32, 98, 44, 32, 49]⟩) [vA da, vB da] = .error 130 from sets3 _] at H3
           clear h1 hb5 hV5)
        | (go_at_call 17; have := T3; refine H3.out.mono ?_; clear T3; intro e w6 h1; obtain ⟨rfl, hb6⟩ := EvE.no (c := 130) h1
           have HB6 := Kept.mk (HB5.out.trans (hb6.out.mono HB5.out.size))
           have H4 := Kept.mk (eval_any ⟨#[97, 32, 45, 61, 32, 98]⟩ [vA da, vB da] w6 A5 2 k5 (HV5.out.below hb6.out) rfl (ok_two HSz.out HSz.out) (HK.out.below HB6.out) (by decide) (show 2 ≤ 1000 by decide))
           rw [show eval (toL ⟨#[97, 32, 45, 61, 32, 98]⟩) [vA da, vB da] = .ok (0, [vA (digitsOf 0), vB da]) from E4.out] at H4
           clear h1 hb6)
        | (go_at_call 17; have := T4; refine H4.out.mono ?_; clear T4; intro e w7 h1; obtain ⟨A7, k7, rfl, _, hb7⟩ := EvE.ok (n := 0) (m := [vA (digitsOf 0), vB da]) (mn := 2) h1 rfl
           have HB7 := Kept.mk (HB6.out.trans (hb7.out.mono HB6.out.size))
           clear h1 hb7))
      go_ret
      exact ⟨rfl, HB7.out⟩
end Ar
end Go.Proofs.YtlggpefmojacoaaGreatDoor
namespace Go.Proofs.YtlggpefmojacoaaGreatDoor
open Go.RowKit Go.ChangeShapes
namespace Law
variable {H : Type} {enc : TypeId × Value → H} {P : Program}

def typesOk (P : Program) (ts : List TypeId) : Bool := ts.all fun t => P.readableRec t && decide (t < P.types.size)

theorem all_stay (hl : laidOutB P = true) {W W' : World} {sp : Nat → Bool} : ∀ {ts : List TypeId} {vs : List Value} {ds : List (DataW H)} {ps : List MemPlace}, typesOk P ts = true →
    DataW.TrodAll enc P W 0 (fun _ => true) true ts vs ds ps → (∀ p ∈ ps, W.sameAt W' p) → (∀ p ∈ ps, sp p.block = true) → DataW.TrodAll enc P W' 0 sp true ts vs ds ps
  | [], [], [], _, _, h, _, _ => h
  | t :: ts, v :: vs, d :: ds, ps, hr, h, hs, hsp => by
    obtain ⟨p, q, h1, h2, rfl⟩ := h
    simp only [typesOk, List.all_cons, Bool.and_eq_true, decide_eq_true_eq] at hr
    exact ⟨p, q, WideElems.Trod_stays hl hr.1.1 hr.1.2 h1 (fun x hx => hs x (List.mem_append_left _ hx)) (fun x hx => hsp x (List.mem_append_left _ hx)),
      all_stay hl hr.2 h2 (fun x hx => hs x (List.mem_append_right _ hx)) (fun x hx => hsp x (List.mem_append_right _ hx)), rfl⟩

theorem true_trod {W : World} {b : Nat} {sp : Nat → Bool} {hd : Bool} {B : TypeId} (hB : P.underlying B = some .bool) : DataW.Trod enc P W b sp hd B (.bool true) (.lit (.bool true)) [] :=
  ⟨1, by simp [DataW.trod, Value.cells, hB]⟩

theorem post {f : Func} {s : ChangeSpec} {apart fresh handsOn again : Bool} {W W' : World} {args : Array Value} {ds : List (DataW H)} {before : List MemPlace} {B : TypeId}
    (hl : laidOutB P = true) (hts : typesOk P f.params.toList = true) (hrt : f.resultTypes = #[B]) (hB : P.underlying B = some .bool) (hvars : s.vars = [])
    (hfn : s.fn H (ds ++ []) = { results := [.lit (.bool true)], args := ds }) (hW : DataW.Whole enc P f.params.toList s.vars apart W args.toList ds [] before) (hb : Below W.heap.size W W') :
    s.post enc P f apart fresh handsOn again W args (.bool true) W' := by
  have hlt : ∀ p ∈ before, p.block < W.heap.size := fun p hp => hW.lt p hp
  obtain ⟨p, q, hA, hV, hpq, hz, hn⟩ := id hW
  have hV' := hV
  rw [hvars] at hV'
  obtain ⟨-, rfl⟩ := trodVars_none hV'
  rw [List.append_nil] at hpq
  subst hpq
  have stays : ∀ sp : Nat → Bool, (∀ x ∈ before, sp x.block = true) → DataW.TrodAll enc P W' 0 sp true f.params.toList args.toList ds before :=
    fun sp hsp => all_stay hl hts hA (fun x hx => hb.same (hlt x hx)) hsp
  have res : ∀ (b : Nat) (sp : Nat → Bool) (hd : Bool), DataW.TrodAll enc P W' b sp hd f.resultTypes.toList ((Value.bool true).resultList f.resultTypes.size) [.lit (.bool true)] [] := by
    intro b sp hd
    rw [hrt]
    exact ⟨[], [], true_trod hB, rfl, rfl⟩
  have noVars : ∀ sp : Nat → Bool, DataW.TrodVars enc P W' sp s.vars ([] : List (DataW H)) [] := fun sp => by rw [hvars]; rfl
  refine ⟨ds, [], before, [], before, [], hW, by rw [hfn]; exact res _ _ _, by rw [hfn]; exact stays _ (fun x hx => decide_eq_true (hlt x hx)), by rw [hfn]; exact noVars _, ?_, fun _ => ⟨ok_one hrt rfl (okWide_bool_mk hB true), ?_⟩⟩
  · exact World.keptBut_mono (fun x hx => ⟨hx, .inr (.inl hx)⟩) (hb.frame (· ∈ before))
  · refine ⟨_, _, [] ++ before ++ [], ⟨[] ++ before, [], trodAll_append (stays _ (fun _ _ => rfl)) (res _ _ _), noVars _, rfl, ?_, ?_⟩, ?_⟩
    · intro b off hp
      have hin : MemPlace.cell b off ∈ before := by simpa using hp
      rw [hb.frozen (p := ⟨b, off, none⟩) (hlt _ hin)]
      exact hz b off hin
    · intro ha
      simpa using hn ha
    · intro x hx _
      simpa using hx
end Law
end Go.Proofs.YtlggpefmojacoaaGreatDoor
namespace Go.Proofs.YtlggpefmojacoaaGreatDoor
open Go.ChangeShapes Go.WideShapes Go.ChangeAt Go.RowKit Tx
namespace Ar
open Wx (Kit opVals wops)

theorem own : ownKnob Tryz.prog.godebug = none := by kernel_rfl
theorem laidOut : laidOutB Tryz.prog = true := by kernel_rfl
theorem gOps : Tryz.prog.globalNamed "scullion/word.operators" = some 8 := by kernel_rfl
theorem gOpsType : (Tryz.prog.globals[8]?).map (·.type) = some 184 := by kernel_rfl
theorem cellsOps : Tryz.prog.cellsOf 184 = 12 := by kernel_rfl
theorem cellsStr : Tryz.prog.cellsOf 9 = 1 := by kernel_rfl
theorem gPow : Tryz.prog.globalNamed "internal/strconv.uint64pow10" = some 1 := by kernel_rfl
theorem gPowType : (Tryz.prog.globals[1]?).map (·.type) = some 152 := by kernel_rfl
theorem cellsPow : Tryz.prog.cellsOf 152 = 20 := by kernel_rfl
theorem cellsU64 : Tryz.prog.cellsOf 116 = 1 := by kernel_rfl
theorem gSyn : Tryz.prog.globalNamed "strconv.ErrSyntax" = some 4 := by kernel_rfl
theorem gSynType : (Tryz.prog.globals[4]?).map (·.type) = some 118 := by kernel_rfl
theorem gRng : Tryz.prog.globalNamed "strconv.ErrRange" = some 5 := by kernel_rfl
theorem gRngType : (Tryz.prog.globals[5]?).map (·.type) = some 118 := by kernel_rfl

def laid : List (String × DataW Unit) := [("math/bits.deBruijn32tab", Rows.laid_math_bits_deBruijn32tab), ("math/bits.deBruijn64tab", Rows.laid_math_bits_deBruijn64tab), ("internal/strconv.uint64pow10", Rows.laid_internal_strconv_uint64pow10), ("unicode/utf8.acceptRanges", Rows.laid_unicode_utf8_acceptRanges), ("strconv.ErrRange", Rows.laid_strconv_ErrRange), ("strconv.ErrSyntax", Rows.laid_strconv_ErrSyntax), ("scullion/word.operators", Rows.laid_scullion_word_operators), ("unicode/utf8.first", Rows.laid_unicode_utf8_first)]
theorem cells_of_strs {H : Type} {enc : TypeId × Value → H} {P : Program} {w : World} {base : Nat} {sp : Nat → Bool} {held : Bool} {fuel : Nat} {t e : TypeId} {n : Nat} {cs : List Value} {ls : List (List UInt8)} {p : List MemPlace}
    (ht : P.underlying t = some (.array n e)) (he : P.underlying e = some .string) (hce : P.cellsOf e = 1) (hct : P.cellsOf t = n)
    (h : DataW.trod enc P w base sp held fuel t cs = some (.agg (ls.map fun l => .lit (.string l)), p)) : cs = ls.map fun l => Value.string (bs l) := by
  cases fuel with
  | zero => simp [DataW.trod] at h
  | succ fuel =>
    simp only [DataW.trod, ht, hce, hct, Nat.mul_one] at h
    split at h
    · rename_i hl
      obtain ⟨xs, hm, hx⟩ := Option.map_eq_some_iff.1 h
      have hxs : xs.map (·.1) = ls.map fun l => (DataW.lit (.string l) : DataW H) := by
        have := congrArg Prod.fst hx
        simpa using this
      have hxl : xs.length = n := by simpa using Lib.mapM_length hm
      have hzl : ls.length = n := by
        have := congrArg List.length hxs
        simp at this
        omega
      apply List.ext_getElem?
      intro i
      by_cases hi : i < n
      · obtain ⟨b, hb, hf⟩ := Lib.mapM_at hm i i (by simp [hi])
        obtain ⟨z, hc, rfl, _⟩ := DataW.trod_string he hf
        have h1 : cs[i]? = some (.string z) := by
          have := congrArg (·[0]?) hc
          simpa [List.getElem?_take, List.getElem?_drop] using this
        have h2 : (xs.map (·.1))[i]? = some (DataW.lit (.string z.data.toList) : DataW H) := by simp [hb]
        rw [hxs] at h2
        simp only [List.getElem?_map, Option.map_eq_some_iff, DataW.lit.injEq, Lit.string.injEq] at h2
        obtain ⟨l, hl2, e2⟩ := h2
        have e3 : bs l = z := by rw [e2]; exact bs_toL z
        simp [h1, hl2, e3]
      · rw [List.getElem?_eq_none (by omega), List.getElem?_eq_none (by simp; omega)]
    · cases h
theorem var_block {P : Program} {w : World} {n : String} {cs : Array Value} {g : Nat} (hg : P.globalNamed n = some g) (h : w.var? P n = some cs) : ∃ t fr, w.heap[g]? = some (.cells cs t fr) := by
  unfold World.var? at h
  rw [hg] at h
  simp only [Option.bind_some] at h
  split at h
  · rename_i cs' t fr hx
    obtain rfl := Option.some.inj h
    exact ⟨t, fr, hx⟩
  · cases h
theorem kit_head {W : World} {r : List (String × DataW Unit)} (h1 : laidMet Tryz.prog (("scullion/word.operators", Rows.laid_scullion_word_operators) :: r) W) (hsh : W.ShapedOpen Tryz.prog) : Kit W := by
  refine ⟨Tryz.laysM145.s1_3 W hsh, ?_⟩
  obtain ⟨ps, ⟨g', t', cs, fuel, p, q, hg', ht', hvar, hd, _, _⟩, _⟩ := h1
  obtain rfl := Option.some.inj (gOps.symm.trans hg')
  obtain rfl := Option.some.inj (gOpsType.symm.trans ht')
  have hc := cells_of_strs (ls := wops) Tryz.underlying184 Tryz.underlying9 cellsStr cellsOps hd
  have hcs : cs = opVals := Array.ext' (by rw [hc]; rfl)
  obtain ⟨t, fr, hb⟩ := var_block gOps hvar
  exact ⟨t, fr, by rw [← hcs]; exact hb⟩
theorem err_of {P : Program} {n nm : String} {x : DataW Unit} {r : List (String × DataW Unit)} {W : World} {g : Nat} {ti : TypeId} {ms : Array (String × TypeId)}
    (h : laidMet P ((n, .iface nm x) :: r) W) (hg : P.globalNamed n = some g) (ht : (P.globals[g]?).map (·.type) = some ti) (hi : P.underlying ti = some (.interface ms)) : ∃ tp p, W.var? P n = some #[.iface tp p] := by
  obtain ⟨ps, ⟨g0, t0, cs0, f0, p0, q0, hg0, ht0, hv0, hd0, _, e0⟩, _, _⟩ := h
  obtain rfl := Option.some.inj (hg.symm.trans hg0)
  obtain rfl := Option.some.inj (ht.symm.trans ht0)
  obtain ⟨_, u, v, hc, _, _⟩ := iface_of_trod hi hd0
  obtain ⟨l0⟩ := cs0
  obtain rfl : l0 = [.iface u v] := hc
  exact ⟨u, v, hv0⟩

set_option maxRecDepth 100000 in
theorem kt_of {W : World} (h : laidMetH Tryz.prog laid W) (hsh : W.ShapedOpen Tryz.prog) : KT W := by
  have h1 : laidMet Tryz.prog laid W := h
  have h3 := laidMet.tail (laidMet.tail h1)
  have h5 := laidMet.tail (laidMet.tail h3)
  have h6 := laidMet.tail h5
  have h7 := laidMet.tail h6
  obtain ⟨t1, p1, e1⟩ := err_of h6 gSyn gSynType Tryz.underlying118
  obtain ⟨t2, p2, e2⟩ := err_of h5 gRng gRngType Tryz.underlying118
  obtain ⟨_, _, b1⟩ := var_block gSyn e1
  obtain ⟨_, _, b2⟩ := var_block gRng e2
  exact ⟨kit_head h7 hsh, Lib.tabIs_of_head (zs := Lib.pow10Tab) gPow gPowType Tryz.underlying152 Tryz.underlying116 cellsU64 cellsPow h3, ⟨t1, p1, cell_of_row _ _ 0 _ _ _ b1⟩, ⟨t2, p2, cell_of_row _ _ 0 _ _ _ b2⟩⟩
theorem wf_i64 {n : Int} (h : (Lit.int .i64 n).wf = true) : rng n := by
  simp only [Lit.wf, Bool.and_eq_true, decide_eq_true_eq] at h
  have e0 : IntKind.i64.min = -9223372036854775808 := by decide
  have e1 : IntKind.i64.max = 9223372036854775807 := by decide
  rw [e0, e1] at h
  exact h
theorem wf_u8 {n : Int} (h : (Lit.int .u8 n).wf = true) : 0 ≤ n ∧ n < 256 := by
  simp only [Lit.wf, Bool.and_eq_true, decide_eq_true_eq] at h
  have e0 : IntKind.u8.min = 0 := by decide
  have e1 : IntKind.u8.max = 255 := by decide
  rw [e0, e1] at h
  omega
def synS : ByteArray := ⟨#[105, 110, 118, 97, 108, 105, 100, 32, 115, 121, 110, 116, 97, 120]⟩
def rngS : ByteArray := ⟨#[118, 97, 108, 117, 101, 32, 111, 117, 116, 32, 111, 102, 32, 114, 97, 110, 103, 101]⟩
noncomputable def low : Nat := (World.holding Tryz.prog default ⟨#[], #[], []⟩).heap.size
noncomputable def putRow (h : Array Obj) (g : Nat) (cs : Array Value) : Array Obj := h.modify g fun
  | .cells _ t frozen => .cells cs t frozen
  | o => o
def tab32 : List Int := [0, 1, 28, 2, 29, 14, 24, 3, 30, 22, 20, 15, 25, 17, 4, 8, 31, 27, 13, 23, 21, 19, 16, 7, 26, 12, 18, 6, 11, 5, 10, 9]
def tab64 : List Int := [0, 1, 56, 2, 57, 49, 28, 3, 61, 58, 42, 50, 38, 29, 17, 4, 62, 47, 59, 36, 45, 43, 51, 22, 53, 39, 33, 30, 24, 18, 12, 5, 63, 55, 48, 27, 60, 41, 37, 16, 46, 35, 44, 21, 52, 32, 23, 11, 54, 26, 40, 15, 34, 20, 31, 10, 25, 14, 19, 9, 13, 8, 7, 6]
def tabAcc : List Int := [128, 191, 160, 191, 128, 159, 144, 191, 128, 143, 0, 0, 0, 0, 0, 0, 0, 0, 0, 0, 0, 0, 0, 0, 0, 0, 0, 0, 0, 0, 0, 0]
noncomputable def laidWorld (os : Os) : World :=
  let w0 := World.holding Tryz.prog os ⟨#[.cells #[.string synS] 173, .cells #[.string rngS] 173], #[], []⟩
  { w0 with heap := putRow (putRow (putRow (putRow (putRow (putRow (putRow (putRow w0.heap 6 (tab32.map (Value.int .u8)).toArray) 7 (tab64.map (Value.int .u8)).toArray) 1 (Lib.pow10Tab.map (Value.int .u64)).toArray)
      8 opVals) 3 (tabAcc.map (Value.int .u8)).toArray) 2 (Pinned.utf8FirstZ.map fun (n : Nat) => Value.int .u8 (n : Int)).toArray)
      4 #[.iface 171 (.pointer (some ⟨low, 0, none⟩))]) 5 #[.iface 171 (.pointer (some ⟨low + 1, 0, none⟩))] }
theorem laid_met (os : Os) (args : Array Value) : laidMet Tryz.prog laid ((laidWorld os).forCall (fun _ _ => 0) ⟨#[], args, []⟩).memory :=
  laidMet_of_run' 8 (by kernel_rfl) (by kernel_rfl)
end Ar
end Go.Proofs.YtlggpefmojacoaaGreatDoor
namespace Go.Proofs.YtlggpefmojacoaaGreatDoor
open Go.ChangeShapes Go.WideShapes Go.ChangeAt Go.RowKit Tx
namespace Ar

set_option maxRecDepth 100000 in
theorem rsets_contract (H : Type) (enc : TypeId × Value → H) (W : World) (base : Nat) (args : Array Value) (ds gs : List (DataW H)) (before : List MemPlace)
    (hval : ∀ (j : Nat) t v, Tryz.f8.params[j]? = some t → args[j]? = some v → Value.okWide Tryz.prog W .any base t v)
    (hW : DataW.Whole enc Tryz.prog Tryz.f8.params.toList Rows.arithSetsSpec.vars false W args.toList ds gs before)
    (hsz : (DataW.weightsEach Tryz.prog (Tryz.f8.params.toList ++ (OpenSpec.ofChange Rows.arithSetsSpec).bare.plain.varTypes Tryz.prog) (ds ++ gs)).all (· ≤ reachBytes) = true)
    (hL : laidMetH Tryz.prog Rows.arithSetsRow.laid W) (hsh : W.ShapedOpen Tryz.prog) :
    Calls Tryz.prog 8 args W fun e W' => ∃ v, e = .returned v ∧ Rows.arithSetsSpec.post enc Tryz.prog Tryz.f8 false true false false W args v W' := by
  have hW' := hW
  obtain ⟨p, q, hA0, hV, rfl, hfz, hnd⟩ := hW
  obtain ⟨rfl, rfl⟩ := trodVars_none hV
  have hA : DataW.TrodAll enc Tryz.prog W 0 (fun _ => true) true Tryz.f8.params.toList args.toList ds p := hA0
  rw [Tryz.params8] at hA hval hsz
  obtain ⟨v0, vs0, d0, ds0, p0, q0, hargs, rfl, rfl, h0, r0⟩ := trodAll_cons hA
  obtain ⟨v1, vs1, d1, ds1, p1, q1, rfl, rfl, rfl, h1, r1⟩ := trodAll_cons r0
  obtain ⟨rfl, rfl, rfl⟩ := trodAll_nil r1
  obtain rfl : args = #[v0, v1] := by cases args; simp_all
  obtain ⟨a, rfl, rfl, rfl, ha⟩ := open_int Tryz.underlying3 (hval 0 3 v0 rfl rfl) h0
  have ar := wf_i64 ha
  obtain ⟨b, rfl, rfl, rfl, hb⟩ := open_int Tryz.underlying3 (hval 1 3 v1 rfl rfl) h1
  have br := wf_i64 hb
  refine (sets_any a b W (kt_of hL hsh) ar br).mono fun e W' ⟨he, hb⟩ => ?_
  subst he
  exact ⟨_, rfl, Law.post laidOut (by kernel_rfl) (by kernel_rfl) Tryz.underlying4 rfl rfl hW' hb⟩

theorem rsets_laid_met (os : Os) : laidMet Tryz.prog Rows.arithSetsRow.laid ((laidWorld os).forCall (fun _ _ => 0) ⟨#[], #[Value.int .i64 0, Value.int .i64 0], []⟩).memory :=
  laid_met os _
theorem rsets_reads (os : Os) {H : Type} (enc : TypeId × Value → H) : ∃ places, DataW.whole enc Tryz.prog ((laidWorld os).forCall (fun _ _ => 0) ⟨#[], #[Value.int .i64 0, Value.int .i64 0], []⟩).memory Tryz.f8.params.toList Rows.arithSetsSpec.vars false #[Value.int .i64 0, Value.int .i64 0].toList 8 = some ([.lit (.int .i64 0), .lit (.int .i64 0)], [], places) :=
  ⟨[], by kernel_rfl⟩

set_option maxRecDepth 100000 in
theorem rsets_lifted (os : Os) (started : os.Started) (H : Type) (enc : TypeId × Value → H) (F : Stop.Interp) :
    ReturnsInHanded {} Tryz.checked os 8 .any ((OpenSpec.ofChange Rows.arithSetsSpec).preRow enc Tryz.prog Tryz.f8 Rows.arithSetsRow.domain false Rows.arithSetsRow.laid)
      (((OpenSpec.ofChange Rows.arithSetsSpec).at F).post enc Tryz.prog Tryz.f8 false true false false) := by
  obtain ⟨places, hx⟩ := rsets_reads os enc
  refine returnsInHanded_of_row (C := Tryz.checked) (s := OpenSpec.ofChange Rows.arithSetsSpec) own started (by kernel_rfl) Tryz.func8
    (witness_row_at (enc := enc) (C := Tryz.checked) false (laidWorld os) #[Value.int .i64 0, Value.int .i64 0] rfl (by kernel_rfl) (by kernel_rfl) (by kernel_rfl)
      (OpenSpec.preRow_of_cond 8 hx (by kernel_rfl) (fun k hk => by cases hk) (by kernel_rfl) (rsets_laid_met os))) ?_
  intro W base args ds gs before hval hW _ _ hsz hL hsh _
  exact rsets_contract H enc W base args ds gs before hval hW hsz hL hsh

theorem rsets_said : Rows.ArithSetsSaid :=
  OpenClaim.holds_of_cond 8 Tryz.f8 rfl rfl rfl rfl rfl rfl rfl ⟨rfl, rfl, rfl, rfl, rfl⟩ rfl rfl rfl rfl rfl (by kernel_rfl) Tryz.func8 (by kernel_rfl)
    (of_decide_eq_true (by kernel_rfl)) (by unfold Func.isWrapper; first | (rw [if_pos (by decide +kernel)]; kernel_rfl) | (rw [if_neg (by decide +kernel)]; exact ⟨rfl, rfl⟩))
    (fun os started H enc _ F => by rw [OpenClaim.pre_eq_preRow]; exact rsets_lifted os started H enc F)

theorem rsets_plain (f : FuncId) (fn : Func) (hf : Tryz.pinned.checked.prog.funcNamed "scullion/scullionlaw13.ArithSets" = some f) (hfn : Tryz.pinned.checked.prog.funcs[f]? = some fn) :
    true = Tryz.pinned.checked.prog.looks [] ∧ ∀ (j : Nat) t, fn.params[j]? = some t → Tryz.pinned.checked.prog.wantsStandIn t = false := by
  obtain rfl : f = 8 := Option.some.inj ((show Tryz.prog.funcNamed "scullion/scullionlaw13.ArithSets" = some 8 by kernel_rfl).symm.trans hf) |>.symm
  obtain rfl : fn = Tryz.f8 := (Option.some.inj (Tryz.func8.symm.trans hfn)).symm
  refine ⟨by kernel_rfl, fun j t ht => ?_⟩
  rw [Tryz.params8] at ht
  have hm := Array.mem_of_getElem? ht
  simp at hm
  subst hm
  exact (show Tryz.prog.wantsStandIn 3 = false by kernel_rfl)

theorem rsets_card : Rows.ArithSetsCardSaid :=
  Claim7.holds_tied_plain_at .later [] _ _ _ _ rsets_said (fun _ h => by cases h) (by kernel_rfl) (fun _ h => by cases h) arithSets_row_tie rfl ⟨rfl, rfl⟩ (by kernel_rfl) rfl rsets_plain (by kernel_rfl)
end Ar
end Go.Proofs.YtlggpefmojacoaaGreatDoor
