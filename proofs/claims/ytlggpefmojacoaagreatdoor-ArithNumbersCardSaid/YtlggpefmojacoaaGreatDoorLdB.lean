/-
  The document's evaluator, second half; same.
-/
import Derived.Test.YtlggpefmojacoaaGreatDoorLdA
import Derived.Deep.QuietTactic
import Derived.OwnWalk
section
namespace Go.Proofs.YtlggpefmojacoaaGreatDoor
open Go.RowKit Tx
namespace Ar
open Va (Vr VS getD set Sorted)

def LS (live : Bool) (p : R) (f : P) (least : Nat) (l : List Vr) (v : Int) (s' : List UInt8) (l' : List Vr) (c : Int) : Prop :=
 (c = 0 ∧ ∃ x, BS live p f least l v s' l' x) ∨ (c ≠ 0 ∧ ∀ u s3 l3, DRes live p l u s3 l3 c)
def BinC (f : P) (d : Int) (least : Nat) : Prop := ∀ (w : World) (b : Nat) (s : List UInt8) (l : List Vr) (live : Bool), QM w b s l 0 → l.length + s.length ≤ 100000 → LivOk live (lev f (11 - least) (toks s)) →
 Calls Tryz.prog 87 #[.pointer (some ⟨b, 0, none⟩), .int .i64 (least : Int), .bool live, .int .i64 d] w (DOut w b s.length (l.length + s.length) live (lev f (11 - least) (toks s)) l)
section
variable {live : Bool} {f : P} {least : Nat} {p : R} {s q s2 : List UInt8} {l l1 l2 : List Vr} {v v2 : Int} {c : Int} {x : Ex} {o : Tok}
theorem bit_ne (v : Int) : bit (v != 0) = if v = 0 then 0 else 1 := by
 by_cases h : v = 0
 · subst h; rfl
 · rw [if_neg h]; unfold bit; rw [if_pos (by simpa using h)]
theorem ls_or (hf : ∀ ts e r, f ts = .ok (e, r) → r <:+ ts) (h : BS live p f least l v s l1 x) (ho : opS (trim s) = [124, 124]) (hgo : ¬ (levelOf [124, 124] < least ∨ levelOf [124, 124] = 0)) (hq : q = (trim s).drop ([124, 124] : Tok).length) (hL : LivOk live p) {live' : Bool} (hlv : live' = (live && decide (v = 0)))
   (hd : DRes live' (lev f (11 - (levelOf [124, 124] + 1)) (toks q)) l1 v2 s2 l2 c) {v' : Int} (hv' : v' = if v = 0 then bit (v2 != 0) else 1) : LS live p f least l v' s2 l2 c := by
 rw [show 11 - (levelOf [124, 124] + 1) = 10 - levelOf [124, 124] by omega] at hd
 have hll : live = false → live' = false := fun e => by rw [hlv, e]; rfl
 by_cases hc : c = 0
 · subst hc
   refine .inl ⟨rfl, bs_next hf h ho hgo hq hd hll fun hlt y h1 h2 => ?_⟩
   rw [snd_or, hv']
   by_cases hv : v = 0
   · rw [if_pos hv, if_pos hv, h1 (by rw [hlv, hlt, decide_eq_true hv]; rfl)]
   · rw [if_neg hv, if_neg hv, h2 (by rw [hlv, hlt, decide_eq_false hv]; rfl)]
 · refine .inr ⟨hc, fun u s3 l3 => bs_fail hf h ho hgo hq hL hd hc hll fun hlt y h1 => ?_⟩
   rw [hlv, Bool.and_eq_true, decide_eq_true_eq] at hlt
   rw [snd_or, if_pos hlt.2, h1]
theorem ls_and (hf : ∀ ts e r, f ts = .ok (e, r) → r <:+ ts) (h : BS live p f least l v s l1 x) (ho : opS (trim s) = [38, 38]) (hgo : ¬ (levelOf [38, 38] < least ∨ levelOf [38, 38] = 0)) (hq : q = (trim s).drop ([38, 38] : Tok).length) (hL : LivOk live p) {live' : Bool} (hlv : live' = (live && decide (v ≠ 0)))
   (hd : DRes live' (lev f (11 - (levelOf [38, 38] + 1)) (toks q)) l1 v2 s2 l2 c) {v' : Int} (hv' : v' = if v = 0 then 0 else bit (v2 != 0)) : LS live p f least l v' s2 l2 c := by
 rw [show 11 - (levelOf [38, 38] + 1) = 10 - levelOf [38, 38] by omega] at hd
 have hll : live = false → live' = false := fun e => by rw [hlv, e]; rfl
 by_cases hc : c = 0
 · subst hc
   refine .inl ⟨rfl, bs_next hf h ho hgo hq hd hll fun hlt y h1 h2 => ?_⟩
   rw [snd_and, hv']
   by_cases hv : v = 0
   · rw [if_pos hv, if_pos hv, h2 (by rw [hlv, hlt]; simp [hv])]
   · rw [if_neg hv, if_neg hv, h1 (by rw [hlv, hlt]; simp [hv])]
 · refine .inr ⟨hc, fun u s3 l3 => bs_fail hf h ho hgo hq hL hd hc hll fun hlt y h1 => ?_⟩
   rw [hlv, Bool.and_eq_true, decide_eq_true_eq] at hlt
   rw [snd_and, if_neg hlt.2, h1]
theorem ls_dead (hf : ∀ ts e r, f ts = .ok (e, r) → r <:+ ts) (h : BS live p f least l v s l1 x) (ho : opS (trim s) = o) (hgo : ¬ (levelOf o < least ∨ levelOf o = 0)) (hq : q = (trim s).drop o.length) (hL : LivOk live p) (h1 : o ≠ [124, 124]) (h2 : o ≠ [38, 38])
   (hd : DRes live (lev f (11 - (levelOf o + 1)) (toks q)) l1 v2 s2 l2 c) (hx : live = false ∨ c ≠ 0) {u : Int} : LS live p f least l u s2 l2 c := by
 rw [show 11 - (levelOf o + 1) = 10 - levelOf o by omega] at hd
 by_cases hc : c = 0
 · subst hc
   have hlf : live = false := hx.resolve_right (fun e => e rfl)
   exact .inl ⟨rfl, bs_next hf h ho hgo hq hd (fun e => e) fun hlt => by rw [hlf] at hlt; cases hlt⟩
 · refine .inr ⟨hc, fun u s3 l3 => bs_fail hf h ho hgo hq hL hd hc (fun e => e) fun _ y h3 => ?_⟩
   rw [snd_two h1 h2, h3]
theorem ls_two (hf : ∀ ts e r, f ts = .ok (e, r) → r <:+ ts) (h : BS true p f least l v s l1 x) (ho : opS (trim s) = o) (hgo : ¬ (levelOf o < least ∨ levelOf o = 0)) (hq : q = (trim s).drop o.length) (hL : LivOk true p) (h1 : o ≠ [124, 124]) (h2 : o ≠ [38, 38])
   (hd : DRes true (lev f (11 - (levelOf o + 1)) (toks q)) l1 v2 s2 l2 0) : (∀ m, two o v v2 = .ok m → LS true p f least l m s2 l2 0) ∧ (∀ e, two o v v2 = .error e → ∀ u, LS true p f least l u s2 l2 e) := by
 rw [show 11 - (levelOf o + 1) = 10 - levelOf o by omega] at hd
 refine ⟨fun m hm => ?_, fun e he u => ?_⟩
 · exact .inl ⟨rfl, bs_next hf h ho hgo hq hd (fun e => e) fun _ y h3 _ => by rw [snd_two h1 h2, h3 rfl]; dsimp only; rw [hm]⟩
 · exact .inr ⟨two_ne he, fun u s3 l3 => bs_two hf h ho hgo hq hL hd (two_ne he) fun y h3 => by rw [snd_two h1 h2, h3]; dsimp only; rw [he]⟩
theorem lev_ops {o : Tok} (h : levelOf o ≠ 0) (h1 : o ≠ [124, 124]) (h2 : o ≠ [38, 38]) : o ∈ ops16 := by
 unfold levelOf at h
 repeat' split at h
 all_goals first
   | exact absurd rfl h
   | (rename_i h3; first | exact absurd h3 h1 | exact absurd h3 h2 | (subst h3; decide))
   | (rename_i h3; rcases h3 with h3 | h3 <;> subst h3 <;> decide)
   | (rename_i h3; rcases h3 with h3 | h3 | h3 <;> subst h3 <;> decide)
   | (rename_i h3; rcases h3 with h3 | h3 | h3 | h3 <;> subst h3 <;> decide)
end
theorem lit_beq (o L : Tok) : ((bs o).toList == L) = decide (o = L) := by
 rw [ByteArray.toList_eq]
 show (toL (bs o) == L) = _
 rw [toL_bs]
 by_cases h : o = L
 · rw [decide_eq_true h, h]; simp
 · rw [decide_eq_false h, beq_eq_false_iff_ne]; exact h
set_option maxRecDepth 100000 in
theorem bin_bad {w : World} {b : Nat} {s : List UInt8} {l : List Vr} {live : Bool} {c d least : Int} (h : QM w b s l c) (hc : c ≠ 0) :
   Calls Tryz.prog 87 #[.pointer (some ⟨b, 0, none⟩), .int .i64 least, .bool live, .int .i64 d] w fun e w' => e = .returned (.int .i64 0) ∧ Kept (QM w' b s l c) ∧ Kept (Only (· = b) w w') := by
 have HU := Kept.mk (un_bad (live := live) (d := d) h hc)
 have HC : Kept (∀ w, QM w b s l c → w.cell? ⟨b, 2, none⟩ = some (.int .i64 c)) := ⟨fun w h => h.c2⟩
 have hc1 : (c == 0) = false := beq_eq_false_iff_ne.2 hc
 clear h
 go_enter Tryz.func87, Tryz.ntmps87
 go_wp2_with fail
 go_at_call 108
 refine HU.out.mono ?_
 rintro e w1 ⟨rfl, h1, h2⟩
 have H1 := h1
 have H2 := h2
 have k2 := HC.out _ h1.out
 clear h1 h2
 go_wp2_with fail
 go_loopg [] 1 (fun m wr => w1 = wr)
 case atStart => rfl
 case round =>
   subst hrel
   go_wp2_with fail
   go_ret
   exact ⟨rfl, H1, H2⟩
set_option maxHeartbeats 8000000 in
set_option maxRecDepth 100000 in
theorem bin_any {f : P} {d : Int} (hf : ∀ ts e r, f ts = .ok (e, r) → r <:+ ts) (hU : DrC 108 f d) : ∀ (j least : Nat), j + least = 11 → 1 ≤ least → BinC f d least := by
 intro j
 induction j using Nat.strongRecOn with
 | _ j ih =>
 intro least hj hle w b s l live h hm hl
 have IH : Kept (∀ k, least < k → k ≤ 11 → BinC f d k) := ⟨fun k h1 h2 => ih (11 - k) (by omega) k (by omega) (by omega)⟩
 obtain ⟨PP, hPP⟩ : ∃ PP, PP = lev f (11 - least) (toks s) := ⟨_, rfl⟩
 have HU := Kept.mk (hU w b s l live h hm (bs_liv hf hle (by omega) hPP (by rw [hPP]; exact hl)))
 have HF := Kept.mk hf
 have HL : Kept (LivOk live PP) := ⟨by rw [hPP]; exact hl⟩
 have HSt : Kept (∀ v s1 l1 c, DRes live (f (toks s)) l v s1 l1 c → LS live PP f least l v s1 l1 c) := ⟨fun v s1 l1 c hd => by
   by_cases hc : c = 0
   · subst hc; exact .inl ⟨rfl, bs_start hf hle (by omega) hPP hd⟩
   · exact .inr ⟨hc, fun u s3 l3 => bs_fail0 hf hle (by omega) hPP (by rw [hPP]; exact hl) hd hc⟩⟩
 rw [← hPP]
 have HM := Kept.mk hm
 have HLe := Kept.mk (And.intro hle (show least ≤ 11 by omega))
 have hz0 : (0 : Int) ≤ (least : Int) := by omega
 clear ih hU hf h hl hPP hm hj hle
 generalize hMM : l.length + s.length = MM at HU HM ⊢
 clear hMM
 generalize s.length = LL at HU ⊢
 go_enter Tryz.func87, Tryz.ntmps87
 go_wp2_with fail
 go_at_call 108
 refine HU.out.mono ?_
 rintro e w1 ⟨v, s1, l1, c, rfl, hL1, hM1, hQ, hO, hD⟩
 have HS := Kept.mk (HSt.out _ _ _ _ hD.out)
 clear HSt HU hD
 go_wp2_with fail
 go_loopg [9] s1.length (fun m aV wr => ∃ (v : Int) (s' : List UInt8) (l' : List Vr) (c : Int), aV = .int .i64 v ∧ Kept (s'.length ≤ m ∧ s'.length ≤ LL ∧ l'.length + s'.length ≤ MM) ∧ Kept (QM wr b s' l' c) ∧ Kept (Only (· = b) w wr) ∧ Kept (LS live PP f least l v s' l' c))
 case atStart => exact ⟨v, s1, l1, c, rfl, ⟨Nat.le_refl _, hL1.out, hM1.out⟩, hQ, hO, HS⟩
 case round =>
   clear hQ hO HS hL1 hM1
   obtain ⟨v, s', l', c, rfl, HLn, HQ, HO, HS⟩ := hrel
   by_cases hc : c = 0
   · subst hc
     obtain ⟨x, HB⟩ : ∃ x, Kept (BS live PP f least l v s' l' x) := by
       rcases HS.out with ⟨_, x, hx⟩ | ⟨h0, _⟩
       · exact ⟨x, ⟨hx⟩⟩
       · exact absurd rfl h0
     clear HS
     have e2 := HQ.out.c2
     obtain ⟨o, ho⟩ : ∃ o, o = opS (trim s') := ⟨_, rfl⟩
     have HOp := Kept.mk (op_any wr b s' l' 0 HQ.out (by have := HLn.out; have := HM.out; omega))
     rw [← ho] at HOp
     have HLv : Kept (∀ w, _) := ⟨fun w => level_any o w⟩
     have HTl := Kept.mk (trim_le s')
     have hz1 : (0 : Int) ≤ (levelOf o : Int) := by omega
     by_cases hgo : levelOf o < least ∨ levelOf o = 0
     · have HR : Kept (DRes live PP l v (trim s') l' 0) := ⟨bs_end HB.out (by rw [← ho]; exact hgo)⟩
       clear ho
       generalize trim s' = T at HOp HR HTl
       by_cases h1 : levelOf o < least
       · have z1 : (levelOf o : Int) < (least : Int) := by omega
         clear hgo
         generalize levelOf o = lv at HLv hz1 h1 z1
         generalize bs o = O at HOp HLv
         go_wp2_with fail
         go_at_call 86
         refine HOp.out.mono ?_
         rintro e w2 ⟨rfl, h3, h4⟩
         have H3 := h3
         have H4 := h4
         clear h3 h4
         go_wp2_with fail
         go_at_call 109
         refine (HLv.out _).mono ?_
         rintro e w3 ⟨rfl, rfl⟩
         go_wp2_with fail
         go_ret
         exact ⟨v, T, l', 0, rfl, ⟨by have := HTl.out; have := HLn.out; omega⟩, ⟨by have := HTl.out; have := HLn.out; omega⟩, H3, ⟨HO.out.trans H4.out (fun i _ h => h)⟩, HR⟩
       · have h0 : levelOf o = 0 := hgo.resolve_left h1
         exact absurd (show levelOf o < least by have := HLe.out; omega) h1
     · have hne : o ≠ [] := by rintro rfl; exact hgo (.inr (by decide))
       have HDl := Kept.mk (drop_lt (s := s') ho.symm hne)
       have HTk : Kept (∀ w, QM w b (trim s') l' 0 → _) := ⟨fun w h => take_lit o (bs o) rfl hne w b (trim s') l' 0 h (by have := HLn.out; have := HM.out; have := HTl.out; omega) true (by rw [trim_trim]; exact (decide_eq_true ho.symm).symm)⟩
       simp only [if_true] at HTk
       rw [trim_trim] at HTk
       have hlv1 : ¬ levelOf o < least := fun e => hgo (.inl e)
       have hlv0 : ¬ levelOf o = 0 := fun e => hgo (.inr e)
       have hlv10 := levelOf_le o
       obtain ⟨q, hq⟩ : ∃ q, q = (trim s').drop o.length := ⟨_, rfl⟩
       rw [← hq] at HDl HTk
       have hql : q.length < s'.length := by
         have := HDl.out
         have : 0 < o.length := List.length_pos_iff.2 hne
         omega
       have HQl := Kept.mk hql
       have HLS := Kept.mk (bs_sub HF.out HB.out ho.symm hgo hq HL.out)
       rw [show 10 - levelOf o = 11 - (levelOf o + 1) by omega] at HLS
       have HBn : Kept (∀ w live', (live' = true → live = true) → QM w b q l' 0 → _) := ⟨fun w live' hlv h => IH.out (levelOf o + 1) (by omega) (by omega) w b q l' live' h (by have := HLn.out; have := HM.out; omega) (fun e => HLS.out (hlv e))⟩
       obtain ⟨k1, hk1⟩ : ∃ k1, k1 = levelOf o + 1 := ⟨_, rfl⟩
       have hwr : IntKind.i64.wrap ((levelOf o : Int) + 1) = (k1 : Int) := by rw [IntKind.wrap_i64]; omega
       rw [← hk1] at HBn
       have HHo := Kept.mk ho
       have HHq := Kept.mk hq
       have HHg := Kept.mk hgo
       have z1 : ¬ (levelOf o : Int) < (least : Int) := by omega
       have z2 : ¬ (levelOf o : Int) = 0 := by omega
       have z4 : ((levelOf o : Int) == 0) = false := beq_eq_false_iff_ne.2 z2
       have z5 : decide ((levelOf o : Int) < (least : Int)) = false := decide_eq_false z1
       have b1 := lit_beq o [124, 124]
       have b2 := lit_beq o [38, 38]
       clear ho hq hgo hql hne
       by_cases hor : o = [124, 124]
       · have HH := Kept.mk hor
         rw [decide_eq_true hor] at b1
         have e1 := HHo.out.symm.trans HH.out
         have HE1 := Kept.mk e1
         clear e1
         have HG := HHg.out
         have HQ2 := HHq.out
         rw [HH.out] at HG HQ2
         have HG2 := Kept.mk HG
         have HQ3 := Kept.mk HQ2
         have HK : Kept (k1 = levelOf [124, 124] + 1) := ⟨by rw [hk1, HH.out]⟩
         clear HG HQ2 hk1 hor
         generalize levelOf o = lv at HLv hz1 z1 z2 z4 z5 hwr hlv1 hlv0 hlv10
         generalize bs o = O at HOp HLv HTk b1 b2
         generalize trim s' = T at HOp HTk HTl
         go_wp2_with fail
         go_at_call 86
         refine HOp.out.mono ?_
         rintro e w2 ⟨rfl, h3, h4⟩
         have H3 := h3
         have O3 := h4
         clear h3 h4
         go_wp2_with fail
         go_at_call 109
         refine (HLv.out _).mono ?_
         rintro e w3 ⟨rfl, rfl⟩
         go_wp2_with fail
         go_at_call 88
         refine (HTk.out _ H3.out).mono ?_
         rintro e w4 ⟨rfl, h3, h4⟩
         have H5 := h3
         have O5 := h4
         clear h3 h4
         by_cases hv : v = 0
         · have HV := Kept.mk hv
           subst hv
           cases live with
           | false =>
             have HB2 : Kept (∀ w, QM w b q l' 0 → _) := ⟨fun w h => HBn.out w false (fun e => by cases e) h⟩
             go_wp2_with fail
             go_at_call 87
             refine (HB2.out _ H5.out).mono ?_
             rintro e w5 ⟨v2, s2, l2, c2, rfl, hL, hM, hQ, hO, hD⟩
             have HN : Kept (LS false PP f least l (bit (v2 != 0)) s2 l2 c2) := ⟨ls_or (live' := false) HF.out HB.out HE1.out HG2.out HQ3.out HL.out (by simp) (by rw [← HK.out]; exact hD.out) (by rw [if_pos rfl])⟩
             go_wp2_with fail
             go_at_call 32
             refine (refTruth_any _ _).mono ?_
             rintro e w6 ⟨rfl, rfl⟩
             go_wp2_with fail
             go_roundg s2.length
             case measure => have := hL.out; have := HQl.out; have := HLn.out; omega
             case rel => exact ⟨_, s2, l2, c2, rfl, ⟨Nat.le_refl _, by have := hL.out; have := HQl.out; have := HLn.out; omega, by have := hM.out; have := HQl.out; have := HLn.out; omega⟩, hQ, ⟨((HO.out.trans O3.out (fun i _ h => h)).trans O5.out (fun i _ h => h)).trans hO.out (fun i _ h => h)⟩, HN⟩
           | true =>
             have HB2 : Kept (∀ w, QM w b q l' 0 → _) := ⟨fun w h => HBn.out w true (fun _ => rfl) h⟩
             go_wp2_with fail
             go_at_call 87
             refine (HB2.out _ H5.out).mono ?_
             rintro e w5 ⟨v2, s2, l2, c2, rfl, hL, hM, hQ, hO, hD⟩
             have HN : Kept (LS true PP f least l (bit (v2 != 0)) s2 l2 c2) := ⟨ls_or (live' := true) HF.out HB.out HE1.out HG2.out HQ3.out HL.out (by simp) (by rw [← HK.out]; exact hD.out) (by rw [if_pos rfl])⟩
             go_wp2_with fail
             go_at_call 32
             refine (refTruth_any _ _).mono ?_
             rintro e w6 ⟨rfl, rfl⟩
             go_wp2_with fail
             go_roundg s2.length
             case measure => have := hL.out; have := HQl.out; have := HLn.out; omega
             case rel => exact ⟨_, s2, l2, c2, rfl, ⟨Nat.le_refl _, by have := hL.out; have := HQl.out; have := HLn.out; omega, by have := hM.out; have := HQl.out; have := HLn.out; omega⟩, hQ, ⟨((HO.out.trans O3.out (fun i _ h => h)).trans O5.out (fun i _ h => h)).trans hO.out (fun i _ h => h)⟩, HN⟩
         · have HV := Kept.mk hv
           have hv1 : (v == 0) = false := beq_eq_false_iff_ne.2 hv
           have hv2 : (v != 0) = true := by simp [bne, hv1]
           clear hv
           cases live with
           | false =>
             have HB2 : Kept (∀ w, QM w b q l' 0 → _) := ⟨fun w h => HBn.out w false (fun e => by cases e) h⟩
             go_wp2_with fail
             go_at_call 87
             refine (HB2.out _ H5.out).mono ?_
             rintro e w5 ⟨v2, s2, l2, c2, rfl, hL, hM, hQ, hO, hD⟩
             have HN : Kept (LS false PP f least l (bit true) s2 l2 c2) := ⟨ls_or (live' := false) HF.out HB.out HE1.out HG2.out HQ3.out HL.out (by simp [HV.out]) (by rw [← HK.out]; exact hD.out) (by rw [if_neg HV.out]; rfl)⟩
             go_wp2_with fail
             go_at_call 32
             refine (refTruth_any _ _).mono ?_
             rintro e w6 ⟨rfl, rfl⟩
             go_wp2_with fail
             go_roundg s2.length
             case measure => have := hL.out; have := HQl.out; have := HLn.out; omega
             case rel => exact ⟨_, s2, l2, c2, rfl, ⟨Nat.le_refl _, by have := hL.out; have := HQl.out; have := HLn.out; omega, by have := hM.out; have := HQl.out; have := HLn.out; omega⟩, hQ, ⟨((HO.out.trans O3.out (fun i _ h => h)).trans O5.out (fun i _ h => h)).trans hO.out (fun i _ h => h)⟩, HN⟩
           | true =>
             have HB2 : Kept (∀ w, QM w b q l' 0 → _) := ⟨fun w h => HBn.out w false (fun e => by cases e) h⟩
             go_wp2_with fail
             go_at_call 87
             refine (HB2.out _ H5.out).mono ?_
             rintro e w5 ⟨v2, s2, l2, c2, rfl, hL, hM, hQ, hO, hD⟩
             have HN : Kept (LS true PP f least l (bit true) s2 l2 c2) := ⟨ls_or (live' := false) HF.out HB.out HE1.out HG2.out HQ3.out HL.out (by simp [HV.out]) (by rw [← HK.out]; exact hD.out) (by rw [if_neg HV.out]; rfl)⟩
             go_wp2_with fail
             go_at_call 32
             refine (refTruth_any _ _).mono ?_
             rintro e w6 ⟨rfl, rfl⟩
             go_wp2_with fail
             go_roundg s2.length
             case measure => have := hL.out; have := HQl.out; have := HLn.out; omega
             case rel => exact ⟨_, s2, l2, c2, rfl, ⟨Nat.le_refl _, by have := hL.out; have := HQl.out; have := HLn.out; omega, by have := hM.out; have := HQl.out; have := HLn.out; omega⟩, hQ, ⟨((HO.out.trans O3.out (fun i _ h => h)).trans O5.out (fun i _ h => h)).trans hO.out (fun i _ h => h)⟩, HN⟩
       · by_cases hand : o = [38, 38]
         · have HH := Kept.mk hand
           rw [decide_eq_false hor] at b1
           rw [decide_eq_true hand] at b2
           have e1 := HHo.out.symm.trans HH.out
           have HE1 := Kept.mk e1
           clear e1
           have HG := HHg.out
           have HQ2 := HHq.out
           rw [HH.out] at HG HQ2
           have HG2 := Kept.mk HG
           have HQ3 := Kept.mk HQ2
           have HK : Kept (k1 = levelOf [38, 38] + 1) := ⟨by rw [hk1, HH.out]⟩
           clear HG HQ2 hk1 hor hand
           generalize levelOf o = lv at HLv hz1 z1 z2 z4 z5 hwr hlv1 hlv0 hlv10
           generalize bs o = O at HOp HLv HTk b1 b2
           generalize trim s' = T at HOp HTk HTl
           go_wp2_with fail
           go_at_call 86
           refine HOp.out.mono ?_
           rintro e w2 ⟨rfl, h3, h4⟩
           have H3 := h3
           have O3 := h4
           clear h3 h4
           go_wp2_with fail
           go_at_call 109
           refine (HLv.out _).mono ?_
           rintro e w3 ⟨rfl, rfl⟩
           go_wp2_with fail
           go_at_call 88
           refine (HTk.out _ H3.out).mono ?_
           rintro e w4 ⟨rfl, h3, h4⟩
           have H5 := h3
           have O5 := h4
           clear h3 h4
           by_cases hv : v = 0
           · have HV := Kept.mk hv
             subst hv
             cases live with
             | false =>
               have HB2 : Kept (∀ w, QM w b q l' 0 → _) := ⟨fun w h => HBn.out w false (fun e => by cases e) h⟩
               go_wp2_with fail
               go_at_call 87
               refine (HB2.out _ H5.out).mono ?_
               rintro e w5 ⟨v2, s2, l2, c2, rfl, hL, hM, hQ, hO, hD⟩
               have HN : Kept (LS false PP f least l (bit false) s2 l2 c2) := ⟨ls_and (live' := false) HF.out HB.out HE1.out HG2.out HQ3.out HL.out (by simp) (by rw [← HK.out]; exact hD.out) (by rw [if_pos rfl]; rfl)⟩
               go_wp2_with fail
               go_at_call 32
               refine (refTruth_any _ _).mono ?_
               rintro e w6 ⟨rfl, rfl⟩
               go_wp2_with fail
               go_roundg s2.length
               case measure => have := hL.out; have := HQl.out; have := HLn.out; omega
               case rel => exact ⟨_, s2, l2, c2, rfl, ⟨Nat.le_refl _, by have := hL.out; have := HQl.out; have := HLn.out; omega, by have := hM.out; have := HQl.out; have := HLn.out; omega⟩, hQ, ⟨((HO.out.trans O3.out (fun i _ h => h)).trans O5.out (fun i _ h => h)).trans hO.out (fun i _ h => h)⟩, HN⟩
             | true =>
               have HB2 : Kept (∀ w, QM w b q l' 0 → _) := ⟨fun w h => HBn.out w false (fun e => by cases e) h⟩
               go_wp2_with fail
               go_at_call 87
               refine (HB2.out _ H5.out).mono ?_
               rintro e w5 ⟨v2, s2, l2, c2, rfl, hL, hM, hQ, hO, hD⟩
               have HN : Kept (LS true PP f least l (bit false) s2 l2 c2) := ⟨ls_and (live' := false) HF.out HB.out HE1.out HG2.out HQ3.out HL.out (by simp) (by rw [← HK.out]; exact hD.out) (by rw [if_pos rfl]; rfl)⟩
               go_wp2_with fail
               go_at_call 32
               refine (refTruth_any _ _).mono ?_
               rintro e w6 ⟨rfl, rfl⟩
               go_wp2_with fail
               go_roundg s2.length
               case measure => have := hL.out; have := HQl.out; have := HLn.out; omega
               case rel => exact ⟨_, s2, l2, c2, rfl, ⟨Nat.le_refl _, by have := hL.out; have := HQl.out; have := HLn.out; omega, by have := hM.out; have := HQl.out; have := HLn.out; omega⟩, hQ, ⟨((HO.out.trans O3.out (fun i _ h => h)).trans O5.out (fun i _ h => h)).trans hO.out (fun i _ h => h)⟩, HN⟩
           · have HV := Kept.mk hv
             have hv1 : (v == 0) = false := beq_eq_false_iff_ne.2 hv
             have hv2 : (v != 0) = true := by simp [bne, hv1]
             clear hv
             cases live with
             | false =>
               have HB2 : Kept (∀ w, QM w b q l' 0 → _) := ⟨fun w h => HBn.out w false (fun e => by cases e) h⟩
               go_wp2_with fail
               go_at_call 87
               refine (HB2.out _ H5.out).mono ?_
               rintro e w5 ⟨v2, s2, l2, c2, rfl, hL, hM, hQ, hO, hD⟩
               have HN : Kept (LS false PP f least l (bit (v2 != 0)) s2 l2 c2) := ⟨ls_and (live' := false) HF.out HB.out HE1.out HG2.out HQ3.out HL.out (by simp [HV.out]) (by rw [← HK.out]; exact hD.out) (by rw [if_neg HV.out])⟩
               go_wp2_with fail
               go_at_call 32
               refine (refTruth_any _ _).mono ?_
               rintro e w6 ⟨rfl, rfl⟩
               go_wp2_with fail
               go_roundg s2.length
               case measure => have := hL.out; have := HQl.out; have := HLn.out; omega
               case rel => exact ⟨_, s2, l2, c2, rfl, ⟨Nat.le_refl _, by have := hL.out; have := HQl.out; have := HLn.out; omega, by have := hM.out; have := HQl.out; have := HLn.out; omega⟩, hQ, ⟨((HO.out.trans O3.out (fun i _ h => h)).trans O5.out (fun i _ h => h)).trans hO.out (fun i _ h => h)⟩, HN⟩
             | true =>
               have HB2 : Kept (∀ w, QM w b q l' 0 → _) := ⟨fun w h => HBn.out w true (fun _ => rfl) h⟩
               go_wp2_with fail
               go_at_call 87
               refine (HB2.out _ H5.out).mono ?_
               rintro e w5 ⟨v2, s2, l2, c2, rfl, hL, hM, hQ, hO, hD⟩
               have HN : Kept (LS true PP f least l (bit (v2 != 0)) s2 l2 c2) := ⟨ls_and (live' := true) HF.out HB.out HE1.out HG2.out HQ3.out HL.out (by simp [HV.out]) (by rw [← HK.out]; exact hD.out) (by rw [if_neg HV.out])⟩
               go_wp2_with fail
               go_at_call 32
               refine (refTruth_any _ _).mono ?_
               rintro e w6 ⟨rfl, rfl⟩
               go_wp2_with fail
               go_roundg s2.length
               case measure => have := hL.out; have := HQl.out; have := HLn.out; omega
               case rel => exact ⟨_, s2, l2, c2, rfl, ⟨Nat.le_refl _, by have := hL.out; have := HQl.out; have := HLn.out; omega, by have := hM.out; have := HQl.out; have := HLn.out; omega⟩, hQ, ⟨((HO.out.trans O3.out (fun i _ h => h)).trans O5.out (fun i _ h => h)).trans hO.out (fun i _ h => h)⟩, HN⟩
         · have HN1 := Kept.mk (And.intro hor hand)
           rw [decide_eq_false hor] at b1
           rw [decide_eq_false hand] at b2
           have HTw : Kept (∀ v2 w, _) := ⟨fun v2 w => refTwo_any o (lev_ops hlv0 hor hand) v v2 w⟩
           have HK := Kept.mk hk1
           clear hk1 hor hand
           generalize levelOf o = lv at HLv hz1 z1 z2 z4 z5 hwr hlv1 hlv0 hlv10
           generalize bs o = O at HOp HLv HTk b1 b2 HTw
           generalize trim s' = T at HOp HTk HTl
           have HB2 : Kept (∀ w, QM w b q l' 0 → _) := ⟨fun w h => HBn.out w live (fun e => e) h⟩
           go_wp2_with fail
           go_at_call 86
           refine HOp.out.mono ?_
           rintro e w2 ⟨rfl, h3, h4⟩
           have H3 := h3
           have O3 := h4
           clear h3 h4
           go_wp2_with fail
           go_at_call 109
           refine (HLv.out _).mono ?_
           rintro e w3 ⟨rfl, rfl⟩
           go_wp2_with fail
           go_at_call 88
           refine (HTk.out _ H3.out).mono ?_
           rintro e w4 ⟨rfl, h3, h4⟩
           have H5 := h3
           have O5 := h4
           clear h3 h4
           go_wp2_with fail
           go_at_call 87
           refine (HB2.out _ H5.out).mono ?_
           rintro e w5 ⟨v2, s2, l2, c2, rfl, hL, hM, hQ, hO, hD⟩
           cases live with
           | false =>
             have HN : Kept (LS false PP f least l v s2 l2 c2) := ⟨ls_dead HF.out HB.out HHo.out.symm HHg.out HHq.out HL.out HN1.out.1 HN1.out.2 (by rw [← HK.out]; exact hD.out) (.inl rfl)⟩
             go_wp2_with fail
             go_roundg s2.length
             case measure => have := hL.out; have := HQl.out; have := HLn.out; omega
             case rel => exact ⟨_, s2, l2, c2, rfl, ⟨Nat.le_refl _, by have := hL.out; have := HQl.out; have := HLn.out; omega, by have := hM.out; have := HQl.out; have := HLn.out; omega⟩, hQ, ⟨((HO.out.trans O3.out (fun i _ h => h)).trans O5.out (fun i _ h => h)).trans hO.out (fun i _ h => h)⟩, HN⟩
           | true =>
             have e5 := hQ.out.c2
             by_cases hc2 : c2 = 0
             · subst hc2
               have HX := Kept.mk (ls_two HF.out HB.out HHo.out.symm HHg.out HHq.out HL.out HN1.out.1 HN1.out.2 (by rw [← HK.out]; exact hD.out))
               have HT2 : Kept (∀ w, _) := ⟨fun w => HTw.out v2 w⟩
               obtain ⟨z, hz⟩ : ∃ z, z = two o v v2 := ⟨_, rfl⟩
               rw [← hz] at HT2 HX
               cases z with
               | ok m =>
                 have HN := Kept.mk (HX.out.1 m rfl)
                 have HF2 := Kept.mk (fail2_any w5 b s2 l2 0 0 hQ.out)
                 rw [firstE_z] at HF2
                 clear hz HX
                 go_wp2_with fail
                 go_at_call 18
                 refine (HT2.out _).mono ?_
                 rintro e w6 ⟨rfl, rfl⟩
                 go_wp2_with fail
                 go_at_call 69
                 refine HF2.out.mono ?_
                 rintro e w7 ⟨rfl, h3, h4⟩
                 have H7 := h3
                 have O7 := h4
                 clear h3 h4
                 go_wp2_with fail
                 go_roundg s2.length
                 case measure => have := hL.out; have := HQl.out; have := HLn.out; omega
                 case rel => exact ⟨_, s2, l2, 0, rfl, ⟨Nat.le_refl _, by have := hL.out; have := HQl.out; have := HLn.out; omega, by have := hM.out; have := HQl.out; have := HLn.out; omega⟩, H7, ⟨(((HO.out.trans O3.out (fun i _ h => h)).trans O5.out (fun i _ h => h)).trans hO.out (fun i _ h => h)).trans O7.out (fun i _ h => h)⟩, HN⟩
               | error ce =>
                 have HN := Kept.mk (HX.out.2 ce rfl 0)
                 have HF2 := Kept.mk (fail2_any w5 b s2 l2 0 ce hQ.out)
                 rw [firstE_z] at HF2
                 clear hz HX
                 go_wp2_with fail
                 go_at_call 18
                 refine (HT2.out _).mono ?_
                 rintro e w6 ⟨rfl, rfl⟩
                 go_wp2_with fail
                 go_at_call 69
                 refine HF2.out.mono ?_
                 rintro e w7 ⟨rfl, h3, h4⟩
                 have H7 := h3
                 have O7 := h4
                 clear h3 h4
                 go_wp2_with fail
                 go_roundg s2.length
                 case measure => have := hL.out; have := HQl.out; have := HLn.out; omega
                 case rel => exact ⟨_, s2, l2, ce, rfl, ⟨Nat.le_refl _, by have := hL.out; have := HQl.out; have := HLn.out; omega, by have := hM.out; have := HQl.out; have := HLn.out; omega⟩, H7, ⟨(((HO.out.trans O3.out (fun i _ h => h)).trans O5.out (fun i _ h => h)).trans hO.out (fun i _ h => h)).trans O7.out (fun i _ h => h)⟩, HN⟩
             · have hc3 : (c2 == 0) = false := beq_eq_false_iff_ne.2 hc2
               have HN : Kept (LS true PP f least l v s2 l2 c2) := ⟨ls_dead HF.out HB.out HHo.out.symm HHg.out HHq.out HL.out HN1.out.1 HN1.out.2 (by rw [← HK.out]; exact hD.out) (.inr hc2)⟩
               clear hc2
               go_wp2_with fail
               go_roundg s2.length
               case measure => have := hL.out; have := HQl.out; have := HLn.out; omega
               case rel => exact ⟨_, s2, l2, c2, rfl, ⟨Nat.le_refl _, by have := hL.out; have := HQl.out; have := HLn.out; omega, by have := hM.out; have := HQl.out; have := HLn.out; omega⟩, hQ, ⟨((HO.out.trans O3.out (fun i _ h => h)).trans O5.out (fun i _ h => h)).trans hO.out (fun i _ h => h)⟩, HN⟩
   · have HR : Kept (∀ u s3 l3, DRes live PP l u s3 l3 c) := ⟨by
       rcases HS.out with ⟨h0, _⟩ | ⟨_, h1⟩
       · exact absurd h0 hc
       · exact h1⟩
     have hc1 : (c == 0) = false := beq_eq_false_iff_ne.2 hc
     have e2 := HQ.out.c2
     clear HS
     go_wp2_with fail
     go_ret
     exact ⟨0, s', l', c, rfl, ⟨HLn.out.2.1⟩, ⟨HLn.out.2.2⟩, HQ, HO, ⟨HR.out _ _ _⟩⟩
end Ar
end Go.Proofs.YtlggpefmojacoaaGreatDoor
end
section
namespace Go.Proofs.YtlggpefmojacoaaGreatDoor
open Go.RowKit Tx
namespace Ar
open Va (Vr VS getD set Sorted)

set_option maxRecDepth 100000 in
theorem cond_bad {w : World} {b : Nat} {s : List UInt8} {l : List Vr} {live : Bool} {c d : Int} (h : QM w b s l c) (hc : c ≠ 0) :
   Calls Tryz.prog 67 #[.pointer (some ⟨b, 0, none⟩), .bool live, .int .i64 d] w fun e w' => e = .returned (.int .i64 0) ∧ Kept (QM w' b s l c) ∧ Kept (Only (· = b) w w') := by
 have HU := Kept.mk (bin_bad (live := live) (d := d) (least := 1) h hc)
 have HC : Kept (∀ w, QM w b s l c → w.cell? ⟨b, 2, none⟩ = some (.int .i64 c)) := ⟨fun w h => h.c2⟩
 have hc1 : (c == 0) = false := beq_eq_false_iff_ne.2 hc
 clear h
 go_enter Tryz.func67, Tryz.ntmps67
 go_wp2_with fail
 go_at_call 87
 refine HU.out.mono ?_
 rintro e w1 ⟨rfl, h1, h2⟩
 have H1 := h1
 have H2 := h2
 have k2 := HC.out _ h1.out
 clear h1 h2
 go_wp2_with fail
 go_ret
 exact ⟨rfl, H1, H2⟩
set_option maxRecDepth 100000 in
theorem dcond_deep {d : Int} (hU : DrC 108 (fun _ => .error 2) d) : DrC 67 (fun _ => .error 2) d := by
 intro w b s l live h hm hl
 have hlev : ∀ j ts, lev (fun _ => .error 2) j ts = .error 2 := by
   intro j
   induction j with
   | zero => intro ts; rfl
   | succ j ih => intro ts; rw [lev, ih]
 have HB := bin_any (f := fun _ => .error 2) (d := d) (fun ts e r h => by cases h) hU 10 1 rfl (Nat.le_refl _) w b s l live h hm (by rw [hlev]; exact hl)
 rw [hlev] at HB
 have HB := Kept.mk HB
 have HC : Kept (∀ w s l, QM w b s l 2 → w.cell? ⟨b, 2, none⟩ = some (.int .i64 2)) := ⟨fun w s l h => h.c2⟩
 clear h hm hl
 go_enter Tryz.func67, Tryz.ntmps67
 go_wp2_with fail
 go_at_call 87
 refine HB.out.mono ?_
 rintro e w1 ⟨v, s1, l1, c, rfl, hL, hM, hQ, hO, hD⟩
 obtain rfl : c = 2 := hD.out.1
 have k2 := HC.out _ _ _ hQ.out
 go_wp2_with fail
 go_ret
 exact ⟨v, s1, l1, 2, rfl, hL, hM, hQ, hO, hD⟩
set_option maxHeartbeats 8000000 in
set_option maxRecDepth 100000 in
theorem cond_any {op ex cd : P} {d d1 : Int} (hf : ∀ ts e r, op ts = .ok (e, r) → r <:+ ts) (hU : DrC 108 op d) (hE : DrC 46 ex d1) (hC : DrC 67 cd d1) (hd : IntKind.i64.wrap (d + 1) = d1) : DrC 67 (condF op ex cd) d := by
 intro w b s l live h hm hl
 have HB := Kept.mk (bin_any hf hU 10 1 rfl (Nat.le_refl _) w b s l live h hm (cond_liv hl))
 obtain ⟨PP, hPP⟩ : ∃ PP, PP = condF op ex cd (toks s) := ⟨_, rfl⟩
 rw [← hPP] at hl ⊢
 have HPP := Kept.mk hPP
 have HL := Kept.mk hl
 have HM := Kept.mk hm
 have HE := Kept.mk hE
 have HCd := Kept.mk hC
 clear h hl hPP hU hf hE hC hm
 generalize hMM : l.length + s.length = MM at HB HM ⊢
 clear hMM
 generalize s.length = LL at HB ⊢
 go_enter Tryz.func67, Tryz.ntmps67
 go_wp2_with fail
 go_at_call 87
 refine HB.out.mono ?_
 rintro e w1 ⟨v, s1, l1, c, rfl, hL, hM, hQ, hO, hD⟩
 clear HB
 have e2 := hQ.out.c2
 by_cases hc : c = 0
 · subst hc
   have HTL := Kept.mk (trim_le s1)
   obtain ⟨t, ht⟩ : ∃ t, t = decide (opS (trim s1) = [63]) := ⟨_, rfl⟩
   have HT := Kept.mk (take_lit [63] ⟨#[63]⟩ rfl (by decide) w1 b s1 l1 0 hQ.out (by have := hM.out; have := HM.out; omega) t ht)
   cases t with
   | false =>
     have ho : opS (trim s1) ≠ [63] := of_decide_eq_false ht.symm
     simp only [Bool.false_eq_true, if_false] at HT
     have HR : Kept (DRes live PP l v (trim s1) l1 0) := ⟨by rw [HPP.out]; exact cond_no hD.out ho⟩
     clear ht ho
     generalize trim s1 = s2 at HT HR HTL
     go_wp2_with fail
     go_at_call 88
     refine HT.out.mono ?_
     rintro e w2 ⟨rfl, h3, h4⟩
     have H3 := h3
     have O3 := h4
     clear h3 h4
     go_wp2_with fail
     go_ret
     exact ⟨v, s2, l1, 0, rfl, ⟨by have := HTL.out; have := hL.out; omega⟩, ⟨by have := HTL.out; have := hM.out; omega⟩, H3, ⟨hO.out.trans O3.out (fun i _ h => h)⟩, HR⟩
   | true =>
     have ho : opS (trim s1) = [63] := of_decide_eq_true ht.symm
     simp only [if_true] at HT
     have HDl := Kept.mk (drop_lt ho (by decide))
     obtain ⟨s2, hs2⟩ : ∃ s2, s2 = (trim s1).drop ([63] : Tok).length := ⟨_, rfl⟩
     obtain ⟨x, HQ⟩ : ∃ x, Kept (CQ live PP ex cd l v s2 l1 x) := by
       obtain ⟨x, hx⟩ := cond_q (ex := ex) (cd := cd) (s2 := s2) hD.out ho hs2
       exact ⟨x, ⟨by rw [HPP.out]; exact hx⟩⟩
     rw [← hs2] at HT HDl
     have HS2 : Kept (s2.length ≤ LL ∧ l1.length + s2.length ≤ MM ∧ MM ≤ 100000) := ⟨by have := HDl.out; have := hL.out; have := hM.out; have := HM.out; omega⟩
     clear ht ho hs2 HDl hD HTL
     by_cases hv : v = 0
     · have HV := Kept.mk hv
       subst hv
       cases live with
       | false =>
         have HEx : Kept (∀ w, QM w b s2 l1 0 → _) := ⟨fun w h => HE.out w b s2 l1 false h (by have := HS2.out; omega) (cq_liv HQ.out HL.out (fun e => by cases e))⟩
         go_wp2_with fail
         go_at_call 88
         refine HT.out.mono ?_
         rintro e w2 ⟨rfl, h3, h4⟩
         have H3 := h3
         have O3 := h4
         clear h3 h4
         go_wp2_with fail
         go_at_call 46
         refine (HEx.out _ H3.out).mono ?_
         rintro e w3 ⟨va, s3, la, ca, rfl, hL3, hM3, hQ3, hO3, hD3⟩
         have HTL := Kept.mk (trim_le s3)
         obtain ⟨t, ht⟩ : ∃ t, t = decide (opS (trim s3) = [58]) := ⟨_, rfl⟩
         have HT4 := Kept.mk (take_lit [58] ⟨#[58]⟩ rfl (by decide) w3 b s3 la ca hQ3.out (by have := hM3.out; have := HS2.out; omega) t ht)
         have HC4 : Kept (∀ w s l c, QM w b s l c → c ≠ 0 → _) := ⟨fun w s l c h hc => cond_bad (d := d1) (live := false) h hc⟩
         by_cases hca : ca = 0
         · subst hca
           cases t with
           | false =>
             have ho : opS (trim s3) ≠ [58] := of_decide_eq_false ht.symm
             simp only [Bool.false_eq_true, if_false] at HT4
             have HR : Kept (∀ u s9 l9, DRes false PP l u s9 l9 130) := ⟨fun u s9 l9 => cq_none HQ.out hD3.out ho⟩
             have HF : Kept (∀ w, QM w b (trim s3) la 0 → _) := ⟨fun w h => fail_any w b (trim s3) la 0 130 h⟩
             rw [firstE_z] at HF
             clear ht ho hD3
             generalize trim s3 = s4 at HT4 HF HTL
             go_wp2_with fail
             go_at_call 88
             refine HT4.out.mono ?_
             rintro e w4 ⟨rfl, h3, h4⟩
             have H5 := h3
             have O5 := h4
             clear h3 h4
             go_wp2_with fail
             go_at_call 47
             refine (HF.out _ H5.out).mono ?_
             rintro e w5 ⟨rfl, h3, h4⟩
             have H6 := h3
             have O6 := h4
             clear h3 h4
             go_wp2_with fail
             go_at_call 67
             refine (HC4.out _ _ _ _ H6.out (by decide)).mono ?_
             rintro e w6 ⟨rfl, h3, h4⟩
             have H7 := h3
             have O7 := h4
             clear h3 h4
             go_wp2_with fail
             go_ret
             exact ⟨_, s4, la, 130, rfl, ⟨by have := HTL.out; have := hL3.out; have := HS2.out; omega⟩, ⟨by have := HTL.out; have := hM3.out; have := HS2.out; omega⟩, H7, ⟨((((hO.out.trans O3.out (fun i _ h => h)).trans hO3.out (fun i _ h => h)).trans O5.out (fun i _ h => h)).trans O6.out (fun i _ h => h)).trans O7.out (fun i _ h => h)⟩, ⟨HR.out _ _ _⟩⟩
           | true =>
             have ho : opS (trim s3) = [58] := of_decide_eq_true ht.symm
             simp only [if_true] at HT4
             have HDl := Kept.mk (drop_lt ho (by decide))
             obtain ⟨s4, hs4⟩ : ∃ s4, s4 = (trim s3).drop ([58] : Tok).length := ⟨_, rfl⟩
             rw [← hs4] at HT4 HDl
             have HS4 : Kept (s4.length ≤ LL ∧ la.length + s4.length ≤ MM ∧ MM ≤ 100000) := ⟨by have := HDl.out; have := hL3.out; have := hM3.out; have := HS2.out; omega⟩
             have HCx : Kept (∀ w, QM w b s4 la 0 → _) := ⟨fun w h => HCd.out w b s4 la false h (by have := HS4.out; omega) (cq_liv2 HQ.out HL.out (fun e => by cases e) hD3.out ho hs4)⟩
             have HR : Kept (∀ vb s5 lb c, DRes false (cd (toks s4)) la vb s5 lb c → DRes false PP l (vb) s5 lb c) := ⟨fun vb s5 lb c hb => cq_end HQ.out (by simp) (by simp) hD3.out ho hs4 hb (by rw [if_pos rfl])⟩
             clear ht ho hs4 HDl hD3
             go_wp2_with fail
             go_at_call 88
             refine HT4.out.mono ?_
             rintro e w4 ⟨rfl, h3, h4⟩
             have H5 := h3
             have O5 := h4
             clear h3 h4
             go_wp2_with fail
             go_at_call 67
             refine (HCx.out _ H5.out).mono ?_
             rintro e w5 ⟨vb, s5, lb, cb, rfl, hL5, hM5, hQ5, hO5, hD5⟩
             go_wp2_with fail
             go_ret
             exact ⟨_, s5, lb, cb, rfl, ⟨by have := hL5.out; have := HS4.out; omega⟩, ⟨by have := hM5.out; have := HS4.out; omega⟩, hQ5, ⟨(((hO.out.trans O3.out (fun i _ h => h)).trans hO3.out (fun i _ h => h)).trans O5.out (fun i _ h => h)).trans hO5.out (fun i _ h => h)⟩, ⟨HR.out _ _ _ _ hD5.out⟩⟩
         · have HR : Kept (∀ u s9 l9, DRes false PP l u s9 l9 ca) := ⟨fun u s9 l9 => cq_fail HQ.out HL.out (by simp) hD3.out hca⟩
           have HCA := Kept.mk hca
           obtain ⟨s4, hs4⟩ : ∃ s4, s4 = (if t then (trim s3).drop ([58] : Tok).length else trim s3) := ⟨_, rfl⟩
           have HS4 : Kept (s4.length ≤ s3.length) := ⟨by
             rw [hs4]
             cases t with
             | false => exact HTL.out
             | true =>
               rw [if_pos rfl, List.length_drop]
               have := HTL.out
               omega⟩
           rw [← hs4] at HT4
           have HF : Kept (∀ w, QM w b s4 la ca → _) := ⟨fun w h => fail_any w b s4 la ca 130 h⟩
           rw [firstE_of hca] at HF
           clear ht hs4 hD3 hca
           cases t with
           | true =>
             go_wp2_with fail
             go_at_call 88
             refine HT4.out.mono ?_
             rintro e w4 ⟨rfl, h3, h4⟩
             have H5 := h3
             have O5 := h4
             clear h3 h4
             go_wp2_with fail
             go_at_call 67
             refine (HC4.out _ _ _ _ H5.out HCA.out).mono ?_
             rintro e w6 ⟨rfl, h3, h4⟩
             have H7 := h3
             have O7 := h4
             clear h3 h4
             go_wp2_with fail
             go_ret
             exact ⟨_, s4, la, ca, rfl, ⟨by have := HS4.out; have := hL3.out; have := HS2.out; omega⟩, ⟨by have := HS4.out; have := hM3.out; have := HS2.out; omega⟩, H7, ⟨(((hO.out.trans O3.out (fun i _ h => h)).trans hO3.out (fun i _ h => h)).trans O5.out (fun i _ h => h)).trans O7.out (fun i _ h => h)⟩, ⟨HR.out _ _ _⟩⟩
           | false =>
             go_wp2_with fail
             go_at_call 88
             refine HT4.out.mono ?_
             rintro e w4 ⟨rfl, h3, h4⟩
             have H5 := h3
             have O5 := h4
             clear h3 h4
             go_wp2_with fail
             go_at_call 47
             refine (HF.out _ H5.out).mono ?_
             rintro e w5 ⟨rfl, h3, h4⟩
             have H6 := h3
             have O6 := h4
             clear h3 h4
             go_wp2_with fail
             go_at_call 67
             refine (HC4.out _ _ _ _ H6.out HCA.out).mono ?_
             rintro e w6 ⟨rfl, h3, h4⟩
             have H7 := h3
             have O7 := h4
             clear h3 h4
             go_wp2_with fail
             go_ret
             exact ⟨_, s4, la, ca, rfl, ⟨by have := HS4.out; have := hL3.out; have := HS2.out; omega⟩, ⟨by have := HS4.out; have := hM3.out; have := HS2.out; omega⟩, H7, ⟨((((hO.out.trans O3.out (fun i _ h => h)).trans hO3.out (fun i _ h => h)).trans O5.out (fun i _ h => h)).trans O6.out (fun i _ h => h)).trans O7.out (fun i _ h => h)⟩, ⟨HR.out _ _ _⟩⟩
       | true =>
         have HEx : Kept (∀ w, QM w b s2 l1 0 → _) := ⟨fun w h => HE.out w b s2 l1 false h (by have := HS2.out; omega) (cq_liv HQ.out HL.out (fun e => by cases e))⟩
         go_wp2_with fail
         go_at_call 88
         refine HT.out.mono ?_
         rintro e w2 ⟨rfl, h3, h4⟩
         have H3 := h3
         have O3 := h4
         clear h3 h4
         go_wp2_with fail
         go_at_call 46
         refine (HEx.out _ H3.out).mono ?_
         rintro e w3 ⟨va, s3, la, ca, rfl, hL3, hM3, hQ3, hO3, hD3⟩
         have HTL := Kept.mk (trim_le s3)
         obtain ⟨t, ht⟩ : ∃ t, t = decide (opS (trim s3) = [58]) := ⟨_, rfl⟩
         have HT4 := Kept.mk (take_lit [58] ⟨#[58]⟩ rfl (by decide) w3 b s3 la ca hQ3.out (by have := hM3.out; have := HS2.out; omega) t ht)
         have HC4 : Kept (∀ w s l c, QM w b s l c → c ≠ 0 → _) := ⟨fun w s l c h hc => cond_bad (d := d1) (live := true) h hc⟩
         by_cases hca : ca = 0
         · subst hca
           cases t with
           | false =>
             have ho : opS (trim s3) ≠ [58] := of_decide_eq_false ht.symm
             simp only [Bool.false_eq_true, if_false] at HT4
             have HR : Kept (∀ u s9 l9, DRes true PP l u s9 l9 130) := ⟨fun u s9 l9 => cq_none HQ.out hD3.out ho⟩
             have HF : Kept (∀ w, QM w b (trim s3) la 0 → _) := ⟨fun w h => fail_any w b (trim s3) la 0 130 h⟩
             rw [firstE_z] at HF
             clear ht ho hD3
             generalize trim s3 = s4 at HT4 HF HTL
             go_wp2_with fail
             go_at_call 88
             refine HT4.out.mono ?_
             rintro e w4 ⟨rfl, h3, h4⟩
             have H5 := h3
             have O5 := h4
             clear h3 h4
             go_wp2_with fail
             go_at_call 47
             refine (HF.out _ H5.out).mono ?_
             rintro e w5 ⟨rfl, h3, h4⟩
             have H6 := h3
             have O6 := h4
             clear h3 h4
             go_wp2_with fail
             go_at_call 67
             refine (HC4.out _ _ _ _ H6.out (by decide)).mono ?_
             rintro e w6 ⟨rfl, h3, h4⟩
             have H7 := h3
             have O7 := h4
             clear h3 h4
             go_wp2_with fail
             go_ret
             exact ⟨_, s4, la, 130, rfl, ⟨by have := HTL.out; have := hL3.out; have := HS2.out; omega⟩, ⟨by have := HTL.out; have := hM3.out; have := HS2.out; omega⟩, H7, ⟨((((hO.out.trans O3.out (fun i _ h => h)).trans hO3.out (fun i _ h => h)).trans O5.out (fun i _ h => h)).trans O6.out (fun i _ h => h)).trans O7.out (fun i _ h => h)⟩, ⟨HR.out _ _ _⟩⟩
           | true =>
             have ho : opS (trim s3) = [58] := of_decide_eq_true ht.symm
             simp only [if_true] at HT4
             have HDl := Kept.mk (drop_lt ho (by decide))
             obtain ⟨s4, hs4⟩ : ∃ s4, s4 = (trim s3).drop ([58] : Tok).length := ⟨_, rfl⟩
             rw [← hs4] at HT4 HDl
             have HS4 : Kept (s4.length ≤ LL ∧ la.length + s4.length ≤ MM ∧ MM ≤ 100000) := ⟨by have := HDl.out; have := hL3.out; have := hM3.out; have := HS2.out; omega⟩
             have HCx : Kept (∀ w, QM w b s4 la 0 → _) := ⟨fun w h => HCd.out w b s4 la true h (by have := HS4.out; omega) (cq_liv2 HQ.out HL.out (fun _ => rfl) hD3.out ho hs4)⟩
             have HR : Kept (∀ vb s5 lb c, DRes true (cd (toks s4)) la vb s5 lb c → DRes true PP l (vb) s5 lb c) := ⟨fun vb s5 lb c hb => cq_end HQ.out (by simp) (by simp) hD3.out ho hs4 hb (by rw [if_pos rfl])⟩
             clear ht ho hs4 HDl hD3
             go_wp2_with fail
             go_at_call 88
             refine HT4.out.mono ?_
             rintro e w4 ⟨rfl, h3, h4⟩
             have H5 := h3
             have O5 := h4
             clear h3 h4
             go_wp2_with fail
             go_at_call 67
             refine (HCx.out _ H5.out).mono ?_
             rintro e w5 ⟨vb, s5, lb, cb, rfl, hL5, hM5, hQ5, hO5, hD5⟩
             go_wp2_with fail
             go_ret
             exact ⟨_, s5, lb, cb, rfl, ⟨by have := hL5.out; have := HS4.out; omega⟩, ⟨by have := hM5.out; have := HS4.out; omega⟩, hQ5, ⟨(((hO.out.trans O3.out (fun i _ h => h)).trans hO3.out (fun i _ h => h)).trans O5.out (fun i _ h => h)).trans hO5.out (fun i _ h => h)⟩, ⟨HR.out _ _ _ _ hD5.out⟩⟩
         · have HR : Kept (∀ u s9 l9, DRes true PP l u s9 l9 ca) := ⟨fun u s9 l9 => cq_fail HQ.out HL.out (by simp) hD3.out hca⟩
           have HCA := Kept.mk hca
           obtain ⟨s4, hs4⟩ : ∃ s4, s4 = (if t then (trim s3).drop ([58] : Tok).length else trim s3) := ⟨_, rfl⟩
           have HS4 : Kept (s4.length ≤ s3.length) := ⟨by
             rw [hs4]
             cases t with
             | false => exact HTL.out
             | true =>
               rw [if_pos rfl, List.length_drop]
               have := HTL.out
               omega⟩
           rw [← hs4] at HT4
           have HF : Kept (∀ w, QM w b s4 la ca → _) := ⟨fun w h => fail_any w b s4 la ca 130 h⟩
           rw [firstE_of hca] at HF
           clear ht hs4 hD3 hca
           cases t with
           | true =>
             go_wp2_with fail
             go_at_call 88
             refine HT4.out.mono ?_
             rintro e w4 ⟨rfl, h3, h4⟩
             have H5 := h3
             have O5 := h4
             clear h3 h4
             go_wp2_with fail
             go_at_call 67
             refine (HC4.out _ _ _ _ H5.out HCA.out).mono ?_
             rintro e w6 ⟨rfl, h3, h4⟩
             have H7 := h3
             have O7 := h4
             clear h3 h4
             go_wp2_with fail
             go_ret
             exact ⟨_, s4, la, ca, rfl, ⟨by have := HS4.out; have := hL3.out; have := HS2.out; omega⟩, ⟨by have := HS4.out; have := hM3.out; have := HS2.out; omega⟩, H7, ⟨(((hO.out.trans O3.out (fun i _ h => h)).trans hO3.out (fun i _ h => h)).trans O5.out (fun i _ h => h)).trans O7.out (fun i _ h => h)⟩, ⟨HR.out _ _ _⟩⟩
           | false =>
             go_wp2_with fail
             go_at_call 88
             refine HT4.out.mono ?_
             rintro e w4 ⟨rfl, h3, h4⟩
             have H5 := h3
             have O5 := h4
             clear h3 h4
             go_wp2_with fail
             go_at_call 47
             refine (HF.out _ H5.out).mono ?_
             rintro e w5 ⟨rfl, h3, h4⟩
             have H6 := h3
             have O6 := h4
             clear h3 h4
             go_wp2_with fail
             go_at_call 67
             refine (HC4.out _ _ _ _ H6.out HCA.out).mono ?_
             rintro e w6 ⟨rfl, h3, h4⟩
             have H7 := h3
             have O7 := h4
             clear h3 h4
             go_wp2_with fail
             go_ret
             exact ⟨_, s4, la, ca, rfl, ⟨by have := HS4.out; have := hL3.out; have := HS2.out; omega⟩, ⟨by have := HS4.out; have := hM3.out; have := HS2.out; omega⟩, H7, ⟨((((hO.out.trans O3.out (fun i _ h => h)).trans hO3.out (fun i _ h => h)).trans O5.out (fun i _ h => h)).trans O6.out (fun i _ h => h)).trans O7.out (fun i _ h => h)⟩, ⟨HR.out _ _ _⟩⟩
     · have HV := Kept.mk hv
       have hv1 : (v == 0) = false := beq_eq_false_iff_ne.2 hv
       have hv2 : (v != 0) = true := by simp [bne, hv1]
       clear hv
       cases live with
       | false =>
         have HEx : Kept (∀ w, QM w b s2 l1 0 → _) := ⟨fun w h => HE.out w b s2 l1 false h (by have := HS2.out; omega) (cq_liv HQ.out HL.out (fun e => by cases e))⟩
         go_wp2_with fail
         go_at_call 88
         refine HT.out.mono ?_
         rintro e w2 ⟨rfl, h3, h4⟩
         have H3 := h3
         have O3 := h4
         clear h3 h4
         go_wp2_with fail
         go_at_call 46
         refine (HEx.out _ H3.out).mono ?_
         rintro e w3 ⟨va, s3, la, ca, rfl, hL3, hM3, hQ3, hO3, hD3⟩
         have HTL := Kept.mk (trim_le s3)
         obtain ⟨t, ht⟩ : ∃ t, t = decide (opS (trim s3) = [58]) := ⟨_, rfl⟩
         have HT4 := Kept.mk (take_lit [58] ⟨#[58]⟩ rfl (by decide) w3 b s3 la ca hQ3.out (by have := hM3.out; have := HS2.out; omega) t ht)
         have HC4 : Kept (∀ w s l c, QM w b s l c → c ≠ 0 → _) := ⟨fun w s l c h hc => cond_bad (d := d1) (live := false) h hc⟩
         by_cases hca : ca = 0
         · subst hca
           cases t with
           | false =>
             have ho : opS (trim s3) ≠ [58] := of_decide_eq_false ht.symm
             simp only [Bool.false_eq_true, if_false] at HT4
             have HR : Kept (∀ u s9 l9, DRes false PP l u s9 l9 130) := ⟨fun u s9 l9 => cq_none HQ.out hD3.out ho⟩
             have HF : Kept (∀ w, QM w b (trim s3) la 0 → _) := ⟨fun w h => fail_any w b (trim s3) la 0 130 h⟩
             rw [firstE_z] at HF
             clear ht ho hD3
             generalize trim s3 = s4 at HT4 HF HTL
             go_wp2_with fail
             go_at_call 88
             refine HT4.out.mono ?_
             rintro e w4 ⟨rfl, h3, h4⟩
             have H5 := h3
             have O5 := h4
             clear h3 h4
             go_wp2_with fail
             go_at_call 47
             refine (HF.out _ H5.out).mono ?_
             rintro e w5 ⟨rfl, h3, h4⟩
             have H6 := h3
             have O6 := h4
             clear h3 h4
             go_wp2_with fail
             go_at_call 67
             refine (HC4.out _ _ _ _ H6.out (by decide)).mono ?_
             rintro e w6 ⟨rfl, h3, h4⟩
             have H7 := h3
             have O7 := h4
             clear h3 h4
             go_wp2_with fail
             go_ret
             exact ⟨_, s4, la, 130, rfl, ⟨by have := HTL.out; have := hL3.out; have := HS2.out; omega⟩, ⟨by have := HTL.out; have := hM3.out; have := HS2.out; omega⟩, H7, ⟨((((hO.out.trans O3.out (fun i _ h => h)).trans hO3.out (fun i _ h => h)).trans O5.out (fun i _ h => h)).trans O6.out (fun i _ h => h)).trans O7.out (fun i _ h => h)⟩, ⟨HR.out _ _ _⟩⟩
           | true =>
             have ho : opS (trim s3) = [58] := of_decide_eq_true ht.symm
             simp only [if_true] at HT4
             have HDl := Kept.mk (drop_lt ho (by decide))
             obtain ⟨s4, hs4⟩ : ∃ s4, s4 = (trim s3).drop ([58] : Tok).length := ⟨_, rfl⟩
             rw [← hs4] at HT4 HDl
             have HS4 : Kept (s4.length ≤ LL ∧ la.length + s4.length ≤ MM ∧ MM ≤ 100000) := ⟨by have := HDl.out; have := hL3.out; have := hM3.out; have := HS2.out; omega⟩
             have HCx : Kept (∀ w, QM w b s4 la 0 → _) := ⟨fun w h => HCd.out w b s4 la false h (by have := HS4.out; omega) (cq_liv2 HQ.out HL.out (fun e => by cases e) hD3.out ho hs4)⟩
             have HR : Kept (∀ vb s5 lb c, DRes false (cd (toks s4)) la vb s5 lb c → DRes false PP l (va) s5 lb c) := ⟨fun vb s5 lb c hb => cq_end HQ.out (by simp [HV.out]) (by simp [HV.out]) hD3.out ho hs4 hb (by rw [if_neg HV.out])⟩
             clear ht ho hs4 HDl hD3
             go_wp2_with fail
             go_at_call 88
             refine HT4.out.mono ?_
             rintro e w4 ⟨rfl, h3, h4⟩
             have H5 := h3
             have O5 := h4
             clear h3 h4
             go_wp2_with fail
             go_at_call 67
             refine (HCx.out _ H5.out).mono ?_
             rintro e w5 ⟨vb, s5, lb, cb, rfl, hL5, hM5, hQ5, hO5, hD5⟩
             go_wp2_with fail
             go_ret
             exact ⟨_, s5, lb, cb, rfl, ⟨by have := hL5.out; have := HS4.out; omega⟩, ⟨by have := hM5.out; have := HS4.out; omega⟩, hQ5, ⟨(((hO.out.trans O3.out (fun i _ h => h)).trans hO3.out (fun i _ h => h)).trans O5.out (fun i _ h => h)).trans hO5.out (fun i _ h => h)⟩, ⟨HR.out _ _ _ _ hD5.out⟩⟩
         · have HR : Kept (∀ u s9 l9, DRes false PP l u s9 l9 ca) := ⟨fun u s9 l9 => cq_fail HQ.out HL.out (by simp [HV.out]) hD3.out hca⟩
           have HCA := Kept.mk hca
           obtain ⟨s4, hs4⟩ : ∃ s4, s4 = (if t then (trim s3).drop ([58] : Tok).length else trim s3) := ⟨_, rfl⟩
           have HS4 : Kept (s4.length ≤ s3.length) := ⟨by
             rw [hs4]
             cases t with
             | false => exact HTL.out
             | true =>
               rw [if_pos rfl, List.length_drop]
               have := HTL.out
               omega⟩
           rw [← hs4] at HT4
           have HF : Kept (∀ w, QM w b s4 la ca → _) := ⟨fun w h => fail_any w b s4 la ca 130 h⟩
           rw [firstE_of hca] at HF
           clear ht hs4 hD3 hca
           cases t with
           | true =>
             go_wp2_with fail
             go_at_call 88
             refine HT4.out.mono ?_
             rintro e w4 ⟨rfl, h3, h4⟩
             have H5 := h3
             have O5 := h4
             clear h3 h4
             go_wp2_with fail
             go_at_call 67
             refine (HC4.out _ _ _ _ H5.out HCA.out).mono ?_
             rintro e w6 ⟨rfl, h3, h4⟩
             have H7 := h3
             have O7 := h4
             clear h3 h4
             go_wp2_with fail
             go_ret
             exact ⟨_, s4, la, ca, rfl, ⟨by have := HS4.out; have := hL3.out; have := HS2.out; omega⟩, ⟨by have := HS4.out; have := hM3.out; have := HS2.out; omega⟩, H7, ⟨(((hO.out.trans O3.out (fun i _ h => h)).trans hO3.out (fun i _ h => h)).trans O5.out (fun i _ h => h)).trans O7.out (fun i _ h => h)⟩, ⟨HR.out _ _ _⟩⟩
           | false =>
             go_wp2_with fail
             go_at_call 88
             refine HT4.out.mono ?_
             rintro e w4 ⟨rfl, h3, h4⟩
             have H5 := h3
             have O5 := h4
             clear h3 h4
             go_wp2_with fail
             go_at_call 47
             refine (HF.out _ H5.out).mono ?_
             rintro e w5 ⟨rfl, h3, h4⟩
             have H6 := h3
             have O6 := h4
             clear h3 h4
             go_wp2_with fail
             go_at_call 67
             refine (HC4.out _ _ _ _ H6.out HCA.out).mono ?_
             rintro e w6 ⟨rfl, h3, h4⟩
             have H7 := h3
             have O7 := h4
             clear h3 h4
             go_wp2_with fail
             go_ret
             exact ⟨_, s4, la, ca, rfl, ⟨by have := HS4.out; have := hL3.out; have := HS2.out; omega⟩, ⟨by have := HS4.out; have := hM3.out; have := HS2.out; omega⟩, H7, ⟨((((hO.out.trans O3.out (fun i _ h => h)).trans hO3.out (fun i _ h => h)).trans O5.out (fun i _ h => h)).trans O6.out (fun i _ h => h)).trans O7.out (fun i _ h => h)⟩, ⟨HR.out _ _ _⟩⟩
       | true =>
         have HEx : Kept (∀ w, QM w b s2 l1 0 → _) := ⟨fun w h => HE.out w b s2 l1 true h (by have := HS2.out; omega) (cq_liv HQ.out HL.out (fun _ => rfl))⟩
         go_wp2_with fail
         go_at_call 88
         refine HT.out.mono ?_
         rintro e w2 ⟨rfl, h3, h4⟩
         have H3 := h3
         have O3 := h4
         clear h3 h4
         go_wp2_with fail
         go_at_call 46
         refine (HEx.out _ H3.out).mono ?_
         rintro e w3 ⟨va, s3, la, ca, rfl, hL3, hM3, hQ3, hO3, hD3⟩
         have HTL := Kept.mk (trim_le s3)
         obtain ⟨t, ht⟩ : ∃ t, t = decide (opS (trim s3) = [58]) := ⟨_, rfl⟩
         have HT4 := Kept.mk (take_lit [58] ⟨#[58]⟩ rfl (by decide) w3 b s3 la ca hQ3.out (by have := hM3.out; have := HS2.out; omega) t ht)
         have HC4 : Kept (∀ w s l c, QM w b s l c → c ≠ 0 → _) := ⟨fun w s l c h hc => cond_bad (d := d1) (live := false) h hc⟩
         by_cases hca : ca = 0
         · subst hca
           cases t with
           | false =>
             have ho : opS (trim s3) ≠ [58] := of_decide_eq_false ht.symm
             simp only [Bool.false_eq_true, if_false] at HT4
             have HR : Kept (∀ u s9 l9, DRes true PP l u s9 l9 130) := ⟨fun u s9 l9 => cq_none HQ.out hD3.out ho⟩
             have HF : Kept (∀ w, QM w b (trim s3) la 0 → _) := ⟨fun w h => fail_any w b (trim s3) la 0 130 h⟩
             rw [firstE_z] at HF
             clear ht ho hD3
             generalize trim s3 = s4 at HT4 HF HTL
             go_wp2_with fail
             go_at_call 88
             refine HT4.out.mono ?_
             rintro e w4 ⟨rfl, h3, h4⟩
             have H5 := h3
             have O5 := h4
             clear h3 h4
             go_wp2_with fail
             go_at_call 47
             refine (HF.out _ H5.out).mono ?_
             rintro e w5 ⟨rfl, h3, h4⟩
             have H6 := h3
             have O6 := h4
             clear h3 h4
             go_wp2_with fail
             go_at_call 67
             refine (HC4.out _ _ _ _ H6.out (by decide)).mono ?_
             rintro e w6 ⟨rfl, h3, h4⟩
             have H7 := h3
             have O7 := h4
             clear h3 h4
             go_wp2_with fail
             go_ret
             exact ⟨_, s4, la, 130, rfl, ⟨by have := HTL.out; have := hL3.out; have := HS2.out; omega⟩, ⟨by have := HTL.out; have := hM3.out; have := HS2.out; omega⟩, H7, ⟨((((hO.out.trans O3.out (fun i _ h => h)).trans hO3.out (fun i _ h => h)).trans O5.out (fun i _ h => h)).trans O6.out (fun i _ h => h)).trans O7.out (fun i _ h => h)⟩, ⟨HR.out _ _ _⟩⟩
           | true =>
             have ho : opS (trim s3) = [58] := of_decide_eq_true ht.symm
             simp only [if_true] at HT4
             have HDl := Kept.mk (drop_lt ho (by decide))
             obtain ⟨s4, hs4⟩ : ∃ s4, s4 = (trim s3).drop ([58] : Tok).length := ⟨_, rfl⟩
             rw [← hs4] at HT4 HDl
             have HS4 : Kept (s4.length ≤ LL ∧ la.length + s4.length ≤ MM ∧ MM ≤ 100000) := ⟨by have := HDl.out; have := hL3.out; have := hM3.out; have := HS2.out; omega⟩
             have HCx : Kept (∀ w, QM w b s4 la 0 → _) := ⟨fun w h => HCd.out w b s4 la false h (by have := HS4.out; omega) (cq_liv2 HQ.out HL.out (fun e => by cases e) hD3.out ho hs4)⟩
             have HR : Kept (∀ vb s5 lb c, DRes false (cd (toks s4)) la vb s5 lb c → DRes true PP l (va) s5 lb c) := ⟨fun vb s5 lb c hb => cq_end HQ.out (by simp [HV.out]) (by simp [HV.out]) hD3.out ho hs4 hb (by rw [if_neg HV.out])⟩
             clear ht ho hs4 HDl hD3
             go_wp2_with fail
             go_at_call 88
             refine HT4.out.mono ?_
             rintro e w4 ⟨rfl, h3, h4⟩
             have H5 := h3
             have O5 := h4
             clear h3 h4
             go_wp2_with fail
             go_at_call 67
             refine (HCx.out _ H5.out).mono ?_
             rintro e w5 ⟨vb, s5, lb, cb, rfl, hL5, hM5, hQ5, hO5, hD5⟩
             go_wp2_with fail
             go_ret
             exact ⟨_, s5, lb, cb, rfl, ⟨by have := hL5.out; have := HS4.out; omega⟩, ⟨by have := hM5.out; have := HS4.out; omega⟩, hQ5, ⟨(((hO.out.trans O3.out (fun i _ h => h)).trans hO3.out (fun i _ h => h)).trans O5.out (fun i _ h => h)).trans hO5.out (fun i _ h => h)⟩, ⟨HR.out _ _ _ _ hD5.out⟩⟩
         · have HR : Kept (∀ u s9 l9, DRes true PP l u s9 l9 ca) := ⟨fun u s9 l9 => cq_fail HQ.out HL.out (by simp [HV.out]) hD3.out hca⟩
           have HCA := Kept.mk hca
           obtain ⟨s4, hs4⟩ : ∃ s4, s4 = (if t then (trim s3).drop ([58] : Tok).length else trim s3) := ⟨_, rfl⟩
           have HS4 : Kept (s4.length ≤ s3.length) := ⟨by
             rw [hs4]
             cases t with
             | false => exact HTL.out
             | true =>
               rw [if_pos rfl, List.length_drop]
               have := HTL.out
               omega⟩
           rw [← hs4] at HT4
           have HF : Kept (∀ w, QM w b s4 la ca → _) := ⟨fun w h => fail_any w b s4 la ca 130 h⟩
           rw [firstE_of hca] at HF
           clear ht hs4 hD3 hca
           cases t with
           | true =>
             go_wp2_with fail
             go_at_call 88
             refine HT4.out.mono ?_
             rintro e w4 ⟨rfl, h3, h4⟩
             have H5 := h3
             have O5 := h4
             clear h3 h4
             go_wp2_with fail
             go_at_call 67
             refine (HC4.out _ _ _ _ H5.out HCA.out).mono ?_
             rintro e w6 ⟨rfl, h3, h4⟩
             have H7 := h3
             have O7 := h4
             clear h3 h4
             go_wp2_with fail
             go_ret
             exact ⟨_, s4, la, ca, rfl, ⟨by have := HS4.out; have := hL3.out; have := HS2.out; omega⟩, ⟨by have := HS4.out; have := hM3.out; have := HS2.out; omega⟩, H7, ⟨(((hO.out.trans O3.out (fun i _ h => h)).trans hO3.out (fun i _ h => h)).trans O5.out (fun i _ h => h)).trans O7.out (fun i _ h => h)⟩, ⟨HR.out _ _ _⟩⟩
           | false =>
             go_wp2_with fail
             go_at_call 88
             refine HT4.out.mono ?_
             rintro e w4 ⟨rfl, h3, h4⟩
             have H5 := h3
             have O5 := h4
             clear h3 h4
             go_wp2_with fail
             go_at_call 47
             refine (HF.out _ H5.out).mono ?_
             rintro e w5 ⟨rfl, h3, h4⟩
             have H6 := h3
             have O6 := h4
             clear h3 h4
             go_wp2_with fail
             go_at_call 67
             refine (HC4.out _ _ _ _ H6.out HCA.out).mono ?_
             rintro e w6 ⟨rfl, h3, h4⟩
             have H7 := h3
             have O7 := h4
             clear h3 h4
             go_wp2_with fail
             go_ret
             exact ⟨_, s4, la, ca, rfl, ⟨by have := HS4.out; have := hL3.out; have := HS2.out; omega⟩, ⟨by have := HS4.out; have := hM3.out; have := HS2.out; omega⟩, H7, ⟨((((hO.out.trans O3.out (fun i _ h => h)).trans hO3.out (fun i _ h => h)).trans O5.out (fun i _ h => h)).trans O6.out (fun i _ h => h)).trans O7.out (fun i _ h => h)⟩, ⟨HR.out _ _ _⟩⟩
 · have HR : Kept (DRes live PP l v s1 l1 c) := ⟨by
     have hl2 := HL.out
     rw [HPP.out] at hl2 ⊢
     exact cond_fail hl2 hD.out hc⟩
   have hc1 : (c == 0) = false := beq_eq_false_iff_ne.2 hc
   go_wp2_with fail
   go_ret
   exact ⟨v, s1, l1, c, rfl, hL, hM, hQ, hO, HR⟩
end Ar
end Go.Proofs.YtlggpefmojacoaaGreatDoor
end
section
namespace Go.Proofs.YtlggpefmojacoaaGreatDoor
open Go.RowKit Tx
namespace Ar
open Va (Vr VS getD set Sorted SEnd)

theorem QM.vars {w : World} {b : Nat} {s : List UInt8} {l m : List Vr} {c : Int} (h : QM w b s l c) {A : Option Addr} {n k : Nat} (hv : VS w A k m) (hn : n = m.length) (ho : Ok m) : QM (w.setCell ⟨b, 1, none⟩ (.slice A n k)) b s m c ∧ Only (· = b) w (w.setCell ⟨b, 1, none⟩ (.slice A n k)) := by
 subst hn
 obtain ⟨A0, k0, hr, hv0⟩ := h.row
 exact ⟨⟨⟨A, k, by have := heap_setCell_same w b 1 _ _ (.slice A m.length k) hr; simpa using this, VS.elsewhere hv hr ⟨_, _, _, rfl⟩ ⟨_, rfl⟩ (by simp [World.setCell]) fun g hg => Below.heap_setCell _ _ _ _ hg⟩, ho⟩, (Only.refl _ _).setCell _ _ (fun _ => rfl)⟩
theorem VS.only {w w2 : World} {b : Nat} {A : Option Addr} {k : Nat} {m : List Vr} (hv : VS w A k m) (ho : Only (· = b) w w2) {s : List UInt8} {l : List Vr} {c : Int} (hq : QM w b s l c) : VS w2 A k m := by
 obtain ⟨A0, k0, hr, _⟩ := hq.row
 refine ⟨hv.cap, hv.nil, fun hl => ?_⟩
 obtain ⟨g, off, h1, h3, h4⟩ := hv.mem hl
 have hg : g ≠ b := by
   rintro rfl
   obtain ⟨v, t, rfl⟩ := List.exists_cons_of_ne_nil hl
   have h5 := h4 0 (.string v.name) rfl
   have h6 := h4 1 (.string v.value) rfl
   rw [cell_of_row w g (off + 0) _ _ _ hr] at h5
   rw [cell_of_row w g (off + 1) _ _ _ hr] at h6
   match off, h5, h6 with
   | 0, _, h6 => simp at h6
   | 1, h5, _ => simp at h5
   | 2, h5, _ => simp at h5
   | o + 3, h5, _ => simp at h5
 exact ⟨g, off, h1, Nat.lt_of_lt_of_le h3 ho.size, fun j u hu => (World.cell?_of_block (w := w) (a := ⟨g, off + j, none⟩) (ho.block g h3 hg)).trans (h4 j u hu)⟩
theorem QM.c1 {w : World} {b : Nat} {s : List UInt8} {l : List Vr} {c : Int} (h : QM w b s l c) : ∃ v, w.cell? ⟨b, 1, none⟩ = some v := by
 obtain ⟨A, k, hr, _⟩ := h.row
 exact ⟨_, cell_of_row w b 1 _ _ _ hr⟩
set_option maxHeartbeats 1000000 in
set_option maxRecDepth 100000 in
theorem ra_add (a b : Int) (w : World) : Calls Tryz.prog 18 #[.string ⟨#[43, 61]⟩, .int .i64 a, .int .i64 b] w fun e w' => e = .returned (.tuple #[.int .i64 (wrap64 (a + b)), .int .i64 0]) ∧ w = w' := by
 go_enter Tryz.func18, Tryz.ntmps18
 go_wp2_with fail
 go_ret2
 exact ⟨rfl, rfl⟩
set_option maxHeartbeats 1000000 in
set_option maxRecDepth 100000 in
theorem ra_sub (a b : Int) (w : World) : Calls Tryz.prog 18 #[.string ⟨#[45, 61]⟩, .int .i64 a, .int .i64 b] w fun e w' => e = .returned (.tuple #[.int .i64 (wrap64 (a - b)), .int .i64 0]) ∧ w = w' := by
 go_enter Tryz.func18, Tryz.ntmps18
 go_wp2_with fail
 go_ret2
 exact ⟨rfl, rfl⟩
set_option maxHeartbeats 1000000 in
set_option maxRecDepth 100000 in
theorem ra_mul (a b : Int) (w : World) : Calls Tryz.prog 18 #[.string ⟨#[42, 61]⟩, .int .i64 a, .int .i64 b] w fun e w' => e = .returned (.tuple #[.int .i64 (wrap64 (a * b)), .int .i64 0]) ∧ w = w' := by
 go_enter Tryz.func18, Tryz.ntmps18
 go_wp2_with fail
 go_ret2
 exact ⟨rfl, rfl⟩
set_option maxHeartbeats 1000000 in
set_option maxRecDepth 100000 in
theorem ra_quo0 (a : Int) (w : World) : Calls Tryz.prog 18 #[.string ⟨#[47, 61]⟩, .int .i64 a, .int .i64 0] w fun e w' => e = .returned (.tuple #[.int .i64 0, .int .i64 131]) ∧ w = w' := by
 go_enter Tryz.func18, Tryz.ntmps18
 go_wp2_with fail
 go_ret2
 exact ⟨rfl, rfl⟩
set_option maxHeartbeats 1000000 in
set_option maxRecDepth 100000 in
theorem ra_quo (a b : Int) (w : World) (hb : b ≠ 0) : Calls Tryz.prog 18 #[.string ⟨#[47, 61]⟩, .int .i64 a, .int .i64 b] w fun e w' => e = .returned (.tuple #[.int .i64 (wrap64 (a.tdiv b)), .int .i64 0]) ∧ w = w' := by
 have hb1 : (b == 0) = false := beq_eq_false_iff_ne.2 hb
 go_enter Tryz.func18, Tryz.ntmps18
 go_wp2_with fail
 go_ret2
 exact ⟨rfl, rfl⟩
set_option maxHeartbeats 1000000 in
set_option maxRecDepth 100000 in
theorem ra_rem0 (a : Int) (w : World) : Calls Tryz.prog 18 #[.string ⟨#[37, 61]⟩, .int .i64 a, .int .i64 0] w fun e w' => e = .returned (.tuple #[.int .i64 0, .int .i64 131]) ∧ w = w' := by
 go_enter Tryz.func18, Tryz.ntmps18
 go_wp2_with fail
 go_ret2
 exact ⟨rfl, rfl⟩
set_option maxHeartbeats 1000000 in
set_option maxRecDepth 100000 in
theorem ra_rem (a b : Int) (w : World) (hb : b ≠ 0) : Calls Tryz.prog 18 #[.string ⟨#[37, 61]⟩, .int .i64 a, .int .i64 b] w fun e w' => e = .returned (.tuple #[.int .i64 (a.tmod b), .int .i64 0]) ∧ w = w' := by
 have hb1 : (b == 0) = false := beq_eq_false_iff_ne.2 hb
 go_enter Tryz.func18, Tryz.ntmps18
 go_wp2_with fail
 go_ret2
 exact ⟨rfl, rfl⟩
theorem asgTwo_any (o : Tok) (h : o ∈ asgS) (h1 : o ≠ [61]) (a b : Int) (w : World) : Calls Tryz.prog 18 #[.string (bs o), .int .i64 a, .int .i64 b] w (TwE (two o.dropLast a b) w) := by
 simp only [asgS, List.mem_cons, List.not_mem_nil, or_false] at h
 rcases h with rfl | rfl | rfl | rfl | rfl | rfl
 · exact absurd rfl h1
 · exact ra_add a b w
 · exact ra_sub a b w
 · exact ra_mul a b w
 · by_cases hb : b = 0
   · subst hb
     exact ra_quo0 a w
   · rw [show two ([47, 61] : Tok).dropLast a b = .ok (wrap64 (a.tdiv b)) by simp [two, hb]]
     exact ra_quo a b w hb
 · by_cases hb : b = 0
   · subst hb
     exact ra_rem0 a w
   · rw [show two ([37, 61] : Tok).dropLast a b = .ok (a.tmod b) by simp [two, hb]]
     exact ra_rem a b w hb
theorem assigns_not (w : World) (b : Nat) (s T R : List UInt8) (l : List Vr) (c : Int) (h : QM w b s l c) (hs : s.length ≤ 100000) (hT : T = trim s) (hR : R = T.drop (Wx.nameL T)) (ho : ¬ (0 < Wx.nameL T ∧ opS (trim R) ∈ asgS)) :
   Calls Tryz.prog 66 #[.pointer (some ⟨b, 0, none⟩)] w fun e w' => e = .returned (.tuple #[.string ⟨#[]⟩, .string ⟨#[]⟩]) ∧ Kept (QM w' b T l c) ∧ Kept (Only (· = b) w w') := by
 by_cases h1 : opS (trim R) ∈ asgS
 · exact assigns_none w b s T R l c h hs hT hR h1 (by have : ¬ 0 < Wx.nameL T := fun e => ho ⟨e, h1⟩; omega)
 · exact assigns_no w b s T R l c h hs hT hR h1
section
variable {w : World} {b : Nat} {s : List UInt8} {l : List Vr} {live : Bool} {c : Int} {cd ex : P} {d d1 : Int}
theorem ex_deep (hd : 30 < d) : DrC 46 (fun _ => .error 2) d := by
 intro w b s l live h hm hl
 have HF := Kept.mk (fail_any w b s l 0 2 h)
 rw [firstE_z] at HF
 have HC : Kept (∀ w, QM w b s l 2 → w.cell? ⟨b, 2, none⟩ = some (.int .i64 2)) := ⟨fun w h => h.c2⟩
 clear h hm hl
 go_enter Tryz.func46, Tryz.ntmps46
 go_wp2_with fail
 go_at_call 47
 refine HF.out.mono ?_
 rintro e w1 ⟨rfl, h1, h2⟩
 have H1 := h1
 have H2 := h2
 have k2 := HC.out _ h1.out
 clear h1 h2
 go_wp2_with fail
 go_ret
 exact ⟨0, s, l, 2, rfl, ⟨Nat.le_refl _⟩, ⟨Nat.le_refl _⟩, H1, H2, ⟨.err rfl (by decide)⟩⟩
set_option maxHeartbeats 4000000 in
set_option maxRecDepth 100000 in
theorem ex_none (hC : DrC 67 cd d) (hdd : ¬ 30 < d) (h : QM w b s l 0) (hm : l.length + s.length ≤ 100000) (hl : LivOk live (exprF cd ex (toks s))) (ho : ¬ (0 < Wx.nameL (trim s) ∧ opS (trim ((trim s).drop (Wx.nameL (trim s)))) ∈ asgS)) :
   Calls Tryz.prog 46 #[.pointer (some ⟨b, 0, none⟩), .bool live, .int .i64 d] w (DOut w b s.length (l.length + s.length) live (exprF cd ex (toks s)) l) := by
 have HA := Kept.mk (assigns_not w b s (trim s) _ l 0 h (by omega) rfl rfl ho)
 have hp := asg_no (s := s) cd ex rfl rfl ho
 rw [hp] at hl ⊢
 have htl := trim_le s
 have HC : Kept (∀ w, QM w b (trim s) l 0 → _) := ⟨fun w h => hC w b (trim s) l live h (by omega) (by rw [toks_trim]; exact hl)⟩
 rw [toks_trim] at HC
 have HTL := Kept.mk htl
 have e2 := h.c2
 clear hC h hm hl ho hp htl
 generalize cd (toks s) = PP at HC ⊢
 generalize trim s = T at HA HC HTL
 generalize s.length = LL at HTL ⊢
 go_enter Tryz.func46, Tryz.ntmps46
 go_wp2_with fail
 go_at_call 66
 refine HA.out.mono ?_
 rintro e w1 ⟨rfl, h1, h2⟩
 have H1 := h1
 have H2 := h2
 clear h1 h2
 go_wp2_with fail
 go_at_call 67
 refine (HC.out _ H1.out).mono ?_
 rintro e w2 ⟨v, s2, l2, c, rfl, hL, hM, hQ, hO, hD⟩
 go_wp2_with fail
 go_ret
 exact ⟨v, s2, l2, c, rfl, ⟨by have := hL.out; have := HTL.out; omega⟩, ⟨by have := hM.out; have := HTL.out; omega⟩, hQ, ⟨H2.out.trans hO.out (fun i _ h => h)⟩, hD⟩
theorem dres_rng {q s2 : List UInt8} {l2 : List Vr} {n : Int} (hF : Fine ex) (hq : q.length ≤ 1000000) (hok : Ok l) (h : DRes true (ex (toks q)) l n s2 l2 0) : rng n := by
 rcases h.cases with ⟨he, hc⟩ | ⟨x, r, hv, he, h0, h1, ht⟩ | ⟨x, r, hv, he, h0, hx, ht⟩ | ⟨x, r, hv, he, hc, hx⟩
 · exact absurd rfl hc
 · cases hv
 · exact (ev_ok (hF _ _ _ (fun t ht => Nat.le_trans (toks_len q t ht) hq) he).1 hok hx).2.1
 · exact absurd rfl hc
set_option maxHeartbeats 8000000 in
set_option maxRecDepth 100000 in
theorem ex_yes (hE : DrC 46 ex d1) (hFn : Fine ex) (hd : IntKind.i64.wrap (d + 1) = d1) (hdd : ¬ 30 < d) (h : QM w b s l 0) (hm : l.length + s.length ≤ 100000) (hl : LivOk live (exprF cd ex (toks s))) (o : Tok) (hn : 0 < Wx.nameL (trim s)) (ho : opS (trim ((trim s).drop (Wx.nameL (trim s)))) = o) (hom : o ∈ asgS) :
   Calls Tryz.prog 46 #[.pointer (some ⟨b, 0, none⟩), .bool live, .int .i64 d] w (DOut w b s.length (l.length + s.length) live (exprF cd ex (toks s)) l) := by
 have HA := Kept.mk (assigns_yes w b s (trim s) _ l 0 h (by omega) rfl rfl o hom ho hn)
 have hp := asg_yes (s := s) cd ex rfl rfl hn ho hom
 have ho0 : o ≠ [] := by rintro rfl; revert hom; decide
 have hlt := drop_lt ho ho0
 have hol : 0 < o.length := List.length_pos_iff.2 ho0
 have htl := trim_le s
 have hnl := Wx.nameL_le (trim s)
 have hRl : ((trim s).drop (Wx.nameL (trim s))).length = (trim s).length - Wx.nameL (trim s) := List.length_drop
 obtain ⟨xn, hxn⟩ : ∃ xn, xn = (trim s).take (Wx.nameL (trim s)) := ⟨_, rfl⟩
 have hxl : 0 < xn.length ∧ xn.length ≤ 100000 := by rw [hxn, List.length_take]; omega
 obtain ⟨q, hq⟩ : ∃ q, q = (trim ((trim s).drop (Wx.nameL (trim s)))).drop o.length := ⟨_, rfl⟩
 rw [← hq] at HA hp hlt
 rw [← hxn] at HA hp
 obtain ⟨PP, hPP⟩ : ∃ PP, PP = exprF cd ex (toks s) := ⟨_, rfl⟩
 rw [← hPP] at hl hp ⊢
 have HAP : Kept (AsgP PP ex q xn o) := ⟨hp⟩
 have HM := Kept.mk (show q.length + 2 ≤ s.length ∧ l.length + s.length ≤ 100000 from ⟨by omega, hm⟩)
 have HE : Kept (∀ w, QM w b q l 0 → _) := ⟨fun w h => hE w b q l live h (by have := HM.out; omega) (asg_liv hp hl)⟩
 have HRn : Kept (∀ n s2 l2, live = true → DRes live (ex (toks q)) l n s2 l2 0 → rng n) := ⟨fun n s2 l2 hlv hd => by subst hlv; exact dres_rng hFn (by have := HM.out; omega) h.ok hd⟩
 have hx0 : ((bs xn).toList == []) = false := by
   rw [lit_beq2]
   exact decide_eq_false (fun e => by rw [e] at hxl; exact absurd hxl.1 (by decide))
 have hx1 : ((bs xn).toList != []) = true := by simp [bne, hx0]
 have HXs : Kept ((bs xn).size ≤ 1000000) := ⟨by rw [bs_size]; omega⟩
 have HOm := Kept.mk hom
 have hoe := lit_beq2 o [61]
 have e2 := h.c2
 clear hE hFn h hm hl hn ho hom hp ho0 hlt hol htl hnl hRl hxn hxl hq hPP
 generalize hMM : l.length + s.length = MM at HM ⊢
 have HMM : Kept (MM = l.length + s.length) := ⟨hMM.symm⟩
 clear hMM
 generalize s.length = LL at HM HMM ⊢
 go_enter Tryz.func46, Tryz.ntmps46
 go_wp2_with fail
 go_at_call 66
 refine HA.out.mono ?_
 rintro e w1 ⟨rfl, h1, h2⟩
 have H1 := h1
 have O1 := h2
 clear h1 h2 e2
 go_wp2_with fail
 go_at_call 46
 refine (HE.out _ H1.out).mono ?_
 rintro e w2 ⟨n, s2, l2, c, rfl, hL, hM, hQ, hO, hD⟩
 have HM2 : Kept (s2.length ≤ LL ∧ l2.length + s2.length + 1 ≤ MM ∧ MM ≤ 100000) := ⟨by have := hL.out; have := hM.out; have := HM.out; have := HMM.out; omega⟩
 have e2 := hQ.out.c2
 by_cases hc : c = 0
 · subst hc
   cases live with
   | false =>
     have HR := Kept.mk (asg_dead (u := n) HAP.out hD.out)
     go_wp2_with fail
     go_ret
     exact ⟨n, s2, l2, 0, rfl, ⟨HM2.out.1⟩, ⟨by have := HM2.out; omega⟩, hQ, ⟨O1.out.trans hO.out (fun i _ h => h)⟩, HR⟩
   | true =>
     have HRg : Kept (rng n) := ⟨HRn.out n s2 l2 rfl hD.out⟩
     by_cases ho1 : o = [61]
     · rw [decide_eq_true ho1] at hoe
       have HAs : Kept (asgV xn o n l2 = .ok n) := ⟨by unfold asgV; rw [if_pos ho1]⟩
       have hoe2 : ((bs o).toList != [61]) = false := by simp [bne, hoe]
       clear ho1
       generalize bs o = O at *
       go_wp2_with fail
       have HRn2 : Kept (rng n) := ⟨asg_rng HRg.out HAs.out⟩
       obtain ⟨z, hz⟩ : ∃ z, z = set l2 (bs xn) (digitsOf n) := ⟨_, rfl⟩
       have HOk3 : Kept (Ok (Va.outL z) ∧ (Va.outL z).length ≤ l2.length + 1) := ⟨by
         cases z with
         | ok l3 => exact set_ok hQ.out.ok (by have := itoa_len HRn2.out; unfold digitsOf; rw [bs_size]; omega) hz.symm
         | error ce => exact ⟨⟨List.Pairwise.nil, fun v hv => by cases hv⟩, Nat.zero_le _⟩⟩
       have HR : Kept (DRes true PP l n s2 (Va.outL z) (Va.outE z)) := ⟨by
         cases z with
         | ok l3 => exact asg_set HAP.out hD.out HAs.out hz.symm
         | error ce => exact asg_ro HAP.out hD.out HAs.out hz.symm (set_ne hz.symm)⟩
       obtain ⟨A, k, hr, hv⟩ := hQ.out.row
       have e1 := cell_of_row w2 b 1 _ _ _ hr
       have HV := Kept.mk hv
       have HLt := Kept.mk hQ.out.lt
       have HDg : Kept (∀ w, _) := ⟨fun w => digits_any n w HRn2.out⟩
       have HSt : Kept (∀ w, VS w A k l2 → _) := ⟨fun w h => Va.refSet_any l2 A l2.length k (bs xn) (digitsOf n) w h rfl (by have := HM2.out; omega) HXs.out⟩
       rw [← hz] at HSt
       have HFl : Kept (∀ w, QM w b s2 l2 0 → _) := ⟨fun w h => fail2_any w b s2 l2 0 (Va.outE z) h⟩
       simp only [firstE_z] at HFl
       clear hr hv hz
       generalize digitsOf n = DG at HDg HSt
       generalize bs xn = XN at *
       go_region_law (first
         | (go_simp; go_at_call 16; refine (HDg.out _).mono ?_; rintro e wd ⟨rfl, hb⟩; have HB4 := Kept.mk ((Below.refl w2.heap.size w2).drew.trans hb); have g1 := (World.cell?_of_block (w := w2) (a := ⟨b, 1, none⟩) (HB4.out.block b HLt.out)).trans e1; clear hb)
         | (go_simp; go_at_call 23; refine (HSt.out _ (HV.out.below HB4.out)).mono ?_; rintro e ws ⟨A5, n5, k5, rfl, hn5, hv5, hb5⟩; have HN5 := Kept.mk hn5; have HV5 := hv5; have HB5 := Kept.mk (HB4.out.trans (hb5.mono HB4.out.size)); clear hn5 hv5 hb5)
         | go_simp)
       all_goals
         have HQ5 := Kept.mk (hQ.out.below HB5.out)
         go_wp2_with fail
         go_at_call 69
         refine (HFl.out _ HQ5.out).mono ?_
         rintro e w9 ⟨rfl, h1, h2⟩
         have HVX := Kept.mk (VS.only HV5.out h2.out HQ5.out)
         have HQ9 := Kept.mk (h1.out.vars HVX.out HN5.out HOk3.out.1)
         obtain ⟨vx, cx⟩ := h1.out.c1
         have fx := h1.out.fz 1
         have O9 := h2
         clear h1 h2
         go_wp2_with fail
         go_ret
         exact ⟨n, s2, Va.outL z, Va.outE z, rfl, ⟨HM2.out.1⟩, ⟨by have := HM2.out; have := HOk3.out; omega⟩, ⟨HQ9.out.1⟩, ⟨(((O1.out.trans hO.out (fun i _ h => h)).below HB5.out).trans O9.out (fun i _ h => h)).trans HQ9.out.2 (fun i _ h => h)⟩, HR⟩
     · rw [decide_eq_false ho1] at hoe
       have hoe2 : ((bs o).toList != [61]) = true := by simp [bne, hoe]
       have HG := Kept.mk (get_live w2 b s2 l2 (bs xn) hQ.out (by have := HM2.out; omega))
       have HTw : Kept (∀ a w, _) := ⟨fun a w => asgTwo_any o HOm.out ho1 a n w⟩
       have HAv : Kept (asgV xn o n l2 = match valV (toL (getD l2 (bs xn)).value) with | none => .error 130 | some a => two o.dropLast a n) := ⟨by unfold asgV; rw [if_neg ho1]; rfl⟩
       obtain ⟨z, hz⟩ : ∃ z, z = valV (toL (getD l2 (bs xn)).value) := ⟨_, rfl⟩
       rw [← hz] at HAv HG
       clear ho1 hz
       generalize bs o = O at *
       cases z with
       | none =>
         have HR : Kept (DRes true PP l 0 s2 l2 130) := ⟨asg_bad HAP.out hD.out HAv.out (by decide)⟩
         have HC : Kept (∀ w, QM w b s2 l2 130 → w.cell? ⟨b, 2, none⟩ = some (.int .i64 130)) := ⟨fun w h => h.c2⟩
         go_wp2_with fail
         go_at_call 68
         refine HG.out.mono ?_
         rintro e w3 ⟨rfl, h1, h2⟩
         have H3 := h1
         have O3 := h2
         have k2 := HC.out _ h1.out
         clear h1 h2 e2
         go_wp2_with fail
         go_ret
         exact ⟨0, s2, l2, 130, rfl, ⟨HM2.out.1⟩, ⟨by have := HM2.out; omega⟩, H3, ⟨(O1.out.trans hO.out (fun i _ h => h)).trans O3.out (fun i _ h => h)⟩, HR⟩
       | some a =>
         have HC : Kept (∀ w c, QM w b s2 l2 c → w.cell? ⟨b, 2, none⟩ = some (.int .i64 c)) := ⟨fun w c h => h.c2⟩
         have HT2 : Kept (∀ w, _) := ⟨fun w => HTw.out a w⟩
         obtain ⟨y, hy⟩ : ∃ y, y = two o.dropLast a n := ⟨_, rfl⟩
         rw [← hy] at HT2
         have HAw : Kept (asgV xn o n l2 = y) := ⟨HAv.out.trans hy.symm⟩
         have HF2 : Kept (∀ w ce, QM w b s2 l2 0 → _) := ⟨fun w ce h => fail2_any w b s2 l2 0 ce h⟩
         simp only [firstE_z] at HF2
         have HNe : Kept (∀ ce, y = .error ce → ce ≠ 0) := ⟨fun ce h => two_ne (hy.symm.trans h)⟩
         clear hy
         go_wp2_with fail
         go_at_call 68
         refine HG.out.mono ?_
         rintro e w3 ⟨rfl, h1, h2⟩
         have H3 : Kept (QM w3 b s2 l2 0) := h1
         have O3 := h2
         have k2 := HC.out _ _ H3.out
         clear h1 h2 e2
         cases y with
         | error ce =>
           have HR : Kept (DRes true PP l 0 s2 l2 ce) := ⟨asg_bad HAP.out hD.out HAw.out (HNe.out ce rfl)⟩
           have hce1 : (ce == 0) = false := beq_eq_false_iff_ne.2 (HNe.out ce rfl)
           have hce2 : (ce != 0) = true := by simp [bne, hce1]
           go_wp2_with fail
           go_at_call 18
           refine (HT2.out _).mono ?_
           rintro e w4 ⟨rfl, rfl⟩
           go_wp2_with fail
           go_at_call 69
           refine (HF2.out _ _ H3.out).mono ?_
           rintro e w5 ⟨rfl, h1, h2⟩
           have H5 := h1
           have O5 := h2
           have k5 := HC.out _ _ h1.out
           clear h1 h2 k2
           go_wp2_with fail
           go_ret
           exact ⟨0, s2, l2, ce, rfl, ⟨HM2.out.1⟩, ⟨by have := HM2.out; omega⟩, H5, ⟨((O1.out.trans hO.out (fun i _ h => h)).trans O3.out (fun i _ h => h)).trans O5.out (fun i _ h => h)⟩, HR⟩
         | ok m =>
           go_wp2_with fail
           go_at_call 18
           refine (HT2.out _).mono ?_
           rintro e w4 ⟨rfl, rfl⟩
           go_wp2_with fail
           go_at_call 69
           refine (HF2.out _ _ H3.out).mono ?_
           rintro e w5 ⟨rfl, h1, h2⟩
           have H5 := h1
           have O5 := h2
           have k5 := HC.out _ _ h1.out
           clear h1 h2 k2
           go_wp2_with fail
           have HRn2 : Kept (rng m) := ⟨asg_rng HRg.out HAw.out⟩
           obtain ⟨z, hz⟩ : ∃ z, z = set l2 (bs xn) (digitsOf m) := ⟨_, rfl⟩
           have HOk3 : Kept (Ok (Va.outL z) ∧ (Va.outL z).length ≤ l2.length + 1) := ⟨by
             cases z with
             | ok l3 => exact set_ok hQ.out.ok (by have := itoa_len HRn2.out; unfold digitsOf; rw [bs_size]; omega) hz.symm
             | error ce => exact ⟨⟨List.Pairwise.nil, fun v hv => by cases hv⟩, Nat.zero_le _⟩⟩
           have HR : Kept (DRes true PP l m s2 (Va.outL z) (Va.outE z)) := ⟨by
             cases z with
             | ok l3 => exact asg_set HAP.out hD.out HAw.out hz.symm
             | error ce => exact asg_ro HAP.out hD.out HAw.out hz.symm (set_ne hz.symm)⟩
           obtain ⟨A, k, hr, hv⟩ := H5.out.row
           have e1 := cell_of_row w5 b 1 _ _ _ hr
           have HV := Kept.mk hv
           have HLt := Kept.mk H5.out.lt
           have HDg : Kept (∀ w, _) := ⟨fun w => digits_any m w HRn2.out⟩
           have HSt : Kept (∀ w, VS w A k l2 → _) := ⟨fun w h => Va.refSet_any l2 A l2.length k (bs xn) (digitsOf m) w h rfl (by have := HM2.out; omega) HXs.out⟩
           rw [← hz] at HSt
           have HFl : Kept (∀ w, QM w b s2 l2 0 → _) := ⟨fun w h => fail2_any w b s2 l2 0 (Va.outE z) h⟩
           simp only [firstE_z] at HFl
           clear hr hv hz
           generalize digitsOf m = DG at HDg HSt
           generalize bs xn = XN at *
           go_region_law (first
             | (go_simp; go_at_call 16; refine (HDg.out _).mono ?_; rintro e wd ⟨rfl, hb⟩; have HB4 := Kept.mk ((Below.refl w5.heap.size w5).drew.trans hb); have g1 := (World.cell?_of_block (w := w5) (a := ⟨b, 1, none⟩) (HB4.out.block b HLt.out)).trans e1; clear hb)
             | (go_simp; go_at_call 23; refine (HSt.out _ (HV.out.below HB4.out)).mono ?_; rintro e ws ⟨A5, n5, k5, rfl, hn5, hv5, hb5⟩; have HN5 := Kept.mk hn5; have HV5 := hv5; have HB5 := Kept.mk (HB4.out.trans (hb5.mono HB4.out.size)); clear hn5 hv5 hb5)
             | go_simp)
           all_goals
             have HQ5 := Kept.mk (H5.out.below HB5.out)
             go_wp2_with fail
             go_at_call 69
             refine (HFl.out _ HQ5.out).mono ?_
             rintro e w9 ⟨rfl, h1, h2⟩
             have HVX := Kept.mk (VS.only HV5.out h2.out HQ5.out)
             have HQ9 := Kept.mk (h1.out.vars HVX.out HN5.out HOk3.out.1)
             obtain ⟨vx, cx⟩ := h1.out.c1
             have fx := h1.out.fz 1
             have O9 := h2
             clear h1 h2
             go_wp2_with fail
             go_ret
             exact ⟨m, s2, Va.outL z, Va.outE z, rfl, ⟨HM2.out.1⟩, ⟨by have := HM2.out; have := HOk3.out; omega⟩, ⟨HQ9.out.1⟩, ⟨(((((O1.out.trans hO.out (fun i _ h => h)).trans O3.out (fun i _ h => h)).trans O5.out (fun i _ h => h)).below HB5.out).trans O9.out (fun i _ h => h)).trans HQ9.out.2 (fun i _ h => h)⟩, HR⟩
 · have HR : Kept (DRes live PP l n s2 l2 c) := ⟨asg_fail HAP.out hD.out hc⟩
   have hc1 : (c == 0) = false := beq_eq_false_iff_ne.2 hc
   have hc2 : (c != 0) = true := by simp [bne, hc1]
   cases live with
   | false =>
     go_wp2_with fail
     go_ret
     exact ⟨n, s2, l2, c, rfl, ⟨HM2.out.1⟩, ⟨by have := HM2.out; omega⟩, hQ, ⟨O1.out.trans hO.out (fun i _ h => h)⟩, HR⟩
   | true =>
     go_wp2_with fail
     go_ret
     exact ⟨n, s2, l2, c, rfl, ⟨HM2.out.1⟩, ⟨by have := HM2.out; omega⟩, hQ, ⟨O1.out.trans hO.out (fun i _ h => h)⟩, HR⟩
theorem ex_any (hC : DrC 67 cd d) (hE : DrC 46 ex d1) (hFn : Fine ex) (hd : IntKind.i64.wrap (d + 1) = d1) (hdd : ¬ 30 < d) : DrC 46 (exprF cd ex) d := by
 intro w b s l live h hm hl
 by_cases ho : 0 < Wx.nameL (trim s) ∧ opS (trim ((trim s).drop (Wx.nameL (trim s)))) ∈ asgS
 · exact ex_yes hE hFn hd hdd h hm hl _ ho.1 rfl ho.2
 · exact ex_none hC hdd h hm hl ho
end
end Ar
end Go.Proofs.YtlggpefmojacoaaGreatDoor
end
section
namespace Go.Proofs.YtlggpefmojacoaaGreatDoor
open Go.RowKit Tx
namespace Ar
open Va (Vr VS getD set Sorted)

theorem readers : ∀ n : Nat, n ≤ 30 → DrC 108 (ps n).op (31 - n) ∧ DrC 67 (ps n).cd (31 - n) ∧ DrC 46 (ps n).ex (31 - n)
 | 0, _ => ⟨un_deep (by decide), dcond_deep (un_deep (by decide)), ex_deep (by decide)⟩
 | n + 1, hn => by
   obtain ⟨hU, hC, hE⟩ := readers n (by omega)
   have hd : IntKind.i64.wrap ((31 - ((n + 1 : Nat) : Int)) + 1) = 31 - (n : Int) := by rw [IntKind.wrap_i64]; omega
   have hdd : ¬ (30 : Int) < 31 - ((n + 1 : Nat) : Int) := by omega
   have S := ps_suf n
   have u := un_any (ex := (ps n).ex) (op := (ps n).op) hE hU hd hdd
   have c := cond_any (oper_suf S.ex S.op) u hE hC hd
   exact ⟨u, c, ex_any c hE (ps_fine n).ex hd hdd⟩
def wholeR (s : List UInt8) : R := if toks s = [] then .ok (.lit 0, []) else match (ps 30).ex (toks s) with | .error c => .error c | .ok (e, []) => .ok (e, []) | .ok _ => .error 130
theorem wholeR_eval (s : List UInt8) (l : List Vr) : eval s l = match wholeR s with | .error c => .error c | .ok (e, _) => ev e l := by
 unfold eval wholeR whole
 by_cases h : toks s = []
 · rw [if_pos h, if_pos h]; rfl
 · rw [if_neg h, if_neg h]
   cases he : (ps 30).ex (toks s) with
   | error c => rfl
   | ok z =>
     obtain ⟨e, r⟩ := z
     cases r <;> rfl
theorem trim_toks {s : List UInt8} : trim s = [] ↔ toks s = [] := by
 constructor
 · intro h; exact toks_nil (cutT_nil.2 h)
 · intro h
   by_cases h0 : trim s = []
   · exact h0
   · rw [toks_cons (fun e => h0 (cutT_nil.1 e))] at h; cases h
theorem whole_res {live : Bool} {s s2 : List UInt8} {l l2 : List Vr} {v c : Int} (h0 : toks s ≠ []) (hl : LivOk live (wholeR s)) (h : DRes live ((ps 30).ex (toks s)) l v s2 l2 c) : DRes live (wholeR s) l v [] l2 (if trim s2 = [] then c else firstE c 130) := by
 have hp : wholeR s = match (ps 30).ex (toks s) with | .error c => .error c | .ok (e, []) => .ok (e, []) | .ok _ => .error 130 := by unfold wholeR; rw [if_neg h0]
 have hok : ∀ x r, (ps 30).ex (toks s) = .ok (x, r) → wholeR s = if r = [] then .ok (x, []) else .error 130 := by
   intro x r he
   rw [hp, he]
   cases r <;> rfl
 rcases h.cases with ⟨he, hc⟩ | ⟨x, r, hv, he, rfl, rfl, ht⟩ | ⟨x, r, hv, he, rfl, hx, ht⟩ | ⟨x, r, hv, he, hc, hx⟩
 · rw [firstE_of hc, ite_self]
   exact .err (by rw [hp, he]) hc
 · have hw := hok x r he
   by_cases hr : r = []
   · rw [if_pos hr] at hw
     rw [if_pos (trim_toks.2 (ht.trans hr))]
     subst hv
     exact .dead hw (toks_nil rfl)
   · rw [if_neg hr] at hw
     rw [if_neg (fun e => hr (ht.symm.trans (trim_toks.1 e))), firstE_z]
     exact .err hw (by decide)
 · have hw := hok x r he
   by_cases hr : r = []
   · rw [if_pos hr] at hw
     rw [if_pos (trim_toks.2 (ht.trans hr))]
     subst hv
     exact .live hw hx rfl rfl (toks_nil rfl)
   · rw [if_neg hr] at hw
     obtain ⟨y, q, hy⟩ := hl hv
     rw [hw] at hy; cases hy
 · rw [firstE_of hc, ite_self]
   subst hv
   obtain ⟨y, q, hy⟩ := hl rfl
   have hw := hok x r he
   by_cases hr : r = []
   · rw [if_pos hr] at hw
     exact .fails hw hx hc
   · rw [if_neg hr] at hw; rw [hw] at hy; cases hy
set_option maxHeartbeats 2000000 in
set_option maxRecDepth 100000 in
theorem dwhole_any (w : World) (b : Nat) (s : List UInt8) (l : List Vr) (live : Bool) (h : QM w b s l 0) (hm : l.length + s.length ≤ 100000) (hl : LivOk live (wholeR s)) :
   Calls Tryz.prog 33 #[.pointer (some ⟨b, 0, none⟩), .bool live] w fun e w' => ∃ (v : Int) (s' : List UInt8) (l' : List Vr) (c : Int), e = .returned (.int .i64 v) ∧ Kept (QM w' b s' l' c) ∧ Kept (Only (· = b) w w') ∧ Kept (DRes live (wholeR s) l v [] l' c) := by
 have HSp := Kept.mk (space_any w b s l 0 h)
 have HC : Kept (∀ w s l c, QM w b s l c → w.cell? ⟨b, 0, none⟩ = some (.string (bs s))) := ⟨fun w s l c h => h.c0⟩
 by_cases h0 : trim s = []
 · have HR : Kept (DRes live (wholeR s) l 0 [] l 0) := ⟨by
     have hw : wholeR s = .ok (.lit 0, []) := by unfold wholeR; rw [if_pos (trim_toks.1 h0)]
     cases live with
     | false => exact .dead hw (toks_nil rfl)
     | true => exact .live hw (by rw [ev]; rfl) rfl rfl (toks_nil rfl)⟩
   rw [h0] at HSp
   have hE : ((bs ([] : List UInt8)).toList == []) = true := by rw [lit_beq2]; decide
   have HCn : Kept (∀ w l c, QM w b [] l c → w.cell? ⟨b, 0, none⟩ = some (.string (bs []))) := ⟨fun w l c h => h.c0⟩
   generalize bs ([] : List UInt8) = EB at hE HCn
   clear h hm hl h0 HC
   go_enter Tryz.func33, Tryz.ntmps33
   go_wp2_with fail
   go_at_call 45
   refine HSp.out.mono ?_
   rintro e w1 ⟨rfl, h1, h2⟩
   have H1 := h1
   have O1 := h2
   have c0 := HCn.out _ _ _ h1.out
   clear h1 h2
   go_wp2_with fail
   go_ret
   exact ⟨0, [], l, 0, rfl, H1, O1, HR⟩
 · have ht : toks s ≠ [] := fun e => h0 (trim_toks.2 e)
   have hto := toks_trim s
   have htl := trim_le s
   have HE : Kept (∀ w, QM w b (trim s) l 0 → _) := ⟨fun w h => (readers 30 (Nat.le_refl _)).2.2 w b (trim s) l live h (by omega) (by
     rw [hto]
     intro hlv
     obtain ⟨x, r, hx⟩ := hl hlv
     unfold wholeR at hx
     rw [if_neg ht] at hx
     cases he : (ps 30).ex (toks s) with
     | error c => rw [he] at hx; cases hx
     | ok z => exact ⟨z.1, z.2, rfl⟩)⟩
   rw [hto] at HE
   rw [show (31 : Int) - ((30 : Nat) : Int) = 1 from rfl] at HE
   have HR : Kept (∀ v s2 l2 c, DRes live ((ps 30).ex (toks s)) l v s2 l2 c → DRes live (wholeR s) l v [] l2 (if trim s2 = [] then c else firstE c 130)) := ⟨fun v s2 l2 c hd => whole_res ht hl hd⟩
   have hT : ((bs (trim s)).toList == []) = false := by rw [lit_beq2]; exact decide_eq_false h0
   have HM := Kept.mk (show l.length + (trim s).length ≤ 100000 by omega)
   have HCt : Kept (∀ w l c, QM w b (trim s) l c → w.cell? ⟨b, 0, none⟩ = some (.string (bs (trim s)))) := ⟨fun w l c h => h.c0⟩
   generalize hTT : trim s = T at HSp HE HM HCt hT
   generalize (ps 30).ex (toks s) = PX at HE HR
   clear h hm hl h0 ht hto htl hTT
   generalize bs T = TB at hT HCt
   go_enter Tryz.func33, Tryz.ntmps33
   go_wp2_with fail
   go_at_call 45
   refine HSp.out.mono ?_
   rintro e w1 ⟨rfl, h1, h2⟩
   have H1 := h1
   have O1 := h2
   have c0 := HCt.out _ _ _ h1.out
   clear h1 h2
   go_wp2_with fail
   go_at_call 46
   refine (HE.out _ H1.out).mono ?_
   rintro e w2 ⟨v, s2, l2, c, rfl, hL, hM, hQ, hO, hD⟩
   have HS2 := Kept.mk (space_any w2 b s2 l2 c hQ.out)
   have HR2 := Kept.mk (HR.out _ _ _ _ hD.out)
   clear c0 hD
   by_cases h1 : trim s2 = []
   · rw [if_pos h1] at HR2
     rw [h1] at HS2
     have hE : ((bs ([] : List UInt8)).toList == []) = true := by rw [lit_beq2]; decide
     have HCn : Kept (∀ w l c, QM w b [] l c → w.cell? ⟨b, 0, none⟩ = some (.string (bs []))) := ⟨fun w l c h => h.c0⟩
     generalize bs ([] : List UInt8) = EB at hE HCn
     clear h1
     go_wp2_with fail
     go_at_call 45
     refine HS2.out.mono ?_
     rintro e w3 ⟨rfl, h1, h2⟩
     have H3 := h1
     have O3 := h2
     have c0 := HCn.out _ _ _ h1.out
     clear h1 h2
     go_wp2_with fail
     go_ret
     exact ⟨v, [], l2, c, rfl, H3, ⟨(O1.out.trans hO.out (fun i _ h => h)).trans O3.out (fun i _ h => h)⟩, HR2⟩
   · rw [if_neg h1] at HR2
     have hT2 : ((bs (trim s2)).toList == []) = false := by rw [lit_beq2]; exact decide_eq_false h1
     have HCt2 : Kept (∀ w l c, QM w b (trim s2) l c → w.cell? ⟨b, 0, none⟩ = some (.string (bs (trim s2)))) := ⟨fun w l c h => h.c0⟩
     have HF : Kept (∀ w, QM w b (trim s2) l2 c → _) := ⟨fun w h => fail_any w b (trim s2) l2 c 130 h⟩
     generalize firstE c 130 = c3 at HR2 HF
     clear h1
     generalize trim s2 = T2 at HS2 hT2 HCt2 HF
     generalize bs T2 = TB2 at hT2 HCt2
     have hT3 : (TB2.toList != []) = true := by simp [bne, hT2]
     go_wp2_with fail
     go_at_call 45
     refine HS2.out.mono ?_
     rintro e w3 ⟨rfl, h1, h2⟩
     have H3 := h1
     have O3 := h2
     have c0 := HCt2.out _ _ _ h1.out
     clear h1 h2
     go_wp2_with fail
     go_at_call 47
     refine (HF.out _ H3.out).mono ?_
     rintro e w4 ⟨rfl, h1, h2⟩
     have H4 := h1
     have O4 := h2
     clear h1 h2
     go_wp2_with fail
     go_ret
     exact ⟨v, T2, l2, c3, rfl, H4, ⟨((O1.out.trans hO.out (fun i _ h => h)).trans O3.out (fun i _ h => h)).trans O4.out (fun i _ h => h)⟩, HR2⟩
end Ar
end Go.Proofs.YtlggpefmojacoaaGreatDoor
end
section
namespace Go.Proofs.YtlggpefmojacoaaGreatDoor
open Go.RowKit Tx
namespace Ar
open Va (Vr VS getD set Sorted)

theorem qm_fresh {w : World} {A : Option Addr} {k : Nat} {l : List Vr} (t : ByteArray) (hv : VS w A k l) (ho : Ok l) : QM (w.alloc (.cells #[.string t, .slice A l.length k, .int .i64 0] 66)) w.heap.size (toL t) l 0 :=
 ⟨⟨A, k, by rw [bs_toL]; exact heap_alloc_new w _, hv.below ((Below.refl _ _).alloc (Nat.le_refl _) _)⟩, ho⟩
theorem rest_known {s : List UInt8} {l l2 : List Vr} {v c : Int} {s2 : List UInt8} (h : DRes false (wholeR s) l v s2 l2 c) : (c ≠ 0 ∧ wholeR s = .error c) ∨ (c = 0 ∧ ∃ x r, wholeR s = .ok (x, r)) := by
 rcases h.cases with ⟨he, hc⟩ | ⟨x, r, hv, he, h0, h1, ht⟩ | ⟨x, r, hv, he, h0, hx, ht⟩ | ⟨x, r, hv, he, hc, hx⟩
 · exact .inl ⟨hc, he⟩
 · exact .inr ⟨h0, x, r, he⟩
 · cases hv
 · cases hv
theorem live_known {s : List UInt8} {l l2 : List Vr} {v c : Int} {s2 : List UInt8} (h : DRes true (wholeR s) l v s2 l2 c) (hl : LivOk true (wholeR s)) : (c ≠ 0 ∧ eval s l = .error c) ∨ (c = 0 ∧ eval s l = .ok (v, l2)) := by
 rw [wholeR_eval]
 rcases h.cases with ⟨he, hc⟩ | ⟨x, r, hv, he, h0, h1, ht⟩ | ⟨x, r, hv, he, h0, hx, ht⟩ | ⟨x, r, hv, he, hc, hx⟩
 · obtain ⟨x, r, hx⟩ := hl rfl
   rw [hx] at he; cases he
 · cases hv
 · rw [he]; exact .inr ⟨h0, hx⟩
 · rw [he]; exact .inl ⟨hc, hx⟩
set_option maxHeartbeats 4000000 in
set_option maxRecDepth 100000 in
theorem deval_any (s : ByteArray) (l : List Vr) (w : World) (A : Option Addr) (n k : Nat) (hV : VS w A k l) (hn : l.length = n) (ho : Ok l) (hm : l.length + s.size ≤ 100000) :
   Calls Tryz.prog 22 #[.string s, .slice A n k] w (EvE w (eval (toL s) l)) := by
 subst hn
 have hlen : l.length + (toL s).length ≤ 100000 := by rw [toL_length]; exact hm
 have HV := Kept.mk hV
 have HQ := Kept.mk (qm_fresh s hV ho)
 have HW : Kept (∀ w b, QM w b (toL s) l 0 → _) := ⟨fun w b h => dwhole_any w b (toL s) l false h hlen (fun e => by cases e)⟩
 have HW2 : Kept (LivOk true (wholeR (toL s)) → ∀ w b, QM w b (toL s) l 0 → _) := ⟨fun hl w b h => dwhole_any w b (toL s) l true h hlen hl⟩
 have HQ2 : Kept (∀ w, VS w A k l → _) := ⟨fun w hv => qm_fresh s hv ho⟩
 have HC2 : Kept (∀ w b s l c, QM w b s l c → w.cell? ⟨b, 2, none⟩ = some (.int .i64 c)) := ⟨fun w b s l c h => h.c2⟩
 generalize toL s = S at HQ HW HW2 HQ2 ⊢
 obtain ⟨R0, hR0⟩ : ∃ R0, R0 = eval S l := ⟨_, rfl⟩
 have HR0 := Kept.mk hR0
 rw [← hR0]
 clear hV ho hm hlen hR0
 go_enter Tryz.func22, Tryz.ntmps22
 go_wp2_with fail
 go_at_call 33
 refine (HW.out _ _ HQ.out).mono ?_
 rintro e w1 ⟨v, s1, l1, c, rfl, h1, h2, h3⟩
 have HB1 := Kept.mk (only_new h2.out (Nat.le_refl _) ((Below.refl _ _).alloc (Nat.le_refl _) _))
 have k2 := HC2.out _ _ _ _ _ h1.out
 rcases rest_known h3.out with ⟨hc, he⟩ | ⟨hc, hok⟩
 · have HF : Kept (R0 = .error c) := ⟨by rw [HR0.out, wholeR_eval, he]⟩
   have hc1 : (c == 0) = false := beq_eq_false_iff_ne.2 hc
   have hc2 : (c != 0) = true := by simp [bne, hc1]
   clear h1 h2 h3 he hc
   have HBd : Kept (∀ m, Below w.heap.size w (w1.drewN m)) := ⟨fun m => below_drewN HB1.out m⟩
   go_wp2_with fail
   go_quiet (fail)
   go_wp2_with fail
   go_ret3
   rw [HF.out]
   exact ⟨rfl, ⟨HBd.out _⟩⟩
 · subst hc
   have hl : LivOk true (wholeR S) := fun _ => hok
   have HL := Kept.mk hl
   have HV1 := Kept.mk (HV.out.below HB1.out)
   have HQ1 := Kept.mk (HQ2.out w1 HV1.out)
   have HWx := Kept.mk (HW2.out hl _ _ HQ1.out)
   clear h1 h2 h3 hok hl
   go_wp2_with fail
   go_at_call 33
   refine HWx.out.mono ?_
   rintro e w2 ⟨v2, s2, l2, c2, rfl, h1, h2, h3⟩
   have HB2 := Kept.mk (HB1.out.trans ((only_new h2.out (Nat.le_refl _) ((Below.refl _ _).alloc (Nat.le_refl _) _)).mono HB1.out.size))
   have k3 := HC2.out _ _ _ _ _ h1.out
   have HBd : Kept (∀ m, Below w.heap.size w (w2.drewN m)) := ⟨fun m => below_drewN HB2.out m⟩
   rcases live_known h3.out HL.out with ⟨hc, he⟩ | ⟨hc, he⟩
   · have HF : Kept (R0 = .error c2) := ⟨by rw [HR0.out, he]⟩
     have hc1 : (c2 == 0) = false := beq_eq_false_iff_ne.2 hc
     have hc2 : (c2 != 0) = true := by simp [bne, hc1]
     clear h1 h2 h3 he hc k2
     go_wp2_with fail
     go_quiet (fail)
     go_wp2_with fail
     go_ret3
     rw [HF.out]
     exact ⟨rfl, ⟨HBd.out _⟩⟩
   · subst hc
     have HF : Kept (R0 = .ok (v2, l2)) := ⟨by rw [HR0.out, he]⟩
     obtain ⟨A2, q2, hr, hv⟩ := h1.out.row
     have k4 := cell_of_row w2 w1.heap.size 1 _ _ _ hr
     have HVd : Kept (∀ m, VS (w2.drewN m) A2 q2 l2) := ⟨fun m => ⟨hv.cap, hv.nil, hv.mem⟩⟩
     clear h1 h2 h3 he hr hv k2
     go_wp2_with fail
     go_quiet (fail)
     go_wp2_with fail
     go_ret3
     rw [HF.out]
     exact ⟨A2, q2, rfl, ⟨HVd.out _⟩, ⟨HBd.out _⟩⟩
end Ar
end Go.Proofs.YtlggpefmojacoaaGreatDoor
end
section
namespace Go.Proofs.YtlggpefmojacoaaGreatDoor
open Go.RowKit Tx
namespace Ar
open Va (Vr VS VO getD Sorted)
open Pc (By8 pieces_prop)

theorem seval_len {s : List UInt8} {l m : List Vr} {n : Int} (h : eval s l = .ok (n, m)) (hl : Ok l) (hs : s.length ≤ 1000000) : m.length ≤ l.length + s.length := by
 unfold eval at h
 split at h
 · cases h; omega
 · split at h
   · cases h
   · rename_i e he
     obtain ⟨h1, h2⟩ := whole_fine (fun t ht => by have := (toksF_len _ s).1 t ht; omega) he
     have h3 := (ev_ok h1 hl h).2.2
     have h4 := toks_count s
     omega
set_option maxHeartbeats 2000000 in
set_option maxRecDepth 100000 in
theorem same_any (s : ByteArray) (l : List Vr) (w : World) (A : Option Addr) (n k : Nat) (hV : VS w A k l) (hn : l.length = n) (ho : Ok l) (hK : KT w) (hs : s.size ≤ 50000) (hl : n ≤ 1000) :
   Calls Tryz.prog 12 #[.string s, .slice A n k] w fun e w' => e = .returned (.bool true) ∧ Below w.heap.size w w' := by
 have HV := Kept.mk hV
 have H1 := Kept.mk (eval_any s l w A n k hV hn.symm ho hK hs (by omega))
 have H2 : Kept (∀ w1, VS w1 A k l → _) := ⟨fun w1 h => deval_any s l w1 A n k h hn ho (by omega)⟩
 have HEl : Kept (∀ m l2, eval (toL s) l = .ok (m, l2) → l2.length ≤ 100000) := ⟨fun m l2 h => by have := seval_len h ho (by rw [toL_length]; omega); rw [toL_length] at this; omega⟩
 obtain ⟨R1, hR1⟩ : ∃ R1, R1 = eval (toL s) l := ⟨_, rfl⟩
 rw [← hR1] at H1 H2 HEl
 clear hV hn ho hK hs hl hR1
 go_enter Tryz.func12, Tryz.ntmps12
 go_wp2_with fail
 go_at_call 17
 refine H1.out.mono ?_
 intro e w4 h1
 cases R1 with
 | error c =>
   obtain ⟨rfl, hb4⟩ := EvE.no h1
   have HB4 := hb4
   have H5 := Kept.mk (H2.out _ (HV.out.below hb4.out))
   clear h1 hb4 H1
   go_wp2_with fail
   go_at_call 22
   refine H5.out.mono ?_
   intro e w5 h2
   obtain ⟨rfl, hb5⟩ := EvE.no h2
   have HB5 := Kept.mk (HB4.out.trans (hb5.out.mono HB4.out.size))
   clear h2 hb5
   go_wp2_with fail
   go_at_call 21
   refine (Va.same_vars [] none none 0 0 0 w5 (VS.empty _) (VS.empty _) rfl (by omega)).mono ?_
   rintro e w6 ⟨rfl, hb6⟩
   have HB6 := Kept.mk (HB5.out.trans (hb6.mono HB5.out.size))
   clear hb6
   go_wp2_with fail
   go_ret
   exact ⟨rfl, HB6.out⟩
 | ok z1 =>
   obtain ⟨n1, m1⟩ := z1
   obtain ⟨M1, hM1⟩ : ∃ M1, m1.length = M1 := ⟨_, rfl⟩
   have HM1 := Kept.mk hM1
   have HML : Kept (M1 ≤ 100000) := ⟨by have := HEl.out _ _ rfl; omega⟩
   obtain ⟨A4, k4, rfl, hV4, hb4⟩ := EvE.ok (mn := M1) h1 hM1
   have HB4 := hb4
   have HV4 := hV4
   have H5 := Kept.mk (H2.out _ (HV.out.below hb4.out))
   clear h1 hb4 hV4 hM1 H1 HEl
   go_wp2_with fail
   go_at_call 22
   refine H5.out.mono ?_
   intro e w5 h2
   obtain ⟨A5, k5, rfl, hV5, hb5⟩ := EvE.ok (mn := M1) h2 HM1.out
   have HB5 := Kept.mk (HB4.out.trans (hb5.out.mono HB4.out.size))
   have HS := Kept.mk (Va.same_vars m1 A4 A5 M1 k4 k5 w5 (HV4.out.below hb5.out) hV5.out HM1.out HML.out)
   clear h2 hb5 hV5
   go_wp2_with fail
   go_at_call 21
   refine HS.out.mono ?_
   rintro e w6 ⟨rfl, hb6⟩
   have HB6 := Kept.mk (HB5.out.trans (hb6.mono HB5.out.size))
   clear hb6
   go_wp2_with fail
   go_ret
   exact ⟨rfl, HB6.out⟩
theorem ok_one2 {da : ByteArray} (h1 : da.size ≤ 281474976710656) : Ok [vA da] := ⟨List.pairwise_singleton _ _, fun v hv => by rw [List.mem_singleton.1 hv]; exact h1⟩
def numsL : List ByteArray := [⟨#[48]⟩, ⟨#[49]⟩, ⟨#[55]⟩, ⟨#[57]⟩, ⟨#[120]⟩, ⟨#[102]⟩, ⟨#[45]⟩, ⟨#[88]⟩, ⟨#[95]⟩, ⟨#[65]⟩, ⟨#[57, 50, 50, 51, 51, 55, 50, 48, 51, 54, 56, 53, 52, 55, 55, 53, 56, 48, 55]⟩]
theorem nums_small : ∀ y ∈ numsL, y.size ≤ 20 := by decide +kernel
set_option maxHeartbeats 4000000 in
set_option maxRecDepth 100000 in
theorem numbers_any (s : ByteArray) (A : Option Addr) (n k : Nat) (w : World) (hK : KT w) (hl : By8 w A n) (hn : n ≤ 9223372036854775807) :
   Calls Tryz.prog 9 #[.string s, .slice A n k] w fun e w' => e = .returned (.bool true) ∧ Below w.heap.size w w' := by
 have HK := Kept.mk hK
 have HP := Kept.mk (pieces_prop numsL (fun _ _ => True) 20 (by omega) nums_small trivial (fun _ _ _ _ _ => trivial) A n k w.heap.size 11 11 (w.alloc (.cells (numsL.map Value.string).toArray 9)) (hl.below ((Below.refl _ _).alloc (Nat.le_refl _) _)) hn (Own.At.fresh (c := Value.string) w _ 9 numsL rfl) rfl (by omega) (by omega))
 try simp only [numsL, List.map_cons, List.map_nil, List.toArray] at HP
 have HB0 : Kept (∀ o : Obj, Below w.heap.size w (w.alloc o)) := ⟨fun o => (Below.refl _ _).alloc (Nat.le_refl _) o⟩
 clear hK hl hn
 go_enter Tryz.func9, Tryz.ntmps9
 go_wp2_with fail
 go_at_call 14
 refine HP.out.mono ?_
 rintro e w3 ⟨t, rfl, ht, _, hw3⟩
 have HB1 : Kept (Below w.heap.size w w3) := ⟨by rw [← hw3]; exact HB0.out _⟩
 have HTs : Kept (t.size ≤ 280) := ⟨by omega⟩
 have HAw := Kept.mk (awake_any w3 (HK.out.below HB1.out))
 clear hw3 ht HP
 by_cases h40 : s.size ≤ 40
 · have z1 : ¬ (40 : Int) < (s.size : Int) := by omega
   have z2 : ¬ 40 < s.size := by omega
   have HSs := Kept.mk h40
   clear h40
   go_wp2_with fail
   go_at_call 11
   refine HAw.out.mono ?_
   rintro e w4 ⟨rfl, hb⟩
   have HB4 := Kept.mk (HB1.out.trans (hb.mono HB1.out.size))
   clear hb
   go_wp2_with fail
   go_at_call 12
   refine (same_any s [] w4 none 0 0 (VS.empty _) rfl ok_nil (HK.out.below HB4.out) (by have := HSs.out; omega) (by omega)).mono ?_
   rintro e w5 ⟨rfl, hb⟩
   have HB5 := Kept.mk (HB4.out.trans (hb.mono HB4.out.size))
   clear hb
   go_wp2_with fail
   go_at_call 12
   refine (same_any t [] w5 none 0 0 (VS.empty _) rfl ok_nil (HK.out.below HB5.out) (by have := HTs.out; omega) (by omega)).mono ?_
   rintro e w6 ⟨rfl, hb⟩
   have HB6 := Kept.mk (HB5.out.trans (hb.mono HB5.out.size))
   have HB7 : Kept (∀ o : Obj, Below w.heap.size w (w6.alloc o)) := ⟨fun o => HB6.out.alloc HB6.out.size o⟩
   clear hb
   go_wp2_with fail
   go_at_call 12
   refine (same_any ⟨#[97]⟩ [vA s] _ _ 1 1 (vs_new w6 [vA s] 1 #[.string ⟨#[97]⟩, .string s, .bool false, .bool false] 31 rfl rfl) rfl (ok_one2 (by have := HSs.out; omega)) (HK.out.below (HB7.out _)) (by decide) (by omega)).mono ?_
   rintro e w8 ⟨rfl, hb⟩
   have HB8 := Kept.mk ((HB7.out (.cells #[.string ⟨#[97]⟩, .string s, .bool false, .bool false] 31)).trans (hb.mono (HB7.out _).size))
   have HB9 : Kept (∀ o : Obj, Below w.heap.size w (w8.alloc o)) := ⟨fun o => HB8.out.alloc HB8.out.size o⟩
   clear hb
   go_wp2_with fail
   go_at_call 12
   refine (same_any ⟨#[97, 43, 49]⟩ [vA t] _ _ 1 1 (vs_new w8 [vA t] 1 #[.string ⟨#[97]⟩, .string t, .bool false, .bool false] 31 rfl rfl) rfl (ok_one2 (by have := HTs.out; omega)) (HK.out.below (HB9.out _)) (by decide) (by omega)).mono ?_
   rintro e w10 ⟨rfl, hb⟩
   have HB10 := Kept.mk ((HB9.out (.cells #[.string ⟨#[97]⟩, .string t, .bool false, .bool false] 31)).trans (hb.mono (HB9.out _).size))
   clear hb
   go_wp2_with fail
   go_ret
   exact ⟨rfl, HB10.out⟩
 · have z1 : (40 : Int) < (s.size : Int) := by omega
   have z2 : 40 < s.size := by omega
   clear h40
   go_wp2_with fail
   go_at_call 11
   refine HAw.out.mono ?_
   rintro e w4 ⟨rfl, hb⟩
   have HB4 := Kept.mk (HB1.out.trans (hb.mono HB1.out.size))
   clear hb
   go_wp2_with fail
   go_ret
   exact ⟨rfl, HB4.out⟩
theorem many_any (s : ByteArray) (n : Nat) (w : World) (hs : s.size ≤ 100) (hn : n ≤ 100) :
   Calls Tryz.prog 19 #[.string s, .int .i64 (n : Int)] w fun e w' => ∃ t : ByteArray, e = .returned (.string t) ∧ t.size ≤ 10000 ∧ w = w' := by
 have hn0 : (0 : Int) ≤ (n : Int) := by omega
 go_enter Tryz.func19, Tryz.ntmps19
 go_wp2_with fail
 go_loopw [5, 6] (fun tv iv wr => ∃ (t : ByteArray) (j : Nat), tv = .string t ∧ iv = .int .i64 (j : Int) ∧ j ≤ n ∧ Kept (t.size = j * s.size) ∧ w = wr) (fun _ iv _ => n - (intOf iv).toNat)
 case atStart => exact ⟨⟨#[]⟩, 0, rfl, rfl, by omega, ⟨by simp; rfl⟩, rfl⟩
 case round =>
   obtain ⟨t, j, rfl, rfl, hj, ht, rfl⟩ := hrel
   have hj0 : (0 : Int) ≤ (j : Int) := by omega
   have hts : t.size ≤ 10000 := by
     rw [ht.out]
     exact Nat.le_trans (Nat.mul_le_mul (show j ≤ 100 by omega) hs) (by decide)
   by_cases hlt : j < n
   · have z1 : (j : Int) < (n : Int) := by omega
     have z2 : ¬ 9223372036854775807 < t.size + s.size := by omega
     have HJ := Kept.mk hlt
     clear hlt hts
     go_wp2_with fail
     go_roundw
     case rel => exact ⟨_, j + 1, rfl, by go_num, HJ.out, ⟨by rw [ByteArray.size_append, ht.out, Nat.add_mul, Nat.one_mul]⟩, trivial⟩
     case measure => have := HJ.out; simp [intOf]; omega
   · have z1 : ¬ (j : Int) < (n : Int) := by omega
     have HTs := Kept.mk hts
     clear hlt hts
     go_wp2_with fail
     go_ret
     exact ⟨t, rfl, HTs.out, rfl⟩
end Ar
end Go.Proofs.YtlggpefmojacoaaGreatDoor
end
