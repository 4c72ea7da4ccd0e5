/-
  Parts of the proof, merged.
-/
import Derived.Test.YtahjonfmhejoeaaGreatDoorVa05
import Derived.Test.YtahjonfmhejoeaaGreatDoorVa10
import Derived.Test.YtahjonfmhejoeaaGreatDoorVa28
namespace Go.Proofs.YtahjonfmhejoeaaGreatDoor
section
open Tx
namespace Sy
open Lx Wx
theorem cut_eq (c : UInt8) (s : List UInt8) : Lib.cut s [c] = if Lx.ahead c s < s.length then (s.take (Lx.ahead c s), s.drop (Lx.ahead c s + 1), true) else (s, [], false) := by
 unfold Lib.cut
 rw [index_one]
 by_cases h : Lx.ahead c s < s.length
 · rw [if_pos h, if_pos h, if_pos (by omega)]
   simp
 · rw [if_neg h, if_neg h, if_neg (by omega)]
theorem ahead_at {c : UInt8} {s : List UInt8} (h : Lx.ahead c s < s.length) : s = s.take (Lx.ahead c s) ++ c :: s.drop (Lx.ahead c s + 1) := by
 induction s with
 | nil => simp at h
 | cons b s ih =>
   by_cases hb : b = c
   · subst hb
     rw [ahead_same]; rfl
   · rw [ahead_other hb] at h ⊢
     rw [List.length_cons] at h
     show b :: s = b :: (s.take (Lx.ahead c s) ++ c :: s.drop (Lx.ahead c s + 1))
     rw [← ih (by omega)]
theorem ahead_app {c : UInt8} {a r : List UInt8} (h : c ∉ a) : Lx.ahead c (a ++ c :: r) = a.length := by
 induction a with
 | nil => exact ahead_same c r
 | cons b a ih =>
   have hb : b ≠ c := fun e => h (by simp [e])
   show Lx.ahead c (b :: (a ++ c :: r)) = _
   rw [ahead_other hb, ih (fun e => h (by simp [e]))]; rfl
theorem name_take (x : List UInt8) : ∀ c ∈ x.take (nameL x), (letter c || digit c) = true := by
 cases x with
 | nil => intro c hc; cases hc
 | cons a r =>
   rw [nameL_cons]
   by_cases ha : letter a = true
   · rw [if_pos ha]
     intro c hc
     rw [Nat.add_comm] at hc
     rcases List.mem_cons.1 hc with rfl | hc
     · rw [ha]; rfl
     · have h1 : r.take (r.takeWhile fun c => letter c || digit c).length = r.takeWhile fun c => letter c || digit c := List.prefix_iff_eq_take.1 (List.takeWhile_prefix _) |>.symm
       rw [h1] at hc
       have := List.all_takeWhile (l := r) (p := fun c => letter c || digit c)
       exact List.all_eq_true.1 this c hc
   · rw [if_neg ha]; intro c hc; cases hc
theorem asg_cut (x : List UInt8) : asgT x = (decide (Lx.ahead 61 x < x.length) && isName (x.take (Lx.ahead 61 x))) ∧ (asgT x = true → Lx.ahead 61 x = nameL x) := by
 have h1 : asgT x = true → Lx.ahead 61 x = nameL x ∧ Lx.ahead 61 x < x.length ∧ isName (x.take (Lx.ahead 61 x)) = true := by
   intro h
   unfold asgT at h
   rw [Bool.and_eq_true, decide_eq_true_eq, beq_iff_eq] at h
   obtain ⟨⟨h0, h1⟩, h2⟩ := h
   have hx : x = x.take (nameL x) ++ 61 :: x.drop (nameL x + 1) := by
     rw [List.getElem?_eq_some_iff] at h2
     obtain ⟨hlt, h2⟩ := h2
     conv => lhs; rw [← List.take_append_drop (nameL x) x, List.drop_eq_getElem_cons hlt, h2]
   have hn : (61 : UInt8) ∉ x.take (nameL x) := fun hm => by have := name_take x _ hm; revert this; decide
   have ha : Lx.ahead 61 x = nameL x := by
     conv => lhs; rw [hx]
     rw [ahead_app hn, List.length_take]; omega
   refine ⟨ha, by omega, ?_⟩
   have hk : nameL (x.take (nameL x)) = nameL x := by
     conv => rhs; rw [hx]
     exact (nameL_app (by decide)).symm
   rw [ha]
   unfold isName
   rw [Bool.and_eq_true, decide_eq_true_eq, beq_iff_eq, hk, List.length_take]
   omega
 refine ⟨?_, fun h => (h1 h).1⟩
 rw [Bool.eq_iff_iff, Bool.and_eq_true, decide_eq_true_eq]
 refine ⟨fun h => (h1 h).2, fun ⟨h2, h3⟩ => ?_⟩
 have hx := ahead_at h2
 unfold isName at h3
 rw [Bool.and_eq_true, decide_eq_true_eq, beq_iff_eq, List.length_take] at h3
 have hk : nameL x = nameL (x.take (Lx.ahead 61 x)) := by
   conv => lhs; rw [hx]
   exact nameL_app (by decide)
 have hk2 : nameL x = Lx.ahead 61 x := by omega
 unfold asgT
 rw [Bool.and_eq_true, decide_eq_true_eq, beq_iff_eq]
 refine ⟨by omega, ?_⟩
 rw [hk2]
 have hl : (x.take (Lx.ahead 61 x)).length = Lx.ahead 61 x := by rw [List.length_take]; omega
 generalize Lx.ahead 61 x = n at *
 rw [hx, List.getElem?_append_right (by omega), hl, Nat.sub_self]; rfl
end Sy
end
section
open Go.RowKit Tx
namespace Sy
open Lx (Tok tv tvs tvs_at Qt pan)
open Wx (Pt LV Nw parts)
def nameR (ts : List Tok) : R (List UInt8) := if isName (textT ts) then .ok (textT ts, ts.tail) else .error 100
def strV (_ : World) (u : Value) (x : List UInt8) : Prop := u = .string (bs x)
theorem short_head {w : World} {g d : Nat} {ts : List Tok} (h : PM w g d ts) : (bs (textT ts)).size ≤ 2500 := by
 rw [bs_size]
 cases ts with
 | nil => simp [textT]
 | cons u r => exact h.short u (by simp)
theorem PM.far {w w' : World} {g d r : Nat} {ts : List Tok} (h : PM w g d ts) (ho : Only (· = r) w w') (hr : g < r) : PM w' g d ts := by
 have hb : ∀ i, i < r → i < w.heap.size → w'.heap[i]? = w.heap[i]? := fun i hi hl => ho.block i hl (Nat.ne_of_lt hi)
 have hlt := h.lt
 have hk := h.kit.lt
 have ha := h.ahead
 obtain ⟨A, k, m, hrw, ht, hm, hmg⟩ := h.row
 exact ⟨⟨A, k, m, (hb g hr hlt).trans hrw, ht.same (fun i hi hl => hb i (by omega) hl) ho.size, hm.same (hb m (by omega) hm.lt), hmg⟩, h.kit.keep (hb _ (by have := ha.1; omega) hk.1) (hb _ (by have := ha.2; omega) hk.2), ha, h.good, h.few, h.short, h.deep⟩
set_option maxRecDepth 100000 in
theorem name_any (w : World) (g d : Nat) (ts : List Tok) (h : PM w g d ts) :
   Calls Tryz.prog 99 #[.pointer (some ⟨g, 0, none⟩)] w (RE w g d strV (nameR ts)) := by
 have H := Kept.mk h
 have hF1 := fld1
 have HS := Kept.mk (short_head h)
 unfold nameR
 cases hn : isName (textT ts) with
 | true =>
   rw [if_pos rfl]
   have HN : Kept (true = isName (toL (bs (textT ts)))) := ⟨by rw [toL_bs, hn]⟩
   cases ts with
   | nil => cases hn
   | cons u r =>
     clear h hn
     go_enter Tryz.func99, Tryz.ntmps99
     go_wp2_with (first
       | (go_at_call 103; refine (next_any _ g d (u :: r) H.out).mono ?_; rintro e w1 ⟨rfl, hb⟩; have HB := Kept.mk hb; clear hb)
       | (go_at_call 127; refine (isVariable_any _ _ (H.out.below HB.out).kit (by have := HS.out; omega) true HN.out).mono ?_; rintro e w2 ⟨rfl, hb⟩; have HB2 : Kept (Below w.heap.size w w2) := ⟨HB.out.trans (hb.out.mono HB.out.size)⟩; clear hb)
       | (go_at_call 26; refine (check_any _ true 100).mono ?_; rintro e w3 ⟨rfl, rfl⟩)
       | (go_at_call 97; refine (take_any _ g d u r (H.out.below HB2.out)).mono ?_; rintro e w4 ⟨rfl, hp, ho⟩; have HP := hp; have HO := ho; clear hp ho))
     go_ret
     exact ⟨_, rfl, ⟨rfl⟩, HP, ⟨only_below HB2.out HO.out⟩⟩
 | false =>
   rw [if_neg (by decide)]
   have HN : Kept (false = isName (toL (bs (textT ts)))) := ⟨by rw [toL_bs, hn]⟩
   clear h hn
   go_enter Tryz.func99, Tryz.ntmps99
   go_wp2_with (first
     | (go_at_call 103; refine (next_any _ g d ts H.out).mono ?_; rintro e w1 ⟨rfl, hb⟩; have HB := Kept.mk hb; clear hb)
     | (go_at_call 127; refine (isVariable_any _ _ (H.out.below HB.out).kit (by have := HS.out; omega) false HN.out).mono ?_; rintro e w2 ⟨rfl, hb⟩; have HB2 : Kept (Below w.heap.size w w2) := ⟨HB.out.trans (hb.out.mono HB.out.size)⟩; clear hb)
     | (go_at_call 26; refine (check_any _ false 100).mono ?_; rintro e w3 ⟨rfl, rfl⟩))
   first | exact ⟨rfl, rfl, ⟨(Only.refl _ _).below HB2.out⟩⟩ | exact ⟨rfl, ⟨(Only.refl _ _).below HB2.out⟩⟩
set_option maxHeartbeats 1000000 in
set_option maxRecDepth 100000 in
theorem atRedirection_any (w : World) (g d : Nat) (ts : List Tok) (h : PM w g d ts) (t : Bool) (ht : t = redir ts) :
   Calls Tryz.prog 140 #[.pointer (some ⟨g, 0, none⟩)] w fun e w' => e = .returned (.bool t) ∧ Below w.heap.size w w' := by
 have H := Kept.mk h
 have h1 : isT 1 [60] ts = decide (textT ts = toL ⟨#[60]⟩) := (at_op h.good (by decide)).symm
 have h2 : isT 1 [62] ts = decide (textT ts = toL ⟨#[62]⟩) := (at_op h.good (by decide)).symm
 have h3 : isT 1 [62, 62] ts = decide (textT ts = toL ⟨#[62, 62]⟩) := (at_op h.good (by decide)).symm
 unfold redir at ht
 have H1 := Kept.mk h1
 have H2 := Kept.mk h2
 have H3 := Kept.mk h3
 clear h h1 h2 h3
 cases a1 : isT 1 [60] ts with
 | true =>
   rw [a1, Bool.true_or, Bool.true_or] at ht
   subst ht
   rw [a1] at H1
   clear a1 H2 H3
   go_enter Tryz.func140, Tryz.ntmps140
   go_wp2_with (first
     | (go_at_call 93; refine (at_any _ g d ts _ H.out true H1.out).mono ?_; rintro e w1 ⟨rfl, hb⟩; have HB := Kept.mk hb; clear hb))
   go_ret
   exact ⟨rfl, HB.out⟩
 | false =>
   rw [a1, Bool.false_or] at ht
   rw [a1] at H1
   clear a1
   cases a2 : isT 1 [62] ts with
   | true =>
     rw [a2, Bool.true_or] at ht
     subst ht
     rw [a2] at H2
     clear a2 H3
     have T1 : Kept True := ⟨trivial⟩
     go_enter Tryz.func140, Tryz.ntmps140
     go_wp2_with (first
       | (go_at_call 93; have := T1; clear T1; refine (at_any _ g d ts _ H.out false H1.out).mono ?_; rintro e w1 ⟨rfl, hb⟩; have HB := Kept.mk hb; clear hb this)
       | (go_at_call 93; refine (at_any _ g d ts _ (H.out.below HB.out) true H2.out).mono ?_; rintro e w2 ⟨rfl, hb⟩; have HB2 : Kept (Below w.heap.size w w2) := ⟨HB.out.trans (hb.mono HB.out.size)⟩; clear hb))
     go_ret
     exact ⟨rfl, HB2.out⟩
   | false =>
     rw [a2, Bool.false_or] at ht
     rw [a2] at H2
     rw [← ht] at H3
     clear a2 ht
     have T1 : Kept True := ⟨trivial⟩
     have T2 : Kept True := ⟨trivial⟩
     go_enter Tryz.func140, Tryz.ntmps140
     go_wp2_with (first
       | (go_at_call 93; have := T1; clear T1; refine (at_any _ g d ts _ H.out false H1.out).mono ?_; rintro e w1 ⟨rfl, hb⟩; have HB := Kept.mk hb; clear hb this)
       | (go_at_call 93; have := T2; clear T2; refine (at_any _ g d ts _ (H.out.below HB.out) false H2.out).mono ?_; rintro e w2 ⟨rfl, hb⟩; have HB2 : Kept (Below w.heap.size w w2) := ⟨HB.out.trans (hb.mono HB.out.size)⟩; clear hb this)
       | (go_at_call 93; refine (at_any _ g d ts _ (H.out.below HB2.out) t H3.out).mono ?_; rintro e w3 ⟨rfl, hb⟩; have HB3 : Kept (Below w.heap.size w w3) := ⟨HB2.out.trans (hb.mono HB2.out.size)⟩; clear hb))
     go_ret
     exact ⟨rfl, HB3.out⟩
def redV (P : Nat → Prop) (w : World) (u : Value) (x : List UInt8 × List Pt) : Prop := ∃ v, u = .agg #[.string (bs x.1), v] ∧ v.oneCell' = true ∧ LV P w v x.2
set_option maxHeartbeats 1000000 in
set_option maxRecDepth 100000 in
theorem redirection_any (w : World) (g d : Nat) (u : Tok) (s : List Tok) (h : PM w g d (u :: s)) (r : R (List UInt8 × List Pt)) (hr : r = redirect (u :: s)) :
   Calls Tryz.prog 141 #[.pointer (some ⟨g, 0, none⟩)] w (RE w g d (redV (Nw w.heap.size)) r) := by
 have H := Kept.mk h
 have HR := Kept.mk hr
 clear h hr
 go_enter Tryz.func141, Tryz.ntmps141
 go_wp2_with (first
   | (go_at_call 97; refine (take_any _ g d u s (H.out.below ((Below.refl _ _).alloc (Nat.le_refl _) _))).mono ?_; rintro e w1 ⟨rfl, hp, ho⟩; have HP := hp; have HO := ho; clear hp ho))
 go_at_call 101
 have hbx : w1.heap[w.heap.size]? = some (.cells #[.string ⟨#[]⟩, .slice none 0 0] 66 (0, 0)) := (HO.out.block _ (by simp) (by have := H.out.lt; omega)).trans (heap_alloc_new w _)
 have HBx := Kept.mk hbx
 have HO1 : Kept (Only (· = g) w w1) := ⟨only_below ((Below.refl _ _).alloc (Nat.le_refl _) _) HO.out⟩
 clear hbx HO
 refine (word_any _ g d s HP.out _ rfl).mono ?_
 intro e w2 hE
 cases hp : partsT s with
 | ok z =>
   obtain ⟨l, us⟩ := z
   rw [hp] at hE
   obtain ⟨v, rfl, hl, hpm, ho⟩ := hE
   obtain rfl : r = .ok ((u.text, l), us) := by rw [HR.out]; show andThen (partsT s) _ = _; rw [hp]; rfl
   have HL := hl
   have HPM := hpm
   have HO2 : Kept (Only (· = g) w w2) := ⟨only_two HO1.out ho.out⟩
   have hb2 : w2.heap[w.heap.size]? = some (.cells #[.string ⟨#[]⟩, .slice none 0 0] 66 (0, 0)) := (ho.out.block _ (Array.getElem?_eq_some_iff.1 HBx.out).1 (by have := H.out.lt; omega)).trans HBx.out
   have hne : ¬ w.heap.size = g := by have := H.out.lt; omega
   obtain ⟨A, k, rfl⟩ := hl.out.slice
   have c0 := cell_of_row w2 w.heap.size 0 _ _ _ hb2
   have c1 := cell_of_row w2 w.heap.size 1 _ _ _ hb2
   have f0 := frozen_of_row w2 w.heap.size 0 _ _ hb2
   have f1 := frozen_of_row w2 w.heap.size 1 _ _ hb2
   clear hl
   generalize hn : l.length = n at HL ⊢
   have hy0 := heap_setCell_same w2 w.heap.size 0 _ _ (.string (bs u.text)) hb2
   have hy1 := heap_setCell_same _ w.heap.size 1 _ _ (.slice A n k) hy0
   simp at hy1
   have HY := Kept.mk hy1
   have HOf : Kept (Only (· = g) w ((w2.setCell ⟨w.heap.size, 0, none⟩ (.string (bs u.text))).setCell ⟨w.heap.size, 1, none⟩ (.slice A n k))) := ⟨(HO2.out.setCell _ _ (fun h => absurd h (by simp))).setCell _ _ (fun h => absurd h (by simp))⟩
   have hkeep : ∀ i, i ≠ w.heap.size → ((w2.setCell ⟨w.heap.size, 0, none⟩ (.string (bs u.text))).setCell ⟨w.heap.size, 1, none⟩ (.slice A n k)).heap[i]? = w2.heap[i]? := fun i hi => (Below.heap_setCell _ _ _ i hi).trans (Below.heap_setCell w2 _ _ i hi)
   have HOk : Kept (Only (· = w.heap.size) w2 ((w2.setCell ⟨w.heap.size, 0, none⟩ (.string (bs u.text))).setCell ⟨w.heap.size, 1, none⟩ (.slice A n k))) := ⟨((Only.refl (· = w.heap.size) _).setCell ⟨w.heap.size, 0, none⟩ _ (fun _ => rfl)).setCell ⟨w.heap.size, 1, none⟩ _ (fun _ => rfl)⟩
   have HPf : Kept (PM ((w2.setCell ⟨w.heap.size, 0, none⟩ (.string (bs u.text))).setCell ⟨w.heap.size, 1, none⟩ (.slice A n k)) g d us) := ⟨HPM.out.far HOk.out (by have := H.out.lt; omega)⟩
   have HLf : Kept (LV (Nw w.heap.size) ((w2.setCell ⟨w.heap.size, 0, none⟩ (.string (bs u.text))).setCell ⟨w.heap.size, 1, none⟩ (.slice A n k)) (.slice A n k) l) := ⟨HL.out.same (fun b hP hl => ⟨Nat.le_trans (Nat.le_of_lt (by have := HO1.out.size; have := (Array.getElem?_eq_some_iff.1 HBx.out).1; omega)) hP, hkeep b (by have := (Array.getElem?_eq_some_iff.1 HBx.out).1; have : w1.heap.size ≤ b := hP; omega)⟩) (by simp [World.setCell])⟩
   clear hy0 hy1 hb2 hkeep hn hp HOk
   go_wp2_with fail
   refine bodyPost_ret (results_cell_row rfl _ _ w.heap.size _ _ (0, 0) _ rfl HY.out Tryz.underlying66 rfl (by kernel_rfl)) rfl ?_
   exact ⟨_, rfl, ⟨_, rfl, rfl, HLf.out⟩, HPf, HOf⟩
 | error c =>
   rw [hp] at hE
   obtain ⟨rfl, ho⟩ := hE
   obtain rfl : r = .error c := by rw [HR.out]; show andThen (partsT s) _ = _; rw [hp]; rfl
   first | exact ⟨rfl, rfl, ⟨only_two HO1.out ho.out⟩⟩ | exact ⟨rfl, ⟨only_two HO1.out ho.out⟩⟩
end Sy
end
end Go.Proofs.YtahjonfmhejoeaaGreatDoor
