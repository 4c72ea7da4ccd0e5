/-
  Parts of the proof, merged.
-/
import Derived.Test.YtahjonfmhejoeaaGreatDoorVa37
namespace Go.Proofs.YtahjonfmhejoeaaGreatDoor
section
open Go.RowKit Tx
namespace Sy
open Lx (Tok tv tvs tvs_at Qt pan)
open Wx (Pt LV Nw parts)
def cutL (l : List UInt8) : List UInt8 := if Lx.ahead 61 l < l.length then l.take (Lx.ahead 61 l) else l
def cutR (l : List UInt8) : List UInt8 := if Lx.ahead 61 l < l.length then l.drop (Lx.ahead 61 l + 1) else []
theorem cut_any (x : ByteArray) (w : World) (hx : x.size ≤ 2500) (hK : Wx.Kit w) :
   Calls Tryz.prog 124 #[.string x, .string ⟨#[61]⟩] w fun e w' => e = .returned (.tuple #[.string (bs (cutL (toL x))), .string (bs (cutR (toL x))), .bool (decide (Lx.ahead 61 (toL x) < (toL x).length))]) ∧ Below w.heap.size w w' := by
 obtain ⟨m, hm⟩ := hK.max
 refine (Tryz.strings_Cut x ⟨#[61]⟩ m w (by omega) hm).mono ?_
 rintro e w' ⟨rfl, n, rfl⟩
 refine ⟨?_, below_drewN (Below.refl _ _) n⟩
 have h : Lib.cut x.data.toList (⟨#[61]⟩ : ByteArray).data.toList = Lib.cut (toL x) [61] := rfl
 rw [h, cut_eq]
 unfold cutL cutR
 by_cases hh : Lx.ahead 61 (toL x) < (toL x).length
 · simp only [if_pos hh, decide_eq_true hh]; rfl
 · simp only [if_neg hh, decide_eq_false hh]; rfl
theorem cutL_len (l : List UInt8) : (cutL l).length ≤ l.length := by
 unfold cutL
 split
 · rw [List.length_take]; omega
 · exact Nat.le_refl _
theorem asg_is (l : List UInt8) : asgT l = (decide (Lx.ahead 61 l < l.length) && isName (cutL l)) := by
 rw [(asg_cut l).1]
 by_cases h : Lx.ahead 61 l < l.length
 · unfold cutL; rw [if_pos h]
 · rw [decide_eq_false h]; rfl
theorem asg_parts {l : List UInt8} (h : asgT l = true) : cutL l = l.take (Wx.nameL l) ∧ cutR l = l.drop (Wx.nameL l + 1) := by
 obtain ⟨h1, h2⟩ := asg_cut l
 have h3 := h2 h
 rw [h1, Bool.and_eq_true, decide_eq_true_eq] at h
 unfold cutL cutR
 rw [if_pos h.1, if_pos h.1, h3]
 exact ⟨rfl, rfl⟩
set_option maxHeartbeats 1000000 in
set_option maxRecDepth 100000 in
theorem atAssignment_any (w : World) (g d : Nat) (ts : List Tok) (h : PM w g d ts) (t : Bool) (ht : t = asgT (textT ts)) :
   Calls Tryz.prog 164 #[.pointer (some ⟨g, 0, none⟩)] w fun e w' => e = .returned (.bool t) ∧ Below w.heap.size w w' := by
 have H := Kept.mk h
 have hF1 := fld1
 have HS := Kept.mk (short_head h)
 rw [asg_is] at ht
 cases hf : decide (Lx.ahead 61 (textT ts) < (textT ts).length) with
 | false =>
   rw [hf, Bool.false_and] at ht
   subst ht
   have HF : Kept (decide (Lx.ahead 61 (toL (bs (textT ts))) < (toL (bs (textT ts))).length) = false) := ⟨by rw [toL_bs]; exact hf⟩
   clear h hf
   go_enter Tryz.func164, Tryz.ntmps164
   go_wp2_with (first
     | (go_at_call 103; refine (next_any _ g d ts H.out).mono ?_; rintro e w1 ⟨rfl, hb⟩; have HB := Kept.mk hb; clear hb)
     | (go_at_call 124; refine (cut_any _ _ HS.out (H.out.below HB.out).kit).mono ?_; rintro e w2 ⟨rfl, hb⟩; rw [HF.out]; have HB2 : Kept (Below w.heap.size w w2) := ⟨HB.out.trans (hb.mono HB.out.size)⟩; clear hb))
   go_ret
   exact ⟨rfl, HB2.out⟩
 | true =>
   rw [hf, Bool.true_and] at ht
   have HF : Kept (decide (Lx.ahead 61 (toL (bs (textT ts))) < (toL (bs (textT ts))).length) = true) := ⟨by rw [toL_bs]; exact hf⟩
   have HN : Kept (t = isName (toL (bs (cutL (toL (bs (textT ts))))))) := ⟨by rw [toL_bs, toL_bs]; exact ht⟩
   have HSz : Kept ((bs (cutL (toL (bs (textT ts))))).size ≤ 4000) := ⟨by have := cutL_len (toL (bs (textT ts))); have h2 := HS.out; rw [bs_size] at h2 ⊢; rw [toL_bs] at *; omega⟩
   clear h hf ht
   go_enter Tryz.func164, Tryz.ntmps164
   go_wp2_with (first
     | (go_at_call 103; refine (next_any _ g d ts H.out).mono ?_; rintro e w1 ⟨rfl, hb⟩; have HB := Kept.mk hb; clear hb)
     | (go_at_call 124; refine (cut_any _ _ HS.out (H.out.below HB.out).kit).mono ?_; rintro e w2 ⟨rfl, hb⟩; rw [HF.out]; have HB2 : Kept (Below w.heap.size w w2) := ⟨HB.out.trans (hb.mono HB.out.size)⟩; clear hb)
     | (go_at_call 127; refine (isVariable_any _ _ (H.out.below HB2.out).kit HSz.out t HN.out).mono ?_; rintro e w3 ⟨rfl, hb⟩; have HB3 : Kept (Below w.heap.size w w3) := ⟨HB2.out.trans (hb.out.mono HB2.out.size)⟩; clear hb))
   go_ret
   exact ⟨rfl, HB3.out⟩
def asgR (u : Tok) (s : List Tok) : R (List UInt8 × List Pt) := match parts 30 (u.text.drop (Wx.nameL u.text + 1)) with | .error e => .error e | .ok v => .ok ((u.text.take (Wx.nameL u.text), v), s)
set_option maxHeartbeats 1000000 in
set_option maxRecDepth 100000 in
theorem assignment_any (w : World) (g d : Nat) (u : Tok) (s : List Tok) (h : PM w g d (u :: s)) (ha : asgT u.text = true) (r : R (List UInt8 × List Pt)) (hr : r = asgR u s) :
   Calls Tryz.prog 165 #[.pointer (some ⟨g, 0, none⟩)] w (RE w g d (redV (Nw w.heap.size)) r) := by
 have H := Kept.mk h
 have HS : Kept ((bs u.text).size ≤ 2500) := ⟨short_head h⟩
 obtain ⟨h1, h2⟩ := asg_parts ha
 have HL : Kept (cutL (toL (bs u.text)) = u.text.take (Wx.nameL u.text)) := ⟨by rw [toL_bs]; exact h1⟩
 have HRt : Kept (cutR (toL (bs u.text)) = u.text.drop (Wx.nameL u.text + 1)) := ⟨by rw [toL_bs]; exact h2⟩
 have HR : Kept (r = match parts 30 (u.text.drop (Wx.nameL u.text + 1)) with | .error e => .error e | .ok v => .ok ((u.text.take (Wx.nameL u.text), v), s)) := ⟨hr⟩
 obtain ⟨N, hN⟩ : ∃ N, N = u.text.take (Wx.nameL u.text) := ⟨_, rfl⟩
 obtain ⟨V, hV⟩ : ∃ V, V = u.text.drop (Wx.nameL u.text + 1) := ⟨_, rfl⟩
 rw [← hN] at HL HR
 rw [← hV] at HRt HR
 have HVs : Kept ((bs V).size ≤ 5000) := ⟨by have := HS.out; rw [bs_size] at this ⊢; rw [hV, List.length_drop]; omega⟩
 clear h hr h1 h2 ha hN hV
 go_enter Tryz.func165, Tryz.ntmps165
 go_wp2_with (first
   | (go_at_call 97; refine (take_any _ g d u s (H.out.below ((Below.refl _ _).alloc (Nat.le_refl _) _))).mono ?_; rintro e w1 ⟨rfl, hp, ho⟩; have HP := hp; have HO := ho; clear hp ho)
   | (go_at_call 124; refine (cut_any _ _ HS.out HP.out.kit).mono ?_; rintro e w2 ⟨rfl, hb⟩; rw [HL.out, HRt.out]; have HP2 := Kept.mk (HP.out.below hb); have HO2 : Kept (Only (· = g) (w.alloc (.cells #[.string ⟨#[]⟩, .slice none 0 0] 63)) w2) := ⟨only_on HO.out hb⟩; clear hb))
 go_at_call 128
 have hbx : w2.heap[w.heap.size]? = some (.cells #[.string ⟨#[]⟩, .slice none 0 0] 63 (0, 0)) := (HO2.out.block _ (by simp) (by have := H.out.lt; omega)).trans (heap_alloc_new w _)
 have HBx := Kept.mk hbx
 have HO1 : Kept (Only (· = g) w w2) := ⟨only_below ((Below.refl _ _).alloc (Nat.le_refl _) _) HO2.out⟩
 clear hbx HO HP HO2
 refine (partsOf_any _ (bs V) HP2.out.kit HVs.out _ rfl).mono ?_
 rw [toL_bs]
 intro e w3 hE
 cases hp : parts 30 V with
 | ok l =>
   rw [hp] at hE
   obtain ⟨v, rfl, hl, hb⟩ := hE
   obtain rfl : r = .ok ((N, l), s) := by rw [HR.out, hp]
   have HPM := Kept.mk (HP2.out.below hb.out)
   have HO3 : Kept (Only (· = g) w w3) := ⟨only_on HO1.out hb.out⟩
   have hlt2 := (Array.getElem?_eq_some_iff.1 HBx.out).1
   have hb2 : w3.heap[w.heap.size]? = some (.cells #[.string ⟨#[]⟩, .slice none 0 0] 63 (0, 0)) := (hb.out.block _ hlt2).trans HBx.out
   have HLv := hl
   have hsz2 := HO1.out.size
   obtain ⟨A, k, rfl⟩ := hl.out.slice
   have c0 := cell_of_row w3 w.heap.size 0 _ _ _ hb2
   have c1 := cell_of_row w3 w.heap.size 1 _ _ _ hb2
   have f0 := frozen_of_row w3 w.heap.size 0 _ _ hb2
   have f1 := frozen_of_row w3 w.heap.size 1 _ _ hb2
   clear hl
   generalize hn : l.length = n at HLv ⊢
   have hy0 := heap_setCell_same w3 w.heap.size 0 _ _ (.string (bs N)) hb2
   have hy1 := heap_setCell_same _ w.heap.size 1 _ _ (.slice A n k) hy0
   simp at hy1
   have HY := Kept.mk hy1
   have HOf : Kept (Only (· = g) w ((w3.setCell ⟨w.heap.size, 0, none⟩ (.string (bs N))).setCell ⟨w.heap.size, 1, none⟩ (.slice A n k))) := ⟨(HO3.out.setCell _ _ (fun h => absurd h (by simp))).setCell _ _ (fun h => absurd h (by simp))⟩
   have hkeep : ∀ i, i ≠ w.heap.size → ((w3.setCell ⟨w.heap.size, 0, none⟩ (.string (bs N))).setCell ⟨w.heap.size, 1, none⟩ (.slice A n k)).heap[i]? = w3.heap[i]? := fun i hi => (Below.heap_setCell _ _ _ i hi).trans (Below.heap_setCell w3 _ _ i hi)
   have HOk : Kept (Only (· = w.heap.size) w3 ((w3.setCell ⟨w.heap.size, 0, none⟩ (.string (bs N))).setCell ⟨w.heap.size, 1, none⟩ (.slice A n k))) := ⟨((Only.refl (· = w.heap.size) _).setCell ⟨w.heap.size, 0, none⟩ _ (fun _ => rfl)).setCell ⟨w.heap.size, 1, none⟩ _ (fun _ => rfl)⟩
   have HPf : Kept (PM ((w3.setCell ⟨w.heap.size, 0, none⟩ (.string (bs N))).setCell ⟨w.heap.size, 1, none⟩ (.slice A n k)) g d s) := ⟨HPM.out.far HOk.out (by have := H.out.lt; omega)⟩
   have HLf : Kept (LV (Nw w.heap.size) ((w3.setCell ⟨w.heap.size, 0, none⟩ (.string (bs N))).setCell ⟨w.heap.size, 1, none⟩ (.slice A n k)) (.slice A n k) l) := ⟨HLv.out.same (fun b hP hl => ⟨Nat.le_trans hsz2 hP, hkeep b (by have : w2.heap.size ≤ b := hP; omega)⟩) (by simp [World.setCell])⟩
   clear hy0 hy1 hb2 hkeep hn hp HOk hlt2 hsz2 hb
   go_wp2_with fail
   refine bodyPost_ret (results_cell_row rfl _ _ w.heap.size _ _ (0, 0) _ rfl HY.out Tryz.underlying63 rfl (by kernel_rfl)) rfl ?_
   exact ⟨_, rfl, ⟨_, rfl, rfl, HLf.out⟩, HPf, HOf⟩
 | error c =>
   rw [hp] at hE
   obtain ⟨rfl, hb⟩ := hE
   obtain rfl : r = .error c := by rw [HR.out, hp]
   first | exact ⟨rfl, rfl, ⟨only_on HO1.out hb.out⟩⟩ | exact ⟨rfl, ⟨only_on HO1.out hb.out⟩⟩
set_option maxHeartbeats 2000000 in
set_option maxRecDepth 100000 in
theorem atFunction_any (w : World) (g d : Nat) (ts : List Tok) (h : PM w g d ts) (t : Bool) (ht : t = atFun ts) :
   Calls Tryz.prog 142 #[.pointer (some ⟨g, 0, none⟩)] w fun e w' => e = .returned (.bool t) ∧ Below w.heap.size w w' := by
 have H := Kept.mk h
 have hF1 := fld1
 have HS := Kept.mk (short_head h)
 obtain ⟨A, k, m, hr, htk, _⟩ := h.row
 have c0 := cell_of_row w g 0 _ _ _ hr
 by_cases hl : ts.length ≤ 1
 · obtain rfl : t = false := by
     rw [ht]
     match ts, hl with
     | [], _ => rfl
     | [a], _ => simp [atFun, isT]
   have hz : ¬ (1 : Int) < (ts.length : Int) := by omega
   have hz2 : decide ((1 : Int) < (ts.length : Int)) = false := decide_eq_false hz
   generalize ts.length = n at *
   clear h hr htk ht
   go_enter Tryz.func142, Tryz.ntmps142
   go_wp2_with fail
   go_ret
   exact ⟨rfl, Below.refl _ _⟩
 · obtain ⟨a, b, r, rfl⟩ : ∃ a b r, ts = a :: b :: r := by
     match ts, hl with
     | [], hl => exact absurd (Nat.zero_le _) hl
     | [x], hl => exact absurd (Nat.le_refl _) hl
     | x :: y :: z, _ => exact ⟨x, y, z, rfl⟩
   obtain ⟨tg, off, hA, hn, _, _⟩ := htk.head
   have c3 : w.cell? ⟨tg, off + 3, none⟩ = some (.string (bs b.text)) := by
     cases htk with
     | «at» tg2 off2 n k ts hn hk hg hl hc =>
       cases hA
       exact hc 3 _ rfl
   subst hA
   have hb1 : decide (b.text = [40]) = isT 1 [40] (b :: r) := at_op h.good.tail (by decide)
   have ht2 : t = (isName a.text && decide (b.text = [40])) := by
     rw [ht, hb1]
     have := isName_word h.good
     show (wordT (a :: b :: r) && _ && _) = _
     have h2 : isName a.text = (wordT (a :: b :: r) && Wx.nameL (textT (a :: b :: r)) == (textT (a :: b :: r)).length) := by
       show isName (textT (a :: b :: r)) = _
       rw [this]
       cases wordT (a :: b :: r) <;> by_cases e : Wx.nameL (textT (a :: b :: r)) = (textT (a :: b :: r)).length <;> simp [e]
     rw [h2]; rfl
   have hix : ∀ W : World, (Instr.indexAt 46 (.slice (some ⟨tg, off, none⟩) (a :: b :: r).length k) (.int .i64 1)).run Tryz.prog W = .ok (.pointer (some ⟨tg, off + 2, none⟩)) W := fun W => by
     have h1 : (1 : Int) < ((a :: b :: r).length : Int) := by simp; omega
     have h2 : (⟨tg, off, none⟩ : Addr).add 2 = ⟨tg, off + 2, none⟩ := by unfold Addr.add; split <;> simp_all
     have hz : ∀ W : World, (sizeOf 92).run Tryz.prog W = .ok 2 W := fun W => by kernel_rfl
     have hu : Tryz.prog.underlying 46 = some (.slice 92) := Tryz.underlying46
     generalize (a :: b :: r).length = L at h1
     have h3 : ¬ L ≤ 1 := by omega
     have h4 : ¬ (L : Int) ≤ 1 := by omega
     simp [Instr.indexAt, run_underlying hu, go_sem, h1, hz]
   have hlen : (1 : Int) < ((a :: b :: r).length : Int) := by simp; omega
   have hlen2 : decide ((1 : Int) < ((a :: b :: r).length : Int)) = true := decide_eq_true hlen
   have HEq : Kept (((bs b.text).toList == ([40] : List UInt8)) = decide (b.text = [40])) := ⟨by
     rw [bsl]
     by_cases e : b.text = [40]
     · rw [e]; rfl
     · rw [decide_eq_false e, beq_eq_false_iff_ne.2 e]⟩
   have HS2 : Kept ((bs a.text).size ≤ 2500) := HS
   generalize hL : (a :: b :: r).length = L at *
   clear hL hl htk ht hn hr hb1
   cases hb : decide (b.text = [40]) with
   | false =>
     obtain rfl : t = false := by rw [ht2, hb, Bool.and_false]
     have hbe : ((bs b.text).toList == ([40] : List UInt8)) = false := by rw [HEq.out, hb]
     clear ht2 hb h HEq
     go_enter Tryz.func142, Tryz.ntmps142
     go_wp2_with fail
     go_ret
     exact ⟨rfl, Below.refl _ _⟩
   | true =>
     have HN : Kept (t = isName (toL (bs a.text))) := ⟨by rw [ht2, hb, Bool.and_true, toL_bs]⟩
     have hbe : ((bs b.text).toList == ([40] : List UInt8)) = true := by rw [HEq.out, hb]
     clear ht2 hb h HEq
     go_enter Tryz.func142, Tryz.ntmps142
     go_wp2_with (first
       | (go_at_call 103; refine (next_any _ g d (a :: b :: r) H.out).mono ?_; rintro e w1 ⟨rfl, hb⟩; have HB := Kept.mk hb; clear hb)
       | (go_at_call 127; refine (isVariable_any _ (bs a.text) (H.out.below HB.out).kit (by have := HS2.out; omega) t HN.out).mono ?_; rintro e w3 ⟨rfl, hb⟩; have HB3 : Kept (Below w.heap.size w w3) := ⟨HB.out.trans (hb.out.mono HB.out.size)⟩; clear hb))
     go_ret
     exact ⟨rfl, HB3.out⟩
end Sy
end
end Go.Proofs.YtahjonfmhejoeaaGreatDoor
