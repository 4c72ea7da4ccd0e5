/-
  The program's reader: a text is added.
-/
import Derived.Test.YtphgnjjblpmijaaDoorWp4M
import Derived.Test.YtphgnjjblpmijaaDoorWp3bM
import Derived.Test.YtphgnjjblpmijaaDoorWr4M
namespace Go.Proofs.YtphgnjjblpmijaaDoor
open Go.RowKit Tx
namespace Wx
set_option maxHeartbeats 8000000 in
set_option maxRecDepth 100000 in
/-- Behind the test of the quotes. -/
theorem addText_same (w : World) (b : Nat) (dep : Int) (ps : List Pt) (it : Bool) (t : List UInt8) (q : Bool) (pv tv : Value) (x : ByteArray) (h : RdM w b dep ps it t q pv tv) (hl : t.length + x.size ≤ 1000000) :
    Calls Tryd.prog 44 #[.pointer (some ⟨b, 0, none⟩), .string x, .bool q] w fun e w' => e = .returned (.tuple #[]) ∧ ∃ tv', Kept (RdM w' b dep ps true (t ++ toL x) q pv tv') ∧ Kept (Fr b pv tv pv tv' w w') := by
  have HM := Kept.mk (h.mark true q)
  have HL := Kept.mk hl
  have c4 := h.c4
  have f2 := h.fz 2
  have f4 := h.fz 4
  have h2 := heap_setCell_same w b 2 _ _ (.bool true) h.row
  have f4b : (w.setCell ⟨b, 2, none⟩ (.bool true)).frozen? ⟨b, 4, none⟩ = false := frozen_of_row _ _ 4 _ _ h2
  have c2 := h.c2
  clear h2
  have m3 := HM.out.1.c3
  have mf := HM.out.1.fz 3
  have hq : (q != q) = false := by cases q <;> rfl
  clear h hl
  go_enter Tryd.func44, Tryd.ntmps44
  go_wp2_with (at_builtin; refine By.wpList_append_str2 byteTy rfl _ _ 9 rfl Tryd.underlying9 rfl HM.out.1.text (by have := HM.out.1.lt; omega) x rfl (by have := HL.out; omega) ?_)
  intro tv2 w2 hb hg hv
  obtain ⟨HR, HF, hbb⟩ := HM.out.1.grew hb hg (by simpa [World.setCell] using hv)
  have HR := Kept.mk HR
  have HF := Kept.mk (HM.out.2.trans HF)
  have hr2 := hbb.trans HM.out.1.row
  have c3 : w2.cell? ⟨b, 3, none⟩ = some tv := cell_of_row _ _ 3 _ _ _ hr2
  have f3 : w2.frozen? ⟨b, 3, none⟩ = false := frozen_of_row _ _ 3 _ _ hr2
  obtain ⟨A2, k2, hA⟩ := HR.out.text.len
  rw [List.length_append, show x.data.toList.length = x.size by simp] at hA
  subst hA
  generalize t.length + x.size = tl at *
  clear hb hg hv hbb hr2 HM m3 mf
  go_wp2_with fail
  refine bodyPost_end (results_none rfl _ _ _) rfl ?_
  exact ⟨rfl, _, HR, HF⟩
set_option maxHeartbeats 8000000 in
set_option maxRecDepth 100000 in
theorem addText_other (w : World) (b : Nat) (dep : Int) (ps : List Pt) (it : Bool) (t : List UInt8) (q q' : Bool) (pv tv : Value) (x : ByteArray) (h : RdM w b dep ps it t q pv tv) (hne : q ≠ q') (hps : ps.length ≤ 100000) (hl : x.size ≤ 1000000) (ps2 : List Pt) (hp2 : Kept (ps2 = ps ++ if it then [txt q t] else [])) :
    Calls Tryd.prog 44 #[.pointer (some ⟨b, 0, none⟩), .string x, .bool q'] w fun e w' => e = .returned (.tuple #[]) ∧ ∃ pv' tv', Kept (RdM w' b dep ps2 true (toL x) q' pv' tv') ∧ Kept (Fr b pv tv pv' tv' w w') := by
  have H := Kept.mk h
  have HL := Kept.mk hl
  have c4 := h.c4
  have hq : (!(q == q')) = true := by cases q <;> cases q' <;> first | rfl | exact absurd rfl hne
  clear h hl hne
  go_enter Tryd.func44, Tryd.ntmps44
  go_wp2_with fail
  go_at_call 23
  refine (endText_any w b dep ps it t q pv tv H.out hps).mono ?_
  rw [← hp2.out]
  rintro e w1 ⟨rfl, pv1, tv1, H1, HF1⟩
  have HM := Kept.mk (H1.out.mark true q')
  have f2 := H1.out.fz 2
  have h2 := heap_setCell_same w1 b 2 _ _ (.bool true) H1.out.row
  have f4b : (w1.setCell ⟨b, 2, none⟩ (.bool true)).frozen? ⟨b, 4, none⟩ = false := frozen_of_row _ _ 4 _ _ h2
  have c2 := H1.out.c2
  have c4 := H1.out.c4
  have f4 := H1.out.fz 4
  have m3 := HM.out.1.c3
  have mf := HM.out.1.fz 3
  clear h2 H
  go_wp2_with (at_builtin; refine By.wpList_append_str2 byteTy rfl _ _ 9 rfl Tryd.underlying9 rfl HM.out.1.text (by have := HM.out.1.lt; omega) x rfl (by have := HL.out; show 0 + _ ≤ _; omega) ?_)
  intro tv2 w2 hb hg hv
  obtain ⟨HR, HF, hbb⟩ := HM.out.1.grew hb hg (by simpa [World.setCell] using hv)
  have HR := Kept.mk HR
  have HF := Kept.mk (HF1.out.trans (HM.out.2.trans HF))
  have hr2 := hbb.trans HM.out.1.row
  have c3 : w2.cell? ⟨b, 3, none⟩ = some tv1 := cell_of_row _ _ 3 _ _ _ hr2
  have f3 : w2.frozen? ⟨b, 3, none⟩ = false := frozen_of_row _ _ 3 _ _ hr2
  obtain ⟨A2, k2, hA⟩ := HR.out.text.len
  have hA : tv2 = .slice A2 x.size k2 := by simpa using hA
  subst hA
  clear hb hg hv hbb hr2 HM m3 mf
  go_wp2_with fail
  refine bodyPost_end (results_none rfl _ _ _) rfl ?_
  exact ⟨rfl, _, _, HR, HF⟩
/-- The reader, and what it has gathered. -/
def St (w : World) (b : Nat) (dep : Int) (acc : List Pt) (pv tv : Value) : Prop := ∃ ps it q t, RdM w b dep ps it t q pv tv ∧ Acc ps it q t acc
theorem St.lt {w : World} {b : Nat} {dep : Int} {acc : List Pt} {pv tv : Value} (h : St w b dep acc pv tv) : b < w.heap.size := by
  obtain ⟨ps, it, q, t, h1, _⟩ := h
  exact h1.lt
theorem St.keep {w w' : World} {b : Nat} {dep : Int} {acc : List Pt} {pv tv : Value} (h : St w b dep acc pv tv) (hb : Below w.heap.size w w') : St w' b dep acc pv tv := by
  obtain ⟨ps, it, q, t, h1, h2⟩ := h
  exact ⟨ps, it, q, t, h1.keepB hb, h2⟩
theorem Acc.sizes {ps acc : List Pt} {it q : Bool} {t : List UInt8} (h : Acc ps it q t acc) : ps.length ≤ wt acc ∧ t.length ≤ wt acc := by
  obtain ⟨rfl, hno, _⟩ := h
  have h1 := wt_len ps
  rw [wt_append]
  cases it with
  | false => rw [hno rfl]; simp; omega
  | true =>
    have : wt [txt q t] = 1 + t.length + wt [] := by rw [wt_one]; show wtP (.mk 0 q t [] [] []) = _; rw [wtP]; simp
    simp only [if_true, this]
    omega
/-- A text is added. -/
theorem addText_any (w : World) (b : Nat) (dep : Int) (acc : List Pt) (pv tv : Value) (x : ByteArray) (q' : Bool) (h : Kept (St w b dep acc pv tv)) (hw : wt acc ≤ 100000) (hx : x.size ≤ 100000) :
    Calls Tryd.prog 44 #[.pointer (some ⟨b, 0, none⟩), .string x, .bool q'] w fun e w' => e = .returned (.tuple #[]) ∧ ∃ pv' tv', Kept (St w' b dep (add acc (txt q' (toL x))) pv' tv') ∧ Kept (Fr b pv tv pv' tv' w w') := by
  obtain ⟨ps, it, q, t, h1, h2⟩ := h.out
  obtain ⟨s1, s2⟩ := h2.sizes
  have h3 := h2.text q' (toL x)
  by_cases hq : q = q'
  · subst hq
    rw [if_pos rfl, if_pos rfl] at h3
    refine (addText_same w b dep ps it t q pv tv x h1 (by omega)).mono ?_
    rintro e w' ⟨he, tv', k1, k2⟩
    exact ⟨he, pv, tv', ⟨⟨_, _, _, _, k1.out, h3⟩⟩, k2⟩
  · rw [if_neg hq, if_neg hq, List.nil_append] at h3
    refine (addText_other w b dep ps it t q q' pv tv x h1 hq (by omega) (by omega) _ ⟨rfl⟩).mono ?_
    rintro e w' ⟨he, pv', tv', k1, k2⟩
    exact ⟨he, pv', tv', ⟨⟨_, _, _, _, k1.out, h3⟩⟩, k2⟩
end Wx
end Go.Proofs.YtphgnjjblpmijaaDoor
