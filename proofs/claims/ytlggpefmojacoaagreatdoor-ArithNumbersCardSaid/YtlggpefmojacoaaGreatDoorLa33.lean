/-
  Parts of the proof, merged.
-/
import Derived.BigCall
import Derived.Deep.CutBlock
import Derived.Deep.DeepCutAuto
import Derived.Laws.Concat
import Derived.Laws.DeepStrings4
import Derived.Laws.ResultCell
import Derived.Laws.Strings
import Derived.LoopTactic
import Derived.Test.YtlggpefmojacoaaGreatDoorChecked
import Derived.Test.YtlggpefmojacoaaGreatDoorLa01
import Derived.Test.YtlggpefmojacoaaGreatDoorLa12
import Derived.Test.YtlggpefmojacoaaGreatDoorLa17
import Derived.Test.YtlggpefmojacoaaGreatDoorLa19
import Derived.Test.YtlggpefmojacoaaGreatDoorLa30
import Derived.Test.YtlggpefmojacoaaGreatDoorLa32
import Derived.WalkKit
namespace Go.Proofs.YtlggpefmojacoaaGreatDoor
section
open Go.RowKit Tx
namespace By
open Go.Lib
section
variable {P : Program} {w w' : World} {B : Nat} {v : Value} {l : List UInt8} {T E : TypeId} (k : Ty P T E)
include k
theorem run_append_str2 (u ty : TypeId) (hu : P.underlying u = some .string) (h : Bs w B v l) (hB : B ≤ w.heap.size) (s : ByteArray) (hlen : l.length + s.size ≤ 140737488355328) :
   ∃ v' w', (Builtin.append_ #[T, u] ty #[v, .string s]).run P w = .ok v' w' ∧ Bs w' B v' (l ++ s.data.toList) ∧ w.grownBy w' v.ownBlock ∧ (v'.ownBlock = v.ownBlock ∨ ∀ g, v'.ownBlock = some g → w.heap.size ≤ g) := by
 obtain ⟨i, hi, hz, hs, hby⟩ := info_parts k.info
 have hmx : l.length + s.size ≤ maxLen := by unfold maxLen; omega
 have hsl : s.data.toList.length = s.size := by simp
 have hcs : strCells s = cells s.data.toList := rfl
 rcases h with ⟨rfl, rfl⟩ | ⟨g, cap, rfl, h1, h2, h3, h4, h5, h6⟩
 · obtain ⟨v', w', hr, ho, hg, _⟩ := run_append_own_string (P := P) w w.heap.size T u ty E i k.und hu hi hz hs hby _ 0 [] (World.ownsRow_nil w w.heap.size E 1) s (by simpa using hmx) (by simpa using hlen) (Nat.le_refl _)
   rw [hcs] at ho
   have hb : Bs w' w.heap.size v' s.data.toList := Bs.of_own (n := 0 + s.size) (by simpa using ho)
   exact ⟨v', w', hr, hb.more hB, hg, .inr fun g hg => (hb.lt g hg).1⟩
 · have hf := run_firstCells_string (P := P) w 1 s
   by_cases hroom : l.length + s.size ≤ cap
   · have hst := run_storeCells_cells (P := P) g l.length (strCells s) 0 w (fun j hj => by rw [strCells_length] at hj; exact (h5 _ (by omega)).1) (fun j hj => by rw [strCells_length] at hj; exact (h5 _ (by omega)).2) (strCells_oneCell s)
     simp only [Nat.add_zero] at hst
     have hh : Bs w B (.slice (some ⟨g, 0, none⟩) l.length cap) l := .inr ⟨g, cap, rfl, h1, h2, h3, h4, h5, h6⟩
     have := hh.room (news := s.data.toList) (by omega)
     rw [List.length_append, hsl, ← hcs] at this
     refine ⟨_, _, ?_, this, grown_setCells g _ _ _, .inl rfl⟩
     simp [Builtin.append_, run_underlying k.und, run_underlying hu, sizeOf, typeInfo, hi, hs, Builtin.lenOf, hroom, hf, add_at, hst]
   · have hr := run_append_grow_string (P := P) w T u ty E i (.int .u8 0) k.und hu hi hz ⟨g, 0, none⟩ l.length cap (cells l) (by rw [length_cells, hs]; omega) (fun j u hj => by rw [add_at]; exact h6 j u hj) s (by omega) (by unfold maxLen at hmx; omega)
       (by rw [hby]; exact growslice_fits (bytes := 1) (by omega) (by omega))
     have hge := grownCap_ge w (l.length + s.size) cap E
     have hcm := grownCap_le_maxLen w (l.length + s.size) cap E hmx
     refine ⟨_, _, hr, ?_, ⟨rfl, rfl, rfl, by simp, fun j hj _ => Below.heap_alloc w.drew _ j hj⟩, .inr fun g hg => by injection hg with hg; have : w.heap.size = g := hg; omega⟩
     refine Bs.more (B := w.heap.size) (Bs.of_own (e := E) (n := l.length + s.size) ⟨?_, .inr ⟨w.heap.size, _, _, rfl, Nat.le_refl _, heap_alloc_new w.drew _, hge, hcm, ?_, ?_⟩⟩) hB
     · rw [length_cells, List.length_append, hsl]; omega
     · simp only [Array.size_append, List.size_toArray, size_zeroCells, length_cells, strCells_length]
       rw [show (Value.int IntKind.u8 0).cells.size = 1 from rfl]
       omega
     · simp only [Array.toList_append, List.append_assoc, Nat.mul_one]
       rw [hcs, ← List.append_assoc, show cells l ++ cells s.data.toList = cells (l ++ s.data.toList) by unfold cells; rw [List.map_append]]
       exact List.take_left' (by rw [length_cells, List.length_append, hsl])
theorem wpList_append_str2 {ops : Array Oper} {rest : List Oper} {o : Oper} {a : Act} {Q : Exit → Act → World → Prop} (hgd : o.guard = none) (s x : Operand) (u : TypeId) (ho : o.op = .call { callee := .builtin .append, args := #[s, x], argTypes := #[T, u] }) (hu : P.underlying u = some .string)
   (hs : a.eval s = v) (hb : Bs w B v l) (hB : B ≤ w.heap.size) (t : ByteArray) (hx : a.eval x = .string t) (hlen : l.length + t.size ≤ 140737488355328)
   (h : ∀ v' w', Bs w' B v' (l ++ t.data.toList) → w.grownBy w' v.ownBlock → (v'.ownBlock = v.ownBlock ∨ ∀ g, v'.ownBlock = some g → w.heap.size ≤ g) → wpList P ops Q rest (a.put o.dst v') w') : wpList P ops Q (o :: rest) a w := by
 obtain ⟨v', w', hr, h1, h2, h3⟩ := run_append_str2 k u o.type hu hb hB t hlen
 refine wpList_plain hgd fun K hK => ?_
 unfold Oper.wp execOp
 simp only [ho, resolve, invoke, builtin, Sem.run_bind, Sem.run_pure, Result.andThen_ok, List.map_toArray, List.map_cons, List.map_nil, hs, hx, hr]
 exact hK _ _ (h v' w' h1 h2 h3)
end
end By
namespace Wx
section
variable {w w' w2 : World} {b : Nat} {dep : Int} {ps : List Pt} {it q : Bool} {t t2 : List UInt8} {pv tv tv2 : Value}
theorem RdM.mark (h : RdM w b dep ps it t q pv tv) (it' q' : Bool) :
   RdM ((w.setCell ⟨b, 2, none⟩ (.bool it')).setCell ⟨b, 4, none⟩ (.bool q')) b dep ps it' t q' pv tv ∧ Fr b pv tv pv tv w ((w.setCell ⟨b, 2, none⟩ (.bool it')).setCell ⟨b, 4, none⟩ (.bool q')) := by
 have hk : ∀ g, g ≠ b → ((w.setCell ⟨b, 2, none⟩ (.bool it')).setCell ⟨b, 4, none⟩ (.bool q')).heap[g]? = w.heap[g]? := fun g hg => (Below.heap_setCell _ _ _ g hg).trans (Below.heap_setCell w _ _ g hg)
 have hs : w.heap.size ≤ ((w.setCell ⟨b, 2, none⟩ (.bool it')).setCell ⟨b, 4, none⟩ (.bool q')).heap.size := by simp [World.setCell]
 have hbl : Below b w ((w.setCell ⟨b, 2, none⟩ (.bool it')).setCell ⟨b, 4, none⟩ (.bool q')) := (Below.refl b w).setCell (Nat.le_refl _) _ |>.setCell (Nat.le_refl _) _
 have hot : ∀ g, Ot b pv tv g → ((w.setCell ⟨b, 2, none⟩ (.bool it')).setCell ⟨b, 4, none⟩ (.bool q')).heap[g]? = w.heap[g]? := fun g hg => hk g (by have := hg.1; omega)
 refine ⟨⟨?_, ?_, ?_, h.sep⟩, hbl, fun g hg _ => ⟨hg, hot g hg⟩⟩
 · have h1 := heap_setCell_same w b 2 _ _ (.bool it') h.row
   have h2 := heap_setCell_same _ b 4 _ _ (.bool q') h1
   simp at h2
   exact h2
 · obtain ⟨xs, ho, hx⟩ := h.parts
   exact ⟨xs, own_keep ho fun g hg => hk g (by have := (own_lt ho g hg).1; omega), hx.same (fun g hg hl => ⟨hg, hot g hg⟩) hs⟩
 · exact h.text.keep (fun g hg => hk g (by have := (h.text.lt g hg).1; omega)) hs
theorem RdM.grew (h : RdM w b dep ps it t q pv tv) (hb : By.Bs w2 (b + 1) tv2 t2) (hg : w.grownBy w2 tv.ownBlock) (hv : tv2.ownBlock = tv.ownBlock ∨ ∀ g, tv2.ownBlock = some g → w.heap.size ≤ g) :
   RdM (w2.setCell ⟨b, 3, none⟩ tv2) b dep ps it t2 q pv tv2 ∧ Fr b pv tv pv tv2 w (w2.setCell ⟨b, 3, none⟩ tv2) ∧ w2.heap[b]? = w.heap[b]? := by
 have hlt := h.lt
 have hk : ∀ g, g < w.heap.size → g ≠ b → tv.ownBlock ≠ some g → (w2.setCell ⟨b, 3, none⟩ tv2).heap[g]? = w.heap[g]? := fun g hl h1 h2 => (Below.heap_setCell _ _ _ g h1).trans (hg.block g hl fun e => h2 e.symm)
 have hs : w.heap.size ≤ (w2.setCell ⟨b, 3, none⟩ tv2).heap.size := by have := hg.size; simpa [World.setCell] using this
 have hbb : w2.heap[b]? = w.heap[b]? := hg.block b hlt fun e => by have := (h.text.lt b e.symm).1; omega
 have hot : ∀ g, Ot b pv tv g → g < w.heap.size → Ot b pv tv2 g ∧ (w2.setCell ⟨b, 3, none⟩ tv2).heap[g]? = w.heap[g]? := fun g ⟨h1, h2, h3⟩ hl => by
   refine ⟨⟨h1, h2, fun e => ?_⟩, hk g hl (by omega) h3⟩
   rcases hv with hv | hv
   · exact h3 (hv ▸ e)
   · have := hv g e; omega
 have hbl : Below b w (w2.setCell ⟨b, 3, none⟩ tv2) := by
   refine ⟨hg.os, hg.tape, hg.output, hs, fun i hi => hk i (by omega) (by omega) fun e => ?_⟩
   have := (h.text.lt i e).1
   omega
 refine ⟨⟨?_, ?_, ?_, fun g hg2 e => ?_⟩, ⟨hbl, hot⟩, hbb⟩
 · have h1 := heap_setCell_same w2 b 3 _ _ tv2 (hbb.trans h.row)
   simp at h1
   exact h1
 · obtain ⟨xs, ho, hx⟩ := h.parts
   exact ⟨xs, own_keep ho fun g hg2 => hk g (own_lt ho g hg2).2 (by have := (own_lt ho g hg2).1; omega) (h.sep g hg2), hx.same hot hs⟩
 · exact hb.keep (fun g hg2 => Below.heap_setCell _ _ _ g (by have := (hb.lt g hg2).1; show g ≠ b; omega)) (by simp [World.setCell])
 · rcases hv with hv | hv
   · exact h.sep g hg2 (hv ▸ e)
   · obtain ⟨xs, ho, _⟩ := h.parts
     have h1 := (own_lt ho g hg2).2
     have := hv g e
     omega
end
end Wx
end
section
open Go.RowKit Tx
namespace Wx
theorem RdM.keepB {w w' : World} {b : Nat} {dep : Int} {ps : List Pt} {it q : Bool} {t : List UInt8} {pv tv : Value} (h : RdM w b dep ps it t q pv tv) (hb : Below w.heap.size w w') : RdM w' b dep ps it t q pv tv := by
 obtain ⟨xs, ho, hx⟩ := h.parts
 exact ⟨(hb.block b h.lt).trans h.row, ⟨xs, own_keep ho fun g hg => hb.block g (own_lt ho g hg).2, hx.keep hb⟩, h.text.below hb (Nat.le_refl _), h.sep⟩
theorem endText_any (w : World) (b : Nat) (dep : Int) (ps : List Pt) (it : Bool) (t : List UInt8) (q : Bool) (pv tv : Value) (h : RdM w b dep ps it t q pv tv) (hl : ps.length ≤ 30000000) :
   Calls Tryz.prog 137 #[.pointer (some ⟨b, 0, none⟩)] w fun e w' => e = .returned (.tuple #[]) ∧ ∃ pv' tv', Kept (RdM w' b dep (ps ++ if it then [txt q t] else []) false [] q pv' tv') ∧ Kept (Fr b pv tv pv' tv' w w') := by
 cases it with
 | true => exact endText_yes w b dep ps t q pv tv h hl
 | false =>
   refine (endText_no w b dep ps t q pv tv h).mono ?_
   rintro e w' ⟨he, pv', tv', h1, h2⟩
   exact ⟨he, pv', tv', ⟨by simpa using h1.out⟩, h2⟩
end Wx
end
section
open Go.RowKit Tx
namespace Wx
variable {P : Nat → Prop}
mutual
def wt : List Pt → Nat
 | [] => 0
 | p :: l => wtP p + wt l
def wtP : Pt → Nat
 | .mk _ _ t n o w => 1 + t.length + n.length + o.length + wt w
end
theorem wt_append (a b : List Pt) : wt (a ++ b) = wt a + wt b := by
 induction a with
 | nil => rw [List.nil_append, show wt [] = 0 by rw [wt]]; omega
 | cons p a ih => rw [List.cons_append, wt, wt, ih]; omega
theorem wtP_pos (p : Pt) : 1 + p.text.length ≤ wtP p := by
 cases p with
 | mk k q t n o w => rw [wtP]; show 1 + t.length ≤ _; omega
theorem wt_len (l : List Pt) : l.length ≤ wt l := by
 induction l with
 | nil => exact Nat.zero_le _
 | cons p l ih => have := wtP_pos p; rw [wt, List.length_cons]; omega
theorem wt_one (p : Pt) : wt [p] = wtP p := by rw [wt, show wt [] = 0 by rw [wt]]; omega
theorem wt_add (l : List Pt) (p : Pt) : wt (add l p) ≤ wt l + wtP p := by
 rcases List.eq_nil_or_concat l with rfl | ⟨l0, a, rfl⟩
 · rw [add_nil, wt_one]; omega
 · rw [List.concat_eq_append, add_snoc]
   split
   · rw [wt_append, wt_append, wt_one, wt_one]
     cases a with
     | mk k q t n o w =>
       have := wtP_pos p
       have e : joined (.mk k q t n o w) p = .mk k q (t ++ p.text) n o w := rfl
       rw [e, wtP, wtP, List.length_append]
       omega
   · rw [wt_append, wt_one]; omega
mutual
theorem wt_quotesOn : ∀ (l acc : List Pt), wt (quotesOn acc l) ≤ wt acc + wt l
 | [], acc => by rw [quotesOn]; omega
 | p :: l, acc => by
   rw [quotesOn, wt]
   have h1 := wt_quotesOn l (add acc (quoteP p))
   have h2 := wt_add acc (quoteP p)
   have h3 := wt_quoteP p
   omega
theorem wt_quoteP : ∀ (p : Pt), wtP (quoteP p) ≤ wtP p
 | .mk k q t n o w => by
   rw [quoteP, wtP, wtP]
   have := wt_quotesOn w []
   have e : wt [] = 0 := by rw [wt]
   omega
end
end Wx
end
section
open Go.RowKit Tx
namespace Wx
set_option maxHeartbeats 8000000 in
set_option maxRecDepth 100000 in
theorem addText_same (w : World) (b : Nat) (dep : Int) (ps : List Pt) (it : Bool) (t : List UInt8) (q : Bool) (pv tv : Value) (x : ByteArray) (h : RdM w b dep ps it t q pv tv) (hl : t.length + x.size ≤ 300000000) :
   Calls Tryz.prog 157 #[.pointer (some ⟨b, 0, none⟩), .string x, .bool q] w fun e w' => e = .returned (.tuple #[]) ∧ ∃ tv', Kept (RdM w' b dep ps true (t ++ toL x) q pv tv') ∧ Kept (Fr b pv tv pv tv' w w') := by
 have HM := Kept.mk (h.mark true q)
 have HL := Kept.mk hl
 have c4 := h.c4
 have f2 := h.fz 2
 have f4 := h.fz 4
 have h2 := heap_setCell_same w b 2 _ _ (.bool true) h.row
 have f4b : (w.setCell ⟨b, 2, none⟩ (.bool true)).frozen? ⟨b, 4, none⟩ = false := frozen_of_row _ _ 4 _ _ h2
 have c2 := h.c2
 clear h2
 have m3 := HM.out.1.c3
 have mf := HM.out.1.fz 3
 have hq : (q != q) = false := by cases q <;> rfl
 clear h hl
 go_enter Tryz.func157, Tryz.ntmps157
 go_wp2_with (at_builtin; refine By.wpList_append_str2 byteTy rfl _ _ 9 rfl Tryz.underlying9 rfl HM.out.1.text (by have := HM.out.1.lt; omega) x rfl (by have := HL.out; omega) ?_)
 intro tv2 w2 hb hg hv
 obtain ⟨HR, HF, hbb⟩ := HM.out.1.grew hb hg (by simpa [World.setCell] using hv)
 have HR := Kept.mk HR
 have HF := Kept.mk (HM.out.2.trans HF)
 have hr2 := hbb.trans HM.out.1.row
 have c3 : w2.cell? ⟨b, 3, none⟩ = some tv := cell_of_row _ _ 3 _ _ _ hr2
 have f3 : w2.frozen? ⟨b, 3, none⟩ = false := frozen_of_row _ _ 3 _ _ hr2
 obtain ⟨A2, k2, hA⟩ := HR.out.text.len
 rw [List.length_append, show x.data.toList.length = x.size by simp] at hA
 subst hA
 generalize t.length + x.size = tl at *
 clear hb hg hv hbb hr2 HM m3 mf
 go_wp2_with fail
 refine bodyPost_end (results_none rfl _ _ _) rfl ?_
 exact ⟨rfl, _, HR, HF⟩
set_option maxHeartbeats 8000000 in
set_option maxRecDepth 100000 in
theorem addText_other (w : World) (b : Nat) (dep : Int) (ps : List Pt) (it : Bool) (t : List UInt8) (q q' : Bool) (pv tv : Value) (x : ByteArray) (h : RdM w b dep ps it t q pv tv) (hne : q ≠ q') (hps : ps.length ≤ 30000000) (hl : x.size ≤ 300000000) (ps2 : List Pt) (hp2 : Kept (ps2 = ps ++ if it then [txt q t] else [])) :
   Calls Tryz.prog 157 #[.pointer (some ⟨b, 0, none⟩), .string x, .bool q'] w fun e w' => e = .returned (.tuple #[]) ∧ ∃ pv' tv', Kept (RdM w' b dep ps2 true (toL x) q' pv' tv') ∧ Kept (Fr b pv tv pv' tv' w w') := by
 have H := Kept.mk h
 have HL := Kept.mk hl
 have c4 := h.c4
 have hq : (!(q == q')) = true := by cases q <;> cases q' <;> first | rfl | exact absurd rfl hne
 clear h hl hne
 go_enter Tryz.func157, Tryz.ntmps157
 go_wp2_with fail
 go_at_call 137
 refine (endText_any w b dep ps it t q pv tv H.out hps).mono ?_
 rw [← hp2.out]
 rintro e w1 ⟨rfl, pv1, tv1, H1, HF1⟩
 have HM := Kept.mk (H1.out.mark true q')
 have f2 := H1.out.fz 2
 have h2 := heap_setCell_same w1 b 2 _ _ (.bool true) H1.out.row
 have f4b : (w1.setCell ⟨b, 2, none⟩ (.bool true)).frozen? ⟨b, 4, none⟩ = false := frozen_of_row _ _ 4 _ _ h2
 have c2 := H1.out.c2
 have c4 := H1.out.c4
 have f4 := H1.out.fz 4
 have m3 := HM.out.1.c3
 have mf := HM.out.1.fz 3
 clear h2 H
 go_wp2_with (at_builtin; refine By.wpList_append_str2 byteTy rfl _ _ 9 rfl Tryz.underlying9 rfl HM.out.1.text (by have := HM.out.1.lt; omega) x rfl (by have := HL.out; show 0 + _ ≤ _; omega) ?_)
 intro tv2 w2 hb hg hv
 obtain ⟨HR, HF, hbb⟩ := HM.out.1.grew hb hg (by simpa [World.setCell] using hv)
 have HR := Kept.mk HR
 have HF := Kept.mk (HF1.out.trans (HM.out.2.trans HF))
 have hr2 := hbb.trans HM.out.1.row
 have c3 : w2.cell? ⟨b, 3, none⟩ = some tv1 := cell_of_row _ _ 3 _ _ _ hr2
 have f3 : w2.frozen? ⟨b, 3, none⟩ = false := frozen_of_row _ _ 3 _ _ hr2
 obtain ⟨A2, k2, hA⟩ := HR.out.text.len
 have hA : tv2 = .slice A2 x.size k2 := by simpa using hA
 subst hA
 clear hb hg hv hbb hr2 HM m3 mf
 go_wp2_with fail
 refine bodyPost_end (results_none rfl _ _ _) rfl ?_
 exact ⟨rfl, _, _, HR, HF⟩
def St (w : World) (b : Nat) (dep : Int) (acc : List Pt) (pv tv : Value) : Prop := ∃ ps it q t, RdM w b dep ps it t q pv tv ∧ Acc ps it q t acc
theorem St.lt {w : World} {b : Nat} {dep : Int} {acc : List Pt} {pv tv : Value} (h : St w b dep acc pv tv) : b < w.heap.size := by
 obtain ⟨ps, it, q, t, h1, _⟩ := h
 exact h1.lt
theorem St.keep {w w' : World} {b : Nat} {dep : Int} {acc : List Pt} {pv tv : Value} (h : St w b dep acc pv tv) (hb : Below w.heap.size w w') : St w' b dep acc pv tv := by
 obtain ⟨ps, it, q, t, h1, h2⟩ := h
 exact ⟨ps, it, q, t, h1.keepB hb, h2⟩
theorem Acc.sizes {ps acc : List Pt} {it q : Bool} {t : List UInt8} (h : Acc ps it q t acc) : ps.length ≤ wt acc ∧ t.length ≤ wt acc := by
 obtain ⟨rfl, hno, _⟩ := h
 have h1 := wt_len ps
 rw [wt_append]
 cases it with
 | false => rw [hno rfl]; simp; omega
 | true =>
   have : wt [txt q t] = 1 + t.length + wt [] := by rw [wt_one]; show wtP (.mk 0 q t [] [] []) = _; rw [wtP]; simp
   simp only [if_true, this]
   omega
theorem addText_any (w : World) (b : Nat) (dep : Int) (acc : List Pt) (pv tv : Value) (x : ByteArray) (q' : Bool) (h : Kept (St w b dep acc pv tv)) (hw : wt acc ≤ 30000000) (hx : x.size ≤ 30000000) :
   Calls Tryz.prog 157 #[.pointer (some ⟨b, 0, none⟩), .string x, .bool q'] w fun e w' => e = .returned (.tuple #[]) ∧ ∃ pv' tv', Kept (St w' b dep (add acc (txt q' (toL x))) pv' tv') ∧ Kept (Fr b pv tv pv' tv' w w') := by
 obtain ⟨ps, it, q, t, h1, h2⟩ := h.out
 obtain ⟨s1, s2⟩ := h2.sizes
 have h3 := h2.text q' (toL x)
 by_cases hq : q = q'
 · subst hq
   rw [if_pos rfl, if_pos rfl] at h3
   refine (addText_same w b dep ps it t q pv tv x h1 (by omega)).mono ?_
   rintro e w' ⟨he, tv', k1, k2⟩
   exact ⟨he, pv, tv', ⟨⟨_, _, _, _, k1.out, h3⟩⟩, k2⟩
 · rw [if_neg hq, if_neg hq, List.nil_append] at h3
   refine (addText_other w b dep ps it t q q' pv tv x h1 hq (by omega) (by omega) _ ⟨rfl⟩).mono ?_
   rintro e w' ⟨he, pv', tv', k1, k2⟩
   exact ⟨he, pv', tv', ⟨⟨_, _, _, _, k1.out, h3⟩⟩, k2⟩
end Wx
end
section
open Go.RowKit Tx
namespace Wx
open Lx
def Wb (w : List UInt8 → Except Int (List Pt)) : Prop := ∀ s l, w s = .ok l → wt l ≤ 2 * s.length
theorem wt_quotes (l : List Pt) : wt (quotes l) ≤ wt l := by
 have := wt_quotesOn l []
 rw [show wt [] = 0 by rw [wt]] at this
 show wt (quotesOn [] l) ≤ _
 omega
theorem opL_le {s o : List UInt8} (h : opL s = some o) : 1 ≤ o.length ∧ o.length ≤ 2 ∧ o.length ≤ s.length ∧ o ∈ wops ∧ o.isPrefixOf s = true := by
 have hm := List.mem_of_find?_eq_some h
 have hp := List.find?_some h
 have hl := (List.isPrefixOf_iff_prefix.1 hp).length_le
 refine ⟨?_, ?_, hl, hm, hp⟩ <;> (unfold wops at hm; simp only [List.mem_cons, List.not_mem_nil, or_false] at hm; rcases hm with rfl | rfl | rfl | rfl | rfl | rfl | rfl | rfl | rfl | rfl | rfl | rfl <;> decide)
theorem wtP_mk (k : Int) (q : Bool) (t n o : List UInt8) (w : List Pt) : wtP (.mk k q t n o w) = 1 + t.length + n.length + o.length + wt w := by rw [wtP]
theorem wt_nil : wt [] = 0 := by rw [wt]
theorem braces_wt {w : List UInt8 → Except Int (List Pt)} (hw : Wb w) {q : Bool} {s : List UInt8} {p : Pt} (h : braces w q s = .ok p) : wtP p ≤ 2 * s.length + 4 := by
 have hn := paramL_le s
 unfold braces at h
 split at h
 · cases h
   rw [wtP_mk, wt_nil, List.length_drop]
   show 1 + 0 + _ + 3 + 0 ≤ _
   omega
 split at h
 · cases h
 split at h
 · cases h
   rw [wtP_mk, wt_nil, List.length_take]
   show 1 + 0 + _ + 0 + 0 ≤ _
   omega
 split at h
 · cases h
 · rename_i o ho
   have h1 := opL_le ho
   split at h
   · cases h
   split at h
   · cases h
   · rename_i l hl
     split at h
     · cases h
     · cases h
       have h2 := hw _ _ hl
       have h3 := wt_quotes l
       rw [List.length_drop] at h1 h2
       have h4 : wt (if q = true then quotes l else l) ≤ wt l := by split <;> omega
       rw [wtP_mk, List.length_take]
       show 1 + 0 + _ + _ + _ ≤ _
       omega
theorem dollar_wt {w : List UInt8 → Except Int (List Pt)} (hw : Wb w) {q : Bool} {s : List UInt8} {p : Pt} {k : Nat} (hs : s ≠ []) (h : dollar w q s = .ok (p, k)) : wtP p ≤ 2 * k := by
 have hk := dollar_le hs h
 by_cases hu : (s.drop 1).head? = some 40 ∨ (s.drop 1).head? = some 123
 · rw [dollar_unit hu] at h
   cases hj : unit 30 0 s with
   | none => rw [hj] at h; cases h
   | some j =>
     have hjl := unit_le _ hj
     rw [hj] at h
     simp only [] at h
     split at h
     · rename_i h123
       cases hb : braces w q ((s.take (j - 1)).drop 2) with
       | error e => rw [hb] at h; cases h
       | ok x =>
         rw [hb] at h
         cases h
         have h1 := braces_wt hw hb
         have hl : ((s.take (k - 1)).drop 2).length = k - 1 - 2 := by rw [List.length_drop, List.length_take]; omega
         rw [hl] at h1
         by_cases hk3 : 3 ≤ k
         · omega
         · have e2 : (s.take (k - 1)).drop 2 = [] := List.eq_nil_of_length_eq_zero (by omega)
           rw [e2] at hb
           have : braces w q [] = .error 90 := by
             unfold braces
             rfl
           rw [this] at hb
           cases hb
     · split at h
       · cases h
         rw [wtP_mk, wt_nil, List.length_drop, List.length_take]
         show 1 + _ + 0 + 0 + 0 ≤ _
         omega
       · cases h
         rw [wtP_mk, wt_nil, List.length_drop, List.length_take]
         show 1 + _ + 0 + 0 + 0 ≤ _
         omega
 · rw [dollar_name hu] at h
   split at h
   · cases h
     show wtP (.mk 0 q [36] [] [] []) ≤ 2 * 1
     rw [wtP_mk, wt_nil]
     decide
   · cases h
     rw [wtP_mk, wt_nil, List.length_take]
     show 1 + 0 + _ + 0 + 0 ≤ _
     omega
theorem step2_wt {w : List UInt8 → Except Int (List Pt)} (hw : Wb w) {s : List UInt8} {p : Pt} {k : Nat} (h : step2 w s = .ok (p, k)) : wtP p ≤ 2 * k := by
 cases s with
 | nil => cases h
 | cons c r =>
   rw [step2] at h
   split at h
   · exact dollar_wt hw (by simp) h
   · split at h
     · cases h
       show wtP (.mk 0 true (r.take 1) [] [] []) ≤ _
       rw [wtP_mk, wt_nil, List.length_take]
       show 1 + _ + 0 + 0 + 0 ≤ _
       omega
     · cases h
       show wtP (.mk 0 true [c] [] [] []) ≤ _
       rw [wtP_mk, wt_nil]
       show 1 + 1 + 0 + 0 + 0 ≤ 2 * 1
       omega
theorem doubleF_wt {w : List UInt8 → Except Int (List Pt)} (hw : Wb w) : ∀ (n : Nat) (s : List UInt8) (acc l : List Pt), doubleF w n s acc = .ok l → wt l ≤ wt acc + 2 * s.length
 | _, [], acc, l, h => by rw [doubleF] at h; cases h; omega
 | 0, c :: r, acc, l, h => by rw [doubleF] at h; cases h
 | n + 1, c :: r, acc, l, h => by
   rw [doubleF] at h
   cases hs : step2 w (c :: r) with
   | error e => rw [hs] at h; cases h
   | ok x =>
     obtain ⟨p, k⟩ := x
     rw [hs] at h
     have h1 := step2_le hs
     have h2 := step2_wt hw hs
     have h3 := doubleF_wt hw n _ _ _ h
     have h4 := wt_add acc p
     rw [List.length_drop] at h3
     omega
theorem double_wt {w : List UInt8 → Except Int (List Pt)} (hw : Wb w) {s : List UInt8} {l : List Pt} (h : double w s = .ok l) : wt l ≤ 2 * s.length + 1 := by
 unfold double at h
 split at h
 · cases h
   rw [wt_one]
   show wtP (.mk 0 true [] [] [] []) ≤ _
   rw [wtP_mk, wt_nil]
   show 1 + 0 + 0 + 0 + 0 ≤ _
   omega
 · have := doubleF_wt hw _ _ _ _ h
   rw [wt_nil] at this
   omega
theorem step1_wt {w : List UInt8 → Except Int (List Pt)} (hw : Wb w) {s : List UInt8} {l : List Pt} {k : Nat} (h : step1 w s = .ok (l, k)) : wt l ≤ 2 * k := by
 cases s with
 | nil => cases h
 | cons c r =>
   have hk := step1_le h
   rw [step1] at h
   split at h
   · cases hj : unit 30 0 (c :: r) with
     | none => rw [hj] at h; cases h
     | some j =>
       rw [hj] at h
       simp only [] at h
       split at h
       · cases h
         rw [wt_one]
         show wtP (.mk 0 true (r.take 1) [] [] []) ≤ _
         rw [wtP_mk, wt_nil, List.length_take]
         show 1 + _ + 0 + 0 + 0 ≤ _
         omega
       · split at h
         · cases h
           rw [wt_one]
           show wtP (.mk 0 true (r.take (k - 2)) [] [] []) ≤ _
           rw [wtP_mk, wt_nil, List.length_take]
           show 1 + _ + 0 + 0 + 0 ≤ _
           omega
         · cases hd : double w (r.take (j - 2)) with
           | error e => rw [hd] at h; cases h
           | ok x =>
             rw [hd] at h
             cases h
             have := double_wt hw hd
             rw [List.length_take] at this
             omega
   · split at h
     · cases hd : dollar w false (c :: r) with
       | error e => rw [hd] at h; cases h
       | ok x =>
         rw [hd] at h
         cases h
         rw [wt_one]
         exact dollar_wt (p := x.1) (k := x.2) hw (by simp) hd
     · cases h
       rw [wt_one]
       show wtP (.mk 0 false [c] [] [] []) ≤ _
       rw [wtP_mk, wt_nil]
       show 1 + 1 + 0 + 0 + 0 ≤ 2 * 1
       omega
theorem wt_foldl (l : List Pt) : ∀ acc, wt (l.foldl add acc) ≤ wt acc + wt l := by
 induction l with
 | nil => intro acc; rw [List.foldl_nil, wt_nil]; omega
 | cons p l ih =>
   intro acc
   rw [List.foldl_cons, wt]
   have h1 := ih (add acc p)
   have h2 := wt_add acc p
   omega
theorem partsF_wt {w : List UInt8 → Except Int (List Pt)} (hw : Wb w) : ∀ (n : Nat) (s : List UInt8) (acc l : List Pt), partsF w n s acc = .ok l → wt l ≤ wt acc + 2 * s.length
 | _, [], acc, l, h => by rw [partsF] at h; cases h; omega
 | 0, c :: r, acc, l, h => by rw [partsF] at h; cases h
 | n + 1, c :: r, acc, l, h => by
   rw [partsF] at h
   cases hs : step1 w (c :: r) with
   | error e => rw [hs] at h; cases h
   | ok x =>
     obtain ⟨p, k⟩ := x
     rw [hs] at h
     have h1 := step1_le hs
     have h2 := step1_wt hw hs
     have h3 := partsF_wt hw n _ _ _ h
     have h4 := wt_foldl p acc
     rw [List.length_drop] at h3
     omega
theorem parts_wt : ∀ d, Wb (parts d)
 | 0, s, l, h => by rw [parts] at h; cases h
 | d + 1, s, l, h => by
   rw [parts] at h
   have := partsF_wt (parts_wt d) _ _ _ _ h
   rw [wt_nil] at this
   omega
end Wx
end
section
open Go.RowKit Tx
namespace Lx
theorem drop_at {s : ByteArray} {p : Nat} (hp : p < s.size) : (toL s).drop p = s[p]'hp :: (toL s).drop (p + 1) := by
 rw [List.drop_eq_getElem_cons (by rw [toL_length]; exact hp)]
 rfl
theorem drop_end {s : ByteArray} {p : Nat} (hp : s.size ≤ p) : (toL s).drop p = [] := List.drop_eq_nil_of_le (by rw [toL_length]; exact hp)
theorem prefix_two (a c z : UInt8) (r : List UInt8) : [a, z].isPrefixOf (c :: r) = (a == c && decide (r.head? = some z)) := by
 cases r with
 | nil => simp [List.isPrefixOf]
 | cons y r =>
   simp only [List.isPrefixOf, List.head?_cons, Option.some.injEq, Bool.and_true]
   congr 1
   by_cases h : z = y
   · subst h; simp
   · have : ((z : UInt8) == y) = false := by simpa using h
     rw [this, decide_eq_false (fun e => h e.symm)]
end Lx
end
section
open Go.RowKit Tx
namespace Wx
open Lx
def Nw (n : Nat) (g : Nat) : Prop := n ≤ g
structure BrM (w w' : World) (q : Bool) (n o : ByteArray) (v : Value) : Prop where
 r0 : w'.heap[w.heap.size]? = some (.cells #[.int .i64 0, .bool false, .string ⟨#[]⟩, .string ⟨#[]⟩, .string ⟨#[]⟩, .slice none 0 0] 125 (0, 0))
 r1 : w'.heap[w.heap.size + 1]? = some (.cells #[.int .i64 1, .bool q, .string ⟨#[]⟩, .string n, .string o, v] 125 (0, 0))
 bl : Below w.heap.size w w'
theorem BrM.begin (w : World) (q : Bool) : BrM w ((w.alloc (.cells #[.int .i64 0, .bool false, .string ⟨#[]⟩, .string ⟨#[]⟩, .string ⟨#[]⟩, .slice none 0 0] 125)).alloc (.cells #[.int .i64 1, .bool q, .string ⟨#[]⟩, .string ⟨#[]⟩, .string ⟨#[]⟩, .slice none 0 0] 125)) q ⟨#[]⟩ ⟨#[]⟩ (.slice none 0 0) :=
 ⟨(Below.heap_alloc _ _ _ (by simp)).trans (heap_alloc_new w _), by have := heap_alloc_new (w.alloc (.cells #[.int .i64 0, .bool false, .string ⟨#[]⟩, .string ⟨#[]⟩, .string ⟨#[]⟩, .slice none 0 0] 125)) (.cells #[.int .i64 1, .bool q, .string ⟨#[]⟩, .string ⟨#[]⟩, .string ⟨#[]⟩, .slice none 0 0] 125); rwa [World.size_alloc] at this, ((Below.refl _ _).alloc (Nat.le_refl _) _).alloc (by simp) _⟩
section
variable {w w' w1 w2 : World} {q : Bool} {n o : ByteArray} {v : Value}
theorem BrM.below (h : BrM w w1 q n o v) (hb : Below w1.heap.size w1 w2) : BrM w w2 q n o v :=
 ⟨(hb.block _ (Array.getElem?_eq_some_iff.1 h.r0).1).trans h.r0, (hb.block _ (Array.getElem?_eq_some_iff.1 h.r1).1).trans h.r1, h.bl.trans (hb.mono h.bl.size)⟩
theorem BrM.row (h : BrM w w1 q n o v) (cs : Array Value) : (w1.setRow w.heap.size cs).heap[w.heap.size]? = some (.cells cs 125 (0, 0)) ∧ Below w.heap.size w (w1.setRow w.heap.size cs) :=
 ⟨setRow_heap _ _ _ cs _ _ h.r0, h.bl.os, h.bl.tape, h.bl.output, by rw [setRow_size]; exact h.bl.size, fun i hi => (setRow_other _ _ i _ (by omega)).trans (h.bl.block i hi)⟩
theorem BrM.c3 (h : BrM w w' q n o v) : w'.cell? ⟨w.heap.size + 1, 3, none⟩ = some (.string n) := cell_of_row _ _ 3 _ _ _ h.r1
theorem BrM.c4 (h : BrM w w' q n o v) : w'.cell? ⟨w.heap.size + 1, 4, none⟩ = some (.string o) := cell_of_row _ _ 4 _ _ _ h.r1
theorem BrM.c5 (h : BrM w w' q n o v) : w'.cell? ⟨w.heap.size + 1, 5, none⟩ = some v := cell_of_row _ _ 5 _ _ _ h.r1
theorem BrM.f3 (h : BrM w w' q n o v) : w'.frozen? ⟨w.heap.size + 1, 3, none⟩ = false := frozen_of_row _ _ 3 _ _ h.r1
theorem BrM.f4 (h : BrM w w' q n o v) : w'.frozen? ⟨w.heap.size + 1, 4, none⟩ = false := frozen_of_row _ _ 4 _ _ h.r1
theorem BrM.f5 (h : BrM w w' q n o v) : w'.frozen? ⟨w.heap.size + 1, 5, none⟩ = false := frozen_of_row _ _ 5 _ _ h.r1
end
theorem LV.far {w w1 : World} {m : Nat} {v : Value} {l : List Pt} (h : LV (Nw m) w1 v l) (hm : w.heap.size + 2 ≤ m) (u : Value) (cs : Array Value) : LV (Nw w.heap.size) ((w1.setCell ⟨w.heap.size + 1, 5, Option.none⟩ u).setRow w.heap.size cs) v l :=
 h.same (fun g hP hg => ⟨show w.heap.size ≤ g from by have : m ≤ g := hP; omega, (setRow_other _ _ g _ (by have : m ≤ g := hP; omega)).trans (Below.heap_setCell w1 _ _ g (by have : m ≤ g := hP; show g ≠ w.heap.size + 1; omega))⟩) (by rw [setRow_size]; simp [World.setCell])
end Wx
end
section
open Go.RowKit Tx
namespace Wx
open Lx
structure DbM (w w' : World) : Prop where
 r0 : w'.heap[w.heap.size]? = some (.cells #[.int .i64 0, .bool false, .string ⟨#[]⟩, .string ⟨#[]⟩, .string ⟨#[]⟩, .slice none 0 0] 125 (0, 0))
 bl : Below w.heap.size w w'
theorem DbM.begin (w : World) : DbM w (w.alloc (.cells #[.int .i64 0, .bool false, .string ⟨#[]⟩, .string ⟨#[]⟩, .string ⟨#[]⟩, .slice none 0 0] 125)) := ⟨heap_alloc_new w _, (Below.refl _ _).alloc (Nat.le_refl _) _⟩
theorem DbM.below {w w1 w2 : World} (h : DbM w w1) (hb : Below w1.heap.size w1 w2) : DbM w w2 := ⟨(hb.block _ (Array.getElem?_eq_some_iff.1 h.r0).1).trans h.r0, h.bl.trans (hb.mono h.bl.size)⟩
theorem DbM.row {w w1 : World} (h : DbM w w1) (cs : Array Value) : (w1.setRow w.heap.size cs).heap[w.heap.size]? = some (.cells cs 125 (0, 0)) ∧ Below w.heap.size w (w1.setRow w.heap.size cs) :=
 ⟨setRow_heap _ _ _ cs _ _ h.r0, h.bl.os, h.bl.tape, h.bl.output, by rw [setRow_size]; exact h.bl.size, fun i hi => (setRow_other _ _ i _ (by omega)).trans (h.bl.block i hi)⟩
theorem unit_three {c : UInt8} {r : List UInt8} {k : Nat} (h : unit 30 0 (36 :: c :: r) = some k) (hc : c = 40 ∨ c = 123) : 3 ≤ k := by
 rcases hc with rfl | rfl
 · rw [unit_par 29] at h
   obtain ⟨j, hj, rfl⟩ := Option.map_eq_some_iff.1 h
   have := nest_le hj
   omega
 · rw [unit_brace 29] at h
   obtain ⟨j, hj, rfl⟩ := Option.map_eq_some_iff.1 h
   have := nest_le hj
   omega
end Wx
end
section
open Go.RowKit Tx
namespace Wx
open Lx
structure BoxM (w w' : World) (cs : Array Value) : Prop where
 r : w'.heap[w.heap.size]? = some (.cells cs 125 (0, 0))
 bl : Below w.heap.size w w'
section
variable {w w1 w2 : World} {cs ds : Array Value}
theorem BoxM.begin (w : World) (cs : Array Value) : BoxM w (w.alloc (.cells cs 125)) cs := ⟨heap_alloc_new w _, (Below.refl _ _).alloc (Nat.le_refl _) _⟩
theorem BoxM.below (h : BoxM w w1 cs) (hb : Below w1.heap.size w1 w2) : BoxM w w2 cs := ⟨(hb.block _ (Array.getElem?_eq_some_iff.1 h.r).1).trans h.r, h.bl.trans (hb.mono h.bl.size)⟩
theorem BoxM.row (h : BoxM w w1 cs) (ds : Array Value) : BoxM w (w1.setRow w.heap.size ds) ds :=
 ⟨setRow_heap _ _ _ ds _ _ h.r, h.bl.os, h.bl.tape, h.bl.output, by rw [setRow_size]; exact h.bl.size, fun i hi => (setRow_other _ _ i _ (by omega)).trans (h.bl.block i hi)⟩
theorem BoxM.lt (h : BoxM w w1 cs) : w.heap.size + 1 ≤ w1.heap.size := (Array.getElem?_eq_some_iff.1 h.r).1
theorem LV.ahead {m : Nat} {v : Value} {l : List Pt} (h : LV (Nw m) w1 v l) (hm : w.heap.size + 1 ≤ m) (ds : Array Value) : LV (Nw m) (w1.setRow w.heap.size ds) v l :=
 h.same (fun g hP hg => ⟨hP, setRow_other _ _ g _ (by have : m ≤ g := hP; omega)⟩) (by rw [setRow_size]; exact Nat.le_refl _)
theorem LV.nw {m n : Nat} {v : Value} {l : List Pt} (h : LV (Nw m) w1 v l) (hm : n ≤ m) : LV (Nw n) w1 v l := h.mono fun _g hP _ => Nat.le_trans hm hP
end
theorem str_from {s : ByteArray} {k : Nat} (hk : k ≤ s.size) (_hs : s.size ≤ 6000000) (W : World) : (Instr.slice 9 (.string s) (some (.int .i64 (k : Int))) none none).run Tryz.prog W = .ok (.string (s.extract k s.size)) W := by
 rw [run_slice_string_from_if W 9 s .i64 _ Tryz.underlying9, if_pos ⟨by omega, by omega⟩, Int.toNat_natCast]
theorem toL_rest (s : ByteArray) (k : Nat) : toL (s.extract k s.size) = (toL s).drop k := by rw [toL_extract, List.take_of_length_le (by rw [List.length_drop, toL_length]; omega)]
theorem size_rest (s : ByteArray) (k : Nat) : (s.extract k s.size).size = s.size - k := by rw [ByteArray.size_extract]; omega
theorem cons_at {s : ByteArray} (h0 : 0 < s.size) : toL s = s[0]'h0 :: (toL s).drop 1 := by have := drop_at h0; rwa [List.drop_zero] at this
end Wx
end
end Go.Proofs.YtlggpefmojacoaaGreatDoor
