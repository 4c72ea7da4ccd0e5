/-
  The program's splitter in memory: a text is added; the current field ends.
-/
import Derived.Test.YtjnhhkiabdbenaaDoorFp1
import Derived.Deep.AppendLies
import Derived.Deep.DrawnRows
import Derived.Deep.RegionHeld3
import Derived.BigRegion
namespace Go.Proofs.YtjnhhkiabdbenaaDoor
open Go.RowKit Tx
namespace Fd

theorem textInfo : (Tryd.prog.info? 9).map (fun i => (i.zero, i.size, i.bytes)) = some (some (.string ⟨#[]⟩), 1, 16) := by kernel_rfl
theorem byteTy : By.Ty Tryd.prog 36 5 := ⟨Tryd.underlying36, Tryd.underlying5, by kernel_rfl⟩
def tvs (l : List (List UInt8)) : List Value := l.map fun x => .string (bs x)
/-- Texts of the call's own. -/
def TO (w : World) (B : Nat) (u : Value) (l : List (List UInt8)) : Prop := w.ownsRow B 9 1 u l.length (tvs l)
/-- The block b is a splitter. -/
structure SM (B b : Nat) (f : List UInt8) (u v : Value) (sp : Bool) (out : List (List UInt8)) (cur : List UInt8) (has : Bool) (w : World) : Prop where
  row : ∃ cs : Array Value, w.heap[b]? = some (.cells cs 45 (0, 0)) ∧ cs.size = 260 ∧ (∀ i, i < 256 → cs[i]? = some (.bool (f.contains (UInt8.ofNat i)))) ∧ cs[256]? = some u ∧ cs[257]? = some v ∧ cs[258]? = some (.bool has) ∧ cs[259]? = some (.bool sp)
  outs : TO w B u out
  bytes : Row.Is 5 w B v cur
  hb : B ≤ b
section
variable {B b : Nat} {f : List UInt8} {u v : Value} {sp : Bool} {out : List (List UInt8)} {cur : List UInt8} {has : Bool} {w w' : World}
theorem SM.lt (h : SM B b f u v sp out cur has w) : b < w.heap.size := by obtain ⟨cs, h1, _⟩ := h.row; exact (Array.getElem?_eq_some_iff.1 h1).1
theorem SM.fz (h : SM B b f u v sp out cur has w) (i : Nat) : w.frozen? ⟨b, i, none⟩ = false := by obtain ⟨cs, h1, _⟩ := h.row; exact frozen_of_row w b i _ _ h1
theorem SM.c (h : SM B b f u v sp out cur has w) {i : Nat} (hi : i < 256) : w.cell? ⟨b, i, none⟩ = some (.bool (f.contains (UInt8.ofNat i))) := by
  obtain ⟨cs, h1, _, h3, _⟩ := h.row
  rw [cell_of_row w b i _ _ _ h1]; exact h3 i hi
theorem SM.c6 (h : SM B b f u v sp out cur has w) : w.cell? ⟨b, 256, none⟩ = some u := by
  obtain ⟨cs, h1, _, _, h3, _⟩ := h.row
  rw [cell_of_row w b _ _ _ _ h1]; exact h3
theorem SM.c7 (h : SM B b f u v sp out cur has w) : w.cell? ⟨b, 257, none⟩ = some v := by
  obtain ⟨cs, h1, _, _, _, h3, _⟩ := h.row
  rw [cell_of_row w b _ _ _ _ h1]; exact h3
theorem SM.c8 (h : SM B b f u v sp out cur has w) : w.cell? ⟨b, 258, none⟩ = some (.bool has) := by
  obtain ⟨cs, h1, _, _, _, _, h3, _⟩ := h.row
  rw [cell_of_row w b _ _ _ _ h1]; exact h3
theorem SM.c9 (h : SM B b f u v sp out cur has w) : w.cell? ⟨b, 259, none⟩ = some (.bool sp) := by
  obtain ⟨cs, h1, _, _, _, _, _, h3⟩ := h.row
  rw [cell_of_row w b _ _ _ _ h1]; exact h3
theorem TO.below (h : TO w B u out) (hb : Below w.heap.size w w') : TO w' B u out := Pm.own_by h fun g _ hg => hb.block g (Array.getElem?_eq_some_iff.1 hg).1
theorem SM.below (h : SM B b f u v sp out cur has w) (hb : Below w.heap.size w w') : SM B b f u v sp out cur has w' := by
  obtain ⟨cs, h1, r⟩ := h.row
  exact ⟨⟨cs, (hb.block b h.lt).trans h1, r⟩, h.outs.below hb, h.bytes.below hb, h.hb⟩
theorem SM.drew (h : SM B b f u v sp out cur has w) : SM B b f u v sp out cur has w.drew := ⟨h.row, h.outs, h.bytes, h.hb⟩
/-- A cell of it is written. -/
theorem SM.put {u2 v2 : Value} {sp2 : Bool} {has2 : Bool} (h : SM B b f u v sp out cur has w) (i : Nat) (y : Value)
    (hu : u2 = if i = 256 then y else u) (hv : v2 = if i = 257 then y else v) (hh : Value.bool has2 = if i = 258 then y else .bool has) (hs : Value.bool sp2 = if i = 259 then y else .bool sp) (hi : 256 ≤ i)
    {out2 : List (List UInt8)} {cur2 : List UInt8} (ho : TO w B u2 out2) (hc : Row.Is 5 w B v2 cur2) : SM B b f u2 v2 sp2 out2 cur2 has2 (w.setCell ⟨b, i, none⟩ y) := by
  obtain ⟨cs, h1, h2, h3, h4, h5, h6, h7⟩ := h.row
  refine ⟨⟨cs.setIfInBounds i y, heap_setCell_same w b i _ _ _ h1, by simpa using h2, fun j hj => ?_, ?_, ?_, ?_, ?_⟩, ?_, ?_, h.hb⟩
  · rw [Array.getElem?_setIfInBounds, if_neg (by omega)]; exact h3 j hj
  · rw [Array.getElem?_setIfInBounds, hu]
    by_cases e : i = 256
    · subst e; rw [if_pos rfl, if_pos (by omega), if_pos rfl]
    · rw [if_neg e, if_neg e]; exact h4
  · rw [Array.getElem?_setIfInBounds, hv]
    by_cases e : i = 257
    · subst e; rw [if_pos rfl, if_pos (by omega), if_pos rfl]
    · rw [if_neg e, if_neg e]; exact h5
  · rw [Array.getElem?_setIfInBounds, hh]
    by_cases e : i = 258
    · subst e; rw [if_pos rfl, if_pos (by omega), if_pos rfl]
    · rw [if_neg e, if_neg e]; exact h6
  · rw [Array.getElem?_setIfInBounds, hs]
    by_cases e : i = 259
    · subst e; rw [if_pos rfl, if_pos (by omega), if_pos rfl]
    · rw [if_neg e, if_neg e]; exact h7
  · exact Pm.own_by ho fun g cs hg => Below.heap_setCell _ _ _ g (Pm.type_ne hg h1 (by decide))
  · exact Pm.own_by hc fun g cs hg => Below.heap_setCell _ _ _ g (Pm.type_ne hg h1 (by decide))
end
theorem Is.slice {E : TypeId} {w : World} {B : Nat} {v : Value} {l : List UInt8} (h : Row.Is E w B v l) : ∃ A k, v = .slice A l.length k := Pm.own_shape h
theorem TO.slice {w : World} {B : Nat} {v : Value} {l : List (List UInt8)} (h : TO w B v l) : ∃ A k, v = .slice A l.length k := Pm.own_shape h
/-- What a call of the splitter leaves: what lies below B, and copies of segments. -/
structure Far (B : Nat) (w w' : World) : Prop where
  bel : Below B w w'
  seg : ∀ (g : Nat) (cs : Array Value), w.heap[g]? = some (Obj.cells cs 32 (0, 0)) → w'.heap[g]? = some (Obj.cells cs 32 (0, 0))
theorem Far.refl (B : Nat) (w : World) : Far B w w := ⟨Below.refl _ _, fun _ _ h => h⟩
theorem Far.drew {B : Nat} {w w' : World} (h : Far B w w') : Far B w w'.drew := ⟨h.bel.drew, h.seg⟩
theorem Far.trans {B : Nat} {w w2 w3 : World} (h : Far B w w2) (k : Far B w2 w3) : Far B w w3 := ⟨h.bel.trans k.bel, fun g cs hg => k.seg g cs (h.seg g cs hg)⟩
theorem Far.of {B : Nat} {w w' : World} (h : Below w.heap.size w w') (hB : B ≤ w.heap.size) : Far B w w' := ⟨h.mono hB, fun g _ hg => (h.block g (Array.getElem?_eq_some_iff.1 hg).1).trans hg⟩
theorem SM.far {B b : Nat} {f : List UInt8} {u v : Value} {sp has : Bool} {out : List (List UInt8)} {cur : List UInt8} {w : World} (h : SM B b f u v sp out cur has w) (i : Nat) (y : Value) : Far B w (w.setCell ⟨b, i, none⟩ y) :=
  ⟨(Below.refl _ _).setCell (p := ⟨b, i, none⟩) h.hb _, fun g cs hg => (Below.heap_setCell _ _ _ g (by obtain ⟨cs', h1, _⟩ := h.row; exact Pm.type_ne hg h1 (by decide))).trans hg⟩
/-- What changes bytes alone leaves the texts and the splitter. -/
theorem SM.grown {B b : Nat} {f : List UInt8} {u v v2 : Value} {sp has : Bool} {out : List (List UInt8)} {cur cur2 : List UInt8} {w w2 : World} (h : SM B b f u v sp out cur has w) (hg : w.grownBy w2 v.ownBlock) (h2 : Row.Is 5 w2 B v2 cur2) :
    (∃ cs : Array Value, w2.heap[b]? = some (.cells cs 45 (0, 0)) ∧ cs.size = 260 ∧ (∀ i, i < 256 → cs[i]? = some (.bool (f.contains (UInt8.ofNat i)))) ∧ cs[256]? = some u ∧ cs[257]? = some v ∧ cs[258]? = some (.bool has) ∧ cs[259]? = some (.bool sp)) ∧ TO w2 B u out ∧ Far B w (w2.setCell ⟨b, 257, none⟩ v2) ∧ SM B b f u v2 sp out cur2 has (w2.setCell ⟨b, 257, none⟩ v2) := by
  have hne : ∀ g, v.ownBlock = some g → B ≤ g ∧ ∃ cs, w.heap[g]? = some (Obj.cells cs 5 (0, 0)) := fun g hg => Pm.own_row h.bytes hg
  have hrow := h.row
  obtain ⟨cs, h1, r⟩ := hrow
  have hb1 : w2.heap[b]? = w.heap[b]? := hg.block b h.lt (fun e => by obtain ⟨_, cs', hc⟩ := hne b e.symm; exact Pm.type_ne hc h1 (by decide) rfl)
  have ho : TO w2 B u out := Pm.own_by h.outs fun g cs' hg' => hg.block g (Array.getElem?_eq_some_iff.1 hg').1 (fun e => by obtain ⟨_, cs2, hc⟩ := hne g e.symm; exact Pm.type_ne hc hg' (by decide) rfl)
  have hrow2 : ∃ cs : Array Value, w2.heap[b]? = some (.cells cs 45 (0, 0)) ∧ cs.size = 260 ∧ (∀ i, i < 256 → cs[i]? = some (.bool (f.contains (UInt8.ofNat i)))) ∧ cs[256]? = some u ∧ cs[257]? = some v ∧ cs[258]? = some (.bool has) ∧ cs[259]? = some (.bool sp) := ⟨cs, hb1.trans h1, r⟩
  have hbe : Below B w w2 := ⟨hg.os, hg.tape, hg.output, hg.size, fun i hi => hg.block i (by have := h.lt; have := h.hb; omega) (fun e => by have := (hne i e.symm).1; omega)⟩
  refine ⟨hrow2, ho, ⟨hbe.setCell (p := ⟨b, 257, none⟩) h.hb _, fun g cs' hg' => ?_⟩, ?_⟩
  · have e1 : w2.heap[g]? = some (.cells cs' 32 (0, 0)) := (hg.block g (Array.getElem?_eq_some_iff.1 hg').1 (fun e => by obtain ⟨_, cs2, hc⟩ := hne g e.symm; exact Pm.type_ne hc hg' (by decide) rfl)).trans hg'
    exact (Below.heap_setCell _ _ _ g (Pm.type_ne e1 (hb1.trans h1) (by decide))).trans e1
  · obtain ⟨cs, k1, k2, k3, k4, k5, k6, k7⟩ := hrow2
    refine ⟨⟨cs.setIfInBounds 257 v2, heap_setCell_same w2 b 257 _ _ _ k1, by simpa using k2, fun j hj => ?_, ?_, ?_, ?_, ?_⟩, ?_, ?_, h.hb⟩
    · rw [Array.getElem?_setIfInBounds, if_neg (by omega)]; exact k3 j hj
    · rw [Array.getElem?_setIfInBounds, if_neg (by omega)]; exact k4
    · rw [Array.getElem?_setIfInBounds, if_pos rfl, if_pos (by omega)]
    · rw [Array.getElem?_setIfInBounds, if_neg (by omega)]; exact k6
    · rw [Array.getElem?_setIfInBounds, if_neg (by omega)]; exact k7
    · exact Pm.own_by ho fun g cs hg => Below.heap_setCell _ _ _ g (Pm.type_ne hg k1 (by decide))
    · exact Pm.own_by h2 fun g cs hg => Below.heap_setCell _ _ _ g (Pm.type_ne hg k1 (by decide))
set_option maxHeartbeats 1000000 in
set_option maxRecDepth 100000 in
theorem add_any (B b : Nat) (f : List UInt8) (u v : Value) (sp has : Bool) (out : List (List UInt8)) (cur : List UInt8) (s : ByteArray) (w : World) (h : SM B b f u v sp out cur has w) (hl : cur.length ≤ 100000) (hs : s.size ≤ 100000) :
    Calls Tryd.prog 26 #[.pointer (some ⟨b, 0, none⟩), .string s] w fun e w' => e = .returned (.tuple #[]) ∧ ∃ v2, Kept (SM B b f u v2 sp out (cur ++ toL s) true w') ∧ Kept (Far B w w') := by
  have H := Kept.mk h
  have c7 := h.c7
  have HBw : Kept (B ≤ w.heap.size) := ⟨by have := h.lt; have := h.hb; omega⟩
  have HLs : Kept (cur.length + s.size ≤ 140737488355328) := ⟨by omega⟩
  obtain ⟨A0, k0, rfl⟩ := Is.slice h.bytes
  clear h hl hs
  go_enter Tryd.func26, Tryd.ntmps26
  go_wp2_with (at_builtin; refine Row.wpList_append_str byteTy rfl _ _ 9 rfl Tryd.underlying9 rfl H.out.bytes HBw.out s rfl HLs.out ?_; intro v2 w2 ho2 hg2; obtain ⟨A2, k2, rfl⟩ := Is.slice ho2; have HG := Kept.mk (H.out.grown hg2 ho2); obtain ⟨cs9, hr9, _, _, _, k7, k8, _⟩ := HG.out.1; have d7 := (cell_of_row _ _ 257 _ _ _ hr9).trans k7; have d8 := (cell_of_row _ _ 258 _ _ _ hr9).trans k8; have f7 := frozen_of_row _ _ 257 _ _ hr9; have f8 := frozen_of_row _ _ 258 _ _ hr9; have HF := Kept.mk (HG.out.2.2.2.put (u2 := u) (v2 := .slice A2 (cur ++ s.data.toList).length k2) (sp2 := sp) (has2 := true) 258 (.bool true) rfl rfl rfl rfl (by omega) HG.out.2.2.2.outs HG.out.2.2.2.bytes); clear ho2 hg2 hr9 k7 k8 c7)
  go_end0
  have HF2 := And.intro HF.out (HG.out.2.2.1.trans (HG.out.2.2.2.far 258 (.bool true)))
  rw [List.length_append, show s.data.toList.length = s.size by simp] at HF2
  exact ⟨rfl, _, ⟨HF2.1⟩, ⟨HF2.2⟩⟩
end Fd
end Go.Proofs.YtjnhhkiabdbenaaDoor
