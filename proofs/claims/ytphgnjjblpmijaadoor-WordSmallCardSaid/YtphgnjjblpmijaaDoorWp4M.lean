/-
  The program's reader: a text is added.
-/
import Derived.Test.YtphgnjjblpmijaaDoorWp3mM
import Derived.Test.YtphgnjjblpmijaaDoorWp2M
namespace Go.Proofs.YtphgnjjblpmijaaDoor
open Go.RowKit Tx
namespace By
open Go.Lib
section
variable {P : Program} {w w' : World} {B : Nat} {v : Value} {l : List UInt8} {T E : TypeId} (k : Ty P T E)
include k
/-- append(v, s...), s a string: the new slice lies in the old one's block, or in a new one. -/
theorem run_append_str2 (u ty : TypeId) (hu : P.underlying u = some .string) (h : Bs w B v l) (hB : B ≤ w.heap.size) (s : ByteArray) (hlen : l.length + s.size ≤ 140737488355328) :
    ∃ v' w', (Builtin.append_ #[T, u] ty #[v, .string s]).run P w = .ok v' w' ∧ Bs w' B v' (l ++ s.data.toList) ∧ w.grownBy w' v.ownBlock ∧ (v'.ownBlock = v.ownBlock ∨ ∀ g, v'.ownBlock = some g → w.heap.size ≤ g) := by
  obtain ⟨i, hi, hz, hs, hby⟩ := info_parts k.info
  have hmx : l.length + s.size ≤ maxLen := by unfold maxLen; omega
  have hsl : s.data.toList.length = s.size := by simp
  have hcs : strCells s = cells s.data.toList := rfl
  rcases h with ⟨rfl, rfl⟩ | ⟨g, cap, rfl, h1, h2, h3, h4, h5, h6⟩
  · obtain ⟨v', w', hr, ho, hg, _⟩ := run_append_own_string (P := P) w w.heap.size T u ty E i k.und hu hi hz hs hby _ 0 [] (World.ownsRow_nil w w.heap.size E 1) s (by simpa using hmx) (by simpa using hlen) (Nat.le_refl _)
    rw [hcs] at ho
    have hb : Bs w' w.heap.size v' s.data.toList := Bs.of_own (n := 0 + s.size) (by simpa using ho)
    exact ⟨v', w', hr, hb.more hB, hg, .inr fun g hg => (hb.lt g hg).1⟩
  · have hf := run_firstCells_string (P := P) w 1 s
    by_cases hroom : l.length + s.size ≤ cap
    · have hst := run_storeCells_cells (P := P) g l.length (strCells s) 0 w (fun j hj => by rw [strCells_length] at hj; exact (h5 _ (by omega)).1) (fun j hj => by rw [strCells_length] at hj; exact (h5 _ (by omega)).2) (strCells_oneCell s)
      simp only [Nat.add_zero] at hst
      have hh : Bs w B (.slice (some ⟨g, 0, none⟩) l.length cap) l := .inr ⟨g, cap, rfl, h1, h2, h3, h4, h5, h6⟩
      have := hh.room (news := s.data.toList) (by omega)
      rw [List.length_append, hsl, ← hcs] at this
      refine ⟨_, _, ?_, this, grown_setCells g _ _ _, .inl rfl⟩
      simp [Builtin.append_, run_underlying k.und, run_underlying hu, sizeOf, typeInfo, hi, hs, Builtin.lenOf, hroom, hf, add_at, hst]
    · have hr := run_append_grow_string (P := P) w T u ty E i (.int .u8 0) k.und hu hi hz ⟨g, 0, none⟩ l.length cap (cells l) (by rw [length_cells, hs]; omega) (fun j u hj => by rw [add_at]; exact h6 j u hj) s (by omega) (by unfold maxLen at hmx; omega)
        (by rw [hby]; exact growslice_fits (bytes := 1) (by omega) (by omega))
      have hge := grownCap_ge w (l.length + s.size) cap E
      have hcm := grownCap_le_maxLen w (l.length + s.size) cap E hmx
      refine ⟨_, _, hr, ?_, ⟨rfl, rfl, rfl, by simp, fun j hj _ => Below.heap_alloc w.drew _ j hj⟩, .inr fun g hg => by injection hg with hg; have : w.heap.size = g := hg; omega⟩
      refine Bs.more (B := w.heap.size) (Bs.of_own (e := E) (n := l.length + s.size) ⟨?_, .inr ⟨w.heap.size, _, _, rfl, Nat.le_refl _, heap_alloc_new w.drew _, hge, hcm, ?_, ?_⟩⟩) hB
      · rw [length_cells, List.length_append, hsl]; omega
      · simp only [Array.size_append, List.size_toArray, size_zeroCells, length_cells, strCells_length]
        rw [show (Value.int IntKind.u8 0).cells.size = 1 from rfl]
        omega
      · simp only [Array.toList_append, List.append_assoc, Nat.mul_one]
        rw [hcs, ← List.append_assoc, show cells l ++ cells s.data.toList = cells (l ++ s.data.toList) by unfold cells; rw [List.map_append]]
        exact List.take_left' (by rw [length_cells, List.length_append, hsl])

theorem wpList_append_str2 {ops : Array Oper} {rest : List Oper} {o : Oper} {a : Act} {Q : Exit → Act → World → Prop} (hgd : o.guard = none) (s x : Operand) (u : TypeId) (ho : o.op = .call { callee := .builtin .append, args := #[s, x], argTypes := #[T, u] }) (hu : P.underlying u = some .string)
    (hs : a.eval s = v) (hb : Bs w B v l) (hB : B ≤ w.heap.size) (t : ByteArray) (hx : a.eval x = .string t) (hlen : l.length + t.size ≤ 140737488355328)
    (h : ∀ v' w', Bs w' B v' (l ++ t.data.toList) → w.grownBy w' v.ownBlock → (v'.ownBlock = v.ownBlock ∨ ∀ g, v'.ownBlock = some g → w.heap.size ≤ g) → wpList P ops Q rest (a.put o.dst v') w') : wpList P ops Q (o :: rest) a w := by
  obtain ⟨v', w', hr, h1, h2, h3⟩ := run_append_str2 k u o.type hu hb hB t hlen
  refine wpList_plain hgd fun K hK => ?_
  unfold Oper.wp execOp
  simp only [ho, resolve, invoke, builtin, Sem.run_bind, Sem.run_pure, Result.andThen_ok, List.map_toArray, List.map_cons, List.map_nil, hs, hx, hr]
  exact hK _ _ (h v' w' h1 h2 h3)
end
end By
namespace Wx
section
variable {w w' w2 : World} {b : Nat} {dep : Int} {ps : List Pt} {it q : Bool} {t t2 : List UInt8} {pv tv tv2 : Value}
/-- A text is marked as one that may go on. -/
theorem RdM.mark (h : RdM w b dep ps it t q pv tv) (it' q' : Bool) :
    RdM ((w.setCell ⟨b, 2, none⟩ (.bool it')).setCell ⟨b, 4, none⟩ (.bool q')) b dep ps it' t q' pv tv ∧ Fr b pv tv pv tv w ((w.setCell ⟨b, 2, none⟩ (.bool it')).setCell ⟨b, 4, none⟩ (.bool q')) := by
  have hk : ∀ g, g ≠ b → ((w.setCell ⟨b, 2, none⟩ (.bool it')).setCell ⟨b, 4, none⟩ (.bool q')).heap[g]? = w.heap[g]? := fun g hg => (Below.heap_setCell _ _ _ g hg).trans (Below.heap_setCell w _ _ g hg)
  have hs : w.heap.size ≤ ((w.setCell ⟨b, 2, none⟩ (.bool it')).setCell ⟨b, 4, none⟩ (.bool q')).heap.size := by simp [World.setCell]
  have hbl : Below b w ((w.setCell ⟨b, 2, none⟩ (.bool it')).setCell ⟨b, 4, none⟩ (.bool q')) := (Below.refl b w).setCell (Nat.le_refl _) _ |>.setCell (Nat.le_refl _) _
  have hot : ∀ g, Ot b pv tv g → ((w.setCell ⟨b, 2, none⟩ (.bool it')).setCell ⟨b, 4, none⟩ (.bool q')).heap[g]? = w.heap[g]? := fun g hg => hk g (by have := hg.1; omega)
  refine ⟨⟨?_, ?_, ?_, h.sep⟩, hbl, fun g hg _ => ⟨hg, hot g hg⟩⟩
  · have h1 := heap_setCell_same w b 2 _ _ (.bool it') h.row
    have h2 := heap_setCell_same _ b 4 _ _ (.bool q') h1
    simp at h2
    exact h2
  · obtain ⟨xs, ho, hx⟩ := h.parts
    exact ⟨xs, own_keep ho fun g hg => hk g (by have := (own_lt ho g hg).1; omega), hx.same (fun g hg hl => ⟨hg, hot g hg⟩) hs⟩
  · exact h.text.keep (fun g hg => hk g (by have := (h.text.lt g hg).1; omega)) hs
/-- The text has grown. -/
theorem RdM.grew (h : RdM w b dep ps it t q pv tv) (hb : By.Bs w2 (b + 1) tv2 t2) (hg : w.grownBy w2 tv.ownBlock) (hv : tv2.ownBlock = tv.ownBlock ∨ ∀ g, tv2.ownBlock = some g → w.heap.size ≤ g) :
    RdM (w2.setCell ⟨b, 3, none⟩ tv2) b dep ps it t2 q pv tv2 ∧ Fr b pv tv pv tv2 w (w2.setCell ⟨b, 3, none⟩ tv2) ∧ w2.heap[b]? = w.heap[b]? := by
  have hlt := h.lt
  have hk : ∀ g, g < w.heap.size → g ≠ b → tv.ownBlock ≠ some g → (w2.setCell ⟨b, 3, none⟩ tv2).heap[g]? = w.heap[g]? := fun g hl h1 h2 => (Below.heap_setCell _ _ _ g h1).trans (hg.block g hl fun e => h2 e.symm)
  have hs : w.heap.size ≤ (w2.setCell ⟨b, 3, none⟩ tv2).heap.size := by have := hg.size; simpa [World.setCell] using this
  have hbb : w2.heap[b]? = w.heap[b]? := hg.block b hlt fun e => by have := (h.text.lt b e.symm).1; omega
  have hot : ∀ g, Ot b pv tv g → g < w.heap.size → Ot b pv tv2 g ∧ (w2.setCell ⟨b, 3, none⟩ tv2).heap[g]? = w.heap[g]? := fun g ⟨h1, h2, h3⟩ hl => by
    refine ⟨⟨h1, h2, fun e => ?_⟩, hk g hl (by omega) h3⟩
    rcases hv with hv | hv
    · exact h3 (hv ▸ e)
    · have := hv g e; omega
  have hbl : Below b w (w2.setCell ⟨b, 3, none⟩ tv2) := by
    refine ⟨hg.os, hg.tape, hg.output, hs, fun i hi => hk i (by omega) (by omega) fun e => ?_⟩
    have := (h.text.lt i e).1
    omega
  refine ⟨⟨?_, ?_, ?_, fun g hg2 e => ?_⟩, ⟨hbl, hot⟩, hbb⟩
  · have h1 := heap_setCell_same w2 b 3 _ _ tv2 (hbb.trans h.row)
    simp at h1
    exact h1
  · obtain ⟨xs, ho, hx⟩ := h.parts
    exact ⟨xs, own_keep ho fun g hg2 => hk g (own_lt ho g hg2).2 (by have := (own_lt ho g hg2).1; omega) (h.sep g hg2), hx.same hot hs⟩
  · exact hb.keep (fun g hg2 => Below.heap_setCell _ _ _ g (by have := (hb.lt g hg2).1; show g ≠ b; omega)) (by simp [World.setCell])
  · rcases hv with hv | hv
    · exact h.sep g hg2 (hv ▸ e)
    · obtain ⟨xs, ho, _⟩ := h.parts
      have h1 := (own_lt ho g hg2).2
      have := hv g e
      omega
end
end Wx
end Go.Proofs.YtphgnjjblpmijaaDoor
