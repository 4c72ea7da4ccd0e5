/-
  The program's splitter: the current field ends.
-/
import Derived.Test.YtjnhhkiabdbenaaDoorFp2
import Derived.Laws.Slices
import Derived.Laws.Strings3
namespace Go.Proofs.YtjnhhkiabdbenaaDoor
open Go.RowKit Tx
namespace Fd

theorem tvs_snoc (l : List (List UInt8)) (x : List UInt8) : tvs (l ++ [x]) = tvs l ++ [.string (bs x)] := by simp [tvs]
theorem Is.zero {E : TypeId} {w : World} {B : Nat} {A : Option Addr} {n k : Nat} {l : List UInt8} (h : Row.Is E w B (.slice A n k) l) : Row.Is E w B (.slice A 0 k) [] := by
  refine ⟨rfl, ?_⟩
  rcases h.2 with ⟨h0, _⟩ | ⟨g, cap, cur, h0, hB, hg, hnc, hcm, hcs, _⟩
  · injection h0 with e1 e2 e3
    subst e1 e3
    exact .inl ⟨rfl, rfl⟩
  · injection h0 with e1 e2 e3
    subst e1 e3
    exact .inr ⟨g, k, cur, rfl, hB, hg, Nat.zero_le _, hcm, hcs, rfl⟩
theorem Is.text {w : World} {B : Nat} {v : Value} {l : List UInt8} (h : Row.Is 5 w B v l) : (convert 36 9 v).run Tryd.prog w = .ok (.string (bs l)) w := By.run_string byteTy 9 Tryd.underlying9 h.bs
/-- One text is added in a region that draws its order. -/
theorem step_append_text {ops : Array Oper} {o : Oper} {a : Act} {K : Act → World → Prop} {Q : Exit → Act → World → Prop} {E : Prop} {W : World} {B : Nat} {v : Value} {l : List (List UInt8)} {x : List UInt8} (N : Nat) (hN : N = W.heap.size)
    (hgd : o.guard = none) (s y : Operand) (ho : o.op = .call { callee := .builtin .append, args := #[s, y], argTypes := #[25, 25] }) (hs : a.eval s = v) (hx : a.eval y = .slice (some ⟨N, 0, none⟩) 1 1)
    (hk : TO W B v l) (hl : l.length ≤ 100000) (hw : B ≤ W.heap.size)
    (h : ∀ A2 k2 w' l2, l2 = l.length + 1 → TO w' B (.slice A2 l2 k2) (l ++ [x]) → W.grownBy w' v.ownBlock → K (a.put o.dst (.slice A2 l2 k2)) w') :
    if Region.wanted o (yielded ops a.tmps) = true then Oper.wp Tryd.prog o a (W.alloc (.cells #[.string (bs x)] 9)) K Q else E := by
  subst hN
  have hwt : Region.wanted o (yielded ops a.tmps) = true := by simp [Region.wanted, hgd]
  rw [if_pos hwt]
  obtain ⟨i0, hi, hz0, hz1, hz2⟩ := info_parts textInfo
  have hown2 : (W.alloc (.cells #[.string (bs x)] 9)).ownsRow B 9 1 v l.length (tvs l) := Pm.own_by hk (fun g cs hg => Below.heap_alloc W _ g (Array.getElem?_eq_some_iff.1 hg).1)
  refine wp_append_lies (W.alloc (.cells #[.string (bs x)] 9)) s y 25 ho B 9 i0 _ 1 16 Tryd.underlying25 hi hz0 hz1 hz2 rfl (by decide) v l.length (tvs l) hs hown2 ⟨W.heap.size, 0, none⟩ 1 1 [.string (bs x)] hx rfl (fun j u hu => ?_) (by intro u hu; rw [List.mem_singleton] at hu; rw [hu]; rfl) (by omega) (by unfold maxLen; omega) (by omega) (by simp; omega) (W.heap.size + 1) (by simp) ?_
  · rw [By.add_at, cell_of_row _ _ j _ _ (0, 0) (heap_alloc_new W _)]
    simpa using hu
  intro gg cap w2 ho2 hg2 _ _
  refine h (some ⟨gg, 0, none⟩) cap w2 _ rfl ?_ ((World.grownBy_alloc W _ _).trans hg2)
  unfold TO
  rw [tvs_snoc, List.length_append]
  exact ho2
/-- What changes the texts alone leaves the bytes and the splitter. -/
theorem SM.outed {B b : Nat} {f : List UInt8} {u u2 v : Value} {sp has : Bool} {out out2 : List (List UInt8)} {cur : List UInt8} {w w2 : World} (h : SM B b f u v sp out cur has w) (hg : w.grownBy w2 u.ownBlock) (h2 : TO w2 B u2 out2) :
    (∃ cs : Array Value, w2.heap[b]? = some (.cells cs 45 (0, 0)) ∧ cs[256]? = some u ∧ cs[257]? = some v ∧ cs[258]? = some (.bool has)) ∧ Far B w (w2.setCell ⟨b, 256, none⟩ u2) ∧ SM B b f u2 v sp out2 cur has (w2.setCell ⟨b, 256, none⟩ u2) := by
  have hne : ∀ g, u.ownBlock = some g → B ≤ g ∧ ∃ cs, w.heap[g]? = some (Obj.cells cs 9 (0, 0)) := fun g hg => Pm.own_row h.outs hg
  obtain ⟨cs, h1, r⟩ := h.row
  have hb1 : w2.heap[b]? = w.heap[b]? := hg.block b h.lt (fun e => by obtain ⟨_, cs', hc⟩ := hne b e.symm; exact Pm.type_ne hc h1 (by decide) rfl)
  have ho : Row.Is 5 w2 B v cur := Pm.own_by h.bytes fun g cs' hg' => hg.block g (Array.getElem?_eq_some_iff.1 hg').1 (fun e => by obtain ⟨_, cs2, hc⟩ := hne g e.symm; exact Pm.type_ne hc hg' (by decide) rfl)
  obtain ⟨k2, k3, k4, k5, k6, k7⟩ := r
  have k1 := hb1.trans h1
  have hbe : Below B w w2 := ⟨hg.os, hg.tape, hg.output, hg.size, fun i hi => hg.block i (by have := h.lt; have := h.hb; omega) (fun e => by have := (hne i e.symm).1; omega)⟩
  refine ⟨⟨cs, k1, k4, k5, k6⟩, ⟨hbe.setCell (p := ⟨b, 256, none⟩) h.hb _, fun g cs' hg' => ?_⟩, ?_⟩
  · have e1 : w2.heap[g]? = some (.cells cs' 32 (0, 0)) := (hg.block g (Array.getElem?_eq_some_iff.1 hg').1 (fun e => by obtain ⟨_, cs2, hc⟩ := hne g e.symm; exact Pm.type_ne hc hg' (by decide) rfl)).trans hg'
    exact (Below.heap_setCell _ _ _ g (Pm.type_ne e1 k1 (by decide))).trans e1
  · refine ⟨⟨cs.setIfInBounds 256 u2, heap_setCell_same w2 b 256 _ _ _ k1, by simpa using k2, fun j hj => ?_, ?_, ?_, ?_, ?_⟩, ?_, ?_, h.hb⟩
    · rw [Array.getElem?_setIfInBounds, if_neg (by omega)]; exact k3 j hj
    · rw [Array.getElem?_setIfInBounds, if_pos rfl, if_pos (by omega)]
    · rw [Array.getElem?_setIfInBounds, if_neg (by omega)]; exact k5
    · rw [Array.getElem?_setIfInBounds, if_neg (by omega)]; exact k6
    · rw [Array.getElem?_setIfInBounds, if_neg (by omega)]; exact k7
    · exact Pm.own_by h2 fun g cs hg => Below.heap_setCell _ _ _ g (Pm.type_ne hg k1 (by decide))
    · exact Pm.own_by ho fun g cs hg => Below.heap_setCell _ _ _ g (Pm.type_ne hg k1 (by decide))
/-- The end of the call: no bytes, not begun. -/
theorem SM.clear {B b : Nat} {f : List UInt8} {u : Value} {A : Option Addr} {n k : Nat} {sp has : Bool} {out : List (List UInt8)} {cur : List UInt8} {w : World} (h : SM B b f u (.slice A n k) sp out cur has w) :
    SM B b f u (.slice A 0 k) sp out [] false ((w.setCell ⟨b, 257, none⟩ (.slice A 0 k)).setCell ⟨b, 258, none⟩ (.bool false)) ∧ Far B w ((w.setCell ⟨b, 257, none⟩ (.slice A 0 k)).setCell ⟨b, 258, none⟩ (.bool false)) := by
  have h1 : SM B b f u (.slice A 0 k) sp out [] has (w.setCell ⟨b, 257, none⟩ (.slice A 0 k)) := h.put 257 _ rfl rfl rfl rfl (by omega) h.outs (Is.zero h.bytes)
  exact ⟨h1.put 258 _ rfl rfl rfl rfl (by omega) h1.outs h1.bytes, (h.far 257 _).trans (h1.far 258 _)⟩
theorem zero_run {w : World} {B : Nat} {A : Option Addr} {n k : Nat} {l : List UInt8} (h : Row.Is 5 w B (.slice A n k) l) (W : World) : (Instr.slice 36 (.slice A n k) none (some (.int .i64 0)) none).run Tryd.prog W = .ok (.slice A 0 k) W := by
  have hA : A = none ∨ ∃ g, A = some ⟨g, 0, none⟩ := by
    rcases h.2 with ⟨h0, _⟩ | ⟨g, cap, cur, h0, _⟩
    · injection h0 with e1; exact .inl e1
    · injection h0 with e1; exact .inr ⟨g, e1⟩
  have hs : (sizeOf (Tryd.prog.elem 36)).run Tryd.prog W = .ok 1 W := by kernel_rfl
  rw [run_slice_h W 36 A n k (by kernel_rfl) .i64 0 (by omega) (by omega), hs]
  rcases hA with rfl | ⟨g, rfl⟩
  · simp [Result.andThen, sliced]
  · simp [Result.andThen, sliced, By.add_at]
set_option maxHeartbeats 1000000 in
set_option maxRecDepth 100000 in
theorem end_no (B b : Nat) (f : List UInt8) (u v : Value) (sp : Bool) (out : List (List UInt8)) (cur : List UInt8) (w : World) (h : SM B b f u v sp out cur false w) :
    Calls Tryd.prog 17 #[.pointer (some ⟨b, 0, none⟩)] w fun e w' => e = .returned (.tuple #[]) ∧ ∃ v2, Kept (SM B b f u v2 sp out [] false w') ∧ Kept (Far B w w') := by
  obtain ⟨A0, k0, rfl⟩ := Is.slice h.bytes
  have HC := Kept.mk h.clear
  have c7 := h.c7
  have c8 := h.c8
  have f7 := h.fz 257
  have f8 := h.fz 258
  have hsl := zero_run h.bytes
  clear h
  go_enter Tryd.func17, Tryd.ntmps17
  go_wp2_with fail
  go_end0
  exact ⟨rfl, _, ⟨HC.out.1⟩, ⟨HC.out.2⟩⟩
set_option maxHeartbeats 2000000 in
set_option maxRecDepth 100000 in
theorem end_yes (B b : Nat) (f : List UInt8) (u v : Value) (sp : Bool) (out : List (List UInt8)) (cur : List UInt8) (w : World) (h : SM B b f u v sp out cur true w) (hl : out.length ≤ 100000) :
    Calls Tryd.prog 17 #[.pointer (some ⟨b, 0, none⟩)] w fun e w' => e = .returned (.tuple #[]) ∧ ∃ u2 v2, Kept (SM B b f u2 v2 sp (out ++ [cur]) [] false w') ∧ Kept (Far B w w') := by
  obtain ⟨A0, k0, rfl⟩ := Is.slice h.bytes
  obtain ⟨A1, k1, rfl⟩ := TO.slice h.outs
  have H := Kept.mk h.drew
  have hsl := zero_run h.bytes
  have hb1 : Below w.heap.size w (w.alloc (.cells #[.string (bs cur)] 9)) := (Below.refl _ _).alloc (Nat.le_refl _) _
  have hb2 : Below w.heap.size w (w.drew.alloc (.cells #[.string (bs cur)] 9)) := (Below.refl _ _).drew.alloc (Nat.le_refl _) _
  have t0 := Is.text h.bytes
  have t1 := Is.text h.drew.bytes
  have t2 := Is.text (h.below hb1).bytes
  have t3 := Is.text (h.below hb2).bytes
  have c6 := h.c6
  have c7 := h.c7
  have c8 := h.c8
  have c6a := h.drew.c6
  have c7a := h.drew.c7
  have c6b := (h.below hb1).c6
  have c7b := (h.below hb1).c7
  have c6c := (h.below hb2).c6
  have c7c := (h.below hb2).c7
  have HBw : Kept (B ≤ w.drew.heap.size) := ⟨by have := h.lt; have := h.hb; show B ≤ w.heap.size; omega⟩
  have HL := Kept.mk hl
  clear h hl hb1 hb2
  go_enter Tryd.func17, Tryd.ntmps17
  go_wp2_with fail
  go_region_law ((refine step_append_text (v := .slice A1 out.length k1) (W := w.drew) w.drew.heap.size rfl rfl _ _ rfl rfl rfl H.out.outs HL.out HBw.out ?_; intro A2 k2 w4 l2 hl2 ho hg; (have HO := Kept.mk (H.out.outed hg ho); obtain ⟨cs9, hr9, k6, k7, k8⟩ := HO.out.1; have d6 := (cell_of_row _ _ 256 _ _ _ hr9).trans k6; have f6 := frozen_of_row _ _ 256 _ _ hr9; have HC := Kept.mk HO.out.2.2.clear; have HL2 := Kept.mk hl2; have e7 := HO.out.2.2.c7; have e8 := HO.out.2.2.c8; have g7 := HO.out.2.2.fz 257; have g8 := HO.out.2.2.fz 258; clear hl2 ho hg hr9 k6 k7 k8)))
  all_goals
    go_wp2_with fail
    go_end0
    exact ⟨rfl, _, _, ⟨HC.out.1⟩, ⟨((Far.refl B w).drew.trans HO.out.2.1).trans HC.out.2⟩⟩
end Fd
end Go.Proofs.YtjnhhkiabdbenaaDoor
