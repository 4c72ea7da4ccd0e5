/-
  What was read: gathered in a slice.
-/
import Derived.Test.YtjmblgahoejoiaaGreatDoorLkeys
namespace Go.Proofs.YtjmblgahoejoiaaGreatDoor
open Go.RowKit Go.Maps Go.Sort Go.Shelf Tx
attribute [local go_sem] Oper.semAt_some
namespace St

def rv (x : Rd) : List Value := [.string x.path, .bool x.names]
def rvs (l : List Rd) : List Value := l.flatMap rv
theorem rvs_snoc (l : List Rd) (x : Rd) : rvs (l ++ [x]) = rvs l ++ rv x := by simp [rvs]
theorem rv_new (w : World) (x : Rd) (ty : TypeId) : ∀ j u, (rv x)[j]? = some u → (w.alloc (.cells (rv x).toArray ty)).cell? ((⟨w.heap.size, 0, none⟩ : Addr).add j) = some u := by
  intro j u hu
  rw [Addr.add_lit, Nat.zero_add, cell_of_row _ _ j _ _ (0, 0) (heap_alloc_new w _)]
  simpa using hu
theorem rv_one (x : Rd) : ∀ u ∈ rv x, u.oneCell' = true := by
  intro u hp
  simp only [rv, List.mem_cons, List.not_mem_nil, or_false] at hp
  rcases hp with rfl | rfl <;> rfl
theorem readInfo : (Tryz.prog.info? 72).map (fun i => (i.zero, i.size, i.bytes)) = some (some (.agg #[.string ⟨#[]⟩, .bool false]), 2, 24) := by kernel_rfl

def ColI (w : World) (pre : List Rd) (W : World) : Prop :=
  (∃ v, Boxed W w.heap.size 74 v ∧ W.ownsRow (w.heap.size + 1) 72 2 v pre.length (rvs pre) ∧ True) ∧ Below w.heap.size w W ∧ w.heap.size + 1 ≤ W.heap.size

set_option maxHeartbeats 2000000 in
set_option maxRecDepth 100000 in
theorem appendSeq_any (Bm b n : Nat) (D0 : DataW Unit) (w : World) (hBm : Bm < w.heap.size) (hm : w.cell? ⟨Bm, 0, none⟩ = some (.map (some b))) (hown : w.ownsMap Tryz.prog 72 unR b n D0) (hsz : Maps.size D0 ≤ 1000000) :
    Calls Tryz.prog 78 #[.slice none 0 0, .func (.func 59) #[] #[.pointer (some ⟨Bm, 0, none⟩)]] w fun e w' =>
      ∃ v xs, e = .returned v ∧ AllRd D0 xs ∧ xs.length ≤ Maps.size D0 ∧ Kept (w'.ownsRow (w.heap.size + 1) 72 2 v xs.length (rvs xs)) ∧ Below w.heap.size w w' := by
  obtain ⟨i0, hi, hz0, hz1, hz2⟩ := info_parts readInfo
  refine (callsIn_wide (n := 6)).1 ?_
  refine callsIn_of_wp_marks Tryz.func78 rfl trivial ?_ rfl
  simp only [Tryz.ntmps78, List.size_toArray, List.length_cons, List.length_nil, Nat.reduceAdd, Nat.reduceSub, Array.replicate_succ, Array.replicate_zero, List.push_toArray, List.append_toArray, List.nil_append, List.cons_append]
  gi_wp2
  have bO := Boxed.new w 74 (.slice none 0 0)
  have hB0 : Below w.heap.size w (w.alloc (.cells #[.slice none 0 0] 74)) := (Below.refl _ w).alloc (Nat.le_refl _) _
  have hm2 : (w.alloc (.cells #[.slice none 0 0] 74)).cell? ⟨Bm, 0, none⟩ = some (.map (some b)) := (hB0.cell (p := ⟨Bm, 0, none⟩) hBm).trans hm
  refine wpIn_rangeFunc_ownH rfl (by omega) (gf := 59) (lb := #[.pointer (some ⟨Bm, 0, none⟩)]) rfl trivial (enters_of Tryz.func59 (by kernel_rfl) rfl)
    (rdKeys_stops (6 - 1) Bm b n D0 (w.alloc (.cells #[.slice none 0 0] 74)) (by omega) (by simp; omega) hm2 (hown.alloc _)) (fun h k => h.trans k) (fun W l o o' hl h hc hw => KeepsWalks.putObj o' h hw) (Below.refl _ _) (fun _ => rfl)
    (ColI w) (fun _ _ _ => False)
    (OwnFrom.and (Own.from (holdsRow_own (w.heap.size + 1) w.heap.size 74 72 2 (fun pre : List Rd => pre.length) (fun pre => rvs pre) (fun _ _ => True)) _) (OwnFrom.and (ownFrom_below (Nat.le_refl _) (by simp)) (fun _ X Y row hs hg _ => Nat.le_trans hs hg.size)))
    (fun _ _ _ _ _ hs _ _ => hs)
    ⟨⟨_, bO, World.ownsRow_nil _ _ _ _, trivial⟩, hB0, by simp⟩
    (fun x a' W => ∃ q, w.heap.size + 1 ≤ q ∧ W.heap[q]? = some (.cells #[.string x.path, .bool x.names] 72 (0, 0)) ∧ a' = { tmps := #[.slice none 0 0, .func (.func 59) #[] #[.pointer (some ⟨Bm, 0, none⟩)], .pointer (some ⟨w.heap.size, 0, none⟩), undef, .slice none 0 0, .pointer (some ⟨q, 0, none⟩), .func (.func 59) #[] #[.pointer (some ⟨Bm, 0, none⟩)], .agg #[.string x.path, .bool x.names], undef, undef, undef, undef, undef], defers := [] }) ?ax ?assign ?body ?done ?stop
  case ax =>
    rintro x a' u X Y row ⟨q, hq, hb, rfl⟩ hg hrow
    refine ⟨q, hq, (hg.block q (Array.getElem?_eq_some_iff.1 hb).1 (fun e => ?_)).trans hb, rfl⟩
    obtain ⟨_, o, ho, hc⟩ := hrow q e.symm
    rw [hb] at ho
    cases ho
    cases hc
  case assign =>
    rintro l pre x W K ⟨⟨v, hv, hrow, -⟩, hB, hsz⟩ hK
    unfold encRd
    gi_wp2
    exact hK _ _ (KeepsFrom.of_grownBy (World.grownBy_alloc _ _ none) (fun j e => by cases e)) (KeepsWalks.alloc _ _) ⟨⟨v, hv.alloc _, hrow.alloc _, trivial⟩, hB.alloc hB.size _, by simp; omega⟩ ⟨W.heap.size, hsz, heap_alloc_new W _, rfl⟩
  case body =>
    rintro l pre x a' W - - ⟨⟨v, hv, hrow, -⟩, hB, hsz⟩ ⟨q, hq, hb, rfl⟩ hlt
    have hc := hv.cell
    have q0 := cell_of_row W q 0 _ _ _ hb
    have q1 := cell_of_row W q 1 _ _ _ hb
    simp at q0 q1
    gi_wp2_with (gi_at_builtin; refine wpListIn_append_own _ rfl _ _ 74 rfl (w.heap.size + 1) 72 i0 _ 2 24 Tryz.underlying74 hi hz0 hz1 hz2 rfl (by decide) _ _ _ rfl (hrow.alloc _) ⟨W.heap.size, 0, none⟩ 1 1 (rv x) rfl rfl (rv_new W x _) (rv_one _) (by unfold maxLen; omega) (by omega) (by simp; omega) ?_; intro v' w1 hown' hgrow _; obtain ⟨g', cap', rfl⟩ := ownsRow_succ hown'; obtain ⟨hv1, hv2, hr2, hk2, hb2⟩ := hv.appended (by decide) (own_more hrow (Nat.le_add_right _ 1)) hB.size (Nat.le_refl _) (own_more hown' (Nat.le_add_right _ 1)) hgrow; have hr3 := hown'.kept (grownBy_setCell' w1 w.heap.size (.slice (some ⟨g', 0, none⟩) (pre.length + 1) cap')) (.inr (row_ne_low hown' (by omega)).symm); have hc1 := hv1.cell; have hf1 := hv1.frozen)
    refine ⟨hk2.from _, walks_of_others hk2, ⟨⟨_, hv2, by simpa [rvs_snoc] using hr3, trivial⟩, hB.trans hb2, by simp; have := hgrow.size; simp at this; omega⟩⟩
  case done =>
    rintro D ys W hD ⟨hS, hlen⟩ ⟨⟨v, hv, hrow, -⟩, hB, hsz⟩ hK
    have hc := hv.cell
    gi_wp2
    refine ⟨by simp, .inl ⟨_, _, rfl, run_takeDeferred hK, ?_⟩⟩
    refine ⟨_, results_tmp rfl _ _ _, v, ys, rfl, hS, hlen, ⟨?_⟩, hB.trans (belowK_b (w := w) (Nat.le_refl _) W D _ _ (Nat.le_trans (by simp) hD) hK rfl rfl)⟩
    exact ownsRow_putObj hrow (.deferred none) hK rfl
  case stop => intro D c pre W _ _ h; cases h
end St
end Go.Proofs.YtjmblgahoejoiaaGreatDoor
