/-
  The program's store: the names below a place, gathered and sorted; all places.
-/
import Derived.Test.YtjmblgahoejoiaaGreatDoorPchild
import Derived.Test.YtjmblgahoejoiaaGreatDoorPput
import Derived.Test.YtjmblgahoejoiaaGreatDoorIter
import Derived.RangeFuncBox
import Derived.Sort.OwnSorted
namespace Go.Proofs.YtjmblgahoejoiaaGreatDoor
open Go.RowKit Go.Maps Go.Sort Go.Shelf Tx
attribute [local go_sem] Oper.semAt_some
namespace St

theorem strInfo : (Tryz.prog.info? 9).map (fun i => (i.zero, i.size, i.bytes)) = some (some (.string ⟨#[]⟩), 1, 16) := by kernel_rfl
def leL : List UInt8 → List UInt8 → Bool := fun x y => decide (x ≤ y)

/-- slices.Sort of a slice of the call's own. -/
theorem sort_any (base : Nat) (v : Value) (ss : List (List UInt8)) (w : World) (h : w.ownsRow base 9 1 v ss.length (ss.map encStr)) (hl : ss.length ≤ 1000000) :
    Calls Tryz.prog 56 #[v] w fun e w' => e = .returned (.tuple #[]) ∧ w'.ownsRow base 9 1 v ss.length ((ss.mergeSort leL).map encStr) ∧ w.grownBy w' v.ownBlock := by
  rcases id h.2 with ⟨rfl, h0⟩ | ⟨g, cap, cur, rfl, hbase, hb, h1, h2, h3, h4⟩
  · refine (AnyM.slices_Sort_string_none Tryz.sort56 none 0 w).mono ?_
    rintro e w' ⟨rfl, rfl⟩
    have : ss = [] := List.eq_nil_of_length_eq_zero h0
    subst this
    exact ⟨rfl, by simpa using h, ⟨rfl, rfl, rfl, Nat.le_refl _, fun _ _ _ => rfl⟩⟩
  · refine (AnyM.slices_Sort_string Tryz.sort56 g 0 cap ss w (holds_of_block hb (by simpa using h4)) (Array.getElem?_eq_some_iff.1 hb).1 (by omega)).mono ?_
    rintro e w' ⟨rfl, nn, os, rfl⟩
    exact ⟨rfl, ownsRow_sorted (by simp) hbase hb h1 h2 h3, grownBy_sorted _⟩

theorem cat_start (p : ByteArray) : p ++ (⟨#[47]⟩ : ByteArray) = startS p := by
  apply toL_inj
  unfold startS
  rw [toL_bs]
  unfold toL
  simp

set_option maxRecDepth 100000 in
theorem childNames_any (b : Nat) (p : ByteArray) (w : World) (hp : p.size ≤ 1000000000000000) :
    Calls Tryz.prog 55 #[.map (some b), .string p] w fun e w' => e = .returned (.func (.func 73) #[] #[.pointer (some ⟨w.heap.size, 0, none⟩), .pointer (some ⟨w.heap.size + 1, 0, none⟩)]) ∧
      w' = (w.alloc (.cells #[.map (some b)] 56)).alloc (.cells #[.string (startS p)] 9) := by
  have hSm : ¬ 9223372036854775807 < p.size + 1 := by omega
  rw [← cat_start]
  go_enter Tryz.func55, Tryz.ntmps55
  go_wp2
  go_ret
  exact ⟨by simp, rfl⟩

theorem keys_child (t : Tree) (p : ByteArray) : (strKeys (dat (all t))).filterMap (child (toL p)) = (names t p).map toL := by
  rw [keys_dat]
  unfold all names
  have h0 : child (toL p) (toL emp) = none := by
    unfold child
    rw [if_neg]
    rintro ⟨h, _⟩
    have e : toL emp = [] := rfl
    rw [e] at h
    cases hp : toL p <;> simp [hp] at h
  rw [List.map_cons, List.filterMap_cons, h0, List.filterMap_map, List.map_filterMap]
  show List.filterMap (fun q : ByteArray × Ent => child (toL p) (toL q.1)) t = List.filterMap (fun q : ByteArray × Ent => Option.map toL (Option.map bs (child (toL p) (toL q.1)))) t
  congr 1
  funext q
  cases child (toL p) (toL q.1) with
  | none => rfl
  | some n => simp [toL_bs]

/-- What was gathered. -/
def NamesI (w : World) (pre : List (List UInt8)) (W : World) : Prop :=
  (∃ v, Boxed W w.heap.size 43 v ∧ W.ownsRow (w.heap.size + 3) 9 1 v pre.length (pre.map encStr) ∧ True) ∧ Below w.heap.size w W ∧ w.heap.size + 3 ≤ W.heap.size

theorem kp_t {s : Nat} {A B C : World} (h : KpC s A B) (k : KpC s B C) : KpC s A C := ⟨h.1.trans k.1, k.2.trans h.2⟩
theorem kp_b {s : Nat} {w : World} (hn : s < w.heap.size) (W : World) (l : Nat) (o o' : Obj) (hl : w.heap.size ≤ l) (h : W.heap[l]? = some o) (hc : o.isCells = false) (hw : o.isWalk = false) : KpC s W (W.putObj l o') :=
  ⟨walksK_b (w := w) W l o o' hl h hc hw, World.putObj_heap_other (by omega)⟩
theorem walks_of_others {A B : World} (h : KeepsOthers A B) : KeepsWalks A B := ⟨h.size, fun k o hk hw => h.same k o hk (Obj.not_cells_of_walk hw)⟩

theorem own_more {W : World} {B C : Nat} {e : TypeId} {size : Nat} {v : Value} {k : Nat} {xs : List Value} (h : W.ownsRow B e size v k xs) (hC : C ≤ B) : W.ownsRow C e size v k xs := by
  refine ⟨h.1, ?_⟩
  rcases h.2 with h0 | ⟨g, cap, cur, rfl, hB, r⟩
  · exact .inl h0
  · exact .inr ⟨g, cap, cur, rfl, by omega, r⟩

set_option maxHeartbeats 2000000 in
set_option maxRecDepth 100000 in
theorem namesIn_any (b n : Nat) (t : Tree) (p : ByteArray) (w : World) (hown : w.ownsMap Tryz.prog 9 entR b n (dat (all t))) (hg : Good t) (ht : t.length ≤ 100000) (hp : p.size ≤ 1000000000000000) :
    Calls Tryz.prog 35 #[.map (some b), .string p] w fun e w' => ∃ v, e = .returned v ∧ Kept (Own.Es Value.string w' w.heap.size v (names t p)) ∧ Below w.heap.size w w' := by
  obtain ⟨i0, hi, hz0, hz1, hz2⟩ := info_parts strInfo
  have HG := Kept.mk hg
  have hlen : Maps.size (dat (all t)) ≤ 100001 := by rw [size_dat]; show t.length + 1 ≤ _; omega
  clear hg
  refine (callsIn_wide (n := 6)).1 ?_
  refine callsIn_of_wp_marks Tryz.func35 rfl trivial ?_ rfl
  simp only [Tryz.ntmps35, List.size_toArray, List.length_cons, List.length_nil, Nat.reduceAdd, Nat.reduceSub, Array.replicate_succ, Array.replicate_zero, List.push_toArray, List.append_toArray, List.nil_append, List.cons_append]
  gi_wp2_with (refine ⟨trivial, ?_⟩; gi_at_call 55; refine (callsIn_wide.2 (childNames_any b p _ hp)).mono ?_; rintro e w' ⟨rfl, rfl⟩)
  have bO := Boxed.new w 43 (.slice none 0 0)
  have bM := Boxed.new (w.alloc (.cells #[.slice none 0 0] 43)) 56 (.map (some b))
  have bS := Boxed.new ((w.alloc (.cells #[.slice none 0 0] 43)).alloc (.cells #[.map (some b)] 56)) 9 (.string (startS p))
  rw [World.size_alloc] at bM
  simp only [World.size_alloc] at bS
  have bM2 := bM.alloc (.cells #[.string (startS p)] 9)
  have hown2 := ((hown.alloc (.cells #[.slice none 0 0] 43)).alloc (.cells #[.map (some b)] 56)).alloc (.cells #[.string (startS p)] 9)
  have hB0 : Below w.heap.size w (((w.alloc (.cells #[.slice none 0 0] 43)).alloc (.cells #[.map (some b)] 56)).alloc (.cells #[.string (startS p)] 9)) := (((Below.refl _ w).alloc (Nat.le_refl _) _).alloc (by simp) _).alloc (by simp; omega) _
  refine wpIn_rangeFunc_ownG rfl (by omega) (gf := 73) (lb := #[.pointer (some ⟨w.heap.size + 1, 0, none⟩), .pointer (some ⟨w.heap.size + 1 + 1, 0, none⟩)]) rfl trivial (enters_of Tryz.func73 (by kernel_rfl) rfl)
    (child_stops (6 - 1) (w.heap.size + 1) (w.heap.size + 1 + 1) b n (dat (all t)) p _ (by omega) (by simp) (by simp) bM2.cell bS.cell hown2) kp_t (kp_b (by simp)) (Below.refl _ _) (fun _ => rfl)
    (NamesI w) (fun _ _ _ => False)
    (OwnFrom.and (Own.from (holdsRow_own (w.heap.size + 3) w.heap.size 43 9 1 (fun pre : List (List UInt8) => pre.length) (fun pre => pre.map encStr) (fun _ _ => True)) _) (OwnFrom.and (ownFrom_below (Nat.le_refl _) (by simp; omega)) (fun _ X Y row hs hg _ => Nat.le_trans hs hg.size)))
    (fun _ _ _ _ _ hs _ _ => hs)
    ⟨⟨_, (bO.alloc _).alloc _, World.ownsRow_nil _ _ _ _, trivial⟩, hB0, by simp⟩
    (fun x => { tmps := #[.map (some b), .string p, undef, undef, .slice none 0 0, .pointer (some ⟨w.heap.size, 0, none⟩), encStr x, .map (some b), .string p, .func (.func 73) #[] #[.pointer (some ⟨w.heap.size + 1, 0, none⟩), .pointer (some ⟨w.heap.size + 1 + 1, 0, none⟩)], encStr x, undef, undef, undef, undef, undef, undef, undef], defers := [] }) ?assign ?body ?done ?stop
  case assign =>
    intro l x W K hK
    gi_wp2
    exact hK
  case body =>
    rintro l pre x W ⟨⟨v, hv, hrow, -⟩, hB, hsz⟩ hlt
    have hc := hv.cell
    have hW3 : w.heap.size + 3 ≤ W.heap.size := hsz
    gi_wp2_with (gi_at_builtin; refine wpListIn_append_own _ rfl _ _ 43 rfl (w.heap.size + 3) 9 i0 (.string ⟨#[]⟩) 1 16 Tryz.underlying43 hi hz0 hz1 hz2 rfl (by decide) _ _ _ rfl (hrow.alloc _) ⟨W.heap.size, 0, none⟩ 1 1 [encStr x] rfl rfl (cell_one_new _ _ _) (by simp [Value.oneCell']) (by unfold maxLen; omega) (by omega) (by have := hW3; simp; omega) ?_; intro v' w1 hown' hgrow _; have hrb := row_ne_low hrow (b := w.heap.size + 1 + 1) (by omega); obtain ⟨g', cap', rfl⟩ := ownsRow_succ hown'; obtain ⟨hv1, hv2, hr2, hk2, hb2⟩ := hv.appended (by decide) (own_more hrow (Nat.le_add_right _ 3)) hB.size (Nat.le_refl _) (own_more hown' (Nat.le_add_right _ 3)) hgrow; have hr3 := hown'.kept (grownBy_setCell' w1 w.heap.size (.slice (some ⟨g', 0, none⟩) (pre.length + 1) cap')) (.inr (row_ne_low hown' (by omega)).symm); have hc1 := hv1.cell; have hf1 := hv1.frozen)
    refine ⟨hk2.from _, ⟨walks_of_others hk2, ?_⟩, ⟨⟨_, hv2, by simpa using hr3, trivial⟩, hB.trans hb2, by simp; have := hgrow.size; simp at this; omega⟩⟩
    rw [Below.heap_setCell _ _ _ _ (by simp; omega), hgrow.block _ (by simp; omega) hrb, Below.heap_alloc _ _ _ (by omega)]
  case done =>
    rintro D ys W hD hS ⟨⟨v, hv, hrow, -⟩, hB, hsz⟩ hK
    have hc := hv.cell
    have hys : ys.length ≤ 100000 := by
      rw [keys_child] at hS
      have e := hS.length_eq
      rw [List.length_map] at e
      have : (names t p).length ≤ t.length := List.length_filterMap_le _ _
      omega
    have hD2 : ∀ w', W.grownBy w' v.ownBlock → w'.heap[D]? = some (.deferred (some [])) := fun w' hg => (hg.block D (Array.getElem?_eq_some_iff.1 hK).1 (fun e => by
      rcases hrow.2 with ⟨rfl, _⟩ | ⟨g, cap, cur, rfl, _, hgb, _⟩
      · cases e
      · injection e with e
        subst e
        rw [hgb] at hK
        cases hK)).trans hK
    gi_wp2_with (refine ⟨trivial, ?_⟩; gi_at_call 56; refine (callsIn_wide.2 (sort_any (w.heap.size + 3) v ys W hrow (by omega))).mono ?_; rintro e w2 ⟨rfl, hr2, hg2⟩; have hv2 := hv.kept hg2 (hv.not_row (by decide) hrow); have hc2 := hv2.cell; have hK2 := hD2 _ hg2)
    refine ⟨by simp, .inl ⟨_, _, rfl, run_takeDeferred hK2, ?_⟩⟩
    have hB2 : Below w.heap.size w w2 := hB.grown hg2 hB.size (fun k hk => by
      rcases hrow.2 with ⟨rfl, _⟩ | ⟨g, cap, cur, rfl, hbb, _⟩
      · cases hk
      · injection hk with hk
        subst hk
        exact Nat.le_trans (Nat.le_add_right _ 3) hbb)
    refine ⟨_, results_tmp rfl _ _ _, v, rfl, ⟨?_⟩, hB2.trans (belowK_b (w := w) (Nat.le_refl _) w2 D _ _ (Nat.le_trans (by simp; omega) hD) hK2 rfl rfl)⟩
    have hr4 := own_more (ownsRow_putObj hr2 (.deferred none) hK2 rfl) (Nat.le_add_right w.heap.size 3)
    have hs := sorted_unique (ss := ys) (names_sorted HG.out.sorted p) (by rw [← keys_child]; exact hS)
    have e1 : (names t p).map Value.string = (ys.mergeSort leL).map encStr := by
      rw [← hs, List.map_map]
      rfl
    rw [← e1] at hr4
    exact Own.Es.of_own hr4
  case stop =>
    rintro D c pre W _ _ h _
    exact h.elim
end St
end Go.Proofs.YtjmblgahoejoiaaGreatDoor
