/-
  What was read: compared, sorted, gathered and sorted.
-/
import Derived.Test.YtjmblgahoejoiaaGreatDoorLcol
import Derived.Test.YtjmblgahoejoiaaGreatDoorPput
import Derived.Test.YtjmblgahoejoiaaGreatDoorIter
import Derived.Shelf.SlSortCmp.NoneTotal
namespace Go.Proofs.YtjmblgahoejoiaaGreatDoor
open Go.RowKit Go.Maps Go.Sort Go.Shelf Tx
namespace St

/-! ### The order -/
def cfR (x y : Rd) : Int := if x.path = y.path then (if x.names = y.names then 0 else if y.names then -1 else 1) else Lib.compareBytes (toL x.path) (toL y.path)
theorem cmp_lt : ∀ a b : List UInt8, (Lib.compareBytes a b < 0 ↔ a < b) ∧ (Lib.compareBytes a b = 0 ↔ a = b)
  | [], [] => by simp [Lib.compareBytes]
  | [], b :: l => by simp [Lib.compareBytes]
  | a :: l, [] => by simp [Lib.compareBytes]
  | a :: l, b :: m => by
    have ih := cmp_lt l m
    unfold Lib.compareBytes
    rw [List.cons_lt_cons_iff]
    by_cases h1 : a < b
    · rw [if_pos h1]
      exact ⟨by simp [h1], by simp; intro e; subst e; exact absurd h1 (UInt8.lt_irrefl _)⟩
    · rw [if_neg h1]
      by_cases h2 : b < a
      · rw [if_pos h2]
        exact ⟨by simp [h1]; intro e; subst e; exact absurd h2 (UInt8.lt_irrefl _), by simp; intro e; subst e; exact absurd h2 (UInt8.lt_irrefl _)⟩
      · rw [if_neg h2]
        have e : a = b := UInt8.le_antisymm (UInt8.not_lt.1 h2) (UInt8.not_lt.1 h1)
        subst e
        simp only [List.cons.injEq, true_and]
        exact ⟨by rw [ih.1]; simp [UInt8.lt_irrefl], ih.2⟩
/-- A place before another, or the entry of a place before its names. -/
def rlt (x y : Rd) : Prop := lt x.path y.path ∨ (x.path = y.path ∧ x.names = false ∧ y.names = true)
theorem ltOf_iff (x y : Rd) : ltOf cfR x y = true ↔ rlt x y := by
  unfold ltOf rlt cfR
  rw [decide_eq_true_iff]
  by_cases h : x.path = y.path
  · rw [if_pos h]
    have hn : ¬ lt x.path y.path := by rw [h]; exact lt_irrefl _
    cases hx : x.names <;> cases hy : y.names <;> simp [h, hn]
    all_goals (try exact lt_irrefl _)
  · rw [if_neg h, (cmp_lt _ _).1]
    simp [h]
    rfl
theorem rlt_irrefl (x : Rd) : ¬ rlt x x := by
  rintro (h | ⟨_, h1, h2⟩)
  · exact lt_irrefl _ h
  · rw [h1] at h2; cases h2
theorem rlt_trans {x y z : Rd} (h : rlt x y) (k : rlt y z) : rlt x z := by
  rcases h with h | ⟨e, h1, h2⟩ <;> rcases k with k | ⟨e2, k1, k2⟩
  · exact .inl (lt_trans h k)
  · exact .inl (e2 ▸ h)
  · exact .inl (e ▸ k)
  · rw [h2] at k1; cases k1
theorem rlt_total {x y : Rd} (h : ¬ rlt x y) (hn : x ≠ y) : rlt y x := by
  by_cases e : x.path = y.path
  · refine .inr ⟨e.symm, ?_⟩
    obtain ⟨a, b⟩ := x
    obtain ⟨c, d⟩ := y
    simp only at e
    subst e
    cases b <;> cases d <;> simp_all [rlt]
  · exact .inl (lt_total (fun k => h (.inl k)) e)
theorem rswo : SWO (ltOf cfR) where
  irrefl x := by rw [← Bool.not_eq_true, ltOf_iff]; exact rlt_irrefl x
  trans x y z h k := by rw [ltOf_iff] at *; exact rlt_trans h k
  ntrans x y z h k := by
    rw [← Bool.not_eq_true, ltOf_iff] at *
    intro hxz
    by_cases e : x = y
    · subst e; exact k hxz
    · have hyx := rlt_total h e
      exact k (rlt_trans hyx hxz)
theorem rtotal (x y : Rd) (h : ltOf cfR x y = false) (k : ltOf cfR y x = false) : x = y := by
  rw [← Bool.not_eq_true, ltOf_iff] at *
  by_cases e : x = y
  · exact e
  · exact absurd (rlt_total h e) k

/-! ### Rows of reads -/
theorem rvs_cons (x : Rd) (l : List Rd) : rvs (x :: l) = rv x ++ rvs l := rfl
theorem rvs_length (l : List Rd) : (rvs l).length = l.length * 2 := by
  induction l with
  | nil => rfl
  | cons p t ih => rw [rvs_cons, List.length_append, ih]; simp [rv]; omega
theorem rvs_drop (t : List Rd) (k : Nat) : (rvs t).drop (k * 2) = rvs (t.drop k) := by
  induction k generalizing t with
  | zero => simp
  | succ k ih =>
    cases t with
    | nil => simp [rvs]
    | cons p t =>
      rw [rvs_cons, List.drop_succ_cons, ← ih t, List.drop_append]
      have : (rv p).length = 2 := rfl
      rw [List.drop_eq_nil_of_le (by rw [this]; omega), this, List.nil_append]
      congr 1
      omega
theorem rvs_at {t : List Rd} {j : Nat} (hj : j < t.length) {i : Nat} {u : Value} (h : (rv t[j])[i]? = some u) : (rvs t)[j * 2 + i]? = some u := by
  rw [← List.getElem?_drop, rvs_drop, List.drop_eq_getElem_cons hj, rvs_cons, List.getElem?_append_left]
  · exact h
  · exact (List.getElem?_eq_some_iff.1 h).1
theorem flat_rvs (xs : List Rd) : flatK rv 2 xs.toArray = (rvs xs).toArray := by
  apply Array.ext
  · rw [size_flatK]; simp [rvs_length]
  · intro i h0 h2
    have h1 : i < xs.length * 2 := by rw [size_flatK] at h0; simpa using h0
    have hd : i / 2 < xs.length := by omega
    have hm : i % 2 < 2 := Nat.mod_lt _ (by omega)
    have e : (rvs xs)[i / 2 * 2 + i % 2]? = some ((rv xs[i / 2])[i % 2]'(by show _ < 2; exact hm)) := rvs_at hd (List.getElem?_eq_getElem _)
    rw [show i / 2 * 2 + i % 2 = i by omega] at e
    have e2 : (rvs xs).toArray[i]'h2 = (rv xs[i / 2])[i % 2]'(by show _ < 2; exact hm) := by
      have := List.getElem?_eq_some_iff.1 e
      obtain ⟨_, h3⟩ := this
      simpa using h3
    rw [e2, ← getElem!_pos (flatK rv 2 xs.toArray) i h0, get_flatK _ _ _ _ (by simpa using h1)]
    have e3 : xs.toArray[i / 2]! = xs[i / 2] := by simp [hd]
    rw [e3]
    exact getElem!_pos _ _ _
theorem holdsV {w : World} {g : Nat} {cur : Array Value} {e : TypeId} {vs : List Value} (hb : w.heap[g]? = some (.cells cur e (0, 0))) (ht : cur.toList.take vs.length = vs) : Holds id w g 0 vs.toArray := by
  intro j hj
  have hj' : j < vs.length := by simpa using hj
  refine ⟨?_, by simp [World.frozen?, hb]⟩
  have h1 : (cur.toList.take vs.length)[j]? = vs[j]? := by rw [ht]
  rw [List.getElem?_take_of_lt hj'] at h1
  simp only [World.cell?, hb, Nat.zero_add]
  simp only [Option.isSome_none, Bool.false_eq_true, if_false]
  rw [← Array.getElem?_toList, h1]
  simp [hj']
theorem heap_sortedV {w : World} {g n : Nat} {os : Array Obj} {cur : Array Value} {e : TypeId} {fr : Nat × Nat} (d : Array Value) (hb : w.heap[g]? = some (.cells cur e fr)) :
    (grow (putRow id (Sort.ahead w n) g 0 d) os).heap[g]? = some (.cells (putCells id 0 d cur) e fr) := by
  have hg : g < w.heap.size := (Array.getElem?_eq_some_iff.1 hb).1
  rw [heap_grow_old _ _ (by simpa using hg)]
  simp [putRow, mapBlock, Sort.ahead, Array.getElem?_modify, hb, onCells]
theorem grownBy_sortedV {w : World} {g n : Nat} {os : Array Obj} (d : Array Value) : w.grownBy (grow (putRow id (Sort.ahead w n) g 0 d) os) (some g) := by
  refine ⟨rfl, rfl, rfl, by simp, fun k hk hne => ?_⟩
  rw [heap_grow_old _ _ (by simpa using hk)]
  have : g ≠ k := fun e => hne (by rw [e])
  simp [putRow, mapBlock, Sort.ahead, Array.getElem?_modify, this]
theorem take_putCellsV (cur : Array Value) (ts : List Value) (h : ts.length ≤ cur.size) : (putCells id 0 ts.toArray cur).toList.take ts.length = ts := by
  apply List.ext_getElem?
  intro j
  by_cases hj : j < ts.length
  · rw [List.getElem?_take_of_lt hj, Array.getElem?_toList]
    simp [putCells, hj, show j < cur.size by omega]
  · rw [List.getElem?_take_eq_none (by omega), List.getElem?_eq_none (by omega)]

/-! ### The calls -/
set_option maxRecDepth 100000 in
theorem compareReads_any (x y : Rd) (w : World) :
    Calls Tryz.prog 38 #[.agg #[.string x.path, .bool x.names], .agg #[.string y.path, .bool y.names]] w fun e w' => e = .returned (.int .i64 (cfR x y)) ∧ ∃ q os, w' = grow (w.drewN q) os := by
  have hg : ∃ q os, (w.alloc (.cells #[.string x.path, .bool x.names] 72)).alloc (.cells #[.string y.path, .bool y.names] 72) = grow (w.drewN q) os := ⟨0, #[_] ++ #[_], by rw [alloc_eq_grow, alloc_eq_grow, grow_grow]; rfl⟩
  have HG := Kept.mk hg
  clear hg
  by_cases h : x.path = y.path
  · have hE : (x.path.toList == y.path.toList) = true := by rw [beq_str, decide_eq_true h]
    have HC : Kept (cfR x y = if x.names = y.names then 0 else if y.names then -1 else 1) := ⟨by unfold cfR; rw [if_pos h]⟩
    clear h
    generalize cfR x y = c at HC ⊢
    obtain ⟨a, b⟩ := x
    obtain ⟨a2, b2⟩ := y
    simp only at hE HC HG ⊢
    cases b <;> cases b2
    all_goals
      go_enter Tryz.func38, Tryz.ntmps38
      go_wp2
      go_ret
      exact ⟨by rw [HC.out]; rfl, HG.out⟩
  · have hE : (x.path.toList == y.path.toList) = false := by rw [beq_str, decide_eq_false h]
    have HC : Kept (cfR x y = Lib.compareBytes x.path.data.toList y.path.data.toList) := ⟨by unfold cfR; rw [if_neg h]; rfl⟩
    clear h
    generalize cfR x y = c at HC ⊢
    go_enter Tryz.func38, Tryz.ntmps38
    go_wp2_with (go_at_call 60; refine (Tryz.strings_Compare _ _ _).mono ?_; rintro e w2 ⟨rfl, rfl⟩)
    go_ret
    exact ⟨by rw [HC.out]; rfl, HG.out⟩
def leR (x y : Rd) : Bool := !(ltOf cfR) y x
set_option maxRecDepth 100000 in
theorem sortReads_any (base : Nat) (v : Value) (xs : List Rd) (w : World) (h : w.ownsRow base 72 2 v xs.length (rvs xs)) (hl : xs.length ≤ 1000000) :
    Calls Tryz.prog 58 #[v, .func (.func 38) #[] #[]] w fun e w' => e = .returned (.tuple #[]) ∧ w'.ownsRow base 72 2 v xs.length (rvs (xs.mergeSort leR)) ∧ w.grownBy w' v.ownBlock := by
  rcases id h.2 with ⟨rfl, h0⟩ | ⟨g, cap, cur, rfl, hbase, hb, h1, h2, h3, h4⟩
  · have : xs = [] := List.eq_nil_of_length_eq_zero h0
    subst this
    refine (AnyF.slices_SortFunc_none Tryz.sortf58 none 0 _ w).mono ?_
    rintro e w' ⟨rfl, rfl⟩
    exact ⟨rfl, by simpa using h, ⟨rfl, rfl, rfl, Nat.le_refl _, fun _ _ _ => rfl⟩⟩
  · have hlen : (rvs xs).length = xs.length * 2 := rvs_length xs
    have hH : HoldsK rv 2 w g 0 xs.toArray := by
      unfold HoldsK
      rw [flat_rvs]
      exact holdsV hb (by rw [hlen]; exact h4)
    refine (AnyQ.slices_SortFunc_total Tryz.sortf58 2 (fun w => by kernel_rfl) (fun w => by kernel_rfl) rv (fun _ => rfl) rv_one cfR rswo 38 #[] g 0 cap xs.toArray w
      (enters_of Tryz.func38 (by kernel_rfl) rfl) (fun m os dk hs x y => compareReads_any x y _) hH (Array.getElem?_eq_some_iff.1 hb).1 (by simp; omega) rtotal).mono ?_
    rintro e w' ⟨rfl, n, os, rfl⟩
    have e : sortWorldK rv 2 w g 0 n (xs.toArray.toList.mergeSort fun x y => !(ltOf cfR) y x).toArray os = grow (putRow id (Sort.ahead w n) g 0 (rvs (xs.mergeSort leR)).toArray) os := by
      unfold sortWorldK putRowK
      rw [flat_rvs]
      rfl
    rw [e]
    refine ⟨rfl, ⟨by rw [rvs_length]; simp, .inr ⟨g, cap, _, rfl, hbase, heap_sortedV _ hb, h1, h2, by simp [putCells, h3], ?_⟩⟩, grownBy_sortedV _⟩
    have e2 : (rvs (xs.mergeSort leR)).length = xs.length * 2 := by rw [rvs_length]; simp
    rw [← e2]
    exact take_putCellsV cur _ (by rw [e2]; omega)

set_option maxRecDepth 100000 in
theorem collectReads_any (Bm b n : Nat) (D0 : DataW Unit) (w : World) (hBm : Bm < w.heap.size) (hm : w.cell? ⟨Bm, 0, none⟩ = some (.map (some b))) (hown : w.ownsMap Tryz.prog 72 unR b n D0) (hsz : Maps.size D0 ≤ 1000000) :
    Calls Tryz.prog 57 #[.func (.func 59) #[] #[.pointer (some ⟨Bm, 0, none⟩)]] w fun e w' =>
      ∃ v xs, e = .returned v ∧ AllRd D0 xs ∧ xs.length ≤ Maps.size D0 ∧ Kept (w'.ownsRow (w.heap.size + 1) 72 2 v xs.length (rvs xs)) ∧ Below w.heap.size w w' := by
  have HA := Kept.mk (appendSeq_any Bm b n D0 w hBm hm hown hsz)
  clear hm hown
  go_enter Tryz.func57, Tryz.ntmps57
  go_wp2_with (go_at_call 78; refine HA.out.mono ?_; rintro e w1 ⟨v, xs, rfl, h1, h2, h3, h4⟩)
  go_ret
  exact ⟨v, xs, rfl, h1, h2, h3, h4⟩

set_option maxRecDepth 100000 in
theorem sortedReads_any (Bm b n : Nat) (D0 : DataW Unit) (w : World) (hBm : Bm < w.heap.size) (hm : w.cell? ⟨Bm, 0, none⟩ = some (.map (some b))) (hown : w.ownsMap Tryz.prog 72 unR b n D0) (hsz : Maps.size D0 ≤ 1000000) :
    Calls Tryz.prog 36 #[.func (.func 59) #[] #[.pointer (some ⟨Bm, 0, none⟩)], .func (.func 38) #[] #[]] w fun e w' =>
      ∃ v xs, e = .returned v ∧ AllRd D0 xs ∧ xs.length ≤ Maps.size D0 ∧ xs.Pairwise rlt ∧ Kept (w'.ownsRow (w.heap.size + 1) 72 2 v xs.length (rvs xs)) ∧ Below w.heap.size w w' := by
  have HA := Kept.mk (collectReads_any Bm b n D0 w hBm hm hown hsz)
  clear hm hown
  go_enter Tryz.func36, Tryz.ntmps36
  go_wp2_with (first
    | (go_at_call 57; refine HA.out.mono ?_; rintro e w1 ⟨v, xs, rfl, h1, h2, h3, h4⟩; have H1 := Kept.mk h1; have H4 := Kept.mk h4; clear h1 h4)
    | (go_at_call 58; refine (sortReads_any (w.heap.size + 1) v xs w1 h3.out (by omega)).mono ?_; rintro e w2 ⟨rfl, h5, h6⟩))
  go_ret
  have hp : (xs.mergeSort leR).Perm xs := List.mergeSort_perm xs leR
  have hw : (xs.mergeSort leR).Pairwise (fun a b => leR a b = true) := by
    refine List.pairwise_mergeSort ?_ ?_ xs
    · intro a b c h k
      unfold leR at *
      rw [Bool.not_eq_true'] at *
      exact rswo.ntrans c b a k h
    · intro a b
      unfold leR
      rw [Bool.or_eq_true, Bool.not_eq_true', Bool.not_eq_true']
      cases h : ltOf cfR b a
      · exact .inl rfl
      · refine .inr ?_
        rw [← Bool.not_eq_true, ltOf_iff]
        rw [ltOf_iff] at h
        exact fun k => rlt_irrefl _ (rlt_trans h k)
  have hnd : (xs.mergeSort leR).Nodup := hp.nodup_iff.2 H1.out.nodup
  refine ⟨v, xs.mergeSort leR, rfl, ⟨hnd, fun x hx => H1.out.size x (hp.mem_iff.1 hx), fun x hx => by rw [hp.mem_iff]; exact H1.out.mem x hx⟩, by rw [hp.length_eq]; exact h2, ?_, ⟨by rw [hp.length_eq]; exact h5⟩, H4.out.grown h6 H4.out.size (fun k hk => by have := (h3.out.lt k hk).1; omega)⟩
  refine (hw.and hnd).imp ?_
  rintro a b ⟨h, hne⟩
  unfold leR at h
  rw [Bool.not_eq_true', ← Bool.not_eq_true, ltOf_iff] at h
  exact rlt_total h (Ne.symm hne)
end St
end Go.Proofs.YtjmblgahoejoiaaGreatDoor
