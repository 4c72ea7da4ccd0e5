/-
  The document's store in memory, where nothing is recorded: a pointer to five cells, behind the first of them the list of pairs.
-/
import Derived.Test.YtjmblgahoejoiaaGreatDoorPsto
import Derived.Deep.MidRow
import Derived.Laws.AppendOwnNone
namespace Go.Proofs.YtjmblgahoejoiaaGreatDoor
open Go.RowKit Tx
namespace St

/-! ### Pairs as cells -/
def pv (p : ByteArray × Ent) : List Value := [.string p.1, .int .i64 p.2.kind, .int .i64 p.2.mode, .string p.2.data]
def ents (t : Tree) : List Value := t.flatMap pv
theorem ents_cons (p : ByteArray × Ent) (t : Tree) : ents (p :: t) = pv p ++ ents t := rfl
theorem ents_append (a b : Tree) : ents (a ++ b) = ents a ++ ents b := by simp [ents]
theorem ents_length (t : Tree) : (ents t).length = t.length * 4 := by
  induction t with
  | nil => rfl
  | cons p t ih => rw [ents_cons, List.length_append, ih]; simp [pv]; omega
theorem ents_drop (t : Tree) (k : Nat) : (ents t).drop (k * 4) = ents (t.drop k) := by
  induction k generalizing t with
  | zero => simp
  | succ k ih =>
    cases t with
    | nil => simp [ents]
    | cons p t =>
      rw [ents_cons, List.drop_succ_cons, ← ih t, List.drop_append]
      have : (pv p).length = 4 := rfl
      rw [List.drop_eq_nil_of_le (by rw [this]; omega), this, List.nil_append]
      congr 1
      omega
theorem ents_at {t : Tree} {j : Nat} (hj : j < t.length) {i : Nat} {u : Value} (h : (pv t[j])[i]? = some u) : (ents t)[j * 4 + i]? = some u := by
  rw [← List.getElem?_drop, ents_drop, List.drop_eq_getElem_cons hj, ents_cons, List.getElem?_append_left]
  · exact h
  · exact (List.getElem?_eq_some_iff.1 h).1
theorem ents_one (t : Tree) : ∀ u ∈ ents t, u.oneCell' = true := by
  intro u hu
  obtain ⟨p, _, hp⟩ := List.mem_flatMap.1 hu
  simp only [pv, List.mem_cons, List.not_mem_nil, or_false] at hp
  rcases hp with rfl | rfl | rfl | rfl <;> rfl

/-! ### The list in memory -/
def RL (w : World) (v : Value) (t : Tree) : Prop := (v = .slice none 0 0 ∧ t = []) ∨ ∃ q cap, v = .slice (some ⟨q, 0, none⟩) t.length cap ∧ t.length ≤ cap ∧ Own.At id w q 0 (ents t)
section
variable {w w' : World} {v : Value} {t : Tree}
theorem RL.lt (h : RL w v t) : ∀ k, v.ownBlock = some k → k < w.heap.size := by
  intro k hk
  rcases h with ⟨rfl, _⟩ | ⟨q, cap, rfl, _, h⟩
  · cases hk
  · injection hk with hk
    subst hk
    exact h.1
theorem RL.keep (h : RL w v t) (hb : ∀ k, v.ownBlock = some k → w'.heap[k]? = w.heap[k]?) (hs : w.heap.size ≤ w'.heap.size) : RL w' v t := by
  rcases h with h | ⟨q, cap, rfl, hc, h⟩
  · exact .inl h
  · exact .inr ⟨q, cap, rfl, hc, h.keep (hb q rfl) hs⟩
theorem RL.of_own {B n : Nat} {e : TypeId} (h : w.ownsRow B e 4 v n (ents t)) (hn : n = t.length) : RL w v t := by
  subst hn
  rcases h.2 with ⟨rfl, h0⟩ | ⟨g, cap, cur, rfl, hB, hg, hnc, hcm, hcs, htake⟩
  · exact .inl ⟨rfl, List.eq_nil_of_length_eq_zero h0⟩
  · refine .inr ⟨g, cap, rfl, hnc, (Array.getElem?_eq_some_iff.1 hg).1, fun j u hu => ?_⟩
    rw [List.map_id, ← htake, List.getElem?_take] at hu
    rw [Nat.zero_add, cell_of_row w g j cur e (0, 0) hg]
    split at hu
    · simpa using hu
    · cases hu
/-- The pair at j. -/
theorem RL.pair {q cap : Nat} {n : Nat} (h : RL w (.slice (some ⟨q, 0, none⟩) n cap) t) {j : Nat} (hj : j < t.length) : w.rangeAt q (j * 4) (pv t[j]) := by
  rcases h with ⟨h, _⟩ | ⟨q', cap', e, _, h⟩
  · cases h
  · injection e with e1 _ _
    injection e1 with e1
    injection e1 with e1
    subst e1
    intro i u hu
    have := h.2 (j * 4 + i) u (by rw [List.map_id]; exact ents_at hj hu)
    rwa [Nat.zero_add] at this
end

/-! ### The store -/
structure RSto (w : World) (r : Nat) (v : Value) (t : Tree) : Prop where
  lt : r < w.heap.size
  c0 : w.cell? ⟨r, 0, none⟩ = some v
  c4 : w.cell? ⟨r, 4, none⟩ = some (.bool false)
  f0 : w.frozen? ⟨r, 0, none⟩ = false
  list : RL w v t
  ne : v.ownBlock ≠ some r
  good : Good t
  sz : ∀ q ∈ t, q.1.size ≤ maxLen
section
variable {w w' : World} {r : Nat} {v : Value} {t t' : Tree}
theorem RSto.keep (h : RSto w r v t) (hr : w'.heap[r]? = w.heap[r]?) (hb : ∀ k, v.ownBlock = some k → w'.heap[k]? = w.heap[k]?) (hs : w.heap.size ≤ w'.heap.size) : RSto w' r v t :=
  ⟨Nat.lt_of_lt_of_le h.lt hs, (World.cell?_of_block (a := ⟨r, 0, none⟩) hr).trans h.c0, (World.cell?_of_block (a := ⟨r, 4, none⟩) hr).trans h.c4, (World.frozen?_of_block (a := ⟨r, 0, none⟩) hr).trans h.f0, h.list.keep hb hs, h.ne, h.good, h.sz⟩
theorem RSto.only {B : Nat → Prop} (h : RSto w r v t) (ho : Only B w w') (hr : ¬ B r) (hv : ∀ k, v.ownBlock = some k → ¬ B k) : RSto w' r v t :=
  h.keep (ho.block r h.lt hr) (fun k hk => ho.block k (h.list.lt k hk) (hv k hk)) ho.size
theorem RSto.below (h : RSto w r v t) (hb : Below w.heap.size w w') : RSto w' r v t := h.keep (hb.block r h.lt) (fun k hk => hb.block k (h.list.lt k hk)) hb.size
theorem RSto.drew (h : RSto w r v t) : RSto w.drew r v t := h.keep rfl (fun _ _ => rfl) (Nat.le_refl _)
theorem RSto.drewN (h : RSto w r v t) (k : Nat) : RSto (w.drewN k) r v t := h.keep rfl (fun _ _ => rfl) (Nat.le_refl _)
theorem RSto.alloc (h : RSto w r v t) (o : Obj) : RSto (w.alloc o) r v t := h.below ((Below.refl _ _).alloc (Nat.le_refl _) _)
theorem RSto.cell (h : RSto w r v t) (u : Value) (ws : RL w u t') (hu : u.ownBlock ≠ some r) (hg : Good t') (hz : ∀ q ∈ t', q.1.size ≤ maxLen) : RSto (w.setCell ⟨r, 0, none⟩ u) r u t' := by
  refine ⟨by simpa [World.setCell] using h.lt, World.cell?_setCell_same w _ _ h.c0, (World.cell?_setCell_other w _ _ _ (by simp)).trans h.c4, by rw [World.frozen?_setCell]; exact h.f0, ?_, hu, hg, hz⟩
  exact ws.keep (fun k hk => Below.heap_setCell w _ _ _ (fun e => hu (by rw [hk, e]))) (by simp [World.setCell])
end
set_option maxRecDepth 100000 in
theorem refNew_any (w : World) : Calls Tryz.prog 7 #[] w fun e w' => e = .returned (.pointer (some ⟨w.heap.size, 0, none⟩)) ∧ Kept (RSto w' w.heap.size (.slice none 0 0) []) ∧ Below w.heap.size w w' := by
  go_enter Tryz.func7, Tryz.ntmps7
  go_wp2
  go_ret
  refine ⟨rfl, ⟨⟨by simp, cell_of_row _ _ _ _ _ (0, 0) (heap_alloc_new w _), cell_of_row _ _ _ _ _ (0, 0) (heap_alloc_new w _), frozen_of_row _ _ _ _ _ (heap_alloc_new w _), .inl ⟨rfl, rfl⟩, by simp [Value.ownBlock], good_nil, fun _ h => by simp at h⟩⟩, (Below.refl _ _).alloc (Nat.le_refl _) _⟩

set_option maxRecDepth 100000 in
theorem refTouch_any (r : Nat) (v : Value) (t : Tree) (p : ByteArray) (b : Bool) (w : World) (h : RSto w r v t) :
    Calls Tryz.prog 47 #[.pointer (some ⟨r, 0, none⟩), .string p, .bool b] w fun e w' => e = .returned (.tuple #[]) ∧ Below w.heap.size w w' := by
  have c4 := h.c4
  clear h
  go_enter Tryz.func47, Tryz.ntmps47
  go_wp2
  refine bodyPost_ret (results_none rfl _ _ _) rfl ?_
  exact ⟨rfl, Below.refl _ _⟩
end St
end Go.Proofs.YtjmblgahoejoiaaGreatDoor
