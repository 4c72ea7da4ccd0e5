/-
  Slices of elements of one cell each, whatever the elements (words, bytes, strings): gathered in a row of the call's own (Es), or read where they lie (At). Nothing of the program stands here.
-/
import Derived.Test.YtjnhhkiabdbenaaDoorBytes
namespace Go.Proofs.YtjnhhkiabdbenaaDoor
open Go.RowKit Go.Lib
namespace Own
variable {α : Type}

/-- The cells of block g from off on hold l. -/
def At (c : α → Value) (w : World) (g off : Nat) (l : List α) : Prop := g < w.heap.size ∧ ∀ j u, (l.map c)[j]? = some u → w.cell? ⟨g, off + j, none⟩ = some u
section
variable {c : α → Value} {w w' : World} {g off : Nat} {l : List α}
theorem At.keep (h : At c w g off l) (hb : w'.heap[g]? = w.heap[g]?) (hs : w.heap.size ≤ w'.heap.size) : At c w' g off l :=
  ⟨Nat.lt_of_lt_of_le h.1 hs, fun j u hu => (World.cell?_of_block (w := w) (a := ⟨g, off + j, none⟩) hb).trans (h.2 j u hu)⟩
theorem At.below (h : At c w g off l) (hb : Below w.heap.size w w') : At c w' g off l := h.keep (hb.block g h.1) hb.size
theorem At.under {B : Nat} (h : At c w g off l) (hb : Below B w w') (hg : g < B) : At c w' g off l := h.keep (hb.block g hg) hb.size
theorem At.drewN (h : At c w g off l) (n : Nat) : At c (w.drewN n) g off l := h
theorem At.drew (h : At c w g off l) : At c w.drew g off l := h
theorem At.alloc (h : At c w g off l) (o : Obj) : At c (w.alloc o) g off l := h.keep (heap_alloc_old w o g h.1) (by simp)
theorem At.grown {row : Option Nat} (h : At c w g off l) (hb : w.grownBy w' row) (hr : row ≠ some g) : At c w' g off l := h.keep (hb.block g h.1 (fun e => hr e.symm)) hb.size
theorem At.cell (h : At c w g off l) (j : Nat) (hj : j < l.length) : w.cell? ⟨g, off + j, none⟩ = some (c l[j]) := h.2 j _ (by simp [hj])
theorem At.take (h : At c w g off l) (n : Nat) : At c w g off (l.take n) := ⟨h.1, fun j u hu => h.2 j u (by
  rw [List.map_take, List.getElem?_take] at hu
  split at hu
  · exact hu
  · cases hu)⟩
theorem At.drop (h : At c w g off l) (n : Nat) : At c w g (off + n) (l.drop n) := ⟨h.1, fun j u hu => by
  rw [List.map_drop, List.getElem?_drop] at hu
  rw [Nat.add_assoc]
  exact h.2 _ u hu⟩
theorem At.fresh (w : World) (cs : Array Value) (t : TypeId) (l : List α) (h : cs = (l.map c).toArray) : At c (w.alloc (.cells cs t)) w.heap.size 0 l := by
  subst h
  refine ⟨by simp, fun j u hu => ?_⟩
  rw [Nat.zero_add, cell_of_row _ _ j _ t (0, 0) (heap_alloc_new w _)]
  simpa using hu
end

/-- The slice type T with elements of type E, each one cell; z its zero, bytes its width. -/
structure Ty (P : Program) (T E : TypeId) (z : Value) (bytes : Nat) : Prop where
  und : P.underlying T = some (.slice E)
  info : (P.info? E).map (fun i => (i.zero, i.size, i.bytes)) = some (some z, 1, bytes)
  zone : z.cells.size = 1

/-- The slice v is the call's own (its block is none below B) and holds l. -/
def Es (c : α → Value) (w : World) (B : Nat) (v : Value) (l : List α) : Prop :=
  (v = .slice none 0 0 ∧ l = []) ∨ ∃ g cap, v = .slice (some ⟨g, 0, none⟩) l.length cap ∧ B ≤ g ∧ g < w.heap.size ∧ l.length ≤ cap ∧ cap ≤ maxLen ∧
    (∀ j, j < cap → (w.cell? ⟨g, j, none⟩).isSome = true ∧ w.frozen? ⟨g, j, none⟩ = false) ∧ ∀ j u, (l.map c)[j]? = some u → w.cell? ⟨g, j, none⟩ = some u
section
variable {P : Program} {c : α → Value} {w w' : World} {B : Nat} {v : Value} {l : List α}
theorem Es.nil (c : α → Value) (w : World) (B : Nat) : Es c w B (.slice none 0 0) [] := .inl ⟨rfl, rfl⟩
theorem Es.keep (h : Es c w B v l) (hb : ∀ g, v.ownBlock = some g → w'.heap[g]? = w.heap[g]?) (hs : w.heap.size ≤ w'.heap.size) : Es c w' B v l := by
  rcases h with ⟨rfl, rfl⟩ | ⟨g, cap, rfl, h1, h2, h3, h4, h5, h6⟩
  · exact Es.nil _ _ _
  · have e := hb g rfl
    refine .inr ⟨g, cap, rfl, h1, by omega, h3, h4, fun j hj => ?_, fun j u hu => ?_⟩
    · rw [World.cell?_of_block (w := w) (a := ⟨g, j, none⟩) e, World.frozen?_of_block (w := w) (a := ⟨g, j, none⟩) e]
      exact h5 j hj
    · rw [World.cell?_of_block (w := w) (a := ⟨g, j, none⟩) e]
      exact h6 j u hu
theorem Es.lt (h : Es c w B v l) : ∀ g, v.ownBlock = some g → B ≤ g ∧ g < w.heap.size := by
  intro g hg
  rcases h with ⟨rfl, rfl⟩ | ⟨k, cap, rfl, h1, h2, _⟩
  · cases hg
  · injection hg with hg
    subst hg
    exact ⟨h1, h2⟩
theorem Es.more (h : Es c w B v l) {C : Nat} (hC : C ≤ B) : Es c w C v l := by
  rcases h with h | ⟨g, cap, h0, h1, r⟩
  · exact .inl h
  · exact .inr ⟨g, cap, h0, by omega, r⟩
theorem Es.drew (h : Es c w B v l) : Es c w.drew B v l := h.keep (fun _ _ => rfl) (Nat.le_refl _)
theorem Es.drewN (h : Es c w B v l) (n : Nat) : Es c (w.drewN n) B v l := h.keep (fun _ _ => rfl) (Nat.le_refl _)
theorem Es.alloc (h : Es c w B v l) (o : Obj) : Es c (w.alloc o) B v l := h.keep (fun g hg => heap_alloc_old w o g (h.lt g hg).2) (by simp)
theorem Es.below (h : Es c w B v l) (hb : Below w.heap.size w w') : Es c w' B v l := h.keep (fun g hg => hb.block g (h.lt g hg).2) hb.size
theorem Es.far (h : Es c w B v l) {a : Addr} (ha : v.ownBlock ≠ some a.block) (u : Value) : Es c (w.setCell a u) B v l :=
  h.keep (fun g hg => Below.heap_setCell w a u g (fun e => ha (by rw [hg, e]))) (by simp [World.setCell])
/-- An element that is put in another's place. -/
theorem Es.put {r n q : Nat} (h : Es c w B (.slice (some ⟨r, 0, none⟩) n q) l) (k : Nat) (hk : k < l.length) (x : α) : Es c (w.setCell ⟨r, k, none⟩ (c x)) B (.slice (some ⟨r, 0, none⟩) n q) (l.set k x) := by
  rcases h with ⟨h, _⟩ | ⟨g, cap, e, h1, h2, h3, h4, h5, h6⟩
  · cases h
  · injection e with e1 e2 e3
    injection e1 with e1
    injection e1 with e1
    subst e1 e2 e3
    obtain ⟨u, hu⟩ := Option.isSome_iff_exists.1 (h5 k (by omega)).1
    have hs : (w.setCell ⟨r, k, none⟩ (c x)).heap.size = w.heap.size := by simp [World.setCell]
    refine .inr ⟨r, q, by rw [List.length_set], h1, by rw [hs]; exact h2, by rw [List.length_set]; exact h3, h4, fun j hj => ?_, fun j u2 hu2 => ?_⟩
    · rw [World.frozen?_setCell]
      refine ⟨?_, (h5 j hj).2⟩
      by_cases e : j = k
      · subst e; rw [World.cell?_setCell_same w _ _ hu]; rfl
      · rw [World.cell?_setCell_other w _ _ _ (fun e2 => e (by injection e2 with _ e3; exact e3.symm))]
        exact (h5 j hj).1
    · rw [List.map_set] at hu2
      by_cases e : j = k
      · subst e
        rw [List.getElem?_set_self (by simpa using hk)] at hu2
        rw [World.cell?_setCell_same w _ _ hu, hu2]
      · rw [List.getElem?_set_ne (fun e2 => e e2.symm)] at hu2
        rw [World.cell?_setCell_other w _ _ _ (fun e2 => e (by injection e2 with _ e3; exact e3.symm))]
        exact h6 j u2 hu2
theorem Es.len (h : Es c w B v l) : ∃ A k, v = .slice A l.length k := by
  rcases h with ⟨rfl, rfl⟩ | ⟨g, cap, rfl, _⟩
  · exact ⟨_, _, rfl⟩
  · exact ⟨_, _, rfl⟩
theorem Es.form (h : Es c w B v l) (hp : 0 < l.length) : ∃ g cap, v = .slice (some ⟨g, 0, none⟩) l.length cap ∧ B ≤ g ∧ At c w g 0 l ∧ l.length ≤ cap := by
  rcases h with ⟨rfl, rfl⟩ | ⟨g, cap, rfl, h1, h2, h3, h4, h5, h6⟩
  · simp at hp
  · exact ⟨g, cap, rfl, h1, ⟨h2, fun j u hu => by rw [Nat.zero_add]; exact h6 j u hu⟩, h3⟩
theorem Es.of_own {e : TypeId} {n : Nat} (h : w.ownsRow B e 1 v n (l.map c)) : Es c w B v l := by
  have hn : n = l.length := by have := h.1; rw [List.length_map] at this; omega
  subst hn
  rcases h.2 with ⟨rfl, h0⟩ | ⟨g, cap, cur, rfl, hB, hg, hnc, hcm, hcs, htake⟩
  · exact .inl ⟨rfl, List.eq_nil_of_length_eq_zero h0⟩
  · have hlt : g < w.heap.size := (Array.getElem?_eq_some_iff.1 hg).1
    refine .inr ⟨g, cap, rfl, hB, hlt, hnc, hcm, fun j hj => ⟨?_, ?_⟩, fun j u hu => ?_⟩
    · rw [cell_of_row w g j cur e (0, 0) hg]
      simp [show j < cur.size by omega]
    · exact frozen_of_row w g j cur e hg
    · rw [cell_of_row w g j cur e (0, 0) hg]
      rw [← htake, List.getElem?_take] at hu
      split at hu
      · simpa using hu
      · cases hu

/-- What the row holds behind a store of news behind its l. -/
theorem Es.room {g cap : Nat} {news : List α} (hv : Es c w B (.slice (some ⟨g, 0, none⟩) l.length cap) l) (hr : l.length + news.length ≤ cap) :
    Es c (w.setCells g l.length (news.map c)) B (.slice (some ⟨g, 0, none⟩) (l ++ news).length cap) (l ++ news) := by
  rcases hv with ⟨h, _⟩ | ⟨g', cap', e, h1, h2, h3, h4, h5, h6⟩
  · cases h
  · injection e with e1 _ e3
    injection e1 with e1
    injection e1 with e1
    subst e1 e3
    have hlc : (news.map c).length = news.length := List.length_map ..
    refine .inr ⟨g, cap, rfl, h1, ?_, by simpa using hr, h4, fun j hj => ?_, fun j u hu => ?_⟩
    · have := (By.grown_setCells g (news.map c) l.length w).size
      omega
    · rw [World.frozen?_setCells]
      refine ⟨?_, (h5 j hj).2⟩
      by_cases hin : l.length ≤ j ∧ j < l.length + (news.map c).length
      · have := World.cell?_setCells_in g (news.map c) l.length w (fun i hi => (h5 _ (by omega)).1) (j - l.length) (by omega)
        rw [show l.length + (j - l.length) = j by omega] at this
        rw [this]; rfl
      · rw [World.cell?_setCells_out g (news.map c) l.length w ⟨g, j, none⟩ (fun _ _ => by show j < _ ∨ _ ≤ j; omega)]
        exact (h5 j hj).1
    · rw [List.map_append, List.getElem?_append] at hu
      by_cases hin : j < l.length
      · rw [if_pos (by simpa using hin)] at hu
        rw [World.cell?_setCells_out g (news.map c) l.length w ⟨g, j, none⟩ (fun _ _ => .inl hin)]
        exact h6 j u hu
      · rw [if_neg (by simpa using hin), List.length_map] at hu
        have hj : j - l.length < (news.map c).length := (List.getElem?_eq_some_iff.1 hu).1
        have := World.cell?_setCells_in g (news.map c) l.length w (fun i hi => (h5 _ (by omega)).1) (j - l.length) hj
        rw [show l.length + (j - l.length) = j by omega] at this
        rw [this, ← hu, List.getElem?_eq_getElem hj]

/-- append(v, x...), x a slice that holds news. -/
theorem run_append {T E : TypeId} {z : Value} {bytes : Nat} (k : Ty P T E z bytes) (hone : ∀ x, (c x).oneCell' = true) (ty : TypeId) (h : Es c w B v l) (hB : B ≤ w.heap.size) (ad : Addr) (m q : Nat) (news : List α) (hm : m = news.length)
    (hc : ∀ j u, (news.map c)[j]? = some u → w.cell? (ad.add j) = some u) (hlen : (l.length + news.length) * bytes ≤ 140737488355328) (hmx : l.length + news.length ≤ maxLen) :
    ∃ v' w', (Builtin.append_ #[T, T] ty #[v, .slice (some ad) m q]).run P w = .ok v' w' ∧ Es c w' B v' (l ++ news) ∧ w.grownBy w' v.ownBlock ∧ ∀ p, v.ownBlock = some p → ∀ j, j < l.length → w'.cell? ⟨p, j, none⟩ = w.cell? ⟨p, j, none⟩ := by
  subst hm
  obtain ⟨i, hi, hz, hs, hby⟩ := info_parts k.info
  have h1c : ∀ u ∈ news.map c, u.oneCell' = true := by
    intro u hu
    obtain ⟨x, _, rfl⟩ := List.mem_map.1 hu
    exact hone x
  rcases h with ⟨rfl, rfl⟩ | ⟨g, cap, rfl, h1, h2, h3, h4, h5, h6⟩
  · obtain ⟨v', w', hr, ho, hg, _⟩ := run_append_own (P := P) w B T ty E i z 1 bytes k.und hi hz hs hby k.zone (by omega) _ 0 [] (World.ownsRow_nil w B E 1) ad news.length q (news.map c)
      (by rw [List.length_map]; omega) hc h1c (by simpa using hmx) (by simpa using hlen) hB
    exact ⟨v', w', hr, Es.of_own (n := 0 + news.length) (by simpa using ho), hg, fun p hp => by cases hp⟩
  · by_cases hroom : l.length + news.length ≤ cap
    · have hr := run_append_room_cells (P := P) w T ty E i k.und hi g 0 l.length cap ad news.length q (news.map c) (by rw [List.length_map, hs]; omega) hc h1c hroom
        (fun j hj => by rw [List.length_map] at hj; rw [hs]; exact (h5 _ (by omega)).1) (fun j hj => by rw [List.length_map] at hj; rw [hs]; exact (h5 _ (by omega)).2)
      rw [hs] at hr
      simp only [Nat.mul_one, Nat.zero_add] at hr
      have hh : Es c w B (.slice (some ⟨g, 0, none⟩) l.length cap) l := .inr ⟨g, cap, rfl, h1, h2, h3, h4, h5, h6⟩
      have := hh.room (news := news) hroom
      rw [List.length_append] at this
      exact ⟨_, _, hr, this, By.grown_setCells g _ _ _, fun p hp j hj => World.cell?_setCells_out g _ _ _ _ (fun _ _ => .inl hj)⟩
    · obtain ⟨v', w', hr, ho, hg⟩ := run_append_arg_grows (P := P) w T ty E i z 1 bytes k.und hi hz hs hby k.zone (by omega) ⟨g, 0, none⟩ l.length cap (l.map c) (by rw [List.length_map]; omega)
        (fun j u hj => by rw [By.add_at]; exact h6 j u hj) ad news.length q (news.map c) (by rw [List.length_map]; omega) hc (by omega) hmx hlen
      refine ⟨v', w', hr, (Es.of_own (n := l.length + news.length) (by rw [List.map_append]; exact ho)).more hB, ?_⟩
      refine ⟨⟨hg.os, hg.tape, hg.output, hg.size, fun j hj _ => hg.block j hj (by simp)⟩, fun p hp j hj => ?_⟩
      injection hp with hp
      subst hp
      exact World.cell?_of_block (w := w) (a := ⟨g, j, none⟩) (hg.block g h2 (by simp))
end

/-! ### As the walk meets them -/
section
variable {P : Program} {c : α → Value} {w : World} {B : Nat} {v : Value} {l : List α} {T E : TypeId} {z : Value} {bytes : Nat} {ops : Array Oper} {rest : List Oper} {o : Oper} {a : Act} {Q : Exit → Act → World → Prop}
/-- append(v, x), x one element: it lies in a row that was made for it. -/
theorem wp_append1 {K : Act → World → Prop} (k : Ty P T E z bytes) (hone : ∀ x, (c x).oneCell' = true) (s x : Operand) (ho : o.op = .call { callee := .builtin .append, args := #[s, x], argTypes := #[T, T] }) (hs : a.eval s = v) (hb : Es c w B v l) (hB : B ≤ w.heap.size)
    (b : α) (u : Value) (hu : u = c b) (hx : a.eval x = .slice (some ⟨w.heap.size, 0, none⟩) 1 1) (hlen : (l.length + 1) * bytes ≤ 140737488355328) (hmx : l.length + 1 ≤ maxLen)
    (h : ∀ v' w', Es c w' B v' (l ++ [b]) → w.grownBy w' v.ownBlock → (∀ p, v.ownBlock = some p → ∀ j, j < l.length → w'.cell? ⟨p, j, none⟩ = w.cell? ⟨p, j, none⟩) → K (a.put o.dst v') w') : o.wp P a (w.alloc (.cells #[u] E)) K Q := by
  subst hu
  obtain ⟨v', w', hr, h1, h2, h3⟩ := run_append k hone o.type (hb.alloc (.cells #[c b] E)) (by simp; omega) ⟨w.heap.size, 0, none⟩ 1 1 [b] rfl (cell_one_new w (c b) E) hlen hmx
  unfold Oper.wp execOp
  simp only [ho, resolve, invoke, builtin, Sem.run_bind, Sem.run_pure, Result.andThen_ok, List.map_toArray, List.map_cons, List.map_nil, hs, hx]
  rw [hr]
  exact h v' w' h1 ((World.grownBy_alloc w _ _).trans h2) (fun p hp j hj => (h3 p hp j hj).trans (World.cell?_alloc_lt _ _ _ (hb.lt p hp).2))
theorem wpList_append1 (k : Ty P T E z bytes) (hone : ∀ x, (c x).oneCell' = true) (hgd : o.guard = none) (s x : Operand) (ho : o.op = .call { callee := .builtin .append, args := #[s, x], argTypes := #[T, T] }) (hs : a.eval s = v) (hb : Es c w B v l) (hB : B ≤ w.heap.size)
    (b : α) (u : Value) (hu : u = c b) (hx : a.eval x = .slice (some ⟨w.heap.size, 0, none⟩) 1 1) (hlen : (l.length + 1) * bytes ≤ 140737488355328) (hmx : l.length + 1 ≤ maxLen)
    (h : ∀ v' w', Es c w' B v' (l ++ [b]) → w.grownBy w' v.ownBlock → (∀ p, v.ownBlock = some p → ∀ j, j < l.length → w'.cell? ⟨p, j, none⟩ = w.cell? ⟨p, j, none⟩) → wpList P ops Q rest (a.put o.dst v') w') : wpList P ops Q (o :: rest) a (w.alloc (.cells #[u] E)) :=
  wpList_plain hgd fun _ hK => wp_append1 k hone s x ho hs hb hB b u hu hx hlen hmx fun v' w' h1 h2 h3 => hK _ _ (h v' w' h1 h2 h3)
/-- .. at a step of a region that draws its order. -/
theorem step_append1 {K : Act → World → Prop} {R : Prop} (k : Ty P T E z bytes) (hone : ∀ x, (c x).oneCell' = true) (hgd : o.guard = none) (s x : Operand) (ho : o.op = .call { callee := .builtin .append, args := #[s, x], argTypes := #[T, T] }) (hs : a.eval s = v) (hb : Es c w B v l) (hB : B ≤ w.heap.size)
    (b : α) (u : Value) (hu : u = c b) (hx : a.eval x = .slice (some ⟨w.heap.size, 0, none⟩) 1 1) (hlen : (l.length + 1) * bytes ≤ 140737488355328) (hmx : l.length + 1 ≤ maxLen)
    (h : ∀ v' w', Es c w' B v' (l ++ [b]) → w.grownBy w' v.ownBlock → (∀ p, v.ownBlock = some p → ∀ j, j < l.length → w'.cell? ⟨p, j, none⟩ = w.cell? ⟨p, j, none⟩) → K (a.put o.dst v') w') : if Region.wanted o (yielded ops a.tmps) = true then Oper.wp P o a (w.alloc (.cells #[u] E)) K Q else R := by
  have hw : Region.wanted o (yielded ops a.tmps) = true := by simp [Region.wanted, hgd]
  rw [if_pos hw]
  exact wp_append1 k hone s x ho hs hb hB b u hu hx hlen hmx h
/-- append(v, x...), x a slice that holds news. -/
theorem wpList_append (k : Ty P T E z bytes) (hone : ∀ x, (c x).oneCell' = true) (hgd : o.guard = none) (s x : Operand) (ho : o.op = .call { callee := .builtin .append, args := #[s, x], argTypes := #[T, T] }) (hs : a.eval s = v) (hb : Es c w B v l) (hB : B ≤ w.heap.size)
    {g off q : Nat} {news : List α} (hx : a.eval x = .slice (some ⟨g, off, none⟩) news.length q) (hat : At c w g off news) (hlen : (l.length + news.length) * bytes ≤ 140737488355328) (hmx : l.length + news.length ≤ maxLen)
    (h : ∀ v' w', Es c w' B v' (l ++ news) → w.grownBy w' v.ownBlock → wpList P ops Q rest (a.put o.dst v') w') : wpList P ops Q (o :: rest) a w := by
  obtain ⟨v', w', hr, h1, h2, _⟩ := run_append k hone o.type hb hB ⟨g, off, none⟩ news.length q news rfl (fun j u hu => by rw [show (⟨g, off, none⟩ : Addr).add j = ⟨g, off + j, none⟩ by unfold Addr.add; split <;> simp_all]; exact hat.2 j u hu) hlen hmx
  refine wpList_plain hgd fun K hK => ?_
  unfold Oper.wp execOp
  simp only [ho, resolve, invoke, builtin, Sem.run_bind, Sem.run_pure, Result.andThen_ok, List.map_toArray, List.map_cons, List.map_nil, hs, hx, hr]
  exact hK _ _ (h v' w' h1 h2)
end
end Own
end Go.Proofs.YtjnhhkiabdbenaaDoor
