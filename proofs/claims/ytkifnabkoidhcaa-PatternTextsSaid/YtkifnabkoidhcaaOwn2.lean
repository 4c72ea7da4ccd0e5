/-
  Elements gathered by append, once more: the slice stays in its row, or gets a new one. Nothing of the program stands here.
-/
import Derived.Test.YtkifnabkoidhcaaOwn
namespace Go.Proofs.Ytkifnabkoidhcaa
open Go.RowKit
namespace Own

/-- append(v, x...), x a slice that holds news. -/
theorem run_append2 {α : Type} {P : Program} {c : α → Value} {w : World} {B : Nat} {v : Value} {l : List α} {T E : TypeId} {z : Value} {bytes : Nat} (k : Ty P T E z bytes) (hone : ∀ x, (c x).oneCell' = true) (ty : TypeId) (h : Es c w B v l) (hB : B ≤ w.heap.size) (ad : Addr) (m q : Nat) (news : List α) (hm : m = news.length)
    (hc : ∀ j u, (news.map c)[j]? = some u → w.cell? (ad.add j) = some u) (hlen : (l.length + news.length) * bytes ≤ 140737488355328) (hmx : l.length + news.length ≤ maxLen) :
    ∃ v' w', (Builtin.append_ #[T, T] ty #[v, .slice (some ad) m q]).run P w = .ok v' w' ∧ Es c w' B v' (l ++ news) ∧ w.grownBy w' v.ownBlock ∧ (v'.ownBlock = v.ownBlock ∨ Es c w' w.heap.size v' (l ++ news)) := by
  subst hm
  obtain ⟨i, hi, hz, hs, hby⟩ := info_parts k.info
  have h1c : ∀ u ∈ news.map c, u.oneCell' = true := by
    intro u hu
    obtain ⟨x, _, rfl⟩ := List.mem_map.1 hu
    exact hone x
  rcases h with ⟨rfl, rfl⟩ | ⟨g, cap, rfl, h1, h2, h3, h4, h5, h6⟩
  · obtain ⟨v', w', hr, ho, hg, _⟩ := run_append_own (P := P) w w.heap.size T ty E i z 1 bytes k.und hi hz hs hby k.zone (by omega) _ 0 [] (World.ownsRow_nil w w.heap.size E 1) ad news.length q (news.map c)
      (by rw [List.length_map]; omega) hc h1c (by simpa using hmx) (by simpa using hlen) (Nat.le_refl _)
    have hE : Es c w' w.heap.size v' ([] ++ news) := Es.of_own (n := 0 + news.length) (by simpa using ho)
    exact ⟨v', w', hr, hE.more hB, hg, .inr hE⟩
  · by_cases hroom : l.length + news.length ≤ cap
    · have hr := run_append_room_cells (P := P) w T ty E i k.und hi g 0 l.length cap ad news.length q (news.map c) (by rw [List.length_map, hs]; omega) hc h1c hroom
        (fun j hj => by rw [List.length_map] at hj; rw [hs]; exact (h5 _ (by omega)).1) (fun j hj => by rw [List.length_map] at hj; rw [hs]; exact (h5 _ (by omega)).2)
      rw [hs] at hr
      simp only [Nat.mul_one, Nat.zero_add] at hr
      have hh : Es c w B (.slice (some ⟨g, 0, none⟩) l.length cap) l := .inr ⟨g, cap, rfl, h1, h2, h3, h4, h5, h6⟩
      have := hh.room (news := news) hroom
      rw [List.length_append] at this
      exact ⟨_, _, hr, this, By.grown_setCells g _ _ _, .inl rfl⟩
    · obtain ⟨v', w', hr, ho, hg⟩ := run_append_arg_grows (P := P) w T ty E i z 1 bytes k.und hi hz hs hby k.zone (by omega) ⟨g, 0, none⟩ l.length cap (l.map c) (by rw [List.length_map]; omega)
        (fun j u hj => by rw [By.add_at]; exact h6 j u hj) ad news.length q (news.map c) (by rw [List.length_map]; omega) hc (by omega) hmx hlen
      have hE : Es c w' w.heap.size v' (l ++ news) := Es.of_own (n := l.length + news.length) (by rw [List.map_append]; exact ho)
      exact ⟨v', w', hr, hE.more hB, ⟨hg.os, hg.tape, hg.output, hg.size, fun j hj _ => hg.block j hj (by simp)⟩, .inr hE⟩

/-- append(v, x), x one element: it lies in a row that was made for it. -/
theorem wpList_append1b {α : Type} {P : Program} {c : α → Value} {w : World} {B : Nat} {v : Value} {l : List α} {T E : TypeId} {z : Value} {bytes : Nat} {ops : Array Oper} {rest : List Oper} {o : Oper} {a : Act} {Q : Exit → Act → World → Prop}
    (k : Ty P T E z bytes) (hone : ∀ x, (c x).oneCell' = true) (hgd : o.guard = none) (s x : Operand) (ho : o.op = .call { callee := .builtin .append, args := #[s, x], argTypes := #[T, T] }) (hs : a.eval s = v) (hb : Es c w B v l) (hB : B ≤ w.heap.size)
    (b : α) (u : Value) (hu : u = c b) (hx : a.eval x = .slice (some ⟨w.heap.size, 0, none⟩) 1 1) (hlen : (l.length + 1) * bytes ≤ 140737488355328) (hmx : l.length + 1 ≤ maxLen)
    (h : ∀ v' w', Es c w' B v' (l ++ [b]) → w.grownBy w' v.ownBlock → (∀ k, v'.ownBlock = some k → v.ownBlock = some k ∨ w.heap.size ≤ k) → wpList P ops Q rest (a.put o.dst v') w') : wpList P ops Q (o :: rest) a (w.alloc (.cells #[u] E)) := by
  subst hu
  obtain ⟨v', w', hr, h1, h2, h3⟩ := run_append2 k hone o.type (hb.alloc (.cells #[c b] E)) (by simp; omega) ⟨w.heap.size, 0, none⟩ 1 1 [b] rfl (cell_one_new w (c b) E) hlen hmx
  refine wpList_plain hgd fun K hK => ?_
  unfold Oper.wp execOp
  simp only [ho, resolve, invoke, builtin, Sem.run_bind, Sem.run_pure, Result.andThen_ok, List.map_toArray, List.map_cons, List.map_nil, hs, hx]
  rw [hr]
  refine hK _ _ (h v' w' h1 ((World.grownBy_alloc w _ _).trans h2) fun k hk => ?_)
  rcases h3 with h3 | h3
  · exact .inl (h3 ▸ hk)
  · have := (h3.lt k hk).1
    rw [World.size_alloc] at this
    exact .inr (by omega)
end Own
end Go.Proofs.Ytkifnabkoidhcaa
