/-
  Bytes gathered in a row of the call's own that append and the library's AppendInt write alike (ownsRow). Nothing of the program stands here.
-/
import Derived.Test.YtjnhhkiabdbenaaDoorBytes
namespace Go.Proofs.YtjnhhkiabdbenaaDoor
open Go.RowKit Go.Lib
namespace Row

/-- The slice v is the call's own (no block below B) and holds l; E is byte. -/
def Is (E : TypeId) (w : World) (B : Nat) (v : Value) (l : List UInt8) : Prop := w.ownsRow B E 1 v l.length (By.cells l)
theorem Is.grow {E : TypeId} {w : World} {B n : Nat} {v : Value} {l m : List UInt8} (h : w.ownsRow B E 1 v n (By.cells l ++ By.cells m)) (hn : n = l.length + m.length) : Is E w B v (l ++ m) := by
  subst hn
  unfold Is
  have e : By.cells (l ++ m) = By.cells l ++ By.cells m := by unfold By.cells; rw [List.map_append]
  rw [e, List.length_append]
  exact h
section
variable {E : TypeId} {w w' : World} {B : Nat} {v : Value} {l : List UInt8}
theorem Is.lt (h : Is E w B v l) : ∀ g, v.ownBlock = some g → B ≤ g ∧ g < w.heap.size := by
  intro g hg
  rcases h.2 with ⟨rfl, h0⟩ | ⟨k, cap, cur, rfl, hB, hk, _⟩
  · cases hg
  · injection hg with hg
    subst hg
    exact ⟨hB, (Array.getElem?_eq_some_iff.1 hk).1⟩
theorem Is.keep (h : Is E w B v l) (hb : ∀ g, v.ownBlock = some g → w'.heap[g]? = w.heap[g]?) : Is E w' B v l := by
  refine ⟨h.1, ?_⟩
  rcases h.2 with h0 | ⟨k, cap, cur, rfl, hB, hk, r⟩
  · exact .inl h0
  · exact .inr ⟨k, cap, cur, rfl, hB, (hb k rfl).trans hk, r⟩
theorem Is.below (h : Is E w B v l) (hb : Below w.heap.size w w') : Is E w' B v l := h.keep fun g hg => hb.block g (h.lt g hg).2
theorem Is.alloc (h : Is E w B v l) (o : Obj) : Is E (w.alloc o) B v l := h.keep fun g hg => heap_alloc_old w o g (h.lt g hg).2
theorem Is.drew (h : Is E w B v l) : Is E w.drew B v l := h
theorem Is.fresh (w : World) (E : TypeId) (B : Nat) (hB : B ≤ w.heap.size) : Is E (w.alloc (.cells #[] E)) B (.slice (some ⟨w.heap.size, 0, none⟩) 0 0) [] :=
  ⟨rfl, .inr ⟨w.heap.size, 0, #[], rfl, hB, heap_alloc_new w _, Nat.le_refl _, Nat.zero_le _, rfl, rfl⟩⟩
theorem Is.bs (h : Is E w B v l) : By.Bs w B v l := By.Bs.of_own h
end

section
variable {P : Program} {w : World} {B : Nat} {v : Value} {l : List UInt8} {T E : TypeId} {ops : Array Oper} {rest : List Oper} {o : Oper} {a : Act} {Q : Exit → Act → World → Prop}
/-- append(v, b), b one byte: it lies in a row that was made for it. -/
theorem wpList_append1 (k : By.Ty P T E) (hgd : o.guard = none) (s x : Operand) (ho : o.op = .call { callee := .builtin .append, args := #[s, x], argTypes := #[T, T] }) (hs : a.eval s = v) (hb : Is E w B v l) (hB : B ≤ w.heap.size)
    (b : UInt8) (n : Int) (hn : n = b.toNat) (hx : a.eval x = .slice (some ⟨w.heap.size, 0, none⟩) 1 1) (hlen : l.length + 1 ≤ 140737488355328)
    (h : ∀ v' w', Is E w' B v' (l ++ [b]) → w.grownBy w' v.ownBlock → wpList P ops Q rest (a.put o.dst v') w') : wpList P ops Q (o :: rest) a (w.alloc (.cells #[.int .u8 n] E)) := by
  subst hn
  obtain ⟨i, hi, hz, hsz, hby⟩ := info_parts k.info
  obtain ⟨v', w', hr, ho2, hg, _⟩ := run_append_own (P := P) (w.alloc (.cells #[By.cell b] E)) B T o.type E i (.int .u8 0) 1 1 k.und hi hz hsz hby rfl (by omega) v l.length (By.cells l) (hb.alloc _) ⟨w.heap.size, 0, none⟩ 1 1 (By.cells [b]) rfl (cell_one_new w (By.cell b) E) (By.one_cells [b])
    (by unfold maxLen; omega) (by omega) (by simp; omega)
  refine wpList_plain hgd fun K hK => ?_
  unfold Oper.wp execOp
  simp only [ho, resolve, invoke, builtin, Sem.run_bind, Sem.run_pure, Result.andThen_ok, List.map_toArray, List.map_cons, List.map_nil, hs, hx]
  unfold By.cell at hr
  rw [hr]
  exact hK _ _ (h v' w' (Is.grow ho2 rfl) ((World.grownBy_alloc w _ _).trans hg))
/-- append(v, x...), x a string. -/
theorem wpList_append_str (k : By.Ty P T E) (hgd : o.guard = none) (s x : Operand) (u : TypeId) (ho : o.op = .call { callee := .builtin .append, args := #[s, x], argTypes := #[T, u] }) (hu : P.underlying u = some .string)
    (hs : a.eval s = v) (hb : Is E w B v l) (hB : B ≤ w.heap.size) (t : ByteArray) (hx : a.eval x = .string t) (hlen : l.length + t.size ≤ 140737488355328)
    (h : ∀ v' w', Is E w' B v' (l ++ t.data.toList) → w.grownBy w' v.ownBlock → wpList P ops Q rest (a.put o.dst v') w') : wpList P ops Q (o :: rest) a w := by
  obtain ⟨i, hi, hz, hsz, hby⟩ := info_parts k.info
  obtain ⟨v', w', hr, ho2, hg, _⟩ := run_append_own_string (P := P) w B T u o.type E i k.und hu hi hz hsz hby v l.length (By.cells l) hb t (by unfold maxLen; omega) (by omega) hB
  refine wpList_plain hgd fun K hK => ?_
  unfold Oper.wp execOp
  simp only [ho, resolve, invoke, builtin, Sem.run_bind, Sem.run_pure, Result.andThen_ok, List.map_toArray, List.map_cons, List.map_nil, hs, hx, hr]
  exact hK _ _ (h v' w' (Is.grow (m := t.data.toList) ho2 (by simp)) hg)
/-- make([]byte, n). -/
theorem wpList_make (k : By.Ty P T E) (hgd : o.guard = none) (x y : Operand) (ho : o.op = .makeSlice T x y) (n : Nat) (hx : a.eval x = .int .i64 n) (hy : a.eval y = .int .i64 n) (hB : B ≤ w.heap.size) (hn : n ≤ 281474976710656)
    (h : ∀ v' w', Is E w' B v' (List.replicate n 0) → w.grownBy w' none → wpList P ops Q rest (a.put o.dst v') w') : wpList P ops Q (o :: rest) a w := by
  obtain ⟨i, hi, hz, hsz, hby⟩ := info_parts k.info
  refine wpList_make_full w hgd x y T ho B E i (.int .u8 0) 1 k.und hi hz hsz .i64 .i64 n n n hx hy rfl rfl (by rw [hby]; omega) (by unfold maxLen; omega) hB fun w' h1 h2 => h _ w' ?_ h2
  have e : (madeCells (Value.int .u8 0).cells (n * 1)).toList = By.cells (List.replicate n 0) := by
    rw [Nat.mul_one]
    show (madeCells #[Value.int .u8 0] n).toList = _
    rw [toList_madeCells_one]
    simp [By.cells, By.cell]
  rw [e] at h1
  unfold Is
  rw [List.length_replicate]
  exact h1
end
end Row
end Go.Proofs.YtjnhhkiabdbenaaDoor
