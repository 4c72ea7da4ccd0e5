/-
  The document's store: Put, where nothing is recorded.
-/
import Derived.Test.YtjmblgahoejoiaaGreatDoorRnam
import Derived.Test.YtjmblgahoejoiaaGreatDoorPval
namespace Go.Proofs.YtjmblgahoejoiaaGreatDoor
open Go.RowKit Tx
namespace St

/-! ### Where a pair is put -/
theorem ins_app (p : ByteArray) (e : Ent) : ∀ (a b : Tree), (∀ q ∈ a, lt q.1 p) → ins (a ++ b) p e = a ++ ins b p e
  | [], b, _ => rfl
  | q :: a, b, h => by
    rw [List.cons_append, ins, if_pos (h q (by simp)), ins_app p e a b (fun x hx => h x (by simp [hx]))]
    rfl
theorem del_app (p : ByteArray) (a b : Tree) (h : ∀ q ∈ a, lt q.1 p) : del (a ++ b) p = a ++ del b p := by
  have : del (a ++ b) p = del a p ++ del b p := List.filter_append ..
  rw [this, del_id (fun q hq => fun e => lt_ne (h q hq) e)]
/-- What stands where p would stand, and behind it. -/
def midE (p : ByteArray) (e : Ent) : Tree := if e.kind = 0 then [] else [(p, e)]
theorem put_end {t : Tree} {p : ByteArray} (e : Ent) (hp : p ≠ emp) {k : Nat} (hlo : ∀ q ∈ t.take k, lt q.1 p) (hk : t.length ≤ k) : put t p e = t.take k ++ midE p e ++ [] := by
  have e0 : t.take k = t := List.take_of_length_le hk
  rw [e0] at hlo ⊢
  unfold put midE
  rw [if_neg hp]
  by_cases h : e.kind = 0
  · have := del_app p t [] hlo
    rw [List.append_nil] at this
    rw [if_pos h, if_pos h, this]
    simp [del]
  · have := ins_app p e t [] hlo
    rw [List.append_nil] at this
    rw [if_neg h, if_neg h, this]
    simp [ins]
theorem put_same {t : Tree} (hg : Good t) {p : ByteArray} (e : Ent) (hp : p ≠ emp) {k : Nat} (hlo : ∀ q ∈ t.take k, lt q.1 p) (hk : k < t.length) (h : t[k].1 = p) : put t p e = t.take k ++ midE p e ++ t.drop (k + 1) := by
  have e0 : t = t.take k ++ t[k] :: t.drop (k + 1) := by rw [← List.drop_eq_getElem_cons hk, List.take_append_drop]
  have hs : Sorted (t[k] :: t.drop (k + 1)) := by
    rw [← List.drop_eq_getElem_cons hk]
    exact List.Pairwise.drop hg.sorted
  have h1 := (List.pairwise_cons.1 hs).1
  conv => lhs; rw [e0]
  unfold put midE
  rw [if_neg hp]
  by_cases h0 : e.kind = 0
  · rw [if_pos h0, if_pos h0, del_app p _ _ hlo]
    have : del (t[k] :: t.drop (k + 1)) p = t.drop (k + 1) := by
      unfold del
      rw [List.filter_cons, if_neg (by simp [h])]
      exact del_id (t := t.drop (k + 1)) (k := p) (fun q hq e => lt_ne (h1 q hq) (h.trans e.symm))
    rw [this]
    simp
  · rw [if_neg h0, if_neg h0, ins_app p e _ _ hlo, ins, if_neg (by rw [h]; exact lt_irrefl p), if_pos h]
    simp
theorem put_other {t : Tree} (hg : Good t) {p : ByteArray} (e : Ent) (hp : p ≠ emp) {k : Nat} (hlo : ∀ q ∈ t.take k, lt q.1 p) (hk : k < t.length) (hn : ¬ lt t[k].1 p) (h : t[k].1 ≠ p) : put t p e = t.take k ++ midE p e ++ t.drop k := by
  have e0 : t = t.take k ++ t[k] :: t.drop (k + 1) := by rw [← List.drop_eq_getElem_cons hk, List.take_append_drop]
  have hs : Sorted (t[k] :: t.drop (k + 1)) := by
    rw [← List.drop_eq_getElem_cons hk]
    exact List.Pairwise.drop hg.sorted
  have h1 := (List.pairwise_cons.1 hs).1
  have hpk := lt_total hn h
  rw [List.drop_eq_getElem_cons hk]
  conv => lhs; rw [e0]
  unfold put midE
  rw [if_neg hp]
  by_cases h0 : e.kind = 0
  · rw [if_pos h0, if_pos h0, del_app p _ _ hlo]
    have : del (t[k] :: t.drop (k + 1)) p = t[k] :: t.drop (k + 1) := del_id (fun q hq e => by
      rcases List.mem_cons.1 hq with rfl | hq
      · exact h e
      · exact lt_ne (lt_trans hpk (h1 q hq)) e.symm)
    rw [this]
    simp
  · rw [if_neg h0, if_neg h0, ins_app p e _ _ hlo, ins, if_neg hn, if_neg h]
    simp

/-! ### In memory -/
theorem pairInfo : (Tryz.prog.info? 96).map (fun i => (i.zero, i.size, i.bytes)) = some (some (.agg #[.string ⟨#[]⟩, .int .i64 0, .int .i64 0, .string ⟨#[]⟩]), 4, 48) := by kernel_rfl

structure PutIn (w wr : World) (cs : Array Value) (v : Value) (t : Tree) (p : ByteArray) (k : Nat) (more : List Value) (n : Nat) : Prop where
  box : BoxIn w wr cs
  own : wr.ownsRow (w.heap.size + 1) 96 4 v n (ents (t.take k) ++ more)
  lo : ∀ q ∈ t.take k, lt q.1 p
theorem PutIn.size {w wr : World} {cs : Array Value} {v : Value} {t : Tree} {p : ByteArray} {k n : Nat} {more : List Value} (h : PutIn w wr cs v t p k more n) : w.heap.size + 1 ≤ wr.heap.size := (Array.getElem?_eq_some_iff.1 h.box.box).1
theorem PutIn.on {w wr w2 : World} {cs : Array Value} {v v2 : Value} {t : Tree} {p : ByteArray} {k n : Nat} {more : List Value} (h : PutIn w wr cs v t p k more n) (hg : wr.grownBy w2 v.ownBlock) : BoxIn w w2 cs := by
  have hr : ∀ j, v.ownBlock = some j → w.heap.size + 1 ≤ j := fun j hj => (h.own.lt j hj).1
  refine ⟨(hg.block _ h.size (fun e => ?_)).trans h.box.box, h.box.below.grown hg h.box.below.size (fun j hj => by have := hr j hj; omega)⟩
  have := hr _ e.symm
  omega
theorem PutIn.push {w wr w2 : World} {cs : Array Value} {v v2 : Value} {t : Tree} {p : ByteArray} {k : Nat} (h : PutIn w wr cs v t p k [] k) (hk : k < t.length) (hl : lt t[k].1 p)
    (ho : w2.ownsRow (w.heap.size + 1) 96 4 v2 (k + 1) (ents (t.take k) ++ [] ++ pv t[k])) (hg : wr.grownBy w2 v.ownBlock) : PutIn w w2 cs v2 t p (k + 1) [] (k + 1) := by
  refine ⟨h.on (v2 := v2) hg, ?_, fun q hq => ?_⟩
  · rw [List.take_succ_eq_append_getElem hk, ents_append, List.append_nil]
    rw [List.append_nil] at ho
    have e : ents [t[k]] = pv t[k] := by simp [ents]
    rw [e]
    exact ho
  · rw [List.take_succ_eq_append_getElem hk] at hq
    rcases List.mem_append.1 hq with hq | hq
    · exact h.lo q hq
    · rw [List.mem_singleton.1 hq]
      exact hl
theorem pv_new (w : World) (x : ByteArray × Ent) (ty : TypeId) : ∀ j u, (pv x)[j]? = some u → (w.alloc (.cells (pv x).toArray ty)).cell? ((⟨w.heap.size, 0, none⟩ : Addr).add j) = some u := by
  intro j u hu
  rw [Addr.add_lit, Nat.zero_add, cell_of_row _ _ j _ _ (0, 0) (heap_alloc_new w _)]
  simpa using hu
theorem pv_one (x : ByteArray × Ent) : ∀ u ∈ pv x, u.oneCell' = true := by
  intro u hp
  simp only [pv, List.mem_cons, List.not_mem_nil, or_false] at hp
  rcases hp with rfl | rfl | rfl | rfl <;> rfl
theorem RL.four {w : World} {q cap n : Nat} {t : Tree} (h : RL w (.slice (some ⟨q, 0, none⟩) n cap) t) {j : Nat} (hj : j < t.length) :
    w.cell? ⟨q, j * 4, none⟩ = some (.string t[j].1) ∧ w.cell? ⟨q, j * 4 + 1, none⟩ = some (.int .i64 t[j].2.kind) ∧ w.cell? ⟨q, j * 4 + 2, none⟩ = some (.int .i64 t[j].2.mode) ∧ w.cell? ⟨q, j * 4 + 3, none⟩ = some (.string t[j].2.data) :=
  ⟨h.pair hj 0 _ rfl, h.pair hj 1 _ rfl, h.pair hj 2 _ rfl, h.pair hj 3 _ rfl⟩
theorem own_form {w : World} {B n size : Nat} {e : TypeId} {v : Value} {xs : List Value} (h : w.ownsRow B e size v n xs) : ∃ A k, v = .slice A n k := by
  rcases h.2 with ⟨rfl, rfl⟩ | ⟨g, cap, cur, rfl, _⟩
  · exact ⟨_, _, rfl⟩
  · exact ⟨_, _, rfl⟩
theorem sizePair (W : World) : (sizeOf 96).run Tryz.prog W = .ok 4 W := by kernel_rfl
theorem elemPair : Tryz.prog.elem 60 = 96 := by kernel_rfl
theorem undPair : Tryz.prog.underlying 60 = some (.slice (Tryz.prog.elem 60)) := by rw [elemPair]; exact Tryz.underlying60
/-- What lies from k on, as it is sliced. -/
theorem RL.tail (q cap : Nat) (t : Tree) (hc : t.length ≤ cap) (k : Nat) (hk : k ≤ t.length) : ∃ off m c, m = t.length - k ∧
    (∀ W : World, (Instr.slice 60 (.slice (some ⟨q, 0, none⟩) t.length cap) (some (.int .i64 (k : Int))) none none).run Tryz.prog W = .ok (.slice (some ⟨q, off, none⟩) m c) W) ∧
    ∀ w, RL w (.slice (some ⟨q, 0, none⟩) t.length cap) t → ∀ j u, (ents (t.drop k))[j]? = some u → w.cell? ((⟨q, off, none⟩ : Addr).add j) = some u := by
  refine ⟨if cap = k then 0 else k * 4, t.length - k, cap - k, rfl, fun W => ?_, fun w h j u hu => ?_⟩
  · rw [run_slice_l W 60 _ _ _ undPair .i64 (k : Int) (by omega) (by omega), elemPair, sizePair]
    by_cases hck : cap = k
    · simp [Result.andThen, sliced, hck]
    · simp [Result.andThen, sliced, hck, Addr.add]
      omega
  · have hlt : k < t.length := by
      rcases Nat.lt_or_ge k t.length with h1 | h1
      · exact h1
      · rw [List.drop_eq_nil_of_le h1] at hu
        simp [ents] at hu
    rw [if_neg (by omega), Addr.add_lit]
    rcases h with ⟨h, _⟩ | ⟨q', cap', e, _, h⟩
    · cases h
    · injection e with e1 _ _
      injection e1 with e1
      injection e1 with e1
      subst e1
      have := h.2 (k * 4 + j) u (by rw [List.map_id, ← List.getElem?_drop, ents_drop]; exact hu)
      rwa [Nat.zero_add] at this
theorem mem_put {t : Tree} {p : ByteArray} {e : Ent} {q : ByteArray × Ent} (h : q ∈ put t p e) : q ∈ t ∨ q = (p, e) := by
  unfold put at h
  split at h
  · exact .inl h
  · split at h
    · exact .inl (List.mem_filter.1 h).1
    · rcases mem_ins h with h | h
      · exact .inr h
      · exact .inl h
theorem put_fin {w w2 : World} {r : Nat} {lv v2 : Value} {t : Tree} {p : ByteArray} {e : Ent} {n : Nat} (H : RSto w r lv t) (hb : Below w.heap.size w w2) (hp : p.size ≤ maxLen)
    (ho : w2.ownsRow (w.heap.size + 1) 96 4 v2 n (ents (put t p e))) :
    ∃ lv', Kept (RSto (w2.setCell ⟨r, 0, none⟩ v2) r lv' (put t p e)) ∧ (lv' = lv ∨ ∀ k, lv'.ownBlock = some k → w.heap.size ≤ k) ∧ Only (· = r) w (w2.setCell ⟨r, 0, none⟩ v2) := by
  have hl : ∀ k, v2.ownBlock = some k → w.heap.size + 1 ≤ k := fun k hk => (ho.lt k hk).1
  have hn : n = (put t p e).length := by have := ho.1; rw [ents_length] at this; omega
  refine ⟨v2, ⟨(H.below hb).cell v2 (RL.of_own ho hn) (fun e => by have := hl _ e; have := H.lt; omega) (H.good.put _ _) (fun q hq => ?_)⟩, .inr fun k hk => by have := hl k hk; omega, ((Only.refl _ w).below hb).setCell _ _ (fun _ => rfl)⟩
  rcases mem_put hq with hq | rfl
  · exact H.sz q hq
  · exact hp
end St
end Go.Proofs.YtjmblgahoejoiaaGreatDoor
