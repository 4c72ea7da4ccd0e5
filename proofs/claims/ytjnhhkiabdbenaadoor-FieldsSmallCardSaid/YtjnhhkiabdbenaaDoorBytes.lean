/-
  Bytes that a call gathers in a slice of its own ([]byte(s), append, string(b)): of the slice's block only what the cells are is said, so that a row made by a conversion and one made by append are treated alike. Nothing of the program stands here.
-/
import Derived.Below
import Derived.Deep.Draws
import Derived.Deep.AppendLies
import Derived.Maps.AppendAt
import Derived.ArgAppend
import Derived.Lib.ConvBytes
import Derived.Lib.AppendStr
import Derived.Laws.IdiomStrings
import Derived.Laws.BytesArg
import Derived.RegionTactic
import Derived.OwnWalk
namespace Go.Proofs.YtjnhhkiabdbenaaDoor
open Go.RowKit Go.Lib
namespace By

def cell (b : UInt8) : Value := .int .u8 (b.toNat : Int)
def cells (l : List UInt8) : List Value := l.map cell
theorem length_cells (l : List UInt8) : (cells l).length = l.length := by simp [cells]
theorem one_cells (l : List UInt8) : ∀ u ∈ cells l, u.oneCell' = true := by
  intro u hu
  obtain ⟨x, _, rfl⟩ := List.mem_map.1 hu
  rfl
theorem add_at (g j : Nat) : (⟨g, 0, none⟩ : Addr).add j = ⟨g, j, none⟩ := by unfold Addr.add; split <;> simp_all

/-- The type T is []byte, E byte. -/
structure Ty (P : Program) (T E : TypeId) : Prop where
  und : P.underlying T = some (.slice E)
  elem : P.underlying E = some (.int .u8)
  info : (P.info? E).map (fun i => (i.zero, i.size, i.bytes)) = some (some (.int .u8 0), 1, 1)

/-- The slice v is the call's own (its block is none below B) and holds l. -/
def Bs (w : World) (B : Nat) (v : Value) (l : List UInt8) : Prop :=
  (v = .slice none 0 0 ∧ l = []) ∨ ∃ g cap, v = .slice (some ⟨g, 0, none⟩) l.length cap ∧ B ≤ g ∧ g < w.heap.size ∧ l.length ≤ cap ∧ cap ≤ maxLen ∧
    (∀ j, j < cap → (w.cell? ⟨g, j, none⟩).isSome = true ∧ w.frozen? ⟨g, j, none⟩ = false) ∧ ∀ j u, (cells l)[j]? = some u → w.cell? ⟨g, j, none⟩ = some u

section
variable {P : Program} {w w' : World} {B : Nat} {v : Value} {l : List UInt8}
theorem Bs.nil (w : World) (B : Nat) : Bs w B (.slice none 0 0) [] := .inl ⟨rfl, rfl⟩
theorem Bs.keep (h : Bs w B v l) (hb : ∀ g, v.ownBlock = some g → w'.heap[g]? = w.heap[g]?) (hs : w.heap.size ≤ w'.heap.size) : Bs w' B v l := by
  rcases h with ⟨rfl, rfl⟩ | ⟨g, cap, rfl, h1, h2, h3, h4, h5, h6⟩
  · exact Bs.nil _ _
  · have e := hb g rfl
    refine .inr ⟨g, cap, rfl, h1, by omega, h3, h4, fun j hj => ?_, fun j u hu => ?_⟩
    · rw [World.cell?_of_block (w := w) (a := ⟨g, j, none⟩) e, World.frozen?_of_block (w := w) (a := ⟨g, j, none⟩) e]
      exact h5 j hj
    · rw [World.cell?_of_block (w := w) (a := ⟨g, j, none⟩) e]
      exact h6 j u hu
theorem Bs.lt (h : Bs w B v l) : ∀ g, v.ownBlock = some g → B ≤ g ∧ g < w.heap.size := by
  intro g hg
  rcases h with ⟨rfl, rfl⟩ | ⟨k, cap, rfl, h1, h2, _⟩
  · cases hg
  · injection hg with hg
    subst hg
    exact ⟨h1, h2⟩
theorem Bs.more (h : Bs w B v l) {C : Nat} (hC : C ≤ B) : Bs w C v l := by
  rcases h with h | ⟨g, cap, h0, h1, r⟩
  · exact .inl h
  · exact .inr ⟨g, cap, h0, by omega, r⟩
theorem Bs.drew (h : Bs w B v l) : Bs w.drew B v l := h.keep (fun _ _ => rfl) (Nat.le_refl _)
theorem Bs.drewN (h : Bs w B v l) (n : Nat) : Bs (w.drewN n) B v l := h.keep (fun _ _ => rfl) (Nat.le_refl _)
theorem Bs.alloc (h : Bs w B v l) (o : Obj) : Bs (w.alloc o) B v l := h.keep (fun g hg => heap_alloc_old w o g (h.lt g hg).2) (by simp)
theorem Bs.below {C : Nat} (h : Bs w B v l) (hb : Below C w w') (hC : w.heap.size ≤ C) : Bs w' B v l :=
  h.keep (fun g hg => hb.block g (by have := (h.lt g hg).2; omega)) hb.size
theorem Bs.far (h : Bs w B v l) {a : Addr} (ha : v.ownBlock ≠ some a.block) (u : Value) : Bs (w.setCell a u) B v l :=
  h.keep (fun g hg => Below.heap_setCell w a u g (fun e => ha (by rw [hg, e]))) (by simp [World.setCell])
theorem Bs.grown {row : Option Nat} (h : Bs w B v l) (hb : w.grownBy w' row) (hr : v.ownBlock ≠ row ∨ v.ownBlock = none) : Bs w' B v l :=
  h.keep (fun g hg => hb.block g (h.lt g hg).2 (fun e => by
    rcases hr with hr | hr
    · exact hr (by rw [hg, e])
    · rw [hg] at hr; cases hr)) hb.size
theorem Bs.len (h : Bs w B v l) : ∃ A c, v = .slice A l.length c := by
  rcases h with ⟨rfl, rfl⟩ | ⟨g, cap, rfl, _⟩
  · exact ⟨_, _, rfl⟩
  · exact ⟨_, _, rfl⟩

theorem Bs.of_own {e : TypeId} {n : Nat} (h : w.ownsRow B e 1 v n (cells l)) : Bs w B v l := by
  have hn : n = l.length := by have := h.1; rw [length_cells] at this; omega
  subst hn
  rcases h.2 with ⟨rfl, h0⟩ | ⟨g, cap, cur, rfl, hB, hg, hnc, hcm, hcs, htake⟩
  · exact .inl ⟨rfl, List.eq_nil_of_length_eq_zero h0⟩
  · have hlt : g < w.heap.size := (Array.getElem?_eq_some_iff.1 hg).1
    refine .inr ⟨g, cap, rfl, hB, hlt, hnc, hcm, fun j hj => ⟨?_, ?_⟩, fun j u hu => ?_⟩
    · rw [cell_of_row w g j cur e (0, 0) hg]
      simp [show j < cur.size by omega]
    · exact frozen_of_row w g j cur e hg
    · rw [cell_of_row w g j cur e (0, 0) hg]
      rw [← htake, List.getElem?_take] at hu
      split at hu
      · simpa using hu
      · cases hu

theorem grown_setCells (b : Nat) : ∀ (vs : List Value) (o : Nat) (w : World), w.grownBy (w.setCells b o vs) (some b)
  | [], _, w => ⟨rfl, rfl, rfl, Nat.le_refl _, fun _ _ _ => rfl⟩
  | v :: r, o, w => by
    have h := grown_setCells b r (o + 1) (w.setCell ⟨b, o, none⟩ v)
    refine ⟨h.os, h.tape, h.output, ?_, fun k hk hne => ?_⟩
    · have h1 := h.size
      have h2 : (w.setCell ⟨b, o, none⟩ v).heap.size = w.heap.size := by simp [World.setCell]
      rw [h2] at h1
      exact h1
    · have hk' : k < (w.setCell ⟨b, o, none⟩ v).heap.size := by simpa [World.setCell] using hk
      exact (h.block k hk' hne).trans (Below.heap_setCell _ _ _ _ (fun e => hne (by rw [e])))

/-- What the row holds behind a store of news behind its l. -/
theorem Bs.room {g cap : Nat} {news : List UInt8} (hv : Bs w B (.slice (some ⟨g, 0, none⟩) l.length cap) l) (hr : l.length + news.length ≤ cap) :
    Bs (w.setCells g l.length (cells news)) B (.slice (some ⟨g, 0, none⟩) (l ++ news).length cap) (l ++ news) := by
  rcases hv with ⟨h, _⟩ | ⟨g', cap', e, h1, h2, h3, h4, h5, h6⟩
  · cases h
  · injection e with e1 _ e3
    injection e1 with e1
    injection e1 with e1
    subst e1 e3
    have hlc := length_cells news
    refine .inr ⟨g, cap, rfl, h1, ?_, by simpa using hr, h4, fun j hj => ?_, fun j u hu => ?_⟩
    · have := (grown_setCells g (cells news) l.length w).size
      omega
    · rw [World.frozen?_setCells]
      refine ⟨?_, (h5 j hj).2⟩
      by_cases hin : l.length ≤ j ∧ j < l.length + (cells news).length
      · have := World.cell?_setCells_in g (cells news) l.length w (fun i hi => (h5 _ (by omega)).1) (j - l.length) (by omega)
        rw [show l.length + (j - l.length) = j by omega] at this
        rw [this]; rfl
      · rw [World.cell?_setCells_out g (cells news) l.length w ⟨g, j, none⟩ (fun _ _ => by show j < _ ∨ _ ≤ j; omega)]
        exact (h5 j hj).1
    · unfold cells at hu
      rw [List.map_append, List.getElem?_append] at hu
      by_cases hin : j < l.length
      · rw [if_pos (by simpa using hin)] at hu
        rw [World.cell?_setCells_out g (cells news) l.length w ⟨g, j, none⟩ (fun _ _ => .inl hin)]
        exact h6 j u hu
      · rw [if_neg (by simpa using hin), List.length_map] at hu
        have hj : j - l.length < (cells news).length := (List.getElem?_eq_some_iff.1 hu).1
        have := World.cell?_setCells_in g (cells news) l.length w (fun i hi => (h5 _ (by omega)).1) (j - l.length) hj
        rw [show l.length + (j - l.length) = j by omega] at this
        rw [this, ← hu, show (List.map cell news) = cells news from rfl, List.getElem?_eq_getElem hj]

section
variable {T E : TypeId} (k : Ty P T E)
include k
/-- append(v, x...), x a slice that holds news. -/
theorem run_append (ty : TypeId) (h : Bs w B v l) (hB : B ≤ w.heap.size) (ad : Addr) (m c : Nat) (news : List UInt8) (hm : m = news.length)
    (hc : ∀ j u, (cells news)[j]? = some u → w.cell? (ad.add j) = some u) (hlen : l.length + news.length ≤ 140737488355328) :
    ∃ v' w', (Builtin.append_ #[T, T] ty #[v, .slice (some ad) m c]).run P w = .ok v' w' ∧ Bs w' B v' (l ++ news) ∧ w.grownBy w' v.ownBlock := by
  subst hm
  obtain ⟨i, hi, hz, hs, hby⟩ := info_parts k.info
  have hmx : l.length + news.length ≤ maxLen := by unfold maxLen; omega
  rcases h with ⟨rfl, rfl⟩ | ⟨g, cap, rfl, h1, h2, h3, h4, h5, h6⟩
  · obtain ⟨v', w', hr, ho, hg, _⟩ := run_append_own (P := P) w B T ty E i (.int .u8 0) 1 1 k.und hi hz hs hby rfl (by omega) _ 0 [] (World.ownsRow_nil w B E 1) ad news.length c (cells news)
      (by rw [length_cells]; omega) hc (one_cells news) (by simpa using hmx) (by simpa using hlen) hB
    exact ⟨v', w', hr, Bs.of_own (n := 0 + news.length) (by simpa using ho), hg⟩
  · by_cases hroom : l.length + news.length ≤ cap
    · have hr := run_append_room_cells (P := P) w T ty E i k.und hi g 0 l.length cap ad news.length c (cells news) (by rw [length_cells, hs]; omega) hc (one_cells news) hroom
        (fun j hj => by rw [length_cells] at hj; rw [hs]; exact (h5 _ (by omega)).1) (fun j hj => by rw [length_cells] at hj; rw [hs]; exact (h5 _ (by omega)).2)
      rw [hs] at hr
      simp only [Nat.mul_one, Nat.zero_add] at hr
      have hh : Bs w B (.slice (some ⟨g, 0, none⟩) l.length cap) l := .inr ⟨g, cap, rfl, h1, h2, h3, h4, h5, h6⟩
      have := hh.room (news := news) hroom
      rw [List.length_append] at this
      exact ⟨_, _, hr, this, grown_setCells g _ _ _⟩
    · obtain ⟨v', w', hr, ho, hg⟩ := run_append_arg_grows (P := P) w T ty E i (.int .u8 0) 1 1 k.und hi hz hs hby rfl (by omega) ⟨g, 0, none⟩ l.length cap (cells l) (by rw [length_cells]; omega)
        (fun j u hj => by rw [add_at]; exact h6 j u hj) ad news.length c (cells news) (by rw [length_cells]; omega) hc (by omega) hmx (by omega)
      refine ⟨v', w', hr, (Bs.of_own (n := l.length + news.length) (by unfold cells at ho ⊢; rw [List.map_append]; exact ho)).more hB, ?_⟩
      exact ⟨hg.os, hg.tape, hg.output, hg.size, fun j hj _ => hg.block j hj (by simp)⟩

/-- append(v, s...), s a string. -/
theorem run_append_str (u ty : TypeId) (hu : P.underlying u = some .string) (h : Bs w B v l) (hB : B ≤ w.heap.size) (s : ByteArray) (hlen : l.length + s.size ≤ 140737488355328) :
    ∃ v' w', (Builtin.append_ #[T, u] ty #[v, .string s]).run P w = .ok v' w' ∧ Bs w' B v' (l ++ s.data.toList) ∧ w.grownBy w' v.ownBlock := by
  obtain ⟨i, hi, hz, hs, hby⟩ := info_parts k.info
  have hmx : l.length + s.size ≤ maxLen := by unfold maxLen; omega
  have hsl : s.data.toList.length = s.size := by simp
  have hcs : strCells s = cells s.data.toList := rfl
  rcases h with ⟨rfl, rfl⟩ | ⟨g, cap, rfl, h1, h2, h3, h4, h5, h6⟩
  · obtain ⟨v', w', hr, ho, hg, _⟩ := run_append_own_string (P := P) w B T u ty E i k.und hu hi hz hs hby _ 0 [] (World.ownsRow_nil w B E 1) s (by simpa using hmx) (by simpa using hlen) hB
    rw [hcs] at ho
    exact ⟨v', w', hr, Bs.of_own (n := 0 + s.size) (by simpa using ho), hg⟩
  · have hf := run_firstCells_string (P := P) w 1 s
    by_cases hroom : l.length + s.size ≤ cap
    · have hst := run_storeCells_cells (P := P) g l.length (strCells s) 0 w (fun j hj => by rw [strCells_length] at hj; exact (h5 _ (by omega)).1) (fun j hj => by rw [strCells_length] at hj; exact (h5 _ (by omega)).2) (strCells_oneCell s)
      simp only [Nat.add_zero] at hst
      have hh : Bs w B (.slice (some ⟨g, 0, none⟩) l.length cap) l := .inr ⟨g, cap, rfl, h1, h2, h3, h4, h5, h6⟩
      have := hh.room (news := s.data.toList) (by omega)
      rw [List.length_append, hsl, ← hcs] at this
      refine ⟨_, _, ?_, this, grown_setCells g _ _ _⟩
      simp [Builtin.append_, run_underlying k.und, run_underlying hu, sizeOf, typeInfo, hi, hs, Builtin.lenOf, hroom, hf, add_at, hst]
    · have hr := run_append_grow_string (P := P) w T u ty E i (.int .u8 0) k.und hu hi hz ⟨g, 0, none⟩ l.length cap (cells l) (by rw [length_cells, hs]; omega) (fun j u hj => by rw [add_at]; exact h6 j u hj) s (by omega) (by unfold maxLen at hmx; omega)
        (by rw [hby]; exact growslice_fits (bytes := 1) (by omega) (by omega))
      have hge := grownCap_ge w (l.length + s.size) cap E
      have hcm := grownCap_le_maxLen w (l.length + s.size) cap E hmx
      refine ⟨_, _, hr, ?_, ⟨rfl, rfl, rfl, by simp, fun j hj _ => heap_alloc_old w.drew _ j hj⟩⟩
      refine Bs.more (B := w.heap.size) (Bs.of_own (e := E) (n := l.length + s.size) ⟨?_, .inr ⟨w.heap.size, _, _, rfl, Nat.le_refl _, heap_alloc_new w.drew _, hge, hcm, ?_, ?_⟩⟩) hB
      · rw [length_cells, List.length_append, hsl]; omega
      · simp only [Array.size_append, List.size_toArray, size_zeroCells, length_cells, strCells_length]
        rw [show (Value.int IntKind.u8 0).cells.size = 1 from rfl]
        omega
      · simp only [Array.toList_append, List.append_assoc, Nat.mul_one]
        rw [hcs, ← List.append_assoc, show cells l ++ cells s.data.toList = cells (l ++ s.data.toList) by unfold cells; rw [List.map_append]]
        exact List.take_left' (by rw [length_cells, List.length_append, hsl])

/-- string(v). -/
theorem run_string (dst : TypeId) (hd : P.underlying dst = some .string) (h : Bs w B v l) : (convert T dst v).run P w = .ok (.string ⟨l.toArray⟩) w := by
  rcases h with ⟨rfl, rfl⟩ | ⟨g, cap, rfl, h1, h2, h3, h4, h5, h6⟩
  · have := run_convert_bytes_nil (P := P) w T E k.und k.elem 0 0 dst hd
    exact this
  · refine run_convert_bytes_back (P := P) w T dst E ⟨g, 0, none⟩ cap l k.und k.elem hd fun j hj => ?_
    rw [add_at]
    exact h6 j _ (by simp [cells, cell, hj])

/-- []byte(s). -/
theorem run_bytes (src : TypeId) (hs : P.underlying src = some .string) (s : ByteArray) (hm : s.size ≤ maxLen) (w : World) :
    ∃ v' w', (convert src T (.string s)).run P w = .ok v' w' ∧ Bs w' w.heap.size v' s.data.toList ∧ w.grownBy w' none := by
  refine ⟨_, _, Lib.run_convert_string_bytes (P := P) w src T E s hs k.und k.elem, ?_, ⟨rfl, rfl, rfl, by rw [Lib.bytesWorld_size]; omega, fun j hj _ => Lib.bytesWorld_at_old w E s j hj⟩⟩
  have hge := grownCap_ge w s.size 0 E
  have hcs : (Lib.bytesCells w E s).size = grownCap w s.size 0 E := by
    simp [Lib.bytesCells]
    have : s.data.size = s.size := rfl
    omega
  have hsl : s.data.toList.length = s.size := by simp
  refine .inr ⟨w.heap.size, grownCap w s.size 0 E, by rw [hsl], Nat.le_refl _, by rw [Lib.bytesWorld_size]; omega, by omega, grownCap_le_maxLen w s.size 0 E hm, fun j hj => ⟨?_, ?_⟩, fun j u hu => ?_⟩
  · rw [cell_of_row _ _ j _ _ _ (Lib.bytesWorld_at_new w E s)]
    simp [show j < (Lib.bytesCells w E s).size by omega]
  · simp only [World.frozen?, Lib.bytesWorld_at_new]
    simp
    omega
  · have hj : j < s.size := by
      have := (List.getElem?_eq_some_iff.1 hu).1
      rw [length_cells] at this
      omega
    rw [Lib.bytesWorld_cell w E s j hj, ← hu]
    simp [cells, cell, hj]
end
end

/-! ### As the walk meets them -/
section
variable {P : Program} {w : World} {B : Nat} {v : Value} {l : List UInt8} {T E : TypeId} {ops : Array Oper} {rest : List Oper} {o : Oper} {a : Act} {Q : Exit → Act → World → Prop}
theorem wpList_bytes (k : Ty P T E) (hgd : o.guard = none) (src : TypeId) (x : Operand) (ho : o.op = .convert src T x) (hs : P.underlying src = some .string) (s : ByteArray) (hx : a.eval x = .string s) (hm : s.size ≤ maxLen)
    (h : ∀ v' w', Bs w' w.heap.size v' s.data.toList → w.grownBy w' none → wpList P ops Q rest (a.put o.dst v') w') : wpList P ops Q (o :: rest) a w := by
  obtain ⟨v', w', hr, h1, h2⟩ := run_bytes k src hs s hm w
  refine wpList_plain hgd fun K hK => ?_
  unfold Oper.wp execOp
  simp only [ho, hx, Sem.run_bind, hr, Result.andThen_ok, Sem.run_pure]
  exact hK _ _ (h v' w' h1 h2)
theorem wpList_string (k : Ty P T E) (hgd : o.guard = none) (dst : TypeId) (x : Operand) (ho : o.op = .convert T dst x) (hd : P.underlying dst = some .string) (hx : a.eval x = v) (hb : Bs w B v l)
    (h : wpList P ops Q rest (a.put o.dst (.string ⟨l.toArray⟩)) w) : wpList P ops Q (o :: rest) a w := by
  have hr := run_string k dst hd hb
  refine wpList_plain hgd fun K hK => ?_
  unfold Oper.wp execOp
  simp only [ho, hx, Sem.run_bind, hr, Result.andThen_ok, Sem.run_pure]
  exact hK _ _ h
/-- append(v, b), b one byte: it lies in a row that was made for it. -/
theorem wpList_append1 (k : Ty P T E) (hgd : o.guard = none) (s x : Operand) (ho : o.op = .call { callee := .builtin .append, args := #[s, x], argTypes := #[T, T] }) (hs : a.eval s = v) (hb : Bs w B v l) (hB : B ≤ w.heap.size)
    (b : UInt8) (n : Int) (hn : n = b.toNat) (hx : a.eval x = .slice (some ⟨w.heap.size, 0, none⟩) 1 1) (hlen : l.length + 1 ≤ 140737488355328)
    (h : ∀ v' w', Bs w' B v' (l ++ [b]) → w.grownBy w' v.ownBlock → wpList P ops Q rest (a.put o.dst v') w') : wpList P ops Q (o :: rest) a (w.alloc (.cells #[.int .u8 n] E)) := by
  subst hn
  obtain ⟨v', w', hr, h1, h2⟩ := run_append k o.type (hb.alloc (.cells #[cell b] E)) (by simp; omega) ⟨w.heap.size, 0, none⟩ 1 1 [b] rfl (cell_one_new w (cell b) E) hlen
  refine wpList_plain hgd fun K hK => ?_
  unfold Oper.wp execOp
  simp only [ho, resolve, invoke, builtin, Sem.run_bind, Sem.run_pure, Result.andThen_ok, List.map_toArray, List.map_cons, List.map_nil, hs, hx]
  unfold cell at hr
  rw [hr]
  exact hK _ _ (h v' w' h1 ((World.grownBy_alloc w _ _).trans h2))
/-- append(v, x...), x a string. -/
theorem wpList_append_str (k : Ty P T E) (hgd : o.guard = none) (s x : Operand) (u : TypeId) (ho : o.op = .call { callee := .builtin .append, args := #[s, x], argTypes := #[T, u] }) (hu : P.underlying u = some .string)
    (hs : a.eval s = v) (hb : Bs w B v l) (hB : B ≤ w.heap.size) (t : ByteArray) (hx : a.eval x = .string t) (hlen : l.length + t.size ≤ 140737488355328)
    (h : ∀ v' w', Bs w' B v' (l ++ t.data.toList) → w.grownBy w' v.ownBlock → wpList P ops Q rest (a.put o.dst v') w') : wpList P ops Q (o :: rest) a w := by
  obtain ⟨v', w', hr, h1, h2⟩ := run_append_str k u o.type hu hb hB t hlen
  refine wpList_plain hgd fun K hK => ?_
  unfold Oper.wp execOp
  simp only [ho, resolve, invoke, builtin, Sem.run_bind, Sem.run_pure, Result.andThen_ok, List.map_toArray, List.map_cons, List.map_nil, hs, hx, hr]
  exact hK _ _ (h v' w' h1 h2)
end

end By
end Go.Proofs.YtjnhhkiabdbenaaDoor
