/-
  The program's device: Write.
-/
import Derived.Test.YticgecbgeahijaaPtear
import Derived.Lib.LazyBuf
import Derived.StillTailTactics
namespace Go.Proofs.Yticgecbgeahijaa
open Go.RowKit Tx Dv
namespace Pd

theorem byteTy1 : (Try.prog.info? 5).map (·.size) = some 1 := by kernel_rfl
theorem byteSize (w : World) : (Go.sizeOf 5).run Try.prog w = .ok 1 w := by kernel_rfl

theorem sector64 {n : Nat} (h : n = 64) : (Try.prog.info? 53).map (·.size) = some n := by
  subst h
  kernel_rfl

/-- A new array of 64 bytes. -/
structure Fresh (w : World) (f : Nat) (l : List UInt8) : Prop where
  lt : f < w.heap.size
  row : Row64 w f 0 l
theorem Fresh.below {w w' : World} {f : Nat} {l : List UInt8} (h : Fresh w f l) (hb : w'.heap[f]? = w.heap[f]?) (hs : w.heap.size ≤ w'.heap.size) : Fresh w' f l :=
  ⟨Nat.lt_of_lt_of_le h.lt hs, fun i hi => (World.cell?_of_block (w := w) (a := ⟨f, 0 + i, none⟩) hb).trans (h.row i hi)⟩

theorem pad_getD (t : ByteArray) (i : Nat) : (pad (toL t)).getD i 0 = (toL t).getD i 0 := by
  unfold pad
  simp only [List.getD_eq_getElem?_getD]
  rw [List.getElem?_append]
  split
  · rfl
  · rename_i h
    rw [List.getElem?_eq_none (l := toL t) (by omega)]
    by_cases h2 : i - (toL t).length < 64 - (toL t).length
    · rw [List.getElem?_replicate, if_pos h2]; rfl
    · rw [List.getElem?_replicate, if_neg h2]

/-- copy(x[:], s), x an array that was just made. -/
theorem wpList_copy_pad {w : World} {T sT : TypeId} {ops : Array Oper} {rest : List Oper} {o : Oper} {a : Act} {Q : Exit → Act → World → Prop} (hgd : o.guard = none) (d s : Operand)
    (ho : o.op = .call { callee := .builtin .copy, args := #[d, s], argTypes := #[54, sT] }) (t : ByteArray) (ht : t.size ≤ 64)
    (hd : a.eval d = .slice (some ⟨w.heap.size, 0, none⟩) 64 64) (hs : a.eval s = .string t) (cs : Array Value) (hcs : cs = (By.cells (List.replicate 64 0)).toArray)
    (h : ∀ n w', Below w.heap.size w w' → Fresh w' w.heap.size (pad (toL t)) → wpList Try.prog ops Q rest (a.put o.dst n) w') : wpList Try.prog ops Q (o :: rest) a (w.alloc (.cells cs T)) := by
  subst hcs
  have hat : ∀ i, i < 64 → (w.alloc (.cells (By.cells (List.replicate 64 0)).toArray T)).cell? ⟨w.heap.size, i, none⟩ = some (By.cell 0) := fun i hi => by
    rw [cell_of_row _ _ i _ _ (0, 0) (heap_alloc_new w _)]
    rw [List.getElem?_toArray]
    unfold By.cells
    rw [List.map_replicate, List.getElem?_replicate, if_pos hi]
  have hr := Go.run_copy_string (P := Try.prog) (w.alloc (.cells (By.cells (List.replicate 64 0)).toArray T)) 54 sT o.type 5 w.heap.size 0 64 64 t Try.underlying54 byteSize ht
    (fun j hj => by rw [Nat.zero_add, hat j (by omega)]; rfl) (fun j hj => frozen_of_row _ _ _ _ _ (heap_alloc_new w _))
  refine wpList_plain hgd fun K hK => ?_
  unfold Oper.wp execOp
  simp only [ho, resolve, invoke, builtin, Sem.run_bind, Sem.run_pure, Result.andThen_ok, List.map_toArray, List.map_cons, List.map_nil, hd, hs, hr]
  refine hK _ _ (h _ _ ?_ ⟨?_, ?_⟩)
  · exact Go.below_setCells (Nat.le_refl _) _ _ _ ((Below.refl _ _).alloc (Nat.le_refl _) _)
  · have := (By.grown_setCells w.heap.size (t.data.toList.map fun x => Value.int .u8 (x.toNat : Int)) 0 (w.alloc (.cells (By.cells (List.replicate 64 0)).toArray T))).size
    have hz := World.size_alloc w (.cells (By.cells (List.replicate 64 0)).toArray T)
    omega
  · intro i hi
    rw [pad_getD]
    have hl : (t.data.toList.map fun x => Value.int .u8 (x.toNat : Int)).length = t.size := by simp
    by_cases h1 : i < t.size
    · rw [World.cell?_setCells_in w.heap.size _ 0 _ (fun j hj => by rw [Nat.zero_add, hat j (by omega)]; rfl) i (by omega)]
      have h2 : i < (toL t).length := by rw [toL_length]; exact h1
      rw [List.getElem_map, List.getD_eq_getElem?_getD, List.getElem?_eq_getElem h2]
      rfl
    · rw [World.cell?_setCells_out w.heap.size _ 0 _ _ (fun _ _ => .inr (by show 0 + _ ≤ 0 + i; omega)), Nat.zero_add, hat i hi]
      rw [List.getD_eq_getElem?_getD, List.getElem?_eq_none (by rw [toL_length]; omega)]
      rfl

theorem Fresh.range {w : World} {f : Nat} {l : List UInt8} (h : Fresh w f l) (hl : l.length = 64) : w.rangeAt f 0 (By.cells l) := by
  intro j v hv
  have hj : j < 64 := by
    have := (List.getElem?_eq_some_iff.1 hv).1
    rw [By.length_cells] at this
    omega
  rw [h.row j hj, ← hv]
  unfold By.cells
  rw [List.getElem?_map, List.getD_eq_getElem?_getD, List.getElem?_eq_getElem (by omega)]
  rfl
theorem load_sector {w : World} {f : Nat} {l : List UInt8} (h : Fresh w f l) (hl : l.length = 64) : (Instr.loadAt 53 (.pointer (some ⟨f, 0, none⟩))).run Try.prog w = .ok (.agg (By.cells l).toArray) w :=
  run_loadAt_mid w f 0 53 (By.cells l) _ (h.range hl) Try.underlying53 rfl (sector64 (by rw [By.length_cells, hl]))
/-- A whole array is loaded, in a region walked still. -/
theorem still_load_row {P : Program} {ops : Array Oper} {w : World} {Q : Act → Prop} {a : Act} {o : Oper} {rest : List Oper} (hg : o.guard = none) (ty : TypeId) (x : Operand) (ho : o.op = .load ty x)
    (v : Value) (hrun : (Instr.loadAt ty (a.eval x)).run P w = .ok v w) (h : wpStill P ops w Q rest (a.put o.dst v)) : wpStill P ops w Q (o :: rest) a := by
  refine wpStill_step fun K hK => ?_
  have hw : Region.wanted o (yielded ops a.tmps) = true := by simp [Region.wanted, hg]
  rw [if_pos hw]
  unfold Oper.still execOp
  simp only [ho, Sem.run_bind, hrun, Result.andThen_ok, Sem.run_pure, Oper.stillUpon]
  exact ⟨trivial, hK _ h⟩
theorem tore_setCells (w : World) (r o : Nat) (l : List UInt8) (hl : l.length = 64) (hc : ∀ i, i < 64 → (w.cell? ⟨r, o + i, none⟩).isSome = true) : Tore w (w.setCells r o (By.cells l)) r o l := by
  have hlc : (By.cells l).length = 64 := by rw [By.length_cells, hl]
  have hg := By.grown_setCells r (By.cells l) o w
  refine ⟨⟨hg.os, hg.tape, hg.output, hg.size, fun k hk hn => hg.block k hk (fun e => hn (by injection e))⟩, fun i hi => ?_, fun j hj => ?_, fun j => World.frozen?_setCells _ _ _ _ _⟩
  · rw [World.cell?_setCells_in r _ o w (fun j hj => hc j (by omega)) i (by omega)]
    unfold By.cells
    rw [List.getElem_map, List.getD_eq_getElem?_getD, List.getElem?_eq_getElem (by omega)]
    rfl
  · exact World.cell?_setCells_out r _ o w _ (fun _ _ => by show j < o ∨ o + _ ≤ j; omega)
/-- A whole sector is stored. -/
theorem wpList_store_sector {w : World} {ops : Array Oper} {rest : List Oper} {op : Oper} {a : Act} {Q : Exit → Act → World → Prop} (hgd : op.guard = none) (x y : Operand) (ho : op.op = .store 53 x y)
    (r o : Nat) (l : List UInt8) (hl : l.length = 64) (hx : a.eval x = .pointer (some ⟨r, o, none⟩)) (hy : a.eval y = .agg (By.cells l).toArray)
    (hc : ∀ i, i < 64 → (w.cell? ⟨r, o + i, none⟩).isSome = true ∧ w.frozen? ⟨r, o + i, none⟩ = false)
    (h : ∀ w', Tore w w' r o l → wpList Try.prog ops Q rest (a.put op.dst undef) w') : wpList Try.prog ops Q (op :: rest) a w := by
  have hs : (By.cells l).toArray.size = 64 := by simp [By.length_cells, hl]
  refine wpList_store_mid hgd 53 x y ho r o (By.cells l).toArray hx hy (fun j hj => hc j (by omega)) (sector64 hs) (all_oneCell_toArray (By.one_cells l)) (h _ ?_)
  exact tore_setCells w r o l hl (fun i hi => (hc i hi).1)

/-- The device, a sector of which was written. -/
theorem DevAt.tore {w w' : World} {g r : Nat} {D : Disk} {lim : Bool} {pw : Int} (h : DevAt w g r D lim pw) {j : Nat} (hj : j < D.S.length) {l : List UInt8} (hl : l.length = 64) (ht : Tore w w' r (j * 64) l) : DevAt w' g r ⟨D.S.set j l, D.power, D.mask⟩ lim pw := by
  have hg : w'.heap[g]? = w.heap[g]? := ht.only.block g h.lt (fun e => h.apart e.symm)
  refine ⟨Nat.lt_of_lt_of_le h.lt ht.only.size, Nat.lt_of_lt_of_le h.rlt ht.only.size, h.apart, by rw [List.length_set]; exact (World.cell?_of_block (w := w) (a := ⟨g, 0, none⟩) hg).trans h.c0, (World.cell?_of_block (w := w) (a := ⟨g, 1, none⟩) hg).trans h.c1, (World.cell?_of_block (w := w) (a := ⟨g, 2, none⟩) hg).trans h.c2,
    (World.cell?_of_block (w := w) (a := ⟨g, 3, none⟩) hg).trans h.c3, fun i hi => (World.frozen?_of_block (w := w) (a := ⟨g, i, none⟩) hg).trans (h.free i hi), fun k i hk hi => ?_, fun k i hk hi => (ht.soft _).trans (h.soft k i (by rw [List.length_set] at hk; exact hk) hi), h.power, h.pw0, h.pw1,
    ⟨fun s hs => ?_, by rw [List.length_set]; exact h.ok.few, h.ok.low, h.ok.high, h.ok.mask⟩⟩
  · rw [List.length_set] at hk
    by_cases e : k = j
    · subst e
      rw [ht.row i hi]
      unfold byteAt
      simp [hk]
    · rw [ht.out _ (by omega), h.cells k i hk hi]
      unfold byteAt
      simp [List.getElem?_set_ne (show j ≠ k from fun e2 => e e2.symm)]
  · rcases List.mem_or_eq_of_mem_set hs with h1 | h1
    · exact h.ok.each s h1
    · rw [h1]; exact hl
theorem DevAt.spot {w : World} {g r : Nat} {D : Disk} {lim : Bool} {pw : Int} (h : DevAt w g r D lim pw) {j : Nat} (hj : j < D.S.length) : Row64 w r (j * 64) (D.at j) := fun i hi => h.cells j i hj hi
theorem DevAt.place {w : World} {g r : Nat} {D : Disk} {lim : Bool} {pw : Int} (h : DevAt w g r D lim pw) {j : Nat} (hj : j < D.S.length) : ∀ i, i < 64 → (w.cell? ⟨r, j * 64 + i, none⟩).isSome = true ∧ w.frozen? ⟨r, j * 64 + i, none⟩ = false :=
  fun i hi => ⟨by rw [h.cells j i hj hi]; rfl, h.soft j i hj hi⟩
end Pd
end Go.Proofs.Yticgecbgeahijaa
