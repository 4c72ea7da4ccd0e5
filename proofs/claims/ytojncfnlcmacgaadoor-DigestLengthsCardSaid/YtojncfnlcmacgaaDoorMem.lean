/-
  Arrays of words in memory: a block that holds a list of words, and what keeps it.
-/
import Derived.Test.YtojncfnlcmacgaaDoorSha
import Derived.Below
import Derived.Deep.Draws
import Derived.Laws.Rows
import Derived.Laws.Tables
import Derived.Deep.MidRow
import Derived.Still
namespace Go.Proofs.YtojncfnlcmacgaaDoor
open Go.RowKit
namespace Sha

/-- A fact that no tactic looks into. -/
structure Kept (p : Prop) : Prop where
  out : p

def val (x : UInt32) : Value := .int .u32 x.toNat
def cellsOf (l : List UInt32) : Array Value := (l.map val).toArray
theorem size_cellsOf (l : List UInt32) : (cellsOf l).size = l.length := by simp [cellsOf]
theorem get_cellsOf (l : List UInt32) (i : Nat) (h : i < l.length) : (cellsOf l)[i]? = some (.int .u32 (l.getD i 0).toNat) := by
  simp [cellsOf, h, val]
theorem set_cellsOf (l : List UInt32) (i : Nat) (x : UInt32) : (cellsOf l).setIfInBounds i (val x) = cellsOf (l.set i x) := by
  apply Array.ext'
  simp [cellsOf, List.map_set]
theorem one_cellsOf (l : List UInt32) : (cellsOf l).all (·.oneCell') = true := by
  rw [Array.all_eq_true_iff_forall_mem]
  intro v hv
  obtain ⟨x, _, rfl⟩ := List.mem_map.1 (by simpa [cellsOf] using hv)
  rfl

/-- Block g is an array of type t with these words. -/
def Lies (w : World) (g : Nat) (t : TypeId) (l : List UInt32) : Prop := w.heap[g]? = some (.cells (cellsOf l) t (0, 0))

section
variable {w w' : World} {g : Nat} {t : TypeId} {l : List UInt32}
theorem Lies.lt (h : Lies w g t l) : g < w.heap.size := by
  rcases Nat.lt_or_ge g w.heap.size with h1 | h1
  · exact h1
  · unfold Lies at h; rw [Array.getElem?_eq_none h1] at h; cases h
theorem Lies.cell (h : Lies w g t l) (i : Nat) (hi : i < l.length) : w.cell? ⟨g, i, none⟩ = some (.int .u32 (l.getD i 0).toNat) := by
  rw [cell_of_row w g i _ t (0, 0) h]
  exact get_cellsOf l i hi
theorem Lies.free (h : Lies w g t l) (i : Nat) : w.frozen? ⟨g, i, none⟩ = false := frozen_of_row w g i _ t h
theorem Lies.put (h : Lies w g t l) (i : Nat) (x : UInt32) : Lies (w.setCell ⟨g, i, none⟩ (.int .u32 x.toNat)) g t (l.set i x) := by
  have := heap_setCell_same w g i _ t (val x) h
  rw [set_cellsOf] at this
  exact this
theorem Lies.put2 (h : Lies w g t l) (i : Nat) (x : UInt32) (n : Int) (hn : n = x.toNat) : Lies (w.setCell ⟨g, i, none⟩ (.int .u32 n)) g t (l.set i x) := by
  subst hn
  exact h.put i x
theorem Lies.row2 (h : Lies w g t l) {cs : Array Value} {m : List UInt32} (hc : cs = cellsOf m) : Lies (w.setRow g cs) g t m := by
  subst hc
  exact setRow_heap w g _ _ t _ h
theorem Lies.src (h : Lies w g t l) (m : Nat) : ∀ j v, ((l.take m).map val)[j]? = some v → w.cell? ((⟨g, 0, none⟩ : Addr).add j) = some v := by
  intro j v hv
  have hadd : (⟨g, 0, none⟩ : Addr).add j = ⟨g, j, none⟩ := by unfold Addr.add; split <;> simp_all
  rw [hadd, cell_of_row w g j _ t (0, 0) h]
  simp only [List.getElem?_map, List.getElem?_take] at hv
  split at hv
  · simpa [cellsOf] using hv
  · cases hv
theorem Lies.far (h : Lies w g t l) {a : Addr} (ha : g ≠ a.block) (v : Value) : Lies (w.setCell a v) g t l := (heap_setCell_other w a g v ha).trans h
theorem Lies.alloc (h : Lies w g t l) (o : Obj) : Lies (w.alloc o) g t l := (heap_alloc_old w o g h.lt).trans h
theorem Lies.drawn (h : Lies w g t l) (n : Nat) : Lies (w.drewN n) g t l := h
theorem Lies.below {B : Nat} (h : Lies w g t l) (hb : Below B w w') (hg : g < B) : Lies w' g t l := (hb.block g hg).trans h
theorem Lies.row (h : Lies w g t l) (m : List UInt32) : Lies (w.setRow g (cellsOf m)) g t m := setRow_heap w g _ _ t _ h
theorem Lies.rowFar (h : Lies w g t l) {k : Nat} (hk : g ≠ k) (cs : Array Value) : Lies (w.setRow k cs) g t l := (setRow_other w k g cs hk).trans h
theorem Lies.made {w : World} {t : TypeId} {l : List UInt32} {cs : Array Value} {g : Nat} (h : cs = cellsOf l) (hg : w.heap.size = g) : Lies (w.alloc (.cells cs t)) g t l := by
  subst h hg
  exact heap_alloc_new w _
theorem Lies.new (w : World) (t : TypeId) (l : List UInt32) : Lies (w.alloc (.cells (cellsOf l) t)) w.heap.size t l := heap_alloc_new w _
end

theorem below_drewN {B : Nat} {a w : World} (h : Below B a w) (n : Nat) : Below B a (w.drewN n) := ⟨h.os, h.tape, h.output, h.size, h.block⟩
theorem below_setRow {B g : Nat} {a w : World} (h : Below B a w) (hg : B ≤ g) (cs : Array Value) : Below B a (w.setRow g cs) :=
  h.trans ⟨rfl, rfl, rfl, by simp, fun k hk => setRow_other _ _ _ _ (by omega)⟩

/-- Of the blocks from b0 on the first two are arrays of 64 words: one for the answer, and one that is written. -/
structure Two (t : TypeId) (w wr : World) (l : List UInt32) : Prop where
  below : Below w.heap.size w wr
  first : Lies wr w.heap.size t (List.replicate 64 0)
  second : Lies wr (w.heap.size + 1) t l
theorem Two.put {t : TypeId} {w wr : World} {l : List UInt32} (h : Two t w wr l) (n i : Nat) (x : UInt32) :
    Two t w ((wr.drewN n).setCell ⟨w.heap.size + 1, i, none⟩ (.int .u32 x.toNat)) (l.set i x) :=
  ⟨(below_drewN h.below n).setCell (by simp) _, (h.first.drawn n).far (by simp) _, (h.second.drawn n).put i x⟩

theorem Two.put2 {t : TypeId} {w wr : World} {l : List UInt32} (h : Two t w wr l) (i : Nat) (x : UInt32) (n : Int) (hn : n = x.toNat) :
    Two t w ((wr.setCell ⟨w.heap.size + 1, i, none⟩ (.int .u32 n)).drew) (l.set i x) := by
  subst hn
  exact ⟨(h.below.setCell (by simp) _).drew, h.first.far (by simp) _, h.second.put i x⟩
theorem sum4 (a b c d : UInt32) : ((a.toNat : Int) + (b.toNat : Int) + (c.toNat : Int) + (d.toNat : Int)) % 4294967296 = ((a + b + c + d).toNat : Int) := by
  simp only [UInt32.toNat_add]; omega
theorem sched2_next (l : List UInt8) (i : Nat) (h : 16 ≤ i) : sched2 l (i + 1 - 16) = (sched2 l (i - 16)).set i (nextW (sched2 l (i - 16)) i) := by
  obtain ⟨n, rfl⟩ : ∃ n, i = 16 + n := ⟨i - 16, by omega⟩
  rw [show 16 + n + 1 - 16 = n + 1 by omega, show 16 + n - 16 = n by omega]
  rfl

theorem sched1_length (l : List UInt8) : ∀ n, (sched1 l n).length = 64
  | 0 => by simp [sched1]
  | n + 1 => by simp [sched1, sched1_length l n]
theorem sched2_length (l : List UInt8) : ∀ n, (sched2 l n).length = 64
  | 0 => by simp [sched2, sched1_length]
  | n + 1 => by simp [sched2, sched2_length l n]

theorem list_at (s : ByteArray) (i : Nat) (h : i < s.size) : s.data.toList.getD i 0 = s[i] := by
  have h' : i < s.data.toList.length := by simpa using h
  rw [List.getD_eq_getElem?_getD, List.getElem?_eq_getElem h']
  rfl
theorem word_val (a b c d : UInt8) :
    bits .or .u32 (bits .or .u32 (bits .or .u32 ((a.toNat : Int) % 4294967296 * 16777216 % 4294967296) ((b.toNat : Int) % 4294967296 * 65536 % 4294967296)) ((c.toNat : Int) % 4294967296 * 256 % 4294967296)) ((d.toNat : Int) % 4294967296) = ((word a b c d).toNat : Int) := by
  have e : ∀ x : UInt8, (x.toNat : Int) % 4294967296 = (x.toUInt32.toNat : Int) := fun x => by
    have := x.toNat_lt
    simp; omega
  rw [e a, e b, e c, e d]
  have h1 := b_shl a.toUInt32 24 16777216 (by decide)
  have h2 := b_shl b.toUInt32 16 65536 (by decide)
  have h3 := b_shl c.toUInt32 8 256 (by decide)
  simp only [Int.cast_ofNat_Int] at h1 h2 h3
  rw [h1, h2, h3, b_or, b_or, b_or]
  rfl

theorem Lies.range {w : World} {g : Nat} {t : TypeId} {l : List UInt32} (h : Lies w g t l) : w.rangeAt g 0 (l.map val) := by
  intro j v hv
  rw [Nat.zero_add, cell_of_row w g j _ t (0, 0) h]
  simpa [cellsOf] using hv
theorem Lies.load {P : Program} {w : World} {g : Nat} {t : TypeId} {l : List UInt32} (h : Lies w g t l) {d : TypeDesc} (hu : P.underlying t = some d) (hd : d.isRow = true)
    (hi : (P.info? t).map (·.size) = some (cellsOf l).size) : (Instr.loadAt t (.pointer (some ⟨g, 0, none⟩))).run P w = .ok (.agg (cellsOf l)) w :=
  run_loadAt_mid w g 0 t (l.map val) d h.range hu hd (by rw [hi, size_cellsOf, List.length_map])
/-- A whole array is loaded, in a region walked still. -/
theorem still_load_row {P : Program} {ops : Array Oper} {w : World} {Q : Act → Prop} {a : Act} {o : Oper} {rest : List Oper} (hg : o.guard = none) (ty : TypeId) (x : Operand) (ho : o.op = .load ty x)
    (v : Value) (hrun : (Instr.loadAt ty (a.eval x)).run P w = .ok v w) (h : wpStill P ops w Q rest (a.put o.dst v)) : wpStill P ops w Q (o :: rest) a := by
  refine wpStill_step fun K hK => ?_
  have hw : Region.wanted o (yielded ops a.tmps) = true := by simp [Region.wanted, hg]
  rw [if_pos hw]
  unfold Oper.still execOp
  simp only [ho, Sem.run_bind, hrun, Result.andThen_ok, Sem.run_pure, Oper.stillUpon]
  exact ⟨trivial, hK _ h⟩

end Sha
end Go.Proofs.YtojncfnlcmacgaaDoor
