/-
  Layer 2's program in memory (as layer 5 meets it: no error of the library's): what the calls ask of it (Kit), lists of texts that are read (Rd), lengths.
-/
import Derived.Test.YtjmblgahoejoiaaGreatDoorShelf
import Derived.Test.YtjmblgahoejoiaaGreatDoorNetLib
import Derived.Test.YtjmblgahoejoiaaGreatDoorOwn
import Derived.Lib.LaidTab
import Derived.Lib.AppendIntMem
import Derived.Deep.Draws
import Derived.Deep.DrawnRows
import Derived.LoopTactic
import Derived.Still
namespace Go.Proofs.YtjmblgahoejoiaaGreatDoor
open Go.RowKit Net
namespace Tup

/-- A fact that no tactic looks into. -/
structure Kept (p : Prop) : Prop where
  out : p

theorem below_drewN {B : Nat} {a w : World} (h : Below B a w) (n : Nat) : Below B a (w.drewN n) := ⟨h.os, h.tape, h.output, h.size, h.block⟩

/-- The library's variables that calls read. -/
structure Kit (w : World) : Prop where
  tab : Lib.TabIs Tryz.prog w "internal/strconv.uint64pow10" .u64 Lib.pow10Tab
  max : ∃ m, w.cell? ⟨0, 0, none⟩ = some (.int .i64 m)

theorem var_below {P : Program} {w w' : World} {n : String} {cs : Array Value} (hb : Below w.heap.size w w') (h : w.var? P n = some cs) : w'.var? P n = some cs := by
  unfold World.var? at h ⊢
  cases hg : P.globalNamed n with
  | none => rw [hg] at h; cases h
  | some g =>
    rw [hg] at h
    simp only [Option.bind_some] at h ⊢
    have hlt : g < w.heap.size := by
      rcases Nat.lt_or_ge g w.heap.size with h1 | h1
      · exact h1
      · rw [Array.getElem?_eq_none h1] at h; cases h
    rw [hb.block g hlt]
    exact h
theorem Kit.below {w w' : World} (h : Kit w) (hb : Below w.heap.size w w') : Kit w' := by
  obtain ⟨h1, m, h3⟩ := h
  refine ⟨var_below hb h1, m, ?_⟩
  have hlt := World.block_lt_of_cell? w _ h3
  rw [hb.cell hlt]
  exact h3
/-- Below B all that is asked holds, whatever else is done. -/
def KitB (B : Nat) (w : World) : Prop := ∀ w', Below B w w' → Kit w'
theorem Kit.toB {w : World} (h : Kit w) : KitB w.heap.size w := fun _ hb => h.below hb
theorem KitB.kit {B : Nat} {w : World} (h : KitB B w) : Kit w := h w (Below.refl _ _)
theorem KitB.below {B : Nat} {w w' : World} (h : KitB B w) (hb : Below B w w') : KitB B w' := fun _ h2 => h _ (hb.trans h2)
theorem KitB.tab {B : Nat} {w : World} (h : KitB B w) : Lib.TabBelow Tryz.prog B w "internal/strconv.uint64pow10" .u64 Lib.pow10Tab := fun w' hb => (h w' hb).tab

/-- The slice at A holds the texts l. -/
def Rd (w : World) (A : Option Addr) (l : List ByteArray) : Prop := ∀ j (hj : j < l.length), ∃ g off, A = some ⟨g, off, none⟩ ∧ g < w.heap.size ∧ w.cell? ⟨g, off + j, none⟩ = some (.string l[j])
theorem Rd.below {w w' : World} {A : Option Addr} {l : List ByteArray} (h : Rd w A l) (hb : Below w.heap.size w w') : Rd w' A l := by
  intro j hj
  obtain ⟨g, off, e, hg, hc⟩ := h j hj
  exact ⟨g, off, e, Nat.lt_of_lt_of_le hg hb.size, (hb.cell hg).trans hc⟩
theorem Rd.of_at {w : World} {g off : Nat} {l : List ByteArray} (h : Own.At Value.string w g off l) : Rd w (some ⟨g, off, none⟩) l :=
  fun j hj => ⟨g, off, rfl, h.1, h.cell j hj⟩
theorem Rd.nil (w : World) (A : Option Addr) : Rd w A [] := fun j hj => by simp at hj
theorem Rd.at {w : World} {g off : Nat} {l : List ByteArray} (hg : g < w.heap.size) (h : Rd w (some ⟨g, off, none⟩) l) : Own.At Value.string w g off l := by
  refine ⟨hg, fun j u hu => ?_⟩
  rw [List.getElem?_map, Option.map_eq_some_iff] at hu
  obtain ⟨x, hx, rfl⟩ := hu
  obtain ⟨hj, rfl⟩ := List.getElem?_eq_some_iff.1 hx
  obtain ⟨g', off', e, _, hc⟩ := h j hj
  injection e with e
  injection e with e1 e2
  subst e1 e2
  exact hc
/-- A slice of the call's own, read. -/
theorem Rd.of_es {w : World} {B : Nat} {v : Value} {l : List ByteArray} (h : Own.Es Value.string w B v l) : ∃ A k, v = .slice A l.length k ∧ Rd w A l := by
  rcases h with ⟨rfl, rfl⟩ | ⟨g, cap, rfl, h1, h2, h3, h4, h5, h6⟩
  · exact ⟨none, 0, rfl, Rd.nil _ _⟩
  · refine ⟨_, _, rfl, fun j hj => ⟨g, 0, rfl, h2, ?_⟩⟩
    rw [Nat.zero_add]
    exact h6 j _ (by simp [hj])

/-- The bytes of texts. -/
def toL (s : ByteArray) : List UInt8 := s.data.toList
def bs (l : List UInt8) : ByteArray := ⟨l.toArray⟩
theorem toL_bs (l : List UInt8) : toL (bs l) = l := by simp [toL, bs]
theorem bs_toL (s : ByteArray) : bs (toL s) = s := by cases s; simp [toL, bs]
theorem toL_length (s : ByteArray) : (toL s).length = s.size := by simp [toL]
theorem bs_size (l : List UInt8) : (bs l).size = l.length := by
  show (l.toArray).size = _
  simp
theorem toL_extract (s : ByteArray) (a b : Nat) : toL (s.extract a b) = ((toL s).drop a).take (b - a) := by
  unfold toL
  rw [ByteArray.data_extract, Array.toList_extract]
theorem toL_to (s : ByteArray) (b : Nat) : toL (s.extract 0 b) = (toL s).take b := by rw [toL_extract]; rfl
theorem toL_from (s : ByteArray) (a : Nat) : toL (s.extract a s.size) = (toL s).drop a := by
  rw [toL_extract, List.take_of_length_le (by rw [List.length_drop, toL_length]; omega)]
theorem beq_str (a b : ByteArray) : (a.toList == b.toList) = decide (a = b) := by
  rw [ByteArray.toList_eq, ByteArray.toList_eq]
  by_cases h : a = b
  · subst h; simp
  · rw [decide_eq_false h, beq_eq_false_iff_ne]
    intro e
    apply h
    cases a; cases b
    simpa using e
theorem toL_inj {a b : ByteArray} (h : toL a = toL b) : a = b := by rw [← bs_toL a, h, bs_toL]
theorem map_toL_inj : ∀ {l m : List ByteArray}, l.map toL = m.map toL → l = m
  | [], [], _ => rfl
  | [], _ :: _, h => by simp at h
  | _ :: _, [], h => by simp at h
  | a :: l, b :: m, h => by
    simp only [List.map_cons, List.cons.injEq] at h
    rw [toL_inj h.1, map_toL_inj h.2]
theorem map_bs_toL (l : List (List UInt8)) : (l.map bs).map toL = l := by
  rw [List.map_map]
  have : toL ∘ bs = id := funext toL_bs
  rw [this, List.map_id]
theorem map_toL_bs (l : List ByteArray) : (l.map toL).map bs = l := by
  rw [List.map_map]
  have : bs ∘ toL = id := funext bs_toL
  rw [this, List.map_id]

/-- How much texts are, one more for each. -/
def much (l : List ByteArray) : Nat := (l.map fun s => s.size + 1).sum
theorem much_append (l m : List ByteArray) : much (l ++ m) = much l + much m := by simp [much]
theorem much_take_succ (l : List ByteArray) (k : Nat) (hk : k < l.length) : much (l.take (k + 1)) = much (l.take k) + (l[k].size + 1) := by
  rw [List.take_succ_eq_append_getElem hk, much_append]
  simp [much]
theorem much_take_le (l : List ByteArray) (k : Nat) : much (l.take k) ≤ much l := by
  conv => rhs; rw [← List.take_append_drop k l]
  rw [much_append]
  omega
theorem much_length : ∀ l : List ByteArray, l.length ≤ much l
  | [] => by simp [much]
  | s :: l => by
    have := much_length l
    simp [much] at this ⊢
    omega
theorem much_mem {l : List ByteArray} {s : ByteArray} (h : s ∈ l) : s.size + 1 ≤ much l := by
  obtain ⟨a, b, rfl⟩ := List.append_of_mem h
  rw [much_append]
  simp [much]
  omega
end Tup
end Go.Proofs.YtjmblgahoejoiaaGreatDoor
