/-
  A list of acts, where it lies; a store between acts.
-/
import Derived.Test.YtjmblgahoejoiaaGreatDoorSact
import Derived.Test.YtjmblgahoejoiaaGreatDoorSbox
import Derived.Test.YtjmblgahoejoiaaGreatDoorPput
import Derived.Test.YtjmblgahoejoiaaGreatDoorTup
import Derived.Deep.DeepCutAuto
import Derived.Deep.CutBlock
namespace Go.Proofs.YtjmblgahoejoiaaGreatDoor
open Go.RowKit Tx
namespace St

structure OneAct (w : World) (g off : Nat) (a : Act) : Prop where
  ok : a.ok
  c0 : w.cell? ⟨g, off, none⟩ = some (.int .u8 a.what)
  c1 : w.cell? ⟨g, off + 1, none⟩ = some (.int .u8 a.path)
  c2 : w.cell? ⟨g, off + 2, none⟩ = some (.int .u8 a.kind)
  c3 : w.cell? ⟨g, off + 3, none⟩ = some (.int .u8 a.mode)
  c4 : w.cell? ⟨g, off + 4, none⟩ = some (.int .u8 a.data)
/-- The slice at A holds n acts. -/
def Acts (w : World) (A : Option Addr) (n : Nat) : Prop := ∀ i, i < n → ∃ g off a, A = some ⟨g, off, none⟩ ∧ g < w.heap.size ∧ OneAct w g (off + i * 5) a
theorem OneAct.keep {w w' : World} {g off : Nat} {a : Act} (h : OneAct w g off a) (hb : w'.heap[g]? = w.heap[g]?) : OneAct w' g off a :=
  ⟨h.ok, (World.cell?_of_block (a := ⟨g, off, none⟩) hb).trans h.c0, (World.cell?_of_block (a := ⟨g, off + 1, none⟩) hb).trans h.c1, (World.cell?_of_block (a := ⟨g, off + 2, none⟩) hb).trans h.c2, (World.cell?_of_block (a := ⟨g, off + 3, none⟩) hb).trans h.c3, (World.cell?_of_block (a := ⟨g, off + 4, none⟩) hb).trans h.c4⟩
theorem Acts.below {w w' : World} {A : Option Addr} {n : Nat} (h : Acts w A n) (hb : Below w.heap.size w w') : Acts w' A n := fun i hi => by
  obtain ⟨g, off, a, hA, hg, ho⟩ := h i hi
  exact ⟨g, off, a, hA, Nat.lt_of_lt_of_le hg hb.size, ho.keep (hb.block g hg)⟩

def actC (a : Act) : Array Value := #[.int .u8 a.what, .int .u8 a.path, .int .u8 a.kind, .int .u8 a.mode, .int .u8 a.data]
/-- The store between acts; w: where the law began; la: the last act, in its box. -/
structure PIn (w wr : World) (la : Act) (g b n : Nat) (t : Tree) : Prop where
  p : PSto wr g b n lvNone t
  below : Below w.heap.size w wr
  box : wr.heap[w.heap.size]? = some (.cells (actC la) 34 (0, 0))
  hg : w.heap.size < g
  hb : w.heap.size < b
section
variable {w wr w2 : World} {la : Act} {g b n : Nat} {t : Tree}
theorem PIn.on (h : PIn w wr la g b n t) (hb : Below wr.heap.size wr w2) : PIn w w2 la g b n t :=
  ⟨h.p.below hb, h.below.trans (hb.mono h.below.size), (hb.block _ (blk h.box)).trans h.box, h.hg, h.hb⟩
theorem PIn.drew (h : PIn w wr la g b n t) : PIn w wr.drew la g b n t := h.on (Below.refl _ _).drew
theorem PIn.alloc (h : PIn w wr la g b n t) (o : Obj) : PIn w (wr.alloc o) la g b n t := h.on ((Below.refl _ _).alloc (Nat.le_refl _) _)
theorem PIn.put (h : PIn w wr la g b n t) {t' : Tree} {m : Nat} (hp : PSto w2 g b m lvNone t') (ho : Only (· = b) wr w2) : PIn w w2 la g b m t' :=
  ⟨hp, h.below.trans (ho.toBelow (fun k hk e => by have := h.hb; omega) h.below.size), (ho.block _ (blk h.box) (fun e => by have := h.hb; omega)).trans h.box, h.hg, h.hb⟩
theorem PIn.kit (h : PIn w wr la g b n t) (hK : Tup.Kit w) : Tup.Kit wr := hK.below h.below
end
/-- An act's entry in letters. -/
theorem entA_cases (a : Act) (ha : a.ok) : ∃ (kn mn : Nat) (d : ByteArray), entA a = ⟨kn, mn, d⟩ ∧ kn ≤ 3 ∧ mn ≤ 7 ∧ d.size ≤ 10 ∧ (kn ≠ 0 → valid ⟨kn, mn, d⟩) ∧
    ∀ w, Calls Tryz.prog 13 #[.agg #[.int .u8 a.what, .int .u8 a.path, .int .u8 a.kind, .int .u8 a.mode, .int .u8 a.data]] w fun e w' => e = .returned (.agg #[.int .i64 (kn : Int), .int .i64 (mn : Int), .string d]) ∧ Below w.heap.size w w' :=
  ⟨a.kind % 4, a.mode % 8, _, rfl, by omega, by omega, entA_small a, fun h => entA_valid a h, fun w => entry_act a ha w⟩
theorem put_letters (g b n : Nat) (t : Tree) (s : ByteArray) (k m : Int) (d : ByteArray) (w : World) (h : PSto w g b n lvNone t) (hs : s.size ≤ maxLen) (hn : n < 100000) :
    Calls Tryz.prog 10 #[.pointer (some ⟨g, 0, none⟩), .string s, .agg #[.int .i64 k, .int .i64 m, .string d]] w fun e w' => e = .returned (.tuple #[]) ∧ Kept (PSto w' g b (n + 1) lvNone (put t s ⟨k, m, d⟩)) ∧ Only (· = b) w w' :=
  put_none g b n t s ⟨k, m, d⟩ w h hs hn
theorem place_max (n : Nat) : (place n).size ≤ maxLen := by have := place_small n; unfold maxLen; omega
end St
end Go.Proofs.YtjmblgahoejoiaaGreatDoor
