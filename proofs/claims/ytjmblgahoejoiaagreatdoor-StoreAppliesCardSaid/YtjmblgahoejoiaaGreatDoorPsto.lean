/-
  The program's store in memory: a pointer to two cells, a map behind the first; New.
-/
import Derived.Test.YtjmblgahoejoiaaGreatDoorSto
import Derived.Test.YtjmblgahoejoiaaGreatDoorTup
import Derived.WalkKit
import Derived.BigCall
import Derived.Carry
import Derived.Maps.OwnIn
namespace Go.Proofs.YtjmblgahoejoiaaGreatDoor
open Go.RowKit Go.Maps Tx
namespace St

theorem strK : Keyed Tryz.prog 9 := string_keyed Tryz.underlying9
theorem zeroEnt (w : World) : (zeroValue 37).run Tryz.prog w = .ok (entV zeroE) w := by kernel_rfl
theorem keyStr (s : ByteArray) (h : s.size ≤ maxLen) : keyOf Tryz.prog 9 (.string s) = some (key s) := WideMaps.keyOf_string_mk Tryz.underlying9 h

/-- The entry of a map's literal. -/
theorem wpList_insert_own {H : Type} {P : Program} (w : World) {ops : Array Oper} {rest : List Oper} {o : Oper} {a : Act} {Q : Exit → Act → World → Prop}
    (hg : o.guard = none) (m x v : Operand) (t : TypeId) (hop : o.op = Op.insert t m x v)
    (k e : TypeId) (K : Keyed P k) (ht : P.underlying t = some (.map k e)) (R : Value → Option (DataW H × List MemPlace)) (b n : Nat) (D : DataW H)
    (hm : a.eval m = .map (some b)) (hown : w.ownsMap P k R b n D) (hn : n < maxLen) (key val : Value) (kl : Lit) (hx : a.eval x = key) (hv : a.eval v = val) (hkey : keyOf P k key = some kl)
    (d : DataW H) (ps : List MemPlace) (hval : R val = some (d, ps))
    (hK : ∀ w', w'.ownsMap P k R b (n + 1) (D.put kl d) → w.grownBy w' (some b) → wpList P ops Q rest (a.put o.dst undef) w') :
    wpList P ops Q (o :: rest) a w := by
  refine wpList_plain hg fun K' hK' => ?_
  obtain ⟨w', hrun, r1, r2⟩ := hown.update K ht hn hkey hval
  unfold Oper.wp
  simp [execOp, hop, hm, hx, hv, hrun, Result.andThen]
  exact hK' _ _ (hK w' r1 r2)

/-- The store at g, its map b, of at most n entries; lv: its log. -/
structure PSto (w : World) (g b n : Nat) (lv : Value) (t : Tree) : Prop where
  lt : g < w.heap.size
  ne : g ≠ b
  c0 : w.cell? ⟨g, 0, none⟩ = some (.map (some b))
  c1 : w.cell? ⟨g, 1, none⟩ = some lv
  f1 : w.frozen? ⟨g, 1, none⟩ = false
  own : w.ownsMap Tryz.prog 9 entR b n (dat (all t))
  good : Good t
section
variable {w w' : World} {g b n : Nat} {lv : Value} {t : Tree}
theorem PSto.keep (h : PSto w g b n lv t) (hg : w'.heap[g]? = w.heap[g]?) (hb : w'.heap[b]? = w.heap[b]?) (hs : w.heap.size ≤ w'.heap.size) : PSto w' g b n lv t := by
  refine ⟨Nat.lt_of_lt_of_le h.lt hs, h.ne, (World.cell?_of_block (a := ⟨g, 0, none⟩) hg).trans h.c0, (World.cell?_of_block (a := ⟨g, 1, none⟩) hg).trans h.c1, (World.frozen?_of_block (a := ⟨g, 1, none⟩) hg).trans h.f1, ?_, h.good⟩
  obtain ⟨es, clock, hb0, F, hs, hD⟩ := h.own
  exact ⟨es, clock, hb.trans hb0, F, hs, hD⟩
theorem PSto.only {B : Nat → Prop} (h : PSto w g b n lv t) (ho : Only B w w') (hg : ¬ B g) (hb : ¬ B b) : PSto w' g b n lv t := h.keep (ho.block g h.lt hg) (ho.block b h.own.lt hb) ho.size
theorem PSto.below (h : PSto w g b n lv t) (hb : Below w.heap.size w w') : PSto w' g b n lv t := h.keep (hb.block g h.lt) (hb.block b h.own.lt) hb.size
theorem PSto.drew (h : PSto w g b n lv t) : PSto w.drew g b n lv t := h.keep rfl rfl (Nat.le_refl _)
theorem PSto.drewN (h : PSto w g b n lv t) (k : Nat) : PSto (w.drewN k) g b n lv t := h.keep rfl rfl (Nat.le_refl _)
theorem PSto.alloc (h : PSto w g b n lv t) (o : Obj) : PSto (w.alloc o) g b n lv t := h.below ((Below.refl _ _).alloc (Nat.le_refl _) _)
end
abbrev lvNone : Value := .pointer none

set_option maxRecDepth 100000 in
theorem new_any (w : World) : Calls Tryz.prog 6 #[] w fun e w' => ∃ g b, e = .returned (.pointer (some ⟨g, 0, none⟩)) ∧ w.heap.size ≤ g ∧ w.heap.size ≤ b ∧ Kept (PSto w' g b 1 lvNone []) ∧ Below w.heap.size w w' := by
  have hmm := @run_makeMap Tryz.prog
  go_enter Tryz.func6, Tryz.ntmps6
  go_wp2_with (first
    | (refine wpList_insert_own _ rfl _ _ _ 56 rfl 9 37 strK Tryz.underlying56 entR w.heap.size 0 (.map []) rfl (World.ownsMap_made _ _ _ _) (by unfold maxLen; omega) _ _ _ rfl rfl (keyStr emp (by decide)) (entD rootE) [] (entR_V rootE) ?_
       intro w1 hown1 hg1))
  go_ret
  have hs1 : w.heap.size + 1 ≤ w1.heap.size := by have := hg1.size; simpa using this
  have hb1 : Below w.heap.size w w1 := ((Below.refl _ _).alloc (Nat.le_refl _) _).grown hg1 (by simp) (fun k hk => by cases hk; exact Nat.le_refl _)
  refine ⟨w1.heap.size, w.heap.size, rfl, by omega, Nat.le_refl _, ⟨⟨by simp, by omega, cell_of_row _ _ _ _ _ (0, 0) (heap_alloc_new w1 _), cell_of_row _ _ _ _ _ (0, 0) (heap_alloc_new w1 _), frozen_of_row _ _ _ _ _ (heap_alloc_new w1 _), ?_, good_nil⟩⟩, hb1.alloc (by omega) _⟩
  exact hown1.alloc _
end St
end Go.Proofs.YtjmblgahoejoiaaGreatDoor
