/-
  Parts of the proof, merged.
-/
import Derived.BigCall
import Derived.BigGuardPart
import Derived.BigQuiet
import Derived.BigRegion
import Derived.Deep.CutBlock
import Derived.Deep.DeepCutAuto
import Derived.Deep.QuietTactic
import Derived.Deep.RegionHeld3
import Derived.Deep.RegionLaw
import Derived.Laws.AppendOwn
import Derived.Laws.Concat
import Derived.Laws.MakeOwn
import Derived.Laws.Pointers
import Derived.Laws.Shifts
import Derived.Laws.Slices
import Derived.Laws.Strings
import Derived.Laws.Unary
import Derived.Lib.AppendZeros
import Derived.OwnWalk
import Derived.StillTail
import Derived.StillTailTactics
import Derived.Test.YtlggpefmojacoaaGreatDoorLa01
import Derived.Test.YtlggpefmojacoaaGreatDoorLa25
import Derived.Test.YtlggpefmojacoaaGreatDoorProg
import Derived.WalkKit
namespace Go.Proofs.YtlggpefmojacoaaGreatDoor
section
open Go.RowKit Tx
namespace Va
def pv (v : Vr) : List Value := [.string v.name, .string v.value, .bool v.ex, .bool v.ro]
def pvl (l : List Vr) : List Value := l.flatMap pv
theorem pvl_cons (p : Vr) (t : List Vr) : pvl (p :: t) = pv p ++ pvl t := rfl
theorem pvl_app (l m : List Vr) : pvl (l ++ m) = pvl l ++ pvl m := by simp [pvl]
theorem pvl_one (v : Vr) : pvl [v] = pv v := by simp [pvl]
theorem pv_length (v : Vr) : (pv v).length = 4 := rfl
theorem pvl_length (t : List Vr) : (pvl t).length = t.length * 4 := by
 induction t with
 | nil => rfl
 | cons p t ih => rw [pvl_cons, List.length_append, ih, pv_length, List.length_cons]; omega
theorem pvl_drop : ∀ (n : Nat) (l : List Vr), pvl (l.drop n) = (pvl l).drop (n * 4)
 | 0, l => by simp
 | n + 1, [] => by simp [pvl]
 | n + 1, u :: l => by
   have h1 : (pv u).drop ((n + 1) * 4) = [] := List.drop_eq_nil_of_le (by rw [pv_length]; omega)
   rw [List.drop_succ_cons, pvl_drop n l, pvl_cons, List.drop_append, h1, List.nil_append, pv_length, show (n + 1) * 4 - 4 = n * 4 by omega]
theorem pvl_take : ∀ (n : Nat) (l : List Vr), pvl (l.take n) = (pvl l).take (n * 4)
 | 0, l => by simp [pvl]
 | n + 1, [] => by simp [pvl]
 | n + 1, u :: l => by
   have h1 : (pv u).take ((n + 1) * 4) = pv u := List.take_of_length_le (by rw [pv_length]; omega)
   rw [List.take_succ_cons, pvl_cons, pvl_take n l, pvl_cons, List.take_append, h1, pv_length, show (n + 1) * 4 - 4 = n * 4 by omega]
theorem pv_one (x : Vr) : ∀ u ∈ pv x, u.oneCell' = true := by
 intro u hp
 simp only [pv, List.mem_cons, List.not_mem_nil, or_false] at hp
 rcases hp with rfl | rfl | rfl | rfl <;> rfl
theorem pvl_ones (l : List Vr) : ∀ u ∈ pvl l, u.oneCell' = true := by
 intro u hu
 obtain ⟨v, _, h⟩ := List.mem_flatMap.1 hu
 exact pv_one v u h
structure VS (w : World) (A : Option Addr) (k : Nat) (l : List Vr) : Prop where
 cap : l.length ≤ k
 nil : A = none → k = 0
 mem : l ≠ [] → ∃ g off, A = some ⟨g, off, none⟩ ∧ g < w.heap.size ∧ ∀ j u, (pvl l)[j]? = some u → w.cell? ⟨g, off + j, none⟩ = some u
section
variable {w w' : World} {A : Option Addr} {k : Nat} {l : List Vr}
theorem VS.empty (w : World) : VS w none 0 [] := ⟨Nat.le_refl _, fun _ => rfl, fun h => absurd rfl h⟩
theorem VS.below (h : VS w A k l) (hb : Below w.heap.size w w') : VS w' A k l :=
 ⟨h.cap, h.nil, fun hl => by
   obtain ⟨g, off, h1, h3, h4⟩ := h.mem hl
   exact ⟨g, off, h1, Nat.lt_of_lt_of_le h3 hb.size, fun j u hu => (World.cell?_of_block (w := w) (a := ⟨g, off + j, Option.none⟩) (hb.block g h3)).trans (h4 j u hu)⟩⟩
theorem VS.at {v : Vr} (h : VS w A k l) {j : Nat} (hv : l[j]? = some v) : ∃ g off, A = some ⟨g, off, Option.none⟩ ∧ g < w.heap.size ∧ w.cell? ⟨g, off + j * 4, Option.none⟩ = some (.string v.name) ∧ w.cell? ⟨g, off + j * 4 + 1, Option.none⟩ = some (.string v.value) ∧ w.cell? ⟨g, off + j * 4 + 2, Option.none⟩ = some (.bool v.ex) ∧ w.cell? ⟨g, off + j * 4 + 3, Option.none⟩ = some (.bool v.ro) := by
 obtain ⟨hj, rfl⟩ := List.getElem?_eq_some_iff.1 hv
 obtain ⟨g, off, h1, h3, h4⟩ := h.mem (by intro e; subst e; simp at hj)
 have hd : pvl (l.drop j) = pv l[j] ++ pvl (l.drop (j + 1)) := by rw [List.drop_eq_getElem_cons hj, pvl_cons]
 rw [pvl_drop] at hd
 have e (i : Nat) (u : Value) (hi : (pv l[j])[i]? = some u) : w.cell? ⟨g, off + j * 4 + i, Option.none⟩ = some u := by
   rw [Nat.add_assoc]
   refine h4 _ _ ?_
   rw [← List.getElem?_drop, hd, List.getElem?_append_left]
   · exact hi
   · exact (List.getElem?_eq_some_iff.1 hi).1
 exact ⟨g, off, h1, h3, e 0 _ rfl, e 1 _ rfl, e 2 _ rfl, e 3 _ rfl⟩
end
theorem var_und : Tryz.prog.underlying 25 = some (.slice 31) := by kernel_rfl
theorem var_info : (Tryz.prog.info? 31).map (fun i => (i.zero, i.size, i.bytes)) = some (some (.agg #[.string ⟨#[]⟩, .string ⟨#[]⟩, .bool false, .bool false]), 4, 40) := by kernel_rfl
theorem var_und2 : Tryz.prog.underlying 25 = some (.slice (Tryz.prog.elem 25)) := by kernel_rfl
theorem var_four (W : World) : (sizeOf (Tryz.prog.elem 25)).run Tryz.prog W = .ok 4 W := by kernel_rfl
theorem var_from (A : Option Addr) (n k i : Nat) (h : i ≤ n) (W : World) : (Instr.slice 25 (.slice A n k) (some (.int .i64 (i : Int))) none none).run Tryz.prog W = .ok (sliced A i n k 4) W := by
 have h2 : (Instr.sliceBounds true n k (some (.int .i64 (i : Int))) none none).run Tryz.prog W = .ok (i, n, k) W := by
   have : (i : Int) ≤ (n : Int) := by omega
   simp [Instr.sliceBounds, go_sem, this]
 rw [run_slice_any W _ _ _ _ var_und2, h2]
 simp only [Result.andThen_ok, var_four]
theorem var_upto (A : Option Addr) (n k i : Nat) (h : i ≤ k) (W : World) : (Instr.slice 25 (.slice A n k) none (some (.int .i64 (i : Int))) none).run Tryz.prog W = .ok (sliced A 0 i k 4) W := by
 have h2 : (Instr.sliceBounds true n k none (some (.int .i64 (i : Int))) none).run Tryz.prog W = .ok (0, i, k) W := by
   have : (i : Int) ≤ (k : Int) := by omega
   simp [Instr.sliceBounds, go_sem, this]
 rw [run_slice_any W _ _ _ _ var_und2, h2]
 simp only [Result.andThen_ok, var_four]
theorem add_four (g off i : Nat) : (⟨g, off, none⟩ : Addr).add i = ⟨g, off + i, none⟩ := by unfold Addr.add; split <;> simp_all
theorem VS.drop {w : World} {A : Option Addr} {k n : Nat} {l : List Vr} (h : VS w A k l) (i m : Nat) (hi : i ≤ l.length) (hn : l.length = n) (hm : (l.drop i).length = m) :
   ∃ A' k', (∀ W : World, (Instr.slice 25 (.slice A n k) (some (.int .i64 (i : Int))) none none).run Tryz.prog W = .ok (.slice A' m k') W) ∧ VS w A' k' (l.drop i) := by
 subst hn hm
 have hk := h.cap
 refine ⟨_, _, fun W => by rw [var_from A _ k i hi W, List.length_drop]; rfl, ⟨by rw [List.length_drop]; omega, fun e => ?_, fun hl => ?_⟩⟩
 · split at e
   · rename_i hki; omega
   · rw [Option.map_eq_none_iff] at e
     have := h.nil e; omega
 · have hlt : i < l.length := by
     rcases Nat.lt_or_ge i l.length with h1 | h1
     · exact h1
     · exact absurd (List.drop_eq_nil_of_le h1) hl
   obtain ⟨g, off, h1, h3, h4⟩ := h.mem (by intro e; subst e; simp at hlt)
   refine ⟨g, off + i * 4, ?_, h3, fun j u hu => ?_⟩
   · rw [if_neg (by omega), h1, Option.map_some, add_four]
   · rw [pvl_drop, List.getElem?_drop] at hu
     rw [Nat.add_assoc]
     exact h4 _ u hu
theorem VS.take {w : World} {A : Option Addr} {k n : Nat} {l : List Vr} (h : VS w A k l) (i : Nat) (hi : i ≤ l.length) :
   ∃ A' k', (∀ W : World, (Instr.slice 25 (.slice A n k) none (some (.int .i64 (i : Int))) none).run Tryz.prog W = .ok (.slice A' i k') W) ∧ VS w A' k' (l.take i) := by
 have hk := h.cap
 refine ⟨_, _, fun W => by rw [var_upto A n k i (by omega) W]; rfl, ⟨by rw [List.length_take]; omega, fun e => ?_, fun hl => ?_⟩⟩
 · split at e
   · omega
   · rw [Option.map_eq_none_iff] at e
     have := h.nil e; omega
 · obtain ⟨g, off, h1, h3, h4⟩ := h.mem (by intro e; subst e; simp at hl)
   refine ⟨g, off, ?_, h3, fun j u hu => h4 j u ?_⟩
   · rw [h1]
     split
     · rfl
     · rw [Option.map_some, add_four, Nat.zero_mul, Nat.add_zero]
   · rw [pvl_take, List.getElem?_take] at hu
     split at hu
     · exact hu
     · cases hu
theorem VS.fresh (w : World) (v : Vr) (cs : Array Value) (t : TypeId) (h : cs = (pv v).toArray) : VS (w.alloc (.cells cs t)) (some ⟨w.heap.size, 0, none⟩) 1 [v] := by
 subst h
 refine ⟨Nat.le_refl _, fun e => (by cases e), fun _ => ⟨w.heap.size, 0, rfl, by simp, fun j u hu => ?_⟩⟩
 rw [Nat.zero_add, cell_of_row _ _ j _ t (0, 0) (heap_alloc_new w _)]
 rw [pvl_one] at hu
 simpa using hu
def VO (w : World) (B : Nat) (v : Value) (l : List Vr) : Prop := w.ownsRow B 31 4 v l.length (pvl l)
section
variable {w w' : World} {B : Nat} {v : Value} {l : List Vr}
theorem VO.empty (w : World) (B : Nat) : VO w B (.slice none 0 0) [] := World.ownsRow_nil _ _ _ _
theorem VO.lt (h : VO w B v l) {g : Nat} (hg : v.ownBlock = some g) : B ≤ g ∧ g < w.heap.size := by
 rcases h.2 with ⟨rfl, _⟩ | ⟨g', cap, cur, rfl, hB, hb, _⟩
 · cases hg
 · injection hg with hg
   subst hg
   exact ⟨hB, (Array.getElem?_eq_some_iff.1 hb).1⟩
theorem VO.below (h : VO w B v l) (hb : Below w.heap.size w w') : VO w' B v l := by
 refine ⟨h.1, ?_⟩
 rcases h.2 with h0 | ⟨g, cap, cur, h1, hB, hg, r⟩
 · exact .inl h0
 · exact .inr ⟨g, cap, cur, h1, hB, (hb.block g (Array.getElem?_eq_some_iff.1 hg).1).trans hg, r⟩
theorem VO.more {C : Nat} (h : VO w B v l) (hC : C ≤ B) : VO w C v l := by
 refine ⟨h.1, ?_⟩
 rcases h.2 with h0 | ⟨g, cap, cur, h1, hB, r⟩
 · exact .inl h0
 · exact .inr ⟨g, cap, cur, h1, Nat.le_trans hC hB, r⟩
theorem VO.grow (h : VO w B v l) (o : Obj) : VO (w.alloc o) B v l := h.below ((Below.refl _ _).alloc (Nat.le_refl _) _)
theorem VO.read (h : VO w B v l) : ∃ A k, v = .slice A l.length k ∧ VS w A k l := by
 rcases h.2 with ⟨rfl, h0⟩ | ⟨g, cap, cur, rfl, hB, hg, hnc, hcm, hcs, htake⟩
 · have := List.eq_nil_of_length_eq_zero h0
   subst this
   exact ⟨_, _, rfl, VS.empty w⟩
 · refine ⟨_, _, rfl, hnc, fun e => (by cases e), fun _ => ⟨g, 0, rfl, (Array.getElem?_eq_some_iff.1 hg).1, fun j u hu => ?_⟩⟩
   rw [Nat.zero_add, cell_of_row w g j cur _ (0, 0) hg]
   rw [← htake, List.getElem?_take] at hu
   split at hu
   · simpa using hu
   · cases hu
end
theorem run_append_vars {w : World} {B : Nat} {v : Value} {l m : List Vr} {A : Option Addr} {n k : Nat} (ty : TypeId) (hown : VO w B v l) (hx : VS w A k m) (hn : m.length = n) (hB : B ≤ w.heap.size) (hl : l.length + m.length ≤ 1000000) :
   ∃ A2 k2 w', (Builtin.append_ #[25, 25] ty #[v, .slice A n k]).run Tryz.prog w = .ok (.slice A2 (l.length + n) k2) w' ∧ VO w' B (.slice A2 (l.length + n) k2) (l ++ m) ∧ Below B w w' := by
 subst hn
 obtain ⟨i, hi, hz, hs, hby⟩ := info_parts var_info
 cases A with
 | none =>
   have h0 := hx.nil rfl
   subst h0
   have hm : m = [] := List.eq_nil_of_length_eq_zero (by have := hx.cap; omega)
   subst hm
   obtain ⟨A2, k2, rfl, _⟩ := hown.read
   refine ⟨A2, k2, w, ?_, ?_, Below.refl _ _⟩
   · exact run_append_owned_none w B 25 ty 31 i 4 var_und hi _ l.length _ hown
   · rw [List.append_nil]; exact hown
 | some ad =>
   have hc : ∀ j u, (pvl m)[j]? = some u → w.cell? (ad.add j) = some u := by
     intro j u hu
     obtain ⟨g, off, e, _, h4⟩ := hx.mem (fun e => by rw [e] at hu; cases hu)
     rw [Option.some.inj e, add_four]
     exact h4 j u hu
   obtain ⟨v', w', hr, ho, hg, _⟩ := run_append_own (P := Tryz.prog) w B 25 ty 31 i _ 4 40 var_und hi hz hs hby rfl (by omega) v l.length (pvl l) hown ad m.length k (pvl m) (pvl_length m) hc (pvl_ones m)
     (by unfold maxLen; omega) (by omega) hB
   have hO : VO w' B v' (l ++ m) := by
     unfold VO
     rw [List.length_append, pvl_app]
     exact ho
   obtain ⟨A2, k2, rfl, _⟩ := hO.read
   rw [List.length_append] at hr hO
   exact ⟨A2, k2, w', hr, hO, ⟨hg.os, hg.tape, hg.output, hg.size, fun j hj => hg.block j (by omega) (fun e => by have := (hown.lt e.symm).1; omega)⟩⟩
theorem wpList_append_vars {ops : Array Oper} {rest : List Oper} {o : Oper} {a : Act} {Q : Exit → Act → World → Prop} {w : World} {B : Nat} {v : Value} {l m : List Vr} {A : Option Addr} {ln n k : Nat} (hgd : o.guard = none) (s x : Operand)
   (ho : o.op = .call { callee := .builtin .append, args := #[s, x], argTypes := #[25, 25] }) (hs : a.eval s = v) (hx : a.eval x = .slice A n k)
   (hown : VO w B v l) (hln : l.length = ln) (hr : VS w A k m) (hn : m.length = n) (hB : B ≤ w.heap.size) (hl : ln + n ≤ 1000000)
   (h : ∀ A2 k2 n2 w', Kept (n2 = ln + n) → Kept (VO w' B (.slice A2 n2 k2) (l ++ m)) → Below B w w' → wpList Tryz.prog ops Q rest (a.put o.dst (.slice A2 n2 k2)) w') : wpList Tryz.prog ops Q (o :: rest) a w := by
 subst hln hn
 obtain ⟨A2, k2, w', hrun, hO, hb⟩ := run_append_vars o.type hown hr rfl hB hl
 exact Lib.wpList_append_run w hgd s x _ _ ho _ _ hs hx _ _ hrun (h A2 k2 _ w' ⟨rfl⟩ ⟨hO⟩ hb)
theorem VO.vs {w : World} {B n k : Nat} {A : Option Addr} {l : List Vr} (h : VO w B (.slice A n k) l) : VS w A k l ∧ n = l.length := by
 obtain ⟨A2, k2, e, h2⟩ := h.read
 injection e with e1 e2 e3
 subst e1 e3
 exact ⟨h2, e2⟩
end Va
end
section
open Go.RowKit Tx
namespace Va
theorem beq_true {a b : ByteArray} (h : a = b) : (a.toList == b.toList) = true := by rw [beq_str, decide_eq_true h]
theorem beq_false {a b : ByteArray} (h : a ≠ b) : (a.toList == b.toList) = false := by rw [beq_str, decide_eq_false h]
end Va
end
section
open Go.RowKit Tx
namespace Va
theorem res_two {P : Program} {fn : Func} {p u : Tmp} {ty : TypeId} (h : fn.results = #[.cell p ty, .tmp u]) (tmps : Array Value) (w : World) (g : Nat) (t : TypeId) (cs : Array Value) (fr : Nat × Nat) (d : TypeDesc)
   (hp : tmps.getD p undef = .pointer (some ⟨g, 0, none⟩)) (hg : w.heap[g]? = some (.cells cs t fr))
   (hu : P.underlying ty = some d) (hd : (match d with | .struct _ | .array _ _ => true | _ => false) = true) (hi : (P.info? ty).map (·.size) = some cs.size) :
   (results fn tmps).run P w = .ok (.tuple #[.agg cs, tmps.getD u undef]) w := by
 rw [results_cell_tmp h, hp]
 simp [asAddr, run_loadVar_row w g t ty cs fr d hg hu hd hi, Result.andThen]
structure VX (w w1 : World) (b : Nat) (v : Vr) : Prop where
 r : w1.heap[b]? = some (.cells #[.string v.name, .string v.value, .bool v.ex, .bool v.ro] 31 (0, 0))
 bl : Below w.heap.size w w1
 ge : w.heap.size ≤ b
section
variable {w w1 w2 : World} {b : Nat} {v : Vr}
theorem VX.begin (w : World) (v : Vr) : VX w (w.alloc (.cells #[.string v.name, .string v.value, .bool v.ex, .bool v.ro] 31)) w.heap.size v := ⟨heap_alloc_new w _, (Below.refl _ _).alloc (Nat.le_refl _) _, Nat.le_refl _⟩
theorem VX.next (h : Below w.heap.size w w1) (v : Vr) : VX w (w1.alloc (.cells #[.string v.name, .string v.value, .bool v.ex, .bool v.ro] 31)) w1.heap.size v := ⟨heap_alloc_new w1 _, h.alloc h.size _, h.size⟩
theorem VX.zero (h : Below w.heap.size w w1) : VX w (w1.alloc (.cells #[.string ⟨#[]⟩, .string ⟨#[]⟩, .bool false, .bool false] 31)) w1.heap.size Vr.zero := VX.next h Vr.zero
theorem VX.lt (h : VX w w1 b v) : b < w1.heap.size := (Array.getElem?_eq_some_iff.1 h.r).1
theorem VX.below (h : VX w w1 b v) (hb : Below w1.heap.size w1 w2) : VX w w2 b v := ⟨(hb.block _ h.lt).trans h.r, h.bl.trans (hb.mono h.bl.size), h.ge⟩
theorem VX.row (h : VX w w1 b v) (u : Vr) : VX w (w1.setRow b #[.string u.name, .string u.value, .bool u.ex, .bool u.ro]) b u :=
 ⟨setRow_heap _ _ _ _ _ _ h.r, ⟨h.bl.os, h.bl.tape, h.bl.output, by rw [setRow_size]; exact h.bl.size, fun i hi => (setRow_other _ _ i _ (by have := h.ge; omega)).trans (h.bl.block i hi)⟩, h.ge⟩
theorem VX.set {i : Nat} {x : Value} {u : Vr} (h : VX w w1 b v) (hi : #[Value.string v.name, .string v.value, .bool v.ex, .bool v.ro].setIfInBounds i x = #[.string u.name, .string u.value, .bool u.ex, .bool u.ro]) : VX w (w1.setCell ⟨b, i, none⟩ x) b u :=
 ⟨by have := heap_setCell_same w1 b i _ _ x h.r; rwa [hi] at this, h.bl.setCell (by exact h.ge) _, h.ge⟩
theorem VX.c0 (h : VX w w1 b v) : w1.cell? ⟨b, 0, none⟩ = some (.string v.name) := cell_of_row _ _ 0 _ _ _ h.r
theorem VX.c1 (h : VX w w1 b v) : w1.cell? ⟨b, 1, none⟩ = some (.string v.value) := cell_of_row _ _ 1 _ _ _ h.r
theorem VX.c2 (h : VX w w1 b v) : w1.cell? ⟨b, 2, none⟩ = some (.bool v.ex) := cell_of_row _ _ 2 _ _ _ h.r
theorem VX.c3 (h : VX w w1 b v) : w1.cell? ⟨b, 3, none⟩ = some (.bool v.ro) := cell_of_row _ _ 3 _ _ _ h.r
theorem VX.f0 (h : VX w w1 b v) : w1.frozen? ⟨b, 0, none⟩ = false := frozen_of_row _ _ 0 _ _ h.r
theorem VX.f1 (h : VX w w1 b v) : w1.frozen? ⟨b, 1, none⟩ = false := frozen_of_row _ _ 1 _ _ h.r
theorem VX.f2 (h : VX w w1 b v) : w1.frozen? ⟨b, 2, none⟩ = false := frozen_of_row _ _ 2 _ _ h.r
theorem VX.f3 (h : VX w w1 b v) : w1.frozen? ⟨b, 3, none⟩ = false := frozen_of_row _ _ 3 _ _ h.r
end
def GEnd (w : World) (v : Vr) (b : Bool) (e : Ending) (w' : World) : Prop := e = .returned (.tuple #[.agg #[.string v.name, .string v.value, .bool v.ex, .bool v.ro], .bool b]) ∧ Below w.heap.size w w'
end Va
end
end Go.Proofs.YtlggpefmojacoaaGreatDoor
