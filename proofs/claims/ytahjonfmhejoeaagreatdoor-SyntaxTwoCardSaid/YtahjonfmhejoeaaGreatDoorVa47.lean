/-
  Parts of the proof, merged.
-/
import Derived.Test.YtahjonfmhejoeaaGreatDoorVa46
namespace Go.Proofs.YtahjonfmhejoeaaGreatDoor
section
open Go.RowKit Tx
namespace Sy
open Lx (Tok toks)
open Wx (Pt LV Cs pvs Nw wt cnt txt)
namespace Lit
def pN : Nd := .mk 1 true [] [] [] [] [] [sm [97], sm [98]]
def aoN : Nd := .mk 2 false [] [] [] [] [[38, 38]] [pN, sm [99]]
def Pb (v6 : Value) : Nat → Prop := fun g => v6 ≠ .pointer (some ⟨g, 0, none⟩)
structure Fr (T : Value → Value → Value → Value → Value → Value → Value → Value → Act) (pb : Nat) : Prop where
 p6 : ∀ v6 v19 v20 v21 v22 v23 v24 v25 x, (T v6 v19 v20 v21 v22 v23 v24 v25).put (some 6) x = (T x v19 v20 v21 v22 v23 v24 v25)
 e6 : ∀ v6 v19 v20 v21 v22 v23 v24 v25, (T v6 v19 v20 v21 v22 v23 v24 v25).eval (.tmp 6) = v6
 p19 : ∀ v6 v19 v20 v21 v22 v23 v24 v25 x, (T v6 v19 v20 v21 v22 v23 v24 v25).put (some 19) x = (T v6 x v20 v21 v22 v23 v24 v25)
 e19 : ∀ v6 v19 v20 v21 v22 v23 v24 v25, (T v6 v19 v20 v21 v22 v23 v24 v25).eval (.tmp 19) = v19
 p20 : ∀ v6 v19 v20 v21 v22 v23 v24 v25 x, (T v6 v19 v20 v21 v22 v23 v24 v25).put (some 20) x = (T v6 v19 x v21 v22 v23 v24 v25)
 e20 : ∀ v6 v19 v20 v21 v22 v23 v24 v25, (T v6 v19 v20 v21 v22 v23 v24 v25).eval (.tmp 20) = v20
 p21 : ∀ v6 v19 v20 v21 v22 v23 v24 v25 x, (T v6 v19 v20 v21 v22 v23 v24 v25).put (some 21) x = (T v6 v19 v20 x v22 v23 v24 v25)
 e21 : ∀ v6 v19 v20 v21 v22 v23 v24 v25, (T v6 v19 v20 v21 v22 v23 v24 v25).eval (.tmp 21) = v21
 p22 : ∀ v6 v19 v20 v21 v22 v23 v24 v25 x, (T v6 v19 v20 v21 v22 v23 v24 v25).put (some 22) x = (T v6 v19 v20 v21 x v23 v24 v25)
 e22 : ∀ v6 v19 v20 v21 v22 v23 v24 v25, (T v6 v19 v20 v21 v22 v23 v24 v25).eval (.tmp 22) = v22
 p23 : ∀ v6 v19 v20 v21 v22 v23 v24 v25 x, (T v6 v19 v20 v21 v22 v23 v24 v25).put (some 23) x = (T v6 v19 v20 v21 v22 x v24 v25)
 e23 : ∀ v6 v19 v20 v21 v22 v23 v24 v25, (T v6 v19 v20 v21 v22 v23 v24 v25).eval (.tmp 23) = v23
 p24 : ∀ v6 v19 v20 v21 v22 v23 v24 v25 x, (T v6 v19 v20 v21 v22 v23 v24 v25).put (some 24) x = (T v6 v19 v20 v21 v22 v23 x v25)
 e24 : ∀ v6 v19 v20 v21 v22 v23 v24 v25, (T v6 v19 v20 v21 v22 v23 v24 v25).eval (.tmp 24) = v24
 p25 : ∀ v6 v19 v20 v21 v22 v23 v24 v25 x, (T v6 v19 v20 v21 v22 v23 v24 v25).put (some 25) x = (T v6 v19 v20 v21 v22 v23 v24 x)
 e25 : ∀ v6 v19 v20 v21 v22 v23 v24 v25, (T v6 v19 v20 v21 v22 v23 v24 v25).eval (.tmp 25) = v25
 e5 : ∀ v6 v19 v20 v21 v22 v23 v24 v25, (T v6 v19 v20 v21 v22 v23 v24 v25).eval (.tmp 5) = .pointer (some ⟨pb, 0, none⟩)
structure Inv (w8 : World) (bk : Nat) (b0 b1 b2 b3 b4 b5 b6 b7 : Bool) (v6 v19 v20 v21 v22 v23 v24 v25 : Value) (w : World) : Prop where
 bl : Below w8.heap.size w8 w
 i0 : b0 = true → ∃ p, v19 = .slice (some ⟨p, 0, none⟩) 1 1 ∧ SL (Pb v6) w OC (.slice (some ⟨p, 0, none⟩) 1 1) [[38, 38]]
 i1 : b1 = true → v20 = .agg #[.int .i64 1, .bool true, .string ⟨#[]⟩, .slice none 0 0, .slice none 0 0, .slice none 0 0, .slice none 0 0, .slice (some ⟨bk, 0, none⟩) 2 2]
 i2 : b2 = true → ∃ gc, v21 = .agg #[.int .i64 0, .bool false, .string (bs []), .slice (some ⟨gc, 0, none⟩) 1 1, .slice none 0 0, .slice none 0 0, .slice none 0 0, .slice none 0 0] ∧ Parts (Pb v6) w (.slice (some ⟨gc, 0, none⟩) 1 1) (.slice none 0 0) (.slice none 0 0) (.slice none 0 0) [[txt false [99]]] [] [] []
 i3 : b3 = true → ∃ p, v22 = .slice (some ⟨p, 0, none⟩) 2 2 ∧ NL (Pb v6) w (.slice (some ⟨p, 0, none⟩) 2 2) [pN, sm [99]]
 i4 : b4 = true → ∃ p q, v23 = .agg #[.int .i64 2, .bool false, .string ⟨#[]⟩, .slice none 0 0, .slice none 0 0, .slice none 0 0, .slice (some ⟨p, 0, none⟩) 1 1, .slice (some ⟨q, 0, none⟩) 2 2] ∧ SL (Pb v6) w OC (.slice (some ⟨p, 0, none⟩) 1 1) [[38, 38]] ∧ NL (Pb v6) w (.slice (some ⟨q, 0, none⟩) 2 2) [pN, sm [99]]
 i5 : b5 = true → ∃ p, v24 = .slice (some ⟨p, 0, none⟩) 1 1 ∧ NL (Pb v6) w (.slice (some ⟨p, 0, none⟩) 1 1) [aoN]
 i6 : b6 = true → ∃ p, v25 = .agg #[.int .i64 3, .bool false, .string ⟨#[]⟩, .slice none 0 0, .slice none 0 0, .slice none 0 0, .slice none 0 0, .slice (some ⟨p, 0, none⟩) 1 1] ∧ NL (Pb v6) w (.slice (some ⟨p, 0, none⟩) 1 1) [aoN]
 i7 : b7 = true → ∃ p, v6 = .pointer (some ⟨p, 0, none⟩) ∧ w8.heap.size ≤ p ∧ p < w.heap.size ∧ w.heap[p]? = some (.cells #[.int .i64 0, .bool false, .string ⟨#[]⟩, .slice none 0 0, .slice none 0 0, .slice none 0 0, .slice none 0 0, .slice none 0 0] 31 (0, 0))
 j7 : b7 = false → v6 = undef
section
variable {w8 : World} {bk : Nat} {b0 b1 b2 b3 b4 b5 b6 b7 : Bool} {v6 v19 v20 v21 v22 v23 v24 v25 : Value} {w w' : World}
theorem Inv.keep (h : Inv w8 bk b0 b1 b2 b3 b4 b5 b6 b7 v6 v19 v20 v21 v22 v23 v24 v25 w) (hb : Below w.heap.size w w') : Inv w8 bk b0 b1 b2 b3 b4 b5 b6 b7 v6 v19 v20 v21 v22 v23 v24 v25 w' where
 bl := h.bl.trans (hb.mono h.bl.size)
 i0 e := by obtain ⟨p, h1, h2⟩ := h.i0 e; exact ⟨p, h1, h2.keepO hb⟩
 i1 := h.i1
 i2 e := by obtain ⟨p, h1, h2⟩ := h.i2 e; exact ⟨p, h1, h2.keepB hb⟩
 i3 e := by obtain ⟨p, h1, h2⟩ := h.i3 e; exact ⟨p, h1, h2.keep hb⟩
 i4 e := by obtain ⟨p, q, h1, h2, h3⟩ := h.i4 e; exact ⟨p, q, h1, h2.keepO hb, h3.keep hb⟩
 i5 e := by obtain ⟨p, h1, h2⟩ := h.i5 e; exact ⟨p, h1, h2.keep hb⟩
 i6 e := by obtain ⟨p, h1, h2⟩ := h.i6 e; exact ⟨p, h1, h2.keep hb⟩
 i7 e := by obtain ⟨p, h1, h2, h3, h4⟩ := h.i7 e; exact ⟨p, h1, h2, Nat.lt_of_lt_of_le h3 hb.size, (hb.block p h3).trans h4⟩
 j7 := h.j7
theorem Inv.fresh (h : Inv w8 bk b0 b1 b2 b3 b4 b5 b6 b7 v6 v19 v20 v21 v22 v23 v24 v25 w) {g : Nat} (hg : w.heap.size ≤ g) : Pb v6 g := by
 intro e
 cases hb : b7 with
 | true =>
   obtain ⟨p, h1, _, h3, _⟩ := h.i7 hb
   rw [h1] at e
   injection e with e; injection e with e; injection e with e
   omega
 | false => rw [h.j7 hb] at e; cases e
theorem Inv.old (h : Inv w8 bk b0 b1 b2 b3 b4 b5 b6 b7 v6 v19 v20 v21 v22 v23 v24 v25 w) {g : Nat} (hg : g < w8.heap.size) : Pb v6 g := by
 intro e
 cases hb : b7 with
 | true =>
   obtain ⟨p, h1, h2, _, _⟩ := h.i7 hb
   rw [h1] at e
   injection e with e; injection e with e; injection e with e
   omega
 | false => rw [h.j7 hb] at e; cases e
end
def at4 : Code → Array Oper
 | .seq _ (.seq _ (.seq _ (.seq _ (.seq (.region _ ops _) _)))) => ops
 | _ => #[]
noncomputable def lops : Array Oper := match Tryz.f15.body with
 | some c => at4 c
 | none => #[]
def Lb (b0 b1 b2 b3 b4 b5 b6 b7 : Bool) : Array Bool := #[b0, b1, b2, b3, b4, b5, b6, b7, false]
set_option maxRecDepth 100000 in
theorem ready_ne : ∀ b0 b1 b2 b3 b4 b5 b6 b7 : Bool, Region.ready .any lops (Lb b0 b1 b2 b3 b4 b5 b6 b7) ≠ [] := by decide +kernel
set_option maxRecDepth 100000 in
theorem ready_all : ∀ b0 b1 b2 b3 b4 b5 b6 b7 : Bool, (Region.ready .any lops (Lb b0 b1 b2 b3 b4 b5 b6 b7)).all (fun i => (i == 0 && !b0) || (i == 1 && !b1) || (i == 2 && !b2) || (i == 3 && !b3 && b1 && b2) || (i == 4 && !b4 && b0 && b3) || (i == 5 && !b5 && b4) || (i == 6 && !b6 && b5) || (i == 7 && !b7) || (i == 8 && b0 && b1 && b2 && b3 && b4 && b5 && b6 && b7)) = true := by decide +kernel
theorem ready_mem (b0 b1 b2 b3 b4 b5 b6 b7 : Bool) (i : Nat) (hi : i ∈ Region.ready .any lops (Lb b0 b1 b2 b3 b4 b5 b6 b7)) : (i = 0 ∧ b0 = false) ∨ (i = 1 ∧ b1 = false) ∨ (i = 2 ∧ b2 = false) ∨ (i = 3 ∧ b3 = false ∧ b1 = true ∧ b2 = true) ∨ (i = 4 ∧ b4 = false ∧ b0 = true ∧ b3 = true) ∨ (i = 5 ∧ b5 = false ∧ b4 = true) ∨ (i = 6 ∧ b6 = false ∧ b5 = true) ∨ (i = 7 ∧ b7 = false) ∨ (i = 8 ∧ b0 = true ∧ b1 = true ∧ b2 = true ∧ b3 = true ∧ b4 = true ∧ b5 = true ∧ b6 = true ∧ b7 = true) := by
 have h := List.all_eq_true.1 (ready_all b0 b1 b2 b3 b4 b5 b6 b7) i hi
 simpa [or_assoc, and_assoc] using h
theorem val_step {Q : Exit → Act → World → Prop} {o : Oper} {a : Act} {w w' : World} {v : Value} {d : Option Tmp} {K : Act → World → Prop} (hd : o.dst = d) (hx : (execOp a.eval o).run Tryz.prog w = .ok (.value v) w') (hK : K (a.put d v) w') : Oper.wp Tryz.prog o a w K Q := by
 unfold Oper.wp
 rw [hx, Oper.upon_value, hd]
 exact hK
theorem ex_bs2 {P : Program} {ev : Operand → Value} {o : Oper} {T : TypeId} {x y : Operand} {u u2 v : Value} {w w' : World} (ho : o.op = .buildSlice T 2 #[(0, x), (1, y)]) (hx : ev x = u) (hy : ev y = u2) (h : (Instr.buildSlice T 2 #[(0, u), (1, u2)]).run P w = .ok v w') : (execOp ev o).run P w = .ok (.value v) w' := by
 unfold execOp
 simp only [ho, List.map_toArray, List.map_cons, List.map_nil, hx, hy, Sem.run_bind, h, Result.andThen_ok, Sem.run_pure]
theorem ex_b3 {P : Program} {ev : Operand → Value} {o : Oper} {T : TypeId} {i j k : Nat} {x y z : Operand} {u u2 u3 v : Value} {w w' : World} (ho : o.op = .build T #[(i, x), (j, y), (k, z)]) (hx : ev x = u) (hy : ev y = u2) (hz : ev z = u3) (h : (Instr.build T #[(i, u), (j, u2), (k, u3)]).run P w = .ok v w') : (execOp ev o).run P w = .ok (.value v) w' := by
 unfold execOp
 simp only [ho, List.map_toArray, List.map_cons, List.map_nil, hx, hy, hz, Sem.run_bind, h, Result.andThen_ok, Sem.run_pure]
theorem ex_b2 {P : Program} {ev : Operand → Value} {o : Oper} {T : TypeId} {i j : Nat} {x y : Operand} {u u2 v : Value} {w w' : World} (ho : o.op = .build T #[(i, x), (j, y)]) (hx : ev x = u) (hy : ev y = u2) (h : (Instr.build T #[(i, u), (j, u2)]).run P w = .ok v w') : (execOp ev o).run P w = .ok (.value v) w' := by
 unfold execOp
 simp only [ho, List.map_toArray, List.map_cons, List.map_nil, hx, hy, Sem.run_bind, h, Result.andThen_ok, Sem.run_pure]
theorem r0 (w : World) : (Instr.buildSlice 24 1 #[(0, .string ⟨#[38, 38]⟩)]).run Tryz.prog w = .ok (.slice (some ⟨w.heap.size, 0, none⟩) 1 1) (w.alloc (.cells #[.string ⟨#[38, 38]⟩] 9)) := by go_simp
theorem r3 (bk gc : Nat) (w : World) : (Instr.buildSlice 29 2 #[(0, .agg #[.int .i64 1, .bool true, .string ⟨#[]⟩, .slice none 0 0, .slice none 0 0, .slice none 0 0, .slice none 0 0, .slice (some ⟨bk, 0, none⟩) 2 2]), (1, .agg #[.int .i64 0, .bool false, .string (bs []), .slice (some ⟨gc, 0, none⟩) 1 1, .slice none 0 0, .slice none 0 0, .slice none 0 0, .slice none 0 0])]).run Tryz.prog w = .ok (.slice (some ⟨w.heap.size, 0, none⟩) 2 2) (w.alloc (.cells #[.int .i64 1, .bool true, .string ⟨#[]⟩, .slice none 0 0, .slice none 0 0, .slice none 0 0, .slice none 0 0, .slice (some ⟨bk, 0, none⟩) 2 2, .int .i64 0, .bool false, .string (bs []), .slice (some ⟨gc, 0, none⟩) 1 1, .slice none 0 0, .slice none 0 0, .slice none 0 0, .slice none 0 0] 31)) := by go_simp
theorem r4 (p q : Nat) (w : World) : (Instr.build 31 #[(0, .int .i64 2), (6, .slice (some ⟨p, 0, none⟩) 1 1), (7, .slice (some ⟨q, 0, none⟩) 2 2)]).run Tryz.prog w = .ok (.agg #[.int .i64 2, .bool false, .string ⟨#[]⟩, .slice none 0 0, .slice none 0 0, .slice none 0 0, .slice (some ⟨p, 0, none⟩) 1 1, .slice (some ⟨q, 0, none⟩) 2 2]) w := by go_simp
theorem r5 (p q : Nat) (w : World) : (Instr.buildSlice 29 1 #[(0, .agg #[.int .i64 2, .bool false, .string ⟨#[]⟩, .slice none 0 0, .slice none 0 0, .slice none 0 0, .slice (some ⟨p, 0, none⟩) 1 1, .slice (some ⟨q, 0, none⟩) 2 2])]).run Tryz.prog w = .ok (.slice (some ⟨w.heap.size, 0, none⟩) 1 1) (w.alloc (.cells #[.int .i64 2, .bool false, .string ⟨#[]⟩, .slice none 0 0, .slice none 0 0, .slice none 0 0, .slice (some ⟨p, 0, none⟩) 1 1, .slice (some ⟨q, 0, none⟩) 2 2] 31)) := by go_simp
theorem r6 (p : Nat) (w : World) : (Instr.build 31 #[(0, .int .i64 3), (7, .slice (some ⟨p, 0, none⟩) 1 1)]).run Tryz.prog w = .ok (.agg #[.int .i64 3, .bool false, .string ⟨#[]⟩, .slice none 0 0, .slice none 0 0, .slice none 0 0, .slice none 0 0, .slice (some ⟨p, 0, none⟩) 1 1]) w := by go_simp
theorem r1 {pb bk : Nat} (w : World) (h : w.heap[pb]? = some (.cells #[.int .i64 1, .bool true, .string ⟨#[]⟩, .slice none 0 0, .slice none 0 0, .slice none 0 0, .slice none 0 0, .slice (some ⟨bk, 0, none⟩) 2 2] 31 (0, 0))) : (Instr.loadAt 31 (.pointer (some ⟨pb, 0, none⟩))).run Tryz.prog w = .ok (.agg #[.int .i64 1, .bool true, .string ⟨#[]⟩, .slice none 0 0, .slice none 0 0, .slice none 0 0, .slice none 0 0, .slice (some ⟨bk, 0, none⟩) 2 2]) w := by
 have c0 := cell_of_row _ _ 0 _ _ _ h
 have c1 := cell_of_row _ _ 1 _ _ _ h
 have c2 := cell_of_row _ _ 2 _ _ _ h
 have c3 := cell_of_row _ _ 3 _ _ _ h
 have c4 := cell_of_row _ _ 4 _ _ _ h
 have c5 := cell_of_row _ _ 5 _ _ _ h
 have c6 := cell_of_row _ _ 6 _ _ _ h
 have c7 := cell_of_row _ _ 7 _ _ _ h
 go_simp
theorem r2 (w : World) : (callFunc 30 #[.string ⟨#[99]⟩]).run Tryz.prog w = .ok (.enter 30 #[.string ⟨#[99]⟩]) w := by go_simp
theorem ex_al {ev : Operand → Value} {o : Oper} {w : World} (ho : o.op = .alloc 31) : (execOp ev o).run Tryz.prog w = .ok (.value (.pointer (some ⟨w.heap.size, 0, none⟩))) (w.alloc (.cells #[.int .i64 0, .bool false, .string ⟨#[]⟩, .slice none 0 0, .slice none 0 0, .slice none 0 0, .slice none 0 0, .slice none 0 0] 31)) := by
 unfold execOp
 simp only [ho]
 go_simp
theorem parts_none {P : Nat → Prop} {w : World} : Parts P w (.slice none 0 0) (.slice none 0 0) (.slice none 0 0) (.slice none 0 0) [] [] [] [] := ⟨rfl, rfl, rfl, rfl, sl_none, sl_none, sl_none, sl_none⟩
def nbb (b : Bool) : Nat := if b then 0 else 1
theorem setRow_below {w8 w : World} {p : Nat} {cs : Array Value} (h : Below w8.heap.size w8 w) (hp : w8.heap.size ≤ p) : Below w8.heap.size w8 (w.setRow p cs) := ⟨h.os, h.tape, h.output, by rw [setRow_size]; exact h.size, fun i hi => (setRow_other _ _ i _ (by omega)).trans (h.block i hi)⟩
set_option maxHeartbeats 4000000 in
set_option maxRecDepth 100000 in
theorem lit_all {Q : Exit → Act → World → Prop} {T : Value → Value → Value → Value → Value → Value → Value → Value → Act} {pb : Nat} (hT : Fr T pb) {w8 : World} {bk : Nat} (hpb : w8.heap[pb]? = some (.cells #[.int .i64 1, .bool true, .string ⟨#[]⟩, .slice none 0 0, .slice none 0 0, .slice none 0 0, .slice none 0 0, .slice (some ⟨bk, 0, none⟩) 2 2] 31 (0, 0))) (hbk : NL (fun g => g < w8.heap.size) w8 (.slice (some ⟨bk, 0, none⟩) 2 2) [sm [97], sm [98]])
   (hQ : ∀ p v19 v20 v21 v22 v23 v24 v25 w', Below w8.heap.size w8 w' → w8.heap.size ≤ p → Kept (∃ q, w'.heap[p]? = some (.cells #[.int .i64 3, .bool false, .string ⟨#[]⟩, .slice none 0 0, .slice none 0 0, .slice none 0 0, .slice none 0 0, .slice (some ⟨q, 0, none⟩) 1 1] 31 (0, 0)) ∧ NL (fun g => g ≠ p) w' (.slice (some ⟨q, 0, none⟩) 1 1) [aoN]) → Q .normal (T (.pointer (some ⟨p, 0, none⟩)) v19 v20 v21 v22 v23 v24 v25) w') :
   ∀ (fuel : Nat) (b0 b1 b2 b3 b4 b5 b6 b7 : Bool) (v6 v19 v20 v21 v22 v23 v24 v25 : Value) (w : World), nbb b0 + nbb b1 + nbb b2 + nbb b3 + nbb b4 + nbb b5 + nbb b6 + nbb b7 + 1 ≤ fuel → Inv w8 bk b0 b1 b2 b3 b4 b5 b6 b7 v6 v19 v20 v21 v22 v23 v24 v25 w → wpAny Tryz.prog .any lops Q fuel (Lb b0 b1 b2 b3 b4 b5 b6 b7) (T v6 v19 v20 v21 v22 v23 v24 v25) w
 | 0, _, _, _, _, _, _, _, _, _, _, _, _, _, _, _, _, _, h, _ => by omega
 | fuel + 1, b0, b1, b2, b3, b4, b5, b6, b7, v6, v19, v20, v21, v22, v23, v24, v25, w, hc, hI => by
   have hpl := (Array.getElem?_eq_some_iff.1 hpb).1
   have row : ∀ W, Below w8.heap.size w8 W → W.heap[pb]? = some (.cells #[.int .i64 1, .bool true, .string ⟨#[]⟩, .slice none 0 0, .slice none 0 0, .slice none 0 0, .slice none 0 0, .slice (some ⟨bk, 0, none⟩) 2 2] 31 (0, 0)) := fun W hb => (hb.block _ hpl).trans hpb
   refine ⟨fun h0 => absurd h0 (ready_ne b0 b1 b2 b3 b4 b5 b6 b7), fun i hi => ?_⟩
   rcases ready_mem b0 b1 b2 b3 b4 b5 b6 b7 i hi with ⟨rfl, rfl⟩ | ⟨rfl, rfl⟩ | ⟨rfl, rfl⟩ | ⟨rfl, rfl, rfl, rfl⟩ | ⟨rfl, rfl, rfl, rfl⟩ | ⟨rfl, rfl, rfl⟩ | ⟨rfl, rfl, rfl⟩ | ⟨rfl, rfl⟩ | ⟨rfl, rfl, rfl, rfl, rfl, rfl, rfl, rfl, rfl⟩
   · refine wpOp_step (o := _) rfl (fun K hK => ?_)
     rw [if_pos (by kernel_rfl)]
     refine val_step (d := some 19) rfl (App.ex_bs rfl rfl (r0 w)) ?_
     rw [hT.p19]
     refine hK _ _ ?_
     have k := hI.keep (w' := (w.alloc (.cells #[.string ⟨#[38, 38]⟩] 9))) ((Below.refl _ _).alloc (Nat.le_refl _) _)
     exact lit_all hT hpb hbk hQ fuel true b1 b2 b3 b4 b5 b6 b7 v6 _ v20 v21 v22 v23 v24 v25 _ (by simp [nbb] at hc ⊢; omega) ⟨k.bl, fun _ => ⟨w.heap.size, rfl, sl_lit 1 (heap_alloc_new w _) (hI.fresh (Nat.le_refl _)) rfl rfl rfl (Nat.le_refl _)⟩, k.i1, k.i2, k.i3, k.i4, k.i5, k.i6, k.i7, k.j7⟩
   · refine wpOp_step (o := _) rfl (fun K hK => ?_)
     rw [if_pos (by kernel_rfl)]
     refine val_step (d := some 20) rfl (App.ex_ld rfl (hT.e5 v6 v19 v20 v21 v22 v23 v24 v25) (r1 w (row w hI.bl))) ?_
     rw [hT.p20]
     refine hK _ _ ?_
     exact lit_all hT hpb hbk hQ fuel b0 true b2 b3 b4 b5 b6 b7 v6 v19 _ v21 v22 v23 v24 v25 _ (by simp [nbb] at hc ⊢; omega) ⟨hI.bl, hI.i0, fun _ => rfl, hI.i2, hI.i3, hI.i4, hI.i5, hI.i6, hI.i7, hI.j7⟩
   · refine wpOp_step (o := _) rfl (fun K hK => ?_)
     rw [if_pos (by kernel_rfl)]
     unfold Oper.wp
     rw [App.ex_call rfl rfl rfl (r2 w), Oper.upon_enter]
     refine (simple_lit [99] w).mono ?_
     rintro e w9 ⟨gc, rfl, hp, hb⟩
     have k := hI.keep hb.out
     show K ((T v6 v19 v20 v21 v22 v23 v24 v25).put (some 21) _) w9
     rw [hT.p21]
     refine hK _ _ ?_
     exact lit_all hT hpb hbk hQ fuel b0 b1 true b3 b4 b5 b6 b7 v6 v19 v20 _ v22 v23 v24 v25 _ (by simp [nbb] at hc ⊢; omega) ⟨k.bl, k.i0, k.i1, fun _ => ⟨gc, rfl, hp.out.same (fun g hg _ => ⟨hI.fresh hg, rfl⟩) (Nat.le_refl _)⟩, k.i3, k.i4, k.i5, k.i6, k.i7, k.j7⟩
   · refine wpOp_step (o := _) rfl (fun K hK => ?_)
     rw [if_pos (by kernel_rfl)]
     obtain rfl := hI.i1 rfl
     obtain ⟨gc, rfl, hp⟩ := hI.i2 rfl
     refine val_step (d := some 22) rfl (ex_bs2 rfl (hT.e20 v6 v19 _ _ v22 v23 v24 v25) (hT.e21 v6 v19 _ _ v22 v23 v24 v25) (r3 bk gc w)) ?_
     rw [hT.p22]
     refine hK _ _ ?_
     have k := hI.keep (w' := (w.alloc (.cells #[.int .i64 1, .bool true, .string ⟨#[]⟩, .slice none 0 0, .slice none 0 0, .slice none 0 0, .slice none 0 0, .slice (some ⟨bk, 0, none⟩) 2 2, .int .i64 0, .bool false, .string (bs []), .slice (some ⟨gc, 0, none⟩) 1 1, .slice none 0 0, .slice none 0 0, .slice none 0 0, .slice none 0 0] 31))) ((Below.refl _ _).alloc (Nat.le_refl _) _)
     have hbk2 : NL (Pb v6) (w.alloc (.cells #[.int .i64 1, .bool true, .string ⟨#[]⟩, .slice none 0 0, .slice none 0 0, .slice none 0 0, .slice none 0 0, .slice (some ⟨bk, 0, none⟩) 2 2, .int .i64 0, .bool false, .string (bs []), .slice (some ⟨gc, 0, none⟩) 1 1, .slice none 0 0, .slice none 0 0, .slice none 0 0, .slice none 0 0] 31)) (.slice (some ⟨bk, 0, none⟩) 2 2) [sm [97], sm [98]] := hbk.same (fun g hg _ => ⟨hI.old hg, k.bl.block g hg⟩) k.bl.size
     have hp2 := hp.keepB (w' := (w.alloc (.cells #[.int .i64 1, .bool true, .string ⟨#[]⟩, .slice none 0 0, .slice none 0 0, .slice none 0 0, .slice none 0 0, .slice (some ⟨bk, 0, none⟩) 2 2, .int .i64 0, .bool false, .string (bs []), .slice (some ⟨gc, 0, none⟩) 1 1, .slice none 0 0, .slice none 0 0, .slice none 0 0, .slice none 0 0] 31))) ((Below.refl _ _).alloc (Nat.le_refl _) _)
     exact lit_all hT hpb hbk hQ fuel b0 true true true b4 b5 b6 b7 v6 v19 _ _ _ v23 v24 v25 _ (by simp [nbb] at hc ⊢; omega) ⟨k.bl, k.i0, k.i1, k.i2, fun _ => ⟨w.heap.size, rfl, nl_lit 2 (heap_alloc_new w _) (hI.fresh (Nat.le_refl _)) rfl (.cons 1 true [] [] [] [] [] _ _ _ _ _ _ _ _ parts_none rfl hbk2 (.cons 0 false [] _ [] [] [] [] _ _ _ _ _ _ _ hp2 rfl nl_none .nil)) rfl (Nat.le_refl _)⟩, k.i4, k.i5, k.i6, k.i7, k.j7⟩
   · refine wpOp_step (o := _) rfl (fun K hK => ?_)
     rw [if_pos (by kernel_rfl)]
     obtain ⟨p, rfl, hs⟩ := hI.i0 rfl
     obtain ⟨q, rfl, hn⟩ := hI.i3 rfl
     refine val_step (d := some 23) rfl (ex_b3 rfl rfl (hT.e19 v6 _ v20 v21 _ v23 v24 v25) (hT.e22 v6 _ v20 v21 _ v23 v24 v25) (r4 p q w)) ?_
     rw [hT.p23]
     refine hK _ _ ?_
     exact lit_all hT hpb hbk hQ fuel true b1 b2 true true b5 b6 b7 v6 _ v20 v21 _ _ v24 v25 _ (by simp [nbb] at hc ⊢; omega) ⟨hI.bl, hI.i0, hI.i1, hI.i2, hI.i3, fun _ => ⟨p, q, rfl, hs, hn⟩, hI.i5, hI.i6, hI.i7, hI.j7⟩
   · refine wpOp_step (o := _) rfl (fun K hK => ?_)
     rw [if_pos (by kernel_rfl)]
     obtain ⟨p, q, rfl, hs, hn⟩ := hI.i4 rfl
     refine val_step (d := some 24) rfl (App.ex_bs rfl (hT.e23 v6 v19 v20 v21 v22 _ v24 v25) (r5 p q w)) ?_
     rw [hT.p24]
     refine hK _ _ ?_
     have k := hI.keep (w' := (w.alloc (.cells #[.int .i64 2, .bool false, .string ⟨#[]⟩, .slice none 0 0, .slice none 0 0, .slice none 0 0, .slice (some ⟨p, 0, none⟩) 1 1, .slice (some ⟨q, 0, none⟩) 2 2] 31))) ((Below.refl _ _).alloc (Nat.le_refl _) _)
     have hs2 := hs.keepO (w' := (w.alloc (.cells #[.int .i64 2, .bool false, .string ⟨#[]⟩, .slice none 0 0, .slice none 0 0, .slice none 0 0, .slice (some ⟨p, 0, none⟩) 1 1, .slice (some ⟨q, 0, none⟩) 2 2] 31))) ((Below.refl _ _).alloc (Nat.le_refl _) _)
     have hn2 := hn.keep (w' := (w.alloc (.cells #[.int .i64 2, .bool false, .string ⟨#[]⟩, .slice none 0 0, .slice none 0 0, .slice none 0 0, .slice (some ⟨p, 0, none⟩) 1 1, .slice (some ⟨q, 0, none⟩) 2 2] 31))) ((Below.refl _ _).alloc (Nat.le_refl _) _)
     exact lit_all hT hpb hbk hQ fuel b0 b1 b2 b3 true true b6 b7 v6 v19 v20 v21 v22 _ _ v25 _ (by simp [nbb] at hc ⊢; omega) ⟨k.bl, k.i0, k.i1, k.i2, k.i3, k.i4, fun _ => ⟨w.heap.size, rfl, nl_lit 1 (heap_alloc_new w _) (hI.fresh (Nat.le_refl _)) rfl (.cons 2 false [] [] [] [] [[38, 38]] _ _ _ _ _ _ _ _ ⟨rfl, rfl, rfl, rfl, sl_none, sl_none, sl_none, hs2⟩ rfl hn2 .nil) rfl (Nat.le_refl _)⟩, k.i6, k.i7, k.j7⟩
   · refine wpOp_step (o := _) rfl (fun K hK => ?_)
     rw [if_pos (by kernel_rfl)]
     obtain ⟨p, rfl, hn⟩ := hI.i5 rfl
     refine val_step (d := some 25) rfl (ex_b2 rfl rfl (hT.e24 v6 v19 v20 v21 v22 v23 _ v25) (r6 p w)) ?_
     rw [hT.p25]
     refine hK _ _ ?_
     exact lit_all hT hpb hbk hQ fuel b0 b1 b2 b3 b4 true true b7 v6 v19 v20 v21 v22 v23 _ _ _ (by simp [nbb] at hc ⊢; omega) ⟨hI.bl, hI.i0, hI.i1, hI.i2, hI.i3, hI.i4, hI.i5, fun _ => ⟨p, rfl, hn⟩, hI.i7, hI.j7⟩
   · refine wpOp_step (o := _) rfl (fun K hK => ?_)
     rw [if_pos (by kernel_rfl)]
     refine val_step (d := some 6) rfl (ex_al rfl) ?_
     rw [hT.p6]
     refine hK _ _ ?_
     have hb : Below w.heap.size w (w.alloc (.cells #[.int .i64 0, .bool false, .string ⟨#[]⟩, .slice none 0 0, .slice none 0 0, .slice none 0 0, .slice none 0 0, .slice none 0 0] 31)) := ((Below.refl _ _).alloc (Nat.le_refl _) _)
     have k := hI.keep hb
     have hs7 : w.heap.size ≤ (w.alloc (.cells #[.int .i64 0, .bool false, .string ⟨#[]⟩, .slice none 0 0, .slice none 0 0, .slice none 0 0, .slice none 0 0, .slice none 0 0] 31)).heap.size := hb.size
     have hk : ∀ g, Pb v6 g → g < w.heap.size → Pb (.pointer (some ⟨w.heap.size, 0, none⟩)) g ∧ (w.alloc (.cells #[.int .i64 0, .bool false, .string ⟨#[]⟩, .slice none 0 0, .slice none 0 0, .slice none 0 0, .slice none 0 0, .slice none 0 0] 31)).heap[g]? = w.heap[g]? := fun g _ hg => ⟨fun e => by injection e with e; injection e with e; injection e with e; omega, hb.block g hg⟩
     exact lit_all hT hpb hbk hQ fuel b0 b1 b2 b3 b4 b5 b6 true _ v19 v20 v21 v22 v23 v24 v25 _ (by simp [nbb] at hc ⊢; omega) ⟨k.bl, fun e => by obtain ⟨p, h1, h2⟩ := hI.i0 e; exact ⟨p, h1, h2.same hk hs7 fun _ _ h => h⟩, k.i1, fun e => by obtain ⟨p, h1, h2⟩ := hI.i2 e; exact ⟨p, h1, h2.same hk hs7⟩, fun e => by obtain ⟨p, h1, h2⟩ := hI.i3 e; exact ⟨p, h1, h2.same hk hs7⟩, fun e => by obtain ⟨p, q, h1, h2, h3⟩ := hI.i4 e; exact ⟨p, q, h1, h2.same hk hs7 fun _ _ h => h, h3.same hk hs7⟩, fun e => by obtain ⟨p, h1, h2⟩ := hI.i5 e; exact ⟨p, h1, h2.same hk hs7⟩, fun e => by obtain ⟨p, h1, h2⟩ := hI.i6 e; exact ⟨p, h1, h2.same hk hs7⟩, fun _ => ⟨w.heap.size, rfl, hI.bl.size, by simp, heap_alloc_new w _⟩, fun e => by cases e⟩
   · refine wpOp_step (o := _) rfl (fun K hK => ?_)
     rw [if_pos (by kernel_rfl)]
     obtain ⟨q, rfl, hn⟩ := hI.i6 rfl
     obtain ⟨p, rfl, hp1, hp2, hp3⟩ := hI.i7 rfl
     refine wp_store_row 31 _ _ rfl p #[.int .i64 3, .bool false, .string ⟨#[]⟩, .slice none 0 0, .slice none 0 0, .slice none 0 0, .slice none 0 0, .slice (some ⟨q, 0, none⟩) 1 1] (hT.e6 _ v19 v20 v21 v22 v23 v24 _) (hT.e25 _ v19 v20 v21 v22 v23 v24 _) 31 _ hp3 (by kernel_rfl) rfl (by simp [Value.oneCell']) ?_
     refine hK _ _ ?_
     refine wpAny_done (by kernel_rfl) ?_ _
     exact hQ p v19 v20 v21 v22 v23 v24 _ _ (setRow_below hI.bl hp1) hp1 ⟨q, setRow_heap _ _ _ _ _ _ hp3, hn.same (fun g hg _ => ⟨fun e => hg (by rw [e]), setRow_other _ _ g _ (fun e => hg (by rw [e]))⟩) (by rw [setRow_size]; exact Nat.le_refl _)⟩
end Lit
end Sy
end
section
open Go.RowKit Tx
namespace Sy
open Lx (Tok toks)
open Wx (Pt LV Cs pvs Nw wt cnt txt)
def wantA : Nd := listN [.mk 2 false [] [] [] [] [[38, 38]] [.mk 1 true [] [] [] [] [] [sm [97], sm [98]], sm [99]]]
theorem first_script : script (toL ⟨#[33, 32, 97, 32, 124, 32, 98, 32, 38, 38, 32, 99]⟩) = .ok wantA := by kernel_rfl
theorem second_script : script (toL ⟨#[97, 61, 49, 32, 98, 32, 124, 32, 33, 32, 99]⟩) = .error 100 := by kernel_rfl
set_option maxHeartbeats 4000000 in
set_option maxRecDepth 100000 in
theorem awake_any (w : World) (hK : KS w) : Calls Tryz.prog 15 #[] w fun e w' => e = .returned (.bool true) ∧ Below w.heap.size w w' := by
 have HK := Kept.mk hK
 have H1 : Kept (script (toL ⟨#[33, 32, 97, 32, 124, 32, 98, 32, 38, 38, 32, 99]⟩) = .ok wantA) := ⟨first_script⟩
 have H2 : Kept (script (toL ⟨#[97, 61, 49, 32, 98, 32, 124, 32, 33, 32, 99]⟩) = .error 100) := ⟨second_script⟩
 clear hK
 go_enter Tryz.func15, Tryz.ntmps15
 go_wp2_with fail
 go_at_call 13
 refine (prog_ok _ _ HK.out (by decide) wantA H1).mono ?_
 rintro e w1 ⟨k, q, nm, A1, n1, k1, A2, n2, k2, A3, n3, k3, A4, n4, k4, A5, n5, k5, rfl, hn, hb⟩
 have HB1 := hb
 have HR1 := Kept.mk (heap_alloc_new w1 (.cells #[.int .i64 k, .bool q, .string (bs nm), .slice A1 n1 k1, .slice A2 n2 k2, .slice A3 n3 k3, .slice A4 n4 k4, .slice A5 n5 k5] 31))
 have HN1 := Kept.mk (hn.out.keep ((Below.refl _ _).alloc (Nat.le_refl _) (.cells #[.int .i64 k, .bool q, .string (bs nm), .slice A1 n1 k1, .slice A2 n2 k2, .slice A3 n3 k3, .slice A4 n4 k4, .slice A5 n5 k5] 31)))
 have HB2 := Kept.mk (HB1.out.alloc HB1.out.size (.cells #[.int .i64 k, .bool q, .string (bs nm), .slice A1 n1 k1, .slice A2 n2 k2, .slice A3 n3 k3, .slice A4 n4 k4, .slice A5 n5 k5] 31))
 have HG1 : Kept (w1.heap.size < (w1.alloc (.cells #[.int .i64 k, .bool q, .string (bs nm), .slice A1 n1 k1, .slice A2 n2 k2, .slice A3 n3 k3, .slice A4 n4 k4, .slice A5 n5 k5] 31)).heap.size) := ⟨by simp⟩
 clear hn hb
 go_wp2_with fail
 generalize w1.alloc (.cells #[.int .i64 k, .bool q, .string (bs nm), .slice A1 n1 k1, .slice A2 n2 k2, .slice A3 n3 k3, .slice A4 n4 k4, .slice A5 n5 k5] 31) = w2 at *
 generalize w1.heap.size = b1 at *
 go_at_call 13
 refine (prog_no _ _ (HK.out.below HB2.out) (by decide) 100 H2).mono ?_
 rintro e w3 ⟨rfl, hb⟩
 have HR3 := Kept.mk ((hb.out.block _ HG1.out).trans HR1.out)
 have HN3 := Kept.mk (HN1.out.keep hb.out)
 have HB3 := Kept.mk (HB2.out.trans (hb.out.mono HB2.out.size))
 have HG3 : Kept (b1 < w3.heap.size) := ⟨Nat.lt_of_lt_of_le HG1.out hb.out.size⟩
 clear hb HR1 HN1 HG1
 go_wp2_with fail
 have HR4 := Kept.mk ((Below.heap_alloc w3 (.cells #[.int .i64 0, .bool false, .string ⟨#[]⟩, .slice none 0 0, .slice none 0 0, .slice none 0 0, .slice none 0 0, .slice none 0 0] 31) _ HG3.out).trans HR3.out)
 have HN4 := Kept.mk (HN3.out.keep ((Below.refl _ _).alloc (Nat.le_refl _) (.cells #[.int .i64 0, .bool false, .string ⟨#[]⟩, .slice none 0 0, .slice none 0 0, .slice none 0 0, .slice none 0 0, .slice none 0 0] 31)))
 have HB4 := Kept.mk (HB3.out.alloc HB3.out.size (.cells #[.int .i64 0, .bool false, .string ⟨#[]⟩, .slice none 0 0, .slice none 0 0, .slice none 0 0, .slice none 0 0, .slice none 0 0] 31))
 have HG4 : Kept (b1 < (w3.alloc (.cells #[.int .i64 0, .bool false, .string ⟨#[]⟩, .slice none 0 0, .slice none 0 0, .slice none 0 0, .slice none 0 0, .slice none 0 0] 31)).heap.size) := ⟨by have := HG3.out; simp; omega⟩
 clear HR3 HN3 HB3 HG3
 generalize w3.alloc (.cells #[.int .i64 0, .bool false, .string ⟨#[]⟩, .slice none 0 0, .slice none 0 0, .slice none 0 0, .slice none 0 0, .slice none 0 0] 31) = w4 at *
 generalize w3.heap.size = b3 at *
 go_at_call 30
 refine (simple_lit [97] w4).mono ?_
 rintro e w5 ⟨ga, rfl, hpa, hb⟩
 have HPa := hpa
 have HR5 := Kept.mk ((hb.out.block _ HG4.out).trans HR4.out)
 have HN5 := Kept.mk (HN4.out.keep hb.out)
 have HB5 := Kept.mk (HB4.out.trans (hb.out.mono HB4.out.size))
 have HG5 : Kept (b1 < w5.heap.size) := ⟨Nat.lt_of_lt_of_le HG4.out hb.out.size⟩
 clear hb HR4 HN4 HG4 hpa
 go_wp2_with fail
 go_at_call 30
 refine (simple_lit [98] w5).mono ?_
 rintro e w6 ⟨gb, rfl, hpb, hb⟩
 have HPb := hpb
 have HPa := Kept.mk (HPa.out.keepB hb.out)
 have HR6 := Kept.mk ((hb.out.block _ HG5.out).trans HR5.out)
 have HN6 := Kept.mk (HN5.out.keep hb.out)
 have HB6 := Kept.mk (HB5.out.trans (hb.out.mono HB5.out.size))
 have HG6 : Kept (b1 < w6.heap.size) := ⟨Nat.lt_of_lt_of_le HG5.out hb.out.size⟩
 clear hb HR5 HN5 HG5 hpb
 go_wp2_with fail
 have HB0 : Kept (Below w6.heap.size w6 ((w6.alloc (.cells #[.int .i64 0, .bool false, .string (bs []), .slice (some ⟨ga, 0, none⟩) 1 1, .slice none 0 0, .slice none 0 0, .slice none 0 0, .slice none 0 0, .int .i64 0, .bool false, .string (bs []), .slice (some ⟨gb, 0, none⟩) 1 1, .slice none 0 0, .slice none 0 0, .slice none 0 0, .slice none 0 0] 31)).alloc (.cells #[.int .i64 1, .bool true, .string ⟨#[]⟩, .slice none 0 0, .slice none 0 0, .slice none 0 0, .slice none 0 0, .slice (some ⟨w6.heap.size, 0, none⟩) 2 2] 31))) := ⟨((Below.refl _ _).alloc (Nat.le_refl _) _).alloc (by simp) _⟩
 have HK8 : Kept (((w6.alloc (.cells #[.int .i64 0, .bool false, .string (bs []), .slice (some ⟨ga, 0, none⟩) 1 1, .slice none 0 0, .slice none 0 0, .slice none 0 0, .slice none 0 0, .int .i64 0, .bool false, .string (bs []), .slice (some ⟨gb, 0, none⟩) 1 1, .slice none 0 0, .slice none 0 0, .slice none 0 0, .slice none 0 0] 31)).alloc (.cells #[.int .i64 1, .bool true, .string ⟨#[]⟩, .slice none 0 0, .slice none 0 0, .slice none 0 0, .slice none 0 0, .slice (some ⟨w6.heap.size, 0, none⟩) 2 2] 31)).heap[w6.heap.size]? = some (.cells #[.int .i64 0, .bool false, .string (bs []), .slice (some ⟨ga, 0, none⟩) 1 1, .slice none 0 0, .slice none 0 0, .slice none 0 0, .slice none 0 0, .int .i64 0, .bool false, .string (bs []), .slice (some ⟨gb, 0, none⟩) 1 1, .slice none 0 0, .slice none 0 0, .slice none 0 0, .slice none 0 0] 31 (0, 0))) := ⟨(Below.heap_alloc _ _ _ (by simp)).trans (heap_alloc_new w6 _)⟩
 have HP8 : Kept (((w6.alloc (.cells #[.int .i64 0, .bool false, .string (bs []), .slice (some ⟨ga, 0, none⟩) 1 1, .slice none 0 0, .slice none 0 0, .slice none 0 0, .slice none 0 0, .int .i64 0, .bool false, .string (bs []), .slice (some ⟨gb, 0, none⟩) 1 1, .slice none 0 0, .slice none 0 0, .slice none 0 0, .slice none 0 0] 31)).alloc (.cells #[.int .i64 1, .bool true, .string ⟨#[]⟩, .slice none 0 0, .slice none 0 0, .slice none 0 0, .slice none 0 0, .slice (some ⟨w6.heap.size, 0, none⟩) 2 2] 31)).heap[w6.heap.size + 1]? = some (.cells #[.int .i64 1, .bool true, .string ⟨#[]⟩, .slice none 0 0, .slice none 0 0, .slice none 0 0, .slice none 0 0, .slice (some ⟨w6.heap.size, 0, none⟩) 2 2] 31 (0, 0))) := ⟨by have := heap_alloc_new (w6.alloc (.cells #[.int .i64 0, .bool false, .string (bs []), .slice (some ⟨ga, 0, none⟩) 1 1, .slice none 0 0, .slice none 0 0, .slice none 0 0, .slice none 0 0, .int .i64 0, .bool false, .string (bs []), .slice (some ⟨gb, 0, none⟩) 1 1, .slice none 0 0, .slice none 0 0, .slice none 0 0, .slice none 0 0] 31)) (.cells #[.int .i64 1, .bool true, .string ⟨#[]⟩, .slice none 0 0, .slice none 0 0, .slice none 0 0, .slice none 0 0, .slice (some ⟨w6.heap.size, 0, none⟩) 2 2] 31); rwa [World.size_alloc] at this⟩
 generalize (w6.alloc (.cells #[.int .i64 0, .bool false, .string (bs []), .slice (some ⟨ga, 0, none⟩) 1 1, .slice none 0 0, .slice none 0 0, .slice none 0 0, .slice none 0 0, .int .i64 0, .bool false, .string (bs []), .slice (some ⟨gb, 0, none⟩) 1 1, .slice none 0 0, .slice none 0 0, .slice none 0 0, .slice none 0 0] 31)).alloc (.cells #[.int .i64 1, .bool true, .string ⟨#[]⟩, .slice none 0 0, .slice none 0 0, .slice none 0 0, .slice none 0 0, .slice (some ⟨w6.heap.size, 0, none⟩) 2 2] 31) = w8 at *
 have HGk : Kept (b1 < w6.heap.size ∧ w.heap.size ≤ w6.heap.size) := ⟨HG6.out, HB6.out.size⟩
 have HR8 := Kept.mk ((HB0.out.block _ HG6.out).trans HR6.out)
 have HN8 := Kept.mk (HN6.out.keep HB0.out)
 have HPa := Kept.mk (HPa.out.keepB HB0.out)
 have HPb := Kept.mk (HPb.out.keepB HB0.out)
 have HB8 := Kept.mk (HB6.out.trans (HB0.out.mono HB6.out.size))
 clear HB0 HR6 HN6 HG6 HB6
 generalize w6.heap.size = b5 at *
 have HNk : Kept (NL (fun g => g < w8.heap.size) w8 (.slice (some ⟨b5, 0, none⟩) 2 2) [sm [97], sm [98]]) := ⟨by
   have hb5 := (Array.getElem?_eq_some_iff.1 HK8.out).1
   have c : ∀ {P : Nat → Prop} {w : World} {va : Value} {ws : List (List Pt)}, Parts P w va (.slice none 0 0) (.slice none 0 0) (.slice none 0 0) ws [] [] [] → Parts (fun g => True) w va (.slice none 0 0) (.slice none 0 0) (.slice none 0 0) ws [] [] [] := fun h => h.same (fun g _ _ => ⟨trivial, rfl⟩) (Nat.le_refl _)
   refine (nl_lit (P := fun _ => True) 2 HK8.out trivial rfl (.cons 0 false [] _ [] [] [] [] _ _ _ _ _ _ _ (c HPa.out) rfl nl_none (.cons 0 false [] _ [] [] [] [] _ _ _ _ _ _ _ (c HPb.out) rfl nl_none .nil)) rfl (Nat.le_refl _)).same (fun g _ hg => ⟨hg, rfl⟩) (Nat.le_refl _)⟩
 refine wp_region_any (by kernel_rfl) ?_
 change wpAny _ .any Lit.lops _ _ _ _ w8.drew
 refine Lit.lit_all (T := fun v6 v19 v20 v21 v22 v23 v24 v25 => { tmps := #[.bool false, .pointer (some ⟨b1, 0, none⟩), .int .i64 0, .pointer (some ⟨b3, 0, none⟩), .int .i64 100, .pointer (some ⟨b5 + 1, 0, none⟩), v6, .tuple #[.agg #[.int .i64 k, .bool q, .string (bs nm), .slice A1 n1 k1, .slice A2 n2 k2, .slice A3 n3 k3, .slice A4 n4 k4, .slice A5 n5 k5], .int .i64 0], .tuple #[.agg #[.int .i64 k, .bool q, .string (bs nm), .slice A1 n1 k1, .slice A2 n2 k2, .slice A3 n3 k3, .slice A4 n4 k4, .slice A5 n5 k5], .int .i64 0], .agg #[.int .i64 k, .bool q, .string (bs nm), .slice A1 n1 k1, .slice A2 n2 k2, .slice A3 n3 k3, .slice A4 n4 k4, .slice A5 n5 k5], .int .i64 0, .tuple #[.agg #[.int .i64 0, .bool false, .string ⟨#[]⟩, .slice none 0 0, .slice none 0 0, .slice none 0 0, .slice none 0 0, .slice none 0 0], .int .i64 100], .tuple #[.agg #[.int .i64 0, .bool false, .string ⟨#[]⟩, .slice none 0 0, .slice none 0 0, .slice none 0 0, .slice none 0 0, .slice none 0 0], .int .i64 100], .agg #[.int .i64 0, .bool false, .string ⟨#[]⟩, .slice none 0 0, .slice none 0 0, .slice none 0 0, .slice none 0 0, .slice none 0 0], .int .i64 100, .agg #[.int .i64 0, .bool false, .string (bs []), .slice (some ⟨ga, 0, none⟩) 1 1, .slice none 0 0, .slice none 0 0, .slice none 0 0, .slice none 0 0], .agg #[.int .i64 0, .bool false, .string (bs []), .slice (some ⟨gb, 0, none⟩) 1 1, .slice none 0 0, .slice none 0 0, .slice none 0 0, .slice none 0 0], .slice (some ⟨b5, 0, none⟩) 2 2, .agg #[.int .i64 1, .bool true, .string ⟨#[]⟩, .slice none 0 0, .slice none 0 0, .slice none 0 0, .slice none 0 0, .slice (some ⟨b5, 0, none⟩) 2 2], v19, v20, v21, v22, v23, v24, v25, undef, undef, undef, undef, undef, undef, undef, undef, undef, undef, undef], defers := [] }) (pb := b5 + 1) (w8 := w8) (bk := b5) ?_ HP8.out HNk.out (fun p v19 v20 v21 v22 v23 v24 v25 w9 hb hp hF => ?_) _ false false false false false false false false undef undef undef undef undef undef undef undef _ (by simp [Lit.nbb]) ?_
 · constructor <;> intros <;> rfl
 · have HB9 := Kept.mk (HB8.out.trans (hb.mono HB8.out.size))
   have HN9 := Kept.mk (HN8.out.keep hb)
   have HR9 := Kept.mk ((hb.block _ (Array.getElem?_eq_some_iff.1 HR8.out).1).trans HR8.out)
   obtain ⟨q6, hr, hnl⟩ := hF.out
   have HW := Kept.mk (And.intro hr hnl)
   clear hF hr hnl hb hp HR8 HN8 HB8 HP8 HK8 HNk HPa HPb HGk
   have e1 : ((0 : Int) == 0) = true := rfl
   have x0 := cell_of_row _ _ 0 _ _ _ HR9.out
   have x1 := cell_of_row _ _ 1 _ _ _ HR9.out
   have x2 := cell_of_row _ _ 2 _ _ _ HR9.out
   have x3 := cell_of_row _ _ 3 _ _ _ HR9.out
   have x4 := cell_of_row _ _ 4 _ _ _ HR9.out
   have x5 := cell_of_row _ _ 5 _ _ _ HR9.out
   have x6 := cell_of_row _ _ 6 _ _ _ HR9.out
   have x7 := cell_of_row _ _ 7 _ _ _ HR9.out
   have y0 := cell_of_row _ _ 0 _ _ _ HW.out.1
   have y1 := cell_of_row _ _ 1 _ _ _ HW.out.1
   have y2 := cell_of_row _ _ 2 _ _ _ HW.out.1
   have y3 := cell_of_row _ _ 3 _ _ _ HW.out.1
   have y4 := cell_of_row _ _ 4 _ _ _ HW.out.1
   have y5 := cell_of_row _ _ 5 _ _ _ HW.out.1
   have y6 := cell_of_row _ _ 6 _ _ _ HW.out.1
   have y7 := cell_of_row _ _ 7 _ _ _ HW.out.1
   have HV : Kept (NV (fun g => g ≠ p) w9 (.agg #[.int .i64 3, .bool false, .string ⟨#[]⟩, .slice none 0 0, .slice none 0 0, .slice none 0 0, .slice none 0 0, .slice (some ⟨q6, 0, none⟩) 1 1]) wantA) := ⟨.mk 3 false [] [] [] [] [] [Lit.aoN] _ _ _ _ _ Lit.parts_none rfl HW.out.2⟩
   have HFw : Kept (Few9 wantA) := ⟨few_of _ (by decide)⟩
   go_wp2_with (first
     | (go_at_call 16; refine (same_any HFw.out _ _ _ _ _ HN9.out HV.out).mono ?_; rintro e w10 ⟨rfl, hb⟩; have HB10 := Kept.mk (HB9.out.trans (hb.mono HB9.out.size)); clear hb))
   go_ret
   exact ⟨rfl, HB10.out⟩
 · refine ⟨(Below.refl _ _).drew, ?_, ?_, ?_, ?_, ?_, ?_, ?_, ?_, fun _ => rfl⟩ <;> (intro e; cases e)
end Sy
end
end Go.Proofs.YtahjonfmhejoeaaGreatDoor
