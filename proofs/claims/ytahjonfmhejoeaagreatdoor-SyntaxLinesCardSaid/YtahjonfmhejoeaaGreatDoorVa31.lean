/-
  Parts of the proof, merged.
-/
import Derived.Test.YtahjonfmhejoeaaGreatDoorVa30
namespace Go.Proofs.YtahjonfmhejoeaaGreatDoor
section
open Go.RowKit Tx
namespace Sy
open Lx (Tok tv tvs tvs_at Qt pan)
open Wx (Pt LV Nw parts)
theorem nodeInfo : (Tryz.prog.info? 31).map (fun i => (i.zero, i.size, i.bytes)) = some (some (.agg #[.int .i64 0, .bool false, .string ⟨#[]⟩, .slice none 0 0, .slice none 0 0, .slice none 0 0, .slice none 0 0, .slice none 0 0]), 8, 152) := by kernel_rfl
theorem partsInfo : (Tryz.prog.info? 61).map (fun i => (i.zero, i.size, i.bytes)) = some (some (.slice none 0 0), 1, 24) := by kernel_rfl
theorem strInfo : (Tryz.prog.info? 9).map (fun i => (i.zero, i.size, i.bytes)) = some (some (.string ⟨#[]⟩), 1, 16) := by kernel_rfl
theorem redInfo : (Tryz.prog.info? 66).map (fun i => (i.zero, i.size, i.bytes)) = some (some (.agg #[.string ⟨#[]⟩, .slice none 0 0]), 2, 40) := by kernel_rfl
theorem asgInfo : (Tryz.prog.info? 63).map (fun i => (i.zero, i.size, i.bytes)) = some (some (.agg #[.string ⟨#[]⟩, .slice none 0 0]), 2, 40) := by kernel_rfl
theorem info_parts {α : Type} {o : Option α} {f : α → Option Value × Nat × Nat} {z : Option Value × Nat × Nat} (h : o.map f = some z) : ∃ i, o = some i ∧ f i = z := Option.map_eq_some_iff.1 h
theorem fitsKids (nb g : Nat) (f : FuncId) (hf : ∀ W, (callFunc f #[.pointer (some ⟨g, 0, none⟩)]).run Tryz.prog W = .ok (.enter f #[.pointer (some ⟨g, 0, none⟩)]) W) : ∃ ti z, App.Fits Tryz.prog 31 29 31 94 7 7 f nb ti z 8 152 (.pointer (some ⟨g, 0, none⟩)) := by
 obtain ⟨i0, hi, hz⟩ := info_parts nodeInfo
 simp only [Prod.mk.injEq] at hz
 obtain ⟨hz0, hz1, hz2⟩ := hz
 exact ⟨i0, _, fun W => by kernel_rfl, fun W v h => by simp [go_sem, h], fun W A l c u h1 h2 => by simp [go_sem, h1, h2], hf, Tryz.underlying29, hi, hz0, hz1, hz2, rfl, by decide⟩
theorem fitsWords (nb g : Nat) (f : FuncId) (hf : ∀ W, (callFunc f #[.pointer (some ⟨g, 0, none⟩)]).run Tryz.prog W = .ok (.enter f #[.pointer (some ⟨g, 0, none⟩)]) W) : ∃ ti z, App.Fits Tryz.prog 31 26 61 94 3 3 f nb ti z 1 24 (.pointer (some ⟨g, 0, none⟩)) := by
 obtain ⟨i0, hi, hz⟩ := info_parts partsInfo
 simp only [Prod.mk.injEq] at hz
 obtain ⟨hz0, hz1, hz2⟩ := hz
 exact ⟨i0, _, fun W => by kernel_rfl, fun W v h => by simp [go_sem, h], fun W A l c u h1 h2 => by simp [go_sem, h1, h2], hf, Tryz.underlying26, hi, hz0, hz1, hz2, rfl, by decide⟩
theorem fitsOps (nb g : Nat) (f : FuncId) (hf : ∀ W, (callFunc f #[.pointer (some ⟨g, 0, none⟩)]).run Tryz.prog W = .ok (.enter f #[.pointer (some ⟨g, 0, none⟩)]) W) : ∃ ti z, App.Fits Tryz.prog 31 24 9 94 6 6 f nb ti z 1 16 (.pointer (some ⟨g, 0, none⟩)) := by
 obtain ⟨i0, hi, hz⟩ := info_parts strInfo
 simp only [Prod.mk.injEq] at hz
 obtain ⟨hz0, hz1, hz2⟩ := hz
 exact ⟨i0, _, fun W => by kernel_rfl, fun W v h => by simp [go_sem, h], fun W A l c u h1 h2 => by simp [go_sem, h1, h2], hf, Tryz.underlying24, hi, hz0, hz1, hz2, rfl, by decide⟩
theorem fitsRedirs (nb g : Nat) (f : FuncId) (hf : ∀ W, (callFunc f #[.pointer (some ⟨g, 0, none⟩)]).run Tryz.prog W = .ok (.enter f #[.pointer (some ⟨g, 0, none⟩)]) W) : ∃ ti z, App.Fits Tryz.prog 31 28 66 94 5 5 f nb ti z 2 40 (.pointer (some ⟨g, 0, none⟩)) := by
 obtain ⟨i0, hi, hz⟩ := info_parts redInfo
 simp only [Prod.mk.injEq] at hz
 obtain ⟨hz0, hz1, hz2⟩ := hz
 exact ⟨i0, _, fun W => by kernel_rfl, fun W v h => by simp [go_sem, h], fun W A l c u h1 h2 => by simp [go_sem, h1, h2], hf, Tryz.underlying28, hi, hz0, hz1, hz2, rfl, by decide⟩
theorem fitsAssigns (nb g : Nat) (f : FuncId) (hf : ∀ W, (callFunc f #[.pointer (some ⟨g, 0, none⟩)]).run Tryz.prog W = .ok (.enter f #[.pointer (some ⟨g, 0, none⟩)]) W) : ∃ ti z, App.Fits Tryz.prog 31 27 63 94 4 4 f nb ti z 2 40 (.pointer (some ⟨g, 0, none⟩)) := by
 obtain ⟨i0, hi, hz⟩ := info_parts asgInfo
 simp only [Prod.mk.injEq] at hz
 obtain ⟨hz0, hz1, hz2⟩ := hz
 exact ⟨i0, _, fun W => by kernel_rfl, fun W v h => by simp [go_sem, h], fun W A l c u h1 h2 => by simp [go_sem, h1, h2], hf, Tryz.underlying27, hi, hz0, hz1, hz2, rfl, by decide⟩
def nodV (W w' : World) (u : Value) (x : Nd) : Prop := NV (Nw W.heap.size) w' u x
theorem nv_parts {P : Nat → Prop} {w : World} {u : Value} {x : Nd} (h : NV P w u x) : ∃ k q n A1 n1 k1 A2 n2 k2 A3 n3 k3 A4 n4 k4 A5 n5 k5 ws gs rs os ks, u = .agg #[.int .i64 k, .bool q, .string (bs n), .slice A1 n1 k1, .slice A2 n2 k2, .slice A3 n3 k3, .slice A4 n4 k4, .slice A5 n5 k5] ∧ x = .mk k q n ws gs rs os ks ∧
   Parts P w (.slice A1 n1 k1) (.slice A2 n2 k2) (.slice A3 n3 k3) (.slice A4 n4 k4) ws gs rs os ∧ NL P w (.slice A5 n5 k5) ks := by
 cases h with
 | mk k q n ws gs rs os ks vw va vr vo vk hp h1 hk =>
   obtain ⟨A1, k1, rfl⟩ := hp.words.slice
   obtain ⟨A2, k2, rfl⟩ := hp.assigns.slice
   obtain ⟨A3, k3, rfl⟩ := hp.redirs.slice
   obtain ⟨A4, k4, rfl⟩ := hp.ops.slice
   obtain ⟨A5, k5, rfl⟩ := hk.slice
   exact ⟨k, q, n, A1, _, k1, A2, _, k2, A3, _, k3, A4, _, k4, A5, _, k5, ws, gs, rs, os, ks, rfl, rfl, hp, hk⟩
theorem valNode (W w' : World) (u : Value) (x : Nd) (_ : W.heap.size ≤ w'.heap.size) (h : nodV W w' u x) : ∃ cells : Array Value, (∀ W2, (Instr.buildSlice 29 1 #[(0, u)]).run Tryz.prog W2 = .ok (.slice (some ⟨W2.heap.size, 0, none⟩) 1 1) (W2.alloc (.cells cells 31))) ∧ cells.size = 8 ∧ (∀ y ∈ cells.toList, y.oneCell' = true) ∧ NC (Nw W.heap.size) w' cells.toList [x] := by
 obtain ⟨k, q, n, A1, n1, k1, A2, n2, k2, A3, n3, k3, A4, n4, k4, A5, n5, k5, ws, gs, rs, os, ks, rfl, rfl, hp, hk⟩ := nv_parts h
 refine ⟨#[.int .i64 k, .bool q, .string (bs n), .slice A1 n1 k1, .slice A2 n2 k2, .slice A3 n3 k3, .slice A4 n4 k4, .slice A5 n5 k5], fun W2 => by kernel_rfl, rfl, fun y hy => ?_, ?_⟩
 · simp only [List.mem_cons, List.not_mem_nil, or_false] at hy
   rcases hy with rfl | rfl | rfl | rfl | rfl | rfl | rfl | rfl <;> rfl
 · have := NC.cons k q n ws gs rs os ks _ _ _ _ _ [] [] hp rfl hk NC.nil
   simpa [nvs] using this
theorem valWord (W w' : World) (u : Value) (x : List Pt) (_ : W.heap.size ≤ w'.heap.size) (h : LV (Nw W.heap.size) w' u x) : ∃ cells : Array Value, (∀ W2, (Instr.buildSlice 26 1 #[(0, u)]).run Tryz.prog W2 = .ok (.slice (some ⟨W2.heap.size, 0, none⟩) 1 1) (W2.alloc (.cells cells 61))) ∧ cells.size = 1 ∧ (∀ y ∈ cells.toList, y.oneCell' = true) ∧ WC (Nw W.heap.size) w' cells.toList [x] := by
 obtain ⟨A, k, rfl⟩ := h.slice
 refine ⟨#[.slice A x.length k], fun W2 => by kernel_rfl, rfl, fun y hy => ?_, .cons _ _ _ _ rfl h .nil⟩
 simp only [List.mem_cons, List.not_mem_nil, or_false] at hy
 subst hy; rfl
theorem valStr (W w' : World) (u : Value) (x : List UInt8) (_ : W.heap.size ≤ w'.heap.size) (h : strV w' u x) : ∃ cells : Array Value, (∀ W2, (Instr.buildSlice 24 1 #[(0, u)]).run Tryz.prog W2 = .ok (.slice (some ⟨W2.heap.size, 0, none⟩) 1 1) (W2.alloc (.cells cells 9))) ∧ cells.size = 1 ∧ (∀ y ∈ cells.toList, y.oneCell' = true) ∧ OCw (Nw W.heap.size) w' cells.toList [x] := by
 obtain rfl : u = .string (bs x) := h
 refine ⟨#[.string (bs x)], fun W2 => by kernel_rfl, rfl, fun y hy => ?_, rfl⟩
 simp only [List.mem_cons, List.not_mem_nil, or_false] at hy
 subst hy; rfl
theorem valRed (W w' : World) (u : Value) (x : List UInt8 × List Pt) (_ : W.heap.size ≤ w'.heap.size) (h : redV (Nw W.heap.size) w' u x) : ∃ cells : Array Value, (∀ W2, (Instr.buildSlice 28 1 #[(0, u)]).run Tryz.prog W2 = .ok (.slice (some ⟨W2.heap.size, 0, none⟩) 1 1) (W2.alloc (.cells cells 66))) ∧ cells.size = 2 ∧ (∀ y ∈ cells.toList, y.oneCell' = true) ∧ AC (Nw W.heap.size) w' cells.toList [x] := by
 obtain ⟨v, rfl, h1, hl⟩ := h
 obtain ⟨A, k, rfl⟩ := hl.slice
 refine ⟨#[.string (bs x.1), .slice A x.2.length k], fun W2 => by kernel_rfl, rfl, fun y hy => ?_, .cons _ _ _ _ _ rfl hl .nil⟩
 simp only [List.mem_cons, List.not_mem_nil, or_false] at hy
 rcases hy with rfl | rfl <;> rfl
theorem valAsg (W w' : World) (u : Value) (x : List UInt8 × List Pt) (_ : W.heap.size ≤ w'.heap.size) (h : redV (Nw W.heap.size) w' u x) : ∃ cells : Array Value, (∀ W2, (Instr.buildSlice 27 1 #[(0, u)]).run Tryz.prog W2 = .ok (.slice (some ⟨W2.heap.size, 0, none⟩) 1 1) (W2.alloc (.cells cells 63))) ∧ cells.size = 2 ∧ (∀ y ∈ cells.toList, y.oneCell' = true) ∧ AC (Nw W.heap.size) w' cells.toList [x] := by
 obtain ⟨v, rfl, h1, hl⟩ := h
 obtain ⟨A, k, rfl⟩ := hl.slice
 refine ⟨#[.string (bs x.1), .slice A x.2.length k], fun W2 => by kernel_rfl, rfl, fun y hy => ?_, .cons _ _ _ _ _ rfl hl .nil⟩
 simp only [List.mem_cons, List.not_mem_nil, or_false] at hy
 rcases hy with rfl | rfl <;> rfl
structure BS (w0 w : World) (g d nb : Nat) (cs : Array Value) (us : List Tok) : Prop where
 row : w.heap[nb]? = some (.cells cs 31 (0, 0))
 res : ∃ old, w.heap[w0.heap.size]? = some (.cells old 31 (0, 0)) ∧ old.size = 8
 pm : PM w g d us
 only : Only (· = g) w0 w
 gn : g < w0.heap.size
 nr : w0.heap.size < nb
theorem BS.mv {w0 w w' : World} {g d d' nb : Nat} {cs : Array Value} {us vs : List Tok} (h : BS w0 w g d nb cs us) (ho : Only (· = g) w w') (hp : PM w' g d' vs) : BS w0 w' g d' nb cs vs := by
 obtain ⟨old, hr, hs⟩ := h.res
 have h1 := h.nr
 have h2 := h.gn
 exact ⟨(ho.block nb (Array.getElem?_eq_some_iff.1 h.row).1 (by omega)).trans h.row, ⟨old, (ho.block _ (Array.getElem?_eq_some_iff.1 hr).1 (by omega)).trans hr, hs⟩, hp, only_two h.only ho, h2, h1⟩
theorem BS.below {w0 w w' : World} {g d nb : Nat} {cs : Array Value} {us : List Tok} (h : BS w0 w g d nb cs us) (hb : Below w.heap.size w w') : BS w0 w' g d nb cs us := h.mv ((Only.refl _ _).below hb) (h.pm.below hb)
theorem BS.grown {w0 w w' : World} {g d nb : Nat} {cs cs' : Array Value} {us vs : List Tok} {v : Value} (h : BS w0 w g d nb cs us) (hrow : w'.heap[nb]? = some (.cells cs' 31 (0, 0))) (hp : PM w' g d vs) (ho : Only (fun b => b = g ∨ b = nb ∨ v.ownBlock = some b) w w') (hv : ∀ o, v.ownBlock = some o → nb < o) : BS w0 w' g d nb cs' vs := by
 obtain ⟨old, hr, hs⟩ := h.res
 have h1 := h.nr
 have h2 := h.gn
 have hsz := h.only.size
 refine ⟨hrow, ⟨old, (ho.block _ (Array.getElem?_eq_some_iff.1 hr).1 ?_).trans hr, hs⟩, hp, h.only.trans ho ?_, h2, h1⟩
 · rintro (e | e | e)
   · omega
   · omega
   · have := hv _ e; omega
 · rintro i hi (e | e | e)
   · exact e
   · omega
   · have := hv _ e; omega
end Sy
end
section
open Go.RowKit Tx
namespace Sy
open Lx (Tok tv tvs tvs_at Qt pan)
open Wx (Pt LV Nw parts)
theorem BS.start {w : World} {g d : Nat} {ts : List Tok} (h : PM w g d ts) (cs0 cs : Array Value) (h8 : cs0.size = 8) : BS w ((w.alloc (.cells cs0 31)).alloc (.cells cs 31)) g d (w.heap.size + 1) cs ts := by
 have hb : Below w.heap.size w ((w.alloc (.cells cs0 31)).alloc (.cells cs 31)) := ((Below.refl _ _).alloc (Nat.le_refl _) _).alloc (by simp) _
 refine ⟨?_, ⟨cs0, ?_, h8⟩, h.below hb, (Only.refl _ _).below hb, h.lt, by omega⟩
 · have := heap_alloc_new (w.alloc (.cells cs0 31)) (.cells cs 31)
   simpa using this
 · rw [Below.heap_alloc _ _ _ (by simp)]
   exact heap_alloc_new w _
theorem BS.done {w0 w : World} {g d nb : Nat} {cs : Array Value} {us : List Tok} (h : BS w0 w g d nb cs us) :
   (w.setRow w0.heap.size cs).heap[w0.heap.size]? = some (.cells cs 31 (0, 0)) ∧ PM (w.setRow w0.heap.size cs) g d us ∧ Only (· = g) w0 (w.setRow w0.heap.size cs) := by
 obtain ⟨old, hr, _⟩ := h.res
 have hgn := h.gn
 refine ⟨setRow_heap _ _ _ cs _ _ hr, h.pm.low (fun i hi _ => setRow_other _ _ i _ (by omega)) (by rw [setRow_size]; exact Nat.le_refl _), ⟨h.only.os, h.only.tape, h.only.output, by rw [setRow_size]; exact h.only.size, fun i hi hn => (setRow_other _ _ i _ (by omega)).trans (h.only.block i hi hn)⟩⟩
theorem nl_done {w : World} {r m n : Nat} {v : Value} {l : List Nd} (h : NL (fun b => m ≤ b) w v l) (hr : r < m) (hn : n ≤ m) (cs : Array Value) : NL (Nw n) (w.setRow r cs) v l :=
 h.same (fun b hP _ => ⟨Nat.le_trans hn hP, setRow_other _ _ b _ (by have : m ≤ b := hP; omega)⟩) (by rw [setRow_size]; exact Nat.le_refl _)
theorem sl_done {α : Type} {C : CellsOf α} (S : Stable C) {w : World} {r m n : Nat} {v : Value} {l : List α} (h : SL (fun b => m ≤ b) w (C (fun b => m ≤ b) w) v l) (hr : r < m) (hn : n ≤ m) (cs : Array Value) : SL (Nw n) (w.setRow r cs) (C (Nw n) (w.setRow r cs)) v l :=
 h.same (fun b hP _ => ⟨Nat.le_trans hn hP, setRow_other _ _ b _ (by have : m ≤ b := hP; omega)⟩) (by rw [setRow_size]; exact Nat.le_refl _) fun xs l hc => S.same (fun b hP _ => ⟨Nat.le_trans hn hP, setRow_other _ _ b _ (by have : m ≤ b := hP; omega)⟩) (by rw [setRow_size]; exact Nat.le_refl _) hc
theorem sl_nl {P : Nat → Prop} {w : World} {v : Value} {l : List Nd} (h : SL P w (NC P w) v l) : NL P w v l := by
 cases h with
 | nil A cap h => exact .nil A cap h
 | «at» g off n cap xs l hn hm hP hg hc h => exact .at g off n cap xs l hn hm hP hg hc h
theorem sl_nil {α : Type} (P : Nat → Prop) (w : World) (C : List Value → List α → Prop) : SL P w C (.slice none 0 0) [] := .nil none 0 fun _ => rfl
def RdC (f : FuncId) (g d : Nat) (c : List Tok → R Nd) : Prop := ∀ W us, PM W g d us → Calls Tryz.prog f #[.pointer (some ⟨g, 0, none⟩)] W (RE W g d (nodV W) (c us))
theorem past_le (r : List Tok) : (past r).length ≤ r.length := by
 unfold past
 have h1 := lines_le (if isT 1 [59] r = true then r.tail else r)
 have h2 : (if isT 1 [59] r = true then r.tail else r).length ≤ r.length := by split; exact tail_le r; exact Nat.le_refl _
 omega
theorem nv_kids {P : Nat → Prop} {w : World} {k : Int} {q : Bool} {n : List UInt8} {ks : List Nd} {A5 : Option Addr} {n5 k5 : Nat} (h : NL P w (.slice A5 n5 k5) ks) : NV P w (.agg #[.int .i64 k, .bool q, .string (bs n), .slice none 0 0, .slice none 0 0, .slice none 0 0, .slice none 0 0, .slice A5 n5 k5]) (.mk k q n [] [] [] [] ks) :=
 .mk k q n [] [] [] [] ks _ _ _ _ _ ⟨rfl, rfl, rfl, rfl, sl_nil _ _ _, sl_nil _ _ _, sl_nil _ _ _, sl_nil _ _ _⟩ rfl h
theorem all_node (k : Int) (q : Bool) (n : ByteArray) (A1 A2 A3 A4 A5 : Option Addr) (n1 n2 n3 n4 n5 k1 k2 k3 k4 k5 : Nat) : (#[Value.int .i64 k, .bool q, .string n, .slice A1 n1 k1, .slice A2 n2 k2, .slice A3 n3 k3, .slice A4 n4 k4, .slice A5 n5 k5] : Array Value).all (·.oneCell') = true := by simp [Value.oneCell']
set_option maxHeartbeats 4000000 in
set_option maxRecDepth 100000 in
theorem list_any (w : World) (g d : Nat) (ts : List Tok) (h : PM w g d ts) (c : List Tok → R Nd) (hc : Lt c) (HC : Kept (RdC 57 g d c)) :
   Calls Tryz.prog 25 #[.pointer (some ⟨g, 0, none⟩)] w (RE w g d (nodV w) (list c true ts)) := by
 have H := Kept.mk h
 have HLt := Kept.mk hc
 have hfew := h.few
 obtain ⟨tiKids, zKids, hftKids⟩ := fitsKids (w.heap.size + 1) g 57 (fun W => by kernel_rfl)
 have FTKids := Kept.mk hftKids
 clear hftKids
 obtain ⟨R0, hR0⟩ : ∃ R0, R0 = list c true ts := ⟨_, rfl⟩
 rw [← hR0]
 have HR : Kept (R0 = match listF c (ts.length + 1) [] (lines ts) with | .error e => .error e | .ok (ks, r) => .ok (listN ks, r)) := ⟨by
   rw [hR0]
   unfold list
   cases listF c (ts.length + 1) [] (lines ts) with
   | error e => rfl
   | ok z => simp⟩
 have HFew := Kept.mk hfew
 have HLin := Kept.mk (lines_le ts)
 clear h hc hR0 hfew
 go_enter Tryz.func25, Tryz.ntmps25
 go_wp2_with (first
   | (go_at_call 55; refine (skipLines_any _ g d ts (BS.start H.out _ _ rfl).pm).mono ?_; rintro e w1 ⟨rfl, hp, ho⟩; have HB1 := Kept.mk ((BS.start H.out #[.int .i64 0, .bool false, .string ⟨#[]⟩, .slice none 0 0, .slice none 0 0, .slice none 0 0, .slice none 0 0, .slice none 0 0] #[.int .i64 3, .bool false, .string ⟨#[]⟩, .slice none 0 0, .slice none 0 0, .slice none 0 0, .slice none 0 0, .slice none 0 0] rfl).mv ho.out hp.out); clear hp ho))
 go_loopg [] ts.length (fun m wr => ∃ us ks vk bz k, us.length ≤ m ∧ Kept (BS w wr g d (w.heap.size + 1) #[.int .i64 3, .bool false, .string ⟨#[]⟩, .slice none 0 0, .slice none 0 0, .slice none 0 0, .slice none 0 0, vk] us) ∧ Kept (Gr bz wr (w.heap.size + 1 + 1) 31 8 NC vk ks) ∧ Kept (∀ b, bz b → b < wr.heap.size) ∧ Kept (ks.length + us.length ≤ 20000) ∧ Kept (us.length + 1 ≤ k) ∧ Kept (R0 = match listF c k ks us with | .error e => .error e | .ok (ks, r) => .ok (listN ks, r)))
 case atStart => exact ⟨lines ts, [], .slice none 0 0, fun _ => False, ts.length + 1, HLin.out, HB1, ⟨Gr.nil nc_stable _ _ _ _ _⟩, ⟨fun _ h => h.elim⟩, ⟨by have := HFew.out; have := HLin.out; simp; omega⟩, ⟨by have := HLin.out; omega⟩, HR⟩
 case round =>
   obtain ⟨us, ks, vk, bz, k, hm, HB, HG, HZ, HKs, HN, HRr⟩ := hrel
   have HM := Kept.mk hm
   clear hm
   cases he : ends us with
   | true =>
     have HE := Kept.mk he.symm
     have HRes : Kept (R0 = .ok (listN ks, us)) := ⟨by
       rw [HRr.out]
       obtain ⟨k, rfl⟩ : ∃ j, k = j + 1 := ⟨k - 1, by have := HN.out; omega⟩
       rw [listF, if_pos he]⟩
     clear he HRr HR
     go_upto_region 6 with (first
       | (go_at_call 56; refine (atListEnd_any _ g d us HB.out.pm true HE.out).mono ?_; rintro e w2 ⟨rfl, hb⟩; have HBe := Kept.mk hb; clear hb))
     have HB2 := Kept.mk (HB.out.below HBe.out)
     have HG2 : Kept (Gr bz w2 (w.heap.size + 1 + 1) 31 8 NC vk ks) := ⟨HG.out.on nc_stable (B := fun _ => False) ((Only.refl _ _).below HBe.out) (fun _ _ h => h.elim) (fun _ _ h => h) (fun _ h => h) (fun _ _ h => h)⟩
     obtain ⟨A5, k5, rfl⟩ := HG2.out.slice
     obtain ⟨old, hres, ho8⟩ := HB2.out.res
     have HOld := Kept.mk hres
     have HD := Kept.mk HB2.out.done
     have HK := Kept.mk (fun cs : Array Value => nl_done (sl_nl (HG2.out.read nc_stable (by decide))) (r := w.heap.size) (n := w.heap.size) (by omega) (by omega) cs)
     clear hres
     refine App.give (n := 3) (r := 2) (t := 20) (nt := 31) (rb := w.heap.size) HB2.out.row HOld.out Tryz.underlying31 rfl (by kernel_rfl) ho8 (all_node _ _ _ _ _ _ _ _ _ _ _ _ _ _ _ _ _ _) rfl rfl (by decide) (by simp) ?_
     go_wp2_with fail
     refine bodyPost_ret (results_cell_row rfl _ _ w.heap.size _ _ (0, 0) _ rfl HD.out.1 Tryz.underlying31 rfl (by kernel_rfl)) rfl ?_
     rw [HRes.out]
     exact ⟨_, rfl, ⟨nv_kids (HK.out _)⟩, ⟨HD.out.2.1⟩, ⟨HD.out.2.2⟩⟩
   | false =>
     have HE := Kept.mk he.symm
     have HRc : Kept (match c us with | .error e => R0 = .error e | .ok (x, r) => ∃ j, k = j + 1 ∧ r.length < us.length ∧ R0 = match (if (isT 1 [59] r || isT 2 [10] r) = true then listF c j (ks ++ [x]) (past r) else .ok (ks ++ [x], r)) with | .error e => .error e | .ok (ks, r) => .ok (listN ks, r)) := ⟨by
       obtain ⟨j, rfl⟩ : ∃ j, k = j + 1 := ⟨k - 1, by have := HN.out; omega⟩
       have := HRr.out
       rw [listF, if_neg (by rw [he]; decide)] at this
       cases hcu : c us with
       | error e => rw [hcu] at this; exact this
       | ok z =>
         rw [hcu] at this
         dsimp only at this
         refine ⟨j, rfl, HLt.out _ _ _ hcu, ?_⟩
         rw [this]
         unfold past
         by_cases h1 : isT 1 [59] z.2 = true
         · rw [if_pos h1, if_pos h1, h1, Bool.true_or, if_pos rfl]
         · rw [if_neg h1]
           have h1 : isT 1 [59] z.2 = false := by simpa using h1
           rw [h1, Bool.false_or]
           by_cases h2 : isT 2 [10] z.2 = true
           · rw [if_pos h2, if_pos h2, if_neg (by decide)]
           · rw [if_neg h2, if_neg h2]⟩
     clear he HRr HR
     go_upto_region 4 with (first
       | (go_at_call 56; refine (atListEnd_any _ g d us HB.out.pm false HE.out).mono ?_; rintro e w2 ⟨rfl, hb⟩; have HBe := Kept.mk hb; clear hb))
     have HB2 := Kept.mk (HB.out.below HBe.out)
     have HG2 : Kept (Gr bz w2 (w.heap.size + 1 + 1) 31 8 NC vk ks) := ⟨HG.out.on nc_stable (B := fun _ => False) ((Only.refl _ _).below HBe.out) (fun _ _ h => h.elim) (fun _ _ h => h) (fun _ h => h) (fun _ _ h => h)⟩
     have HZ2 : Kept (∀ b, bz b → b < w2.heap.size) := ⟨fun b h => Nat.lt_of_lt_of_le (HZ.out b h) HBe.out.size⟩
     clear HG HZ
     refine grow nc_stable (n := 3) (p := 0) (t := 10) (fo := 7) (off := 7) (nt := 31) (lt := 29) (et := 31) (pt := 94) (rt := 31) (f := 57) (fun d _ _ _ _ h => by cases d <;> exact h) FTKids.out (by kernel_rfl) (by kernel_rfl) (by decide) (by decide) (by simp) rfl rfl HB2.out.row rfl HG2.out HB2.out.pm HZ2.out rfl (by have := HB2.out.gn; have := HB2.out.nr; omega) (by have := HKs.out; omega) (by decide) (fun W h => HC.out W us h) valNode ?_ ?_
     · intro e w3 he ho a' hd
       have hR := HRc.out
       rw [he] at hR
       refine ⟨hd, ?_⟩
       rw [hR]
       exact ⟨rfl, ⟨only_two HB2.out.only ho.out⟩⟩
     · intro x r hx w3 v' bz' u s q hrow hgr hpm hz1 hz2 hz3 honly hlies
       have hR := HRc.out
       rw [hx] at hR
       obtain ⟨j, rfl, hlt, hRj⟩ := hR
       have HRj := Kept.mk hRj
       have HLt2 := Kept.mk hlt
       have HB3 := Kept.mk (HB2.out.grown hrow.out hpm.out honly.out (fun o h => by have := HG2.out.lt o h; omega))
       have HG3 := hgr
       have HZ3 := Kept.mk hz3
       clear hrow hpm honly hlies hz1 hz2 hz3 hRj hlt hgr HRc hx
       simp only [Act.put, List.setIfInBounds_toArray, List.set_cons_zero, List.set_cons_succ]
       cases hse : (isT 1 [59] r || isT 2 [10] r) with
       | false =>
         have HSe := Kept.mk hse.symm
         have HRes : Kept (R0 = .ok (listN (ks ++ [x]), r)) := ⟨by
           have := HRj.out
           rw [hse, if_neg (by decide)] at this
           exact this⟩
         clear hse HRj
         go_upto_region 6 with (first
           | (go_at_call 58; refine (skipEnd_any _ g d r HB3.out.pm false HSe.out).mono ?_; rintro e w4 ⟨rfl, hp, ho⟩; have HPe := hp; have HOe := ho; clear hp ho))
         have HB4 := Kept.mk (HB3.out.mv HOe.out HPe.out)
         have HG4 : Kept (Gr bz' w4 (w.heap.size + 1 + 1) 31 8 NC v' (ks ++ [x])) := ⟨HG3.out.on nc_stable (B := (· = g)) HOe.out (fun b h1 h2 => by have := HB3.out.gn; omega) (fun o h1 h2 => by have := HG3.out.lt o h1; have := HB3.out.gn; omega) (fun _ h => h) (fun _ _ h => h)⟩
         obtain ⟨A5, k5, rfl⟩ := HG4.out.slice
         obtain ⟨old, hres, ho8⟩ := HB4.out.res
         have HOld := Kept.mk hres
         have HD := Kept.mk HB4.out.done
         have HK := Kept.mk (fun cs : Array Value => nl_done (sl_nl (HG4.out.read nc_stable (by decide))) (r := w.heap.size) (n := w.heap.size) (by omega) (by omega) cs)
         clear hres
         refine App.give (n := 3) (r := 2) (t := 20) (nt := 31) (rb := w.heap.size) HB4.out.row HOld.out Tryz.underlying31 rfl (by kernel_rfl) ho8 (all_node _ _ _ _ _ _ _ _ _ _ _ _ _ _ _ _ _ _) rfl rfl (by decide) (by simp) ?_
         go_wp2_with fail
         refine bodyPost_ret (results_cell_row rfl _ _ w.heap.size _ _ (0, 0) _ rfl HD.out.1 Tryz.underlying31 rfl (by kernel_rfl)) rfl ?_
         rw [HRes.out]
         exact ⟨_, rfl, ⟨nv_kids (HK.out _)⟩, ⟨HD.out.2.1⟩, ⟨HD.out.2.2⟩⟩
       | true =>
         have HSe := Kept.mk hse.symm
         have HRes : Kept (R0 = match listF c j (ks ++ [x]) (past r) with | .error e => .error e | .ok (ks, r) => .ok (listN ks, r)) := ⟨by
           have := HRj.out
           rw [hse, if_pos rfl] at this
           exact this⟩
         clear hse HRj
         go_wp2_with (first
           | (go_at_call 58; refine (skipEnd_any _ g d r HB3.out.pm true HSe.out).mono ?_; rintro e w4 ⟨rfl, hp, ho⟩; have HPe := hp; have HOe := ho; clear hp ho))
         have HB4 := Kept.mk (HB3.out.mv HOe.out HPe.out)
         have HG4 : Kept (Gr bz' w4 (w.heap.size + 1 + 1) 31 8 NC v' (ks ++ [x])) := ⟨HG3.out.on nc_stable (B := (· = g)) HOe.out (fun b h1 h2 => by have := HB3.out.gn; omega) (fun o h1 h2 => by have := HG3.out.lt o h1; have := HB3.out.gn; omega) (fun _ h => h) (fun _ _ h => h)⟩
         have hpl := past_le r
         go_roundg (past r).length
         case measure => have := HM.out; have := HLt2.out; omega
         case rel => exact ⟨past r, ks ++ [x], v', bz', j, Nat.le_refl _, HB4, HG4, ⟨fun b h => Nat.lt_of_lt_of_le (HZ3.out b h) HOe.out.size⟩, ⟨by have := HKs.out; have := HLt2.out; rw [List.length_append, List.length_singleton]; omega⟩, ⟨by have := HN.out; have := HLt2.out; omega⟩, HRes⟩
end Sy
end
section
open Go.RowKit Tx
namespace Sy
open Lx (Tok tv tvs tvs_at Qt pan)
open Wx (Pt LV Nw parts)
theorem nv_done {w : World} {r m n : Nat} {u : Value} {x : Nd} (h : NV (Nw m) w u x) (hr : r < m) (hn : n ≤ m) (cs : Array Value) : NV (Nw n) (w.setRow r cs) u x :=
 h.same (fun b hP _ => ⟨Nat.le_trans hn hP, setRow_other _ _ b _ (by have : m ≤ b := hP; omega)⟩) (by rw [setRow_size]; exact Nat.le_refl _)
theorem PM.level {w : World} {g d : Nat} {ts : List Tok} (h : PM w g d ts) (d' : Nat) (hd : d' ≤ 40) : PM (w.setCell ⟨g, 1, none⟩ (.int .i64 (d' : Int))) g d' ts := by
 obtain ⟨A, k, m, hr, ht, hm, hmg⟩ := h.row
 have ho : Only (· = g) w (w.setCell ⟨g, 1, none⟩ (.int .i64 (d' : Int))) := (Only.refl _ _).setCell _ _ (fun _ => rfl)
 exact h.on ho ⟨A, k, m, by have := heap_setCell_same w g 1 _ _ (.int .i64 (d' : Int)) hr; simpa using this, ht.same (fun i hi hl => ho.block i hl (Nat.ne_of_lt hi)) ho.size, hm.same (ho.block m hm.lt (Nat.ne_of_lt hmg)), hmg⟩ h.good (Nat.le_refl _) h.short hd
theorem PM.c1 {w : World} {g d : Nat} {ts : List Tok} (h : PM w g d ts) : w.cell? ⟨g, 1, none⟩ = some (.int .i64 (d : Int)) ∧ w.frozen? ⟨g, 1, none⟩ = false := by
 obtain ⟨A, k, m, hr, _⟩ := h.row
 exact ⟨cell_of_row w g 1 _ _ _ hr, frozen_of_row w g 1 _ _ hr⟩
theorem only_set {w w' : World} {g : Nat} (h : Only (· = g) w w') (j : Nat) (v : Value) : Only (· = g) w (w'.setCell ⟨g, j, none⟩ v) := h.setCell _ _ (fun _ => rfl)
set_option maxHeartbeats 4000000 in
set_option maxRecDepth 100000 in
theorem deeper_list (w : World) (g d : Nat) (ts : List Tok) (h : PM w g d ts) (hd : d ≤ 39) (c : List Tok → R Nd) (HC : Kept (RdC 25 g (d + 1) c)) :
   Calls Tryz.prog 94 #[.pointer (some ⟨g, 0, none⟩), .func (.func 25) #[.pointer (some ⟨g, 0, none⟩)] #[]] w (RE w g d (nodV w) (c ts)) := by
 have hz1 : IntKind.i64.wrap ((d : Int) + 1) = (d : Int) + 1 := IntWalk.i64_in _ (by omega)
 have hz2 : IntKind.i64.wrap ((d : Int) + 1 - 1) = (d : Int) := by rw [IntWalk.i64_in _ (by omega)]; omega
 have hz3 : IntKind.i64.wrap (d : Int) = (d : Int) := IntWalk.i64_in _ (by omega)
 have H1 := Kept.mk (h.below ((Below.refl w.heap.size w).alloc (Nat.le_refl _) (.cells #[.int .i64 0, .bool false, .string ⟨#[]⟩, .slice none 0 0, .slice none 0 0, .slice none 0 0, .slice none 0 0, .slice none 0 0] 31)))
 have c1 := H1.out.c1.1
 have f1 := H1.out.c1.2
 have HPl : Kept (PM ((w.alloc (.cells #[.int .i64 0, .bool false, .string ⟨#[]⟩, .slice none 0 0, .slice none 0 0, .slice none 0 0, .slice none 0 0, .slice none 0 0] 31)).setCell ⟨g, 1, none⟩ (.int .i64 ((d : Int) + 1))) g (d + 1) ts) := ⟨H1.out.level (d + 1) (by omega)⟩
 have HO1 : Kept (Only (· = g) w ((w.alloc (.cells #[.int .i64 0, .bool false, .string ⟨#[]⟩, .slice none 0 0, .slice none 0 0, .slice none 0 0, .slice none 0 0, .slice none 0 0] 31)).setCell ⟨g, 1, none⟩ (.int .i64 ((d : Int) + 1)))) := ⟨only_set ((Only.refl _ _).below ((Below.refl _ _).alloc (Nat.le_refl _) _)) 1 _⟩
 have hglt := h.lt
 have HRs : Kept (((w.alloc (.cells #[.int .i64 0, .bool false, .string ⟨#[]⟩, .slice none 0 0, .slice none 0 0, .slice none 0 0, .slice none 0 0, .slice none 0 0] 31)).setCell ⟨g, 1, none⟩ (.int .i64 ((d : Int) + 1))).heap[w.heap.size]? = some (.cells #[.int .i64 0, .bool false, .string ⟨#[]⟩, .slice none 0 0, .slice none 0 0, .slice none 0 0, .slice none 0 0, .slice none 0 0] 31 (0, 0))) := ⟨(Below.heap_setCell _ _ _ _ (by show w.heap.size ≠ g; omega)).trans (heap_alloc_new w _)⟩
 have HGl := Kept.mk hglt
 have HD := Kept.mk hd
 clear h hd hglt
 go_enter Tryz.func94, Tryz.ntmps94
 go_wp2_with fail
 generalize hW : (w.alloc (.cells #[.int .i64 0, .bool false, .string ⟨#[]⟩, .slice none 0 0, .slice none 0 0, .slice none 0 0, .slice none 0 0, .slice none 0 0] 31)).setCell ⟨g, 1, none⟩ (.int .i64 ((d : Int) + 1)) = w1 at *
 clear hW c1 f1 H1
 go_at_call 25
 refine (HC.out w1 ts HPl.out).mono ?_
 intro e w2 hE
 cases hcu : c ts with
 | error e2 =>
   rw [hcu] at hE
   obtain ⟨rfl, ho⟩ := hE
   first | exact ⟨rfl, rfl, ⟨only_two HO1.out ho.out⟩⟩ | exact ⟨rfl, ⟨only_two HO1.out ho.out⟩⟩
 | ok z =>
   obtain ⟨x, us⟩ := z
   rw [hcu] at hE
   obtain ⟨u, rfl, hu, hp, ho⟩ := hE
   have HRc := Kept.mk hcu
   clear hcu
   obtain ⟨k, q, n, A1, n1, k1, A2, n2, k2, A3, n3, k3, A4, n4, k4, A5, n5, k5, ws, gs, rs, os, ks, rfl, _, _, _⟩ := nv_parts hu.out
   obtain ⟨csx, hcsx⟩ : ∃ csx : Array Value, csx = #[.int .i64 k, .bool q, .string (bs n), .slice A1 n1 k1, .slice A2 n2 k2, .slice A3 n3 k3, .slice A4 n4 k4, .slice A5 n5 k5] := ⟨_, rfl⟩
   have HU := hu
   have HP2 := Kept.mk (hp.out.below ((Below.refl w2.heap.size w2).alloc (Nat.le_refl _) (.cells #[.int .i64 k, .bool q, .string (bs n), .slice A1 n1 k1, .slice A2 n2 k2, .slice A3 n3 k3, .slice A4 n4 k4, .slice A5 n5 k5] 31)))
   have c1 : _ = some (Value.int .i64 ((d : Int) + 1)) := HP2.out.c1.1
   have f1 := HP2.out.c1.2
   have hs1 := HO1.out.size
   have hs2 := ho.out.size
   have hrs : w.heap.size < w1.heap.size := (Array.getElem?_eq_some_iff.1 HRs.out).1
   have HB : Kept (BS w ((w2.alloc (.cells #[.int .i64 k, .bool q, .string (bs n), .slice A1 n1 k1, .slice A2 n2 k2, .slice A3 n3 k3, .slice A4 n4 k4, .slice A5 n5 k5] 31)).setCell ⟨g, 1, none⟩ (.int .i64 (d : Int))) g d w2.heap.size #[.int .i64 k, .bool q, .string (bs n), .slice A1 n1 k1, .slice A2 n2 k2, .slice A3 n3 k3, .slice A4 n4 k4, .slice A5 n5 k5] us) := ⟨by
     refine ⟨(Below.heap_setCell _ _ _ _ (by show w2.heap.size ≠ g; have := HGl.out; omega)).trans (heap_alloc_new w2 _), ⟨_, (Below.heap_setCell _ _ _ _ (by show w.heap.size ≠ g; have := HGl.out; omega)).trans ((Below.heap_alloc w2 _ _ (by omega)).trans ((ho.out.block _ hrs (by have := HGl.out; omega)).trans HRs.out)), rfl⟩, HP2.out.level d (by have := HD.out; omega), only_set ((only_two HO1.out ho.out).below ((Below.refl _ _).alloc (Nat.le_refl _) _)) 1 _, HGl.out, by omega⟩⟩
   have HN : Kept (NV (Nw w1.heap.size) ((w2.alloc (.cells #[.int .i64 k, .bool q, .string (bs n), .slice A1 n1 k1, .slice A2 n2 k2, .slice A3 n3 k3, .slice A4 n4 k4, .slice A5 n5 k5] 31)).setCell ⟨g, 1, none⟩ (.int .i64 (d : Int))) (.agg #[.int .i64 k, .bool q, .string (bs n), .slice A1 n1 k1, .slice A2 n2 k2, .slice A3 n3 k3, .slice A4 n4 k4, .slice A5 n5 k5]) x) := ⟨HU.out.same (fun b hP hl => ⟨hP, (Below.heap_setCell _ _ _ _ (by have : w1.heap.size ≤ b := hP; have := HGl.out; show b ≠ g; omega)).trans (Below.heap_alloc w2 _ b hl)⟩) (by simp [World.setCell])⟩
   have HSz : Kept (w.heap.size < w1.heap.size) := ⟨hrs⟩
   clear hu hp ho hs1 hs2 hrs hcsx
   go_upto_region 4 with fail
   generalize hW3 : (w2.alloc (.cells #[.int .i64 k, .bool q, .string (bs n), .slice A1 n1 k1, .slice A2 n2 k2, .slice A3 n3 k3, .slice A4 n4 k4, .slice A5 n5 k5] 31)).setCell ⟨g, 1, none⟩ (.int .i64 (d : Int)) = w3 at *
   clear hW3 c1 f1 HP2
   obtain ⟨old, hres, ho8⟩ := HB.out.res
   have HOld := Kept.mk hres
   have HDn := Kept.mk HB.out.done
   have HF := Kept.mk (fun cs : Array Value => nv_done HN.out HSz.out (Nat.le_of_lt HSz.out) cs)
   clear hres
   refine App.give (n := 5) (r := 4) (t := 22) (nt := 31) (rb := w.heap.size) HB.out.row HOld.out Tryz.underlying31 rfl (by kernel_rfl) ho8 (all_node _ _ _ _ _ _ _ _ _ _ _ _ _ _ _ _ _ _) rfl rfl (by decide) (by simp) ?_
   go_wp2_with fail
   refine bodyPost_ret (results_cell_row rfl _ _ w.heap.size _ _ (0, 0) _ rfl HDn.out.1 Tryz.underlying31 rfl (by kernel_rfl)) rfl ?_
   try unfold RE
   rw [HRc.out]
   exact ⟨_, rfl, ⟨HF.out _⟩, ⟨HDn.out.2.1⟩, ⟨HDn.out.2.2⟩⟩
end Sy
end
section
open Go.RowKit Tx
namespace Sy
open Lx (Tok tv tvs tvs_at Qt pan)
open Wx (Pt LV Nw parts)
theorem BS.hold {w0 w2 : World} {g d : Nat} {us : List Tok} (hres : ∃ old, w2.heap[w0.heap.size]? = some (.cells old 31 (0, 0)) ∧ old.size = 8) (hp : PM w2 g d us) (ho : Only (· = g) w0 w2) (hg : g < w0.heap.size) (cs : Array Value) : BS w0 (w2.alloc (.cells cs 31)) g d w2.heap.size cs us := by
 obtain ⟨old, hr, h8⟩ := hres
 have hlt := (Array.getElem?_eq_some_iff.1 hr).1
 exact ⟨heap_alloc_new w2 _, ⟨old, (Below.heap_alloc w2 _ _ hlt).trans hr, h8⟩, hp.below ((Below.refl _ _).alloc (Nat.le_refl _) _), ho.below ((Below.refl _ _).alloc (Nat.le_refl _) _), hg, hlt⟩
theorem res_on {w w2 : World} {g : Nat} {cs0 : Array Value} (ho : Only (· = g) (w.alloc (.cells cs0 31)) w2) (hg : g < w.heap.size) (h8 : cs0.size = 8) : ∃ old, w2.heap[w.heap.size]? = some (.cells old 31 (0, 0)) ∧ old.size = 8 :=
 ⟨cs0, (ho.block _ (by simp) (by omega)).trans (heap_alloc_new w _), h8⟩
theorem only_alloc {w w2 : World} {g : Nat} {o : Obj} (ho : Only (· = g) (w.alloc o) w2) : Only (· = g) w w2 := only_below ((Below.refl _ _).alloc (Nat.le_refl _) _) ho
theorem list_false {c : List Tok → R Nd} {ts : List Tok} : list c false ts = match list c true ts with | .error e => .error e | .ok (x, r) => if x.kids = [] then .error 100 else .ok (x, r) := by
 unfold list
 cases listF c (ts.length + 1) [] (lines ts) with
 | error e => rfl
 | ok z =>
   obtain ⟨ks, r⟩ := z
   cases ks with
   | nil => rfl
   | cons a ks => rfl
theorem nl_len {P : Nat → Prop} {w : World} {A : Option Addr} {n k : Nat} {l : List Nd} (h : NL P w (.slice A n k) l) : n = l.length := by
 cases h with
 | nil A cap h => rfl
 | «at» g off n cap xs l hn hm hP hg hc h => exact hn.symm
set_option maxHeartbeats 4000000 in
set_option maxRecDepth 100000 in
theorem inner_any (w : World) (g d : Nat) (ts : List Tok) (h : PM w g d ts) (hd : d ≤ 39) (c : List Tok → R Nd) (HC : Kept (RdC 25 g (d + 1) (list c true))) :
   Calls Tryz.prog 91 #[.pointer (some ⟨g, 0, none⟩)] w (RE w g d (nodV w) (list c false ts)) := by
 have H := Kept.mk h
 have HGl := Kept.mk h.lt
 have HD := Kept.mk hd
 obtain ⟨R0, hR0⟩ : ∃ R0, R0 = list c false ts := ⟨_, rfl⟩
 rw [← hR0]
 rw [list_false] at hR0
 have hmf : ∀ (fn : Fn) (first cap : Array Value) (w : World), (Instr.makeFunc fn first cap).run Tryz.prog w = .ok (.func fn first cap) w := fun _ _ _ _ => rfl
 have HR := Kept.mk hR0
 clear h hd hR0
 go_enter Tryz.func91, Tryz.ntmps91
 go_wp2_with fail
 go_at_call 94
 refine (deeper_list _ g d ts (H.out.below ((Below.refl _ _).alloc (Nat.le_refl _) _)) HD.out (list c true) HC).mono ?_
 intro e w2 hE
 cases hcu : list c true ts with
 | error e2 =>
   rw [hcu] at hE
   obtain ⟨rfl, ho⟩ := hE
   obtain rfl : R0 = .error e2 := by rw [HR.out, hcu]
   first | exact ⟨rfl, rfl, ⟨only_alloc ho.out⟩⟩ | exact ⟨rfl, ⟨only_alloc ho.out⟩⟩
 | ok z =>
   obtain ⟨x, us⟩ := z
   rw [hcu] at hE
   obtain ⟨u, rfl, hu, hp, ho⟩ := hE
   obtain ⟨k, q, n, A1, n1, k1, A2, n2, k2, A3, n3, k3, A4, n4, k4, A5, n5, k5, ws, gs, rs, os, ks, rfl, hxe, _, hkd⟩ := nv_parts hu.out
   have HRe : Kept (R0 = if ks = [] then .error 100 else .ok (x, us)) := ⟨by rw [HR.out, hcu, hxe]; rfl⟩
   have hn5 : n5 = ks.length := nl_len hkd
   have HB := Kept.mk (BS.hold (res_on ho.out HGl.out rfl) hp.out (only_alloc ho.out) HGl.out #[.int .i64 k, .bool q, .string (bs n), .slice A1 n1 k1, .slice A2 n2 k2, .slice A3 n3 k3, .slice A4 n4 k4, .slice A5 n5 k5])
   have hs2 := ho.out.size
   have HN : Kept (NV (Nw (w.heap.size + 1)) (w2.alloc (.cells #[.int .i64 k, .bool q, .string (bs n), .slice A1 n1 k1, .slice A2 n2 k2, .slice A3 n3 k3, .slice A4 n4 k4, .slice A5 n5 k5] 31)) (.agg #[.int .i64 k, .bool q, .string (bs n), .slice A1 n1 k1, .slice A2 n2 k2, .slice A3 n3 k3, .slice A4 n4 k4, .slice A5 n5 k5]) x) := ⟨(hu.out.below_alloc _).mono fun b hP _ => by have hP : (w.alloc _).heap.size ≤ b := hP; show w.heap.size + 1 ≤ b; simpa using hP⟩
   clear hcu hu hp ho HR hkd hxe hs2
   have c7 := cell_of_row _ _ 7 _ _ _ HB.out.row
   cases hks : (ks.isEmpty : Bool) with
   | true =>
     have hk0 : ks = [] := List.isEmpty_iff.1 hks
     obtain rfl : n5 = 0 := by rw [hn5, hk0]; rfl
     obtain rfl : R0 = .error 100 := by rw [HRe.out, if_pos hk0]
     clear hks hk0 hn5 HRe
     go_wp2_with (first
       | (go_at_call 26; refine (check_any _ false 100).mono ?_; rintro e w3 ⟨rfl, rfl⟩))
     first | exact ⟨rfl, rfl, ⟨HB.out.only⟩⟩ | exact ⟨rfl, ⟨HB.out.only⟩⟩
   | false =>
     have hk0 : ks ≠ [] := fun e => by rw [e] at hks; cases hks
     have hz : (0 : Int) < (n5 : Int) := by rw [hn5]; have := List.length_pos_iff.2 hk0; omega
     have HRes : Kept (R0 = .ok (x, us)) := ⟨by rw [HRe.out, if_neg hk0]⟩
     clear hks hk0 hn5 HRe
     have hzd : decide (0 < n5) = true := decide_eq_true (by omega)
     go_upto_region 3 with (first
       | (go_at_call 26
          try rw [hzd]
          clear hz hzd c7
          refine (check_any _ true 100).mono ?_
          rintro e w3 ⟨rfl, rfl⟩))
     generalize w2.alloc (.cells #[.int .i64 k, .bool q, .string (bs n), .slice A1 n1 k1, .slice A2 n2 k2, .slice A3 n3 k3, .slice A4 n4 k4, .slice A5 n5 k5] 31) = w3 at *
     obtain ⟨old, hres, ho8⟩ := HB.out.res
     have HOld := Kept.mk hres
     have HDn := Kept.mk HB.out.done
     clear hres
     refine App.give (n := 3) (r := 2) (t := 13) (nt := 31) (rb := w.heap.size) HB.out.row HOld.out Tryz.underlying31 rfl (by kernel_rfl) ho8 (all_node _ _ _ _ _ _ _ _ _ _ _ _ _ _ _ _ _ _) rfl rfl (by decide) (by simp) ?_
     go_wp2_with fail
     refine bodyPost_ret (results_cell_row rfl _ _ w.heap.size _ _ (0, 0) _ rfl HDn.out.1 Tryz.underlying31 rfl (by kernel_rfl)) rfl ?_
     rw [HRes.out]
     exact ⟨_, rfl, ⟨nv_done HN.out (by omega) (by omega) _⟩, ⟨HDn.out.2.1⟩, ⟨HDn.out.2.2⟩⟩
end Sy
end
end Go.Proofs.YtahjonfmhejoeaaGreatDoor
