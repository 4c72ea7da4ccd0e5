/-
  Parts of the proof, merged.
-/
import Derived.ArgAppend
import Derived.Below
import Derived.Deep.AppendLies
import Derived.Deep.DrawnRows
import Derived.Deep.Draws
import Derived.IntWalk
import Derived.Laws.BytesArg
import Derived.Laws.Concat
import Derived.Laws.Cover1
import Derived.Laws.IdiomStrings
import Derived.Laws.Small
import Derived.Laws.Strings
import Derived.Lib.AppendStr
import Derived.Lib.ConvBytes
import Derived.LoopTactic
import Derived.Maps.AppendAt
import Derived.OwnWalk
import Derived.RegionTactic
import Derived.Still
namespace Go.Proofs.YtlggpefmojacoaaGreatDoor
section
open Go.RowKit Go.Lib
namespace By
def cell (b : UInt8) : Value := .int .u8 (b.toNat : Int)
def cells (l : List UInt8) : List Value := l.map cell
theorem length_cells (l : List UInt8) : (cells l).length = l.length := by simp [cells]
theorem add_at (g j : Nat) : (⟨g, 0, none⟩ : Addr).add j = ⟨g, j, none⟩ := by unfold Addr.add; split <;> simp_all
structure Ty (P : Program) (T E : TypeId) : Prop where
 und : P.underlying T = some (.slice E)
 elem : P.underlying E = some (.int .u8)
 info : (P.info? E).map (fun i => (i.zero, i.size, i.bytes)) = some (some (.int .u8 0), 1, 1)
def Bs (w : World) (B : Nat) (v : Value) (l : List UInt8) : Prop :=
 (v = .slice none 0 0 ∧ l = []) ∨ ∃ g cap, v = .slice (some ⟨g, 0, none⟩) l.length cap ∧ B ≤ g ∧ g < w.heap.size ∧ l.length ≤ cap ∧ cap ≤ maxLen ∧
   (∀ j, j < cap → (w.cell? ⟨g, j, none⟩).isSome = true ∧ w.frozen? ⟨g, j, none⟩ = false) ∧ ∀ j u, (cells l)[j]? = some u → w.cell? ⟨g, j, none⟩ = some u
section
variable {P : Program} {w w' : World} {B : Nat} {v : Value} {l : List UInt8}
theorem Bs.nil (w : World) (B : Nat) : Bs w B (.slice none 0 0) [] := .inl ⟨rfl, rfl⟩
theorem Bs.keep (h : Bs w B v l) (hb : ∀ g, v.ownBlock = some g → w'.heap[g]? = w.heap[g]?) (hs : w.heap.size ≤ w'.heap.size) : Bs w' B v l := by
 rcases h with ⟨rfl, rfl⟩ | ⟨g, cap, rfl, h1, h2, h3, h4, h5, h6⟩
 · exact Bs.nil _ _
 · have e := hb g rfl
   refine .inr ⟨g, cap, rfl, h1, by omega, h3, h4, fun j hj => ?_, fun j u hu => ?_⟩
   · rw [World.cell?_of_block (w := w) (a := ⟨g, j, none⟩) e, World.frozen?_of_block (w := w) (a := ⟨g, j, none⟩) e]
     exact h5 j hj
   · rw [World.cell?_of_block (w := w) (a := ⟨g, j, none⟩) e]
     exact h6 j u hu
theorem Bs.lt (h : Bs w B v l) : ∀ g, v.ownBlock = some g → B ≤ g ∧ g < w.heap.size := by
 intro g hg
 rcases h with ⟨rfl, rfl⟩ | ⟨k, cap, rfl, h1, h2, _⟩
 · cases hg
 · injection hg with hg
   subst hg
   exact ⟨h1, h2⟩
theorem Bs.more (h : Bs w B v l) {C : Nat} (hC : C ≤ B) : Bs w C v l := by
 rcases h with h | ⟨g, cap, h0, h1, r⟩
 · exact .inl h
 · exact .inr ⟨g, cap, h0, by omega, r⟩
theorem Bs.drew (h : Bs w B v l) : Bs w.drew B v l := h.keep (fun _ _ => rfl) (Nat.le_refl _)
theorem Bs.drewN (h : Bs w B v l) (n : Nat) : Bs (w.drewN n) B v l := h.keep (fun _ _ => rfl) (Nat.le_refl _)
theorem Bs.alloc (h : Bs w B v l) (o : Obj) : Bs (w.alloc o) B v l := h.keep (fun g hg => heap_alloc_old w o g (h.lt g hg).2) (by simp)
theorem Bs.below {C : Nat} (h : Bs w B v l) (hb : Below C w w') (hC : w.heap.size ≤ C) : Bs w' B v l :=
 h.keep (fun g hg => hb.block g (by have := (h.lt g hg).2; omega)) hb.size
theorem Bs.far (h : Bs w B v l) {a : Addr} (ha : v.ownBlock ≠ some a.block) (u : Value) : Bs (w.setCell a u) B v l :=
 h.keep (fun g hg => Below.heap_setCell w a u g (fun e => ha (by rw [hg, e]))) (by simp [World.setCell])
theorem Bs.len (h : Bs w B v l) : ∃ A c, v = .slice A l.length c := by
 rcases h with ⟨rfl, rfl⟩ | ⟨g, cap, rfl, _⟩
 · exact ⟨_, _, rfl⟩
 · exact ⟨_, _, rfl⟩
theorem Bs.of_own {e : TypeId} {n : Nat} (h : w.ownsRow B e 1 v n (cells l)) : Bs w B v l := by
 have hn : n = l.length := by have := h.1; rw [length_cells] at this; omega
 subst hn
 rcases h.2 with ⟨rfl, h0⟩ | ⟨g, cap, cur, rfl, hB, hg, hnc, hcm, hcs, htake⟩
 · exact .inl ⟨rfl, List.eq_nil_of_length_eq_zero h0⟩
 · have hlt : g < w.heap.size := (Array.getElem?_eq_some_iff.1 hg).1
   refine .inr ⟨g, cap, rfl, hB, hlt, hnc, hcm, fun j hj => ⟨?_, ?_⟩, fun j u hu => ?_⟩
   · rw [cell_of_row w g j cur e (0, 0) hg]
     simp [show j < cur.size by omega]
   · exact frozen_of_row w g j cur e hg
   · rw [cell_of_row w g j cur e (0, 0) hg]
     rw [← htake, List.getElem?_take] at hu
     split at hu
     · simpa using hu
     · cases hu
theorem grown_setCells (b : Nat) : ∀ (vs : List Value) (o : Nat) (w : World), w.grownBy (w.setCells b o vs) (some b)
 | [], _, w => ⟨rfl, rfl, rfl, Nat.le_refl _, fun _ _ _ => rfl⟩
 | v :: r, o, w => by
   have h := grown_setCells b r (o + 1) (w.setCell ⟨b, o, none⟩ v)
   refine ⟨h.os, h.tape, h.output, ?_, fun k hk hne => ?_⟩
   · have h1 := h.size
     have h2 : (w.setCell ⟨b, o, none⟩ v).heap.size = w.heap.size := by simp [World.setCell]
     rw [h2] at h1
     exact h1
   · have hk' : k < (w.setCell ⟨b, o, none⟩ v).heap.size := by simpa [World.setCell] using hk
     exact (h.block k hk' hne).trans (Below.heap_setCell _ _ _ _ (fun e => hne (by rw [e])))
theorem Bs.room {g cap : Nat} {news : List UInt8} (hv : Bs w B (.slice (some ⟨g, 0, none⟩) l.length cap) l) (hr : l.length + news.length ≤ cap) :
   Bs (w.setCells g l.length (cells news)) B (.slice (some ⟨g, 0, none⟩) (l ++ news).length cap) (l ++ news) := by
 rcases hv with ⟨h, _⟩ | ⟨g', cap', e, h1, h2, h3, h4, h5, h6⟩
 · cases h
 · injection e with e1 _ e3
   injection e1 with e1
   injection e1 with e1
   subst e1 e3
   have hlc := length_cells news
   refine .inr ⟨g, cap, rfl, h1, ?_, by simpa using hr, h4, fun j hj => ?_, fun j u hu => ?_⟩
   · have := (grown_setCells g (cells news) l.length w).size
     omega
   · rw [World.frozen?_setCells]
     refine ⟨?_, (h5 j hj).2⟩
     by_cases hin : l.length ≤ j ∧ j < l.length + (cells news).length
     · have := World.cell?_setCells_in g (cells news) l.length w (fun i hi => (h5 _ (by omega)).1) (j - l.length) (by omega)
       rw [show l.length + (j - l.length) = j by omega] at this
       rw [this]; rfl
     · rw [World.cell?_setCells_out g (cells news) l.length w ⟨g, j, none⟩ (fun _ _ => by show j < _ ∨ _ ≤ j; omega)]
       exact (h5 j hj).1
   · unfold cells at hu
     rw [List.map_append, List.getElem?_append] at hu
     by_cases hin : j < l.length
     · rw [if_pos (by simpa using hin)] at hu
       rw [World.cell?_setCells_out g (cells news) l.length w ⟨g, j, none⟩ (fun _ _ => .inl hin)]
       exact h6 j u hu
     · rw [if_neg (by simpa using hin), List.length_map] at hu
       have hj : j - l.length < (cells news).length := (List.getElem?_eq_some_iff.1 hu).1
       have := World.cell?_setCells_in g (cells news) l.length w (fun i hi => (h5 _ (by omega)).1) (j - l.length) hj
       rw [show l.length + (j - l.length) = j by omega] at this
       rw [this, ← hu, show (List.map cell news) = cells news from rfl, List.getElem?_eq_getElem hj]
section
variable {T E : TypeId} (k : Ty P T E)
include k
theorem run_string (dst : TypeId) (hd : P.underlying dst = some .string) (h : Bs w B v l) : (convert T dst v).run P w = .ok (.string ⟨l.toArray⟩) w := by
 rcases h with ⟨rfl, rfl⟩ | ⟨g, cap, rfl, h1, h2, h3, h4, h5, h6⟩
 · have := run_convert_bytes_nil (P := P) w T E k.und k.elem 0 0 dst hd
   exact this
 · refine run_convert_bytes_back (P := P) w T dst E ⟨g, 0, none⟩ cap l k.und k.elem hd fun j hj => ?_
   rw [add_at]
   exact h6 j _ (by simp [cells, cell, hj])
end
end
section
variable {P : Program} {w : World} {B : Nat} {v : Value} {l : List UInt8} {T E : TypeId} {ops : Array Oper} {rest : List Oper} {o : Oper} {a : Act} {Q : Exit → Act → World → Prop}
end
end By
end
section
open Go.RowKit Go.Lib
namespace Own
variable {α : Type}
def At (c : α → Value) (w : World) (g off : Nat) (l : List α) : Prop := g < w.heap.size ∧ ∀ j u, (l.map c)[j]? = some u → w.cell? ⟨g, off + j, none⟩ = some u
section
variable {c : α → Value} {w w' : World} {g off : Nat} {l : List α}
theorem At.keep (h : At c w g off l) (hb : w'.heap[g]? = w.heap[g]?) (hs : w.heap.size ≤ w'.heap.size) : At c w' g off l :=
 ⟨Nat.lt_of_lt_of_le h.1 hs, fun j u hu => (World.cell?_of_block (w := w) (a := ⟨g, off + j, none⟩) hb).trans (h.2 j u hu)⟩
theorem At.below (h : At c w g off l) (hb : Below w.heap.size w w') : At c w' g off l := h.keep (hb.block g h.1) hb.size
theorem At.drewN (h : At c w g off l) (n : Nat) : At c (w.drewN n) g off l := h
theorem At.drew (h : At c w g off l) : At c w.drew g off l := h
theorem At.alloc (h : At c w g off l) (o : Obj) : At c (w.alloc o) g off l := h.keep (heap_alloc_old w o g h.1) (by simp)
theorem At.cell (h : At c w g off l) (j : Nat) (hj : j < l.length) : w.cell? ⟨g, off + j, none⟩ = some (c l[j]) := h.2 j _ (by simp [hj])
theorem At.take (h : At c w g off l) (n : Nat) : At c w g off (l.take n) := ⟨h.1, fun j u hu => h.2 j u (by
 rw [List.map_take, List.getElem?_take] at hu
 split at hu
 · exact hu
 · cases hu)⟩
theorem At.drop (h : At c w g off l) (n : Nat) : At c w g (off + n) (l.drop n) := ⟨h.1, fun j u hu => by
 rw [List.map_drop, List.getElem?_drop] at hu
 rw [Nat.add_assoc]
 exact h.2 _ u hu⟩
theorem At.fresh (w : World) (cs : Array Value) (t : TypeId) (l : List α) (h : cs = (l.map c).toArray) : At c (w.alloc (.cells cs t)) w.heap.size 0 l := by
 subst h
 refine ⟨by simp, fun j u hu => ?_⟩
 rw [Nat.zero_add, cell_of_row _ _ j _ t (0, 0) (heap_alloc_new w _)]
 simpa using hu
end
structure Ty (P : Program) (T E : TypeId) (z : Value) (bytes : Nat) : Prop where
 und : P.underlying T = some (.slice E)
 info : (P.info? E).map (fun i => (i.zero, i.size, i.bytes)) = some (some z, 1, bytes)
 zone : z.cells.size = 1
def Es (c : α → Value) (w : World) (B : Nat) (v : Value) (l : List α) : Prop :=
 (v = .slice none 0 0 ∧ l = []) ∨ ∃ g cap, v = .slice (some ⟨g, 0, none⟩) l.length cap ∧ B ≤ g ∧ g < w.heap.size ∧ l.length ≤ cap ∧ cap ≤ maxLen ∧
   (∀ j, j < cap → (w.cell? ⟨g, j, none⟩).isSome = true ∧ w.frozen? ⟨g, j, none⟩ = false) ∧ ∀ j u, (l.map c)[j]? = some u → w.cell? ⟨g, j, none⟩ = some u
section
variable {P : Program} {c : α → Value} {w w' : World} {B : Nat} {v : Value} {l : List α}
theorem Es.nil (c : α → Value) (w : World) (B : Nat) : Es c w B (.slice none 0 0) [] := .inl ⟨rfl, rfl⟩
theorem Es.keep (h : Es c w B v l) (hb : ∀ g, v.ownBlock = some g → w'.heap[g]? = w.heap[g]?) (hs : w.heap.size ≤ w'.heap.size) : Es c w' B v l := by
 rcases h with ⟨rfl, rfl⟩ | ⟨g, cap, rfl, h1, h2, h3, h4, h5, h6⟩
 · exact Es.nil _ _ _
 · have e := hb g rfl
   refine .inr ⟨g, cap, rfl, h1, by omega, h3, h4, fun j hj => ?_, fun j u hu => ?_⟩
   · rw [World.cell?_of_block (w := w) (a := ⟨g, j, none⟩) e, World.frozen?_of_block (w := w) (a := ⟨g, j, none⟩) e]
     exact h5 j hj
   · rw [World.cell?_of_block (w := w) (a := ⟨g, j, none⟩) e]
     exact h6 j u hu
theorem Es.lt (h : Es c w B v l) : ∀ g, v.ownBlock = some g → B ≤ g ∧ g < w.heap.size := by
 intro g hg
 rcases h with ⟨rfl, rfl⟩ | ⟨k, cap, rfl, h1, h2, _⟩
 · cases hg
 · injection hg with hg
   subst hg
   exact ⟨h1, h2⟩
theorem Es.more (h : Es c w B v l) {C : Nat} (hC : C ≤ B) : Es c w C v l := by
 rcases h with h | ⟨g, cap, h0, h1, r⟩
 · exact .inl h
 · exact .inr ⟨g, cap, h0, by omega, r⟩
theorem Es.drew (h : Es c w B v l) : Es c w.drew B v l := h.keep (fun _ _ => rfl) (Nat.le_refl _)
theorem Es.drewN (h : Es c w B v l) (n : Nat) : Es c (w.drewN n) B v l := h.keep (fun _ _ => rfl) (Nat.le_refl _)
theorem Es.alloc (h : Es c w B v l) (o : Obj) : Es c (w.alloc o) B v l := h.keep (fun g hg => heap_alloc_old w o g (h.lt g hg).2) (by simp)
theorem Es.below (h : Es c w B v l) (hb : Below w.heap.size w w') : Es c w' B v l := h.keep (fun g hg => hb.block g (h.lt g hg).2) hb.size
theorem Es.far (h : Es c w B v l) {a : Addr} (ha : v.ownBlock ≠ some a.block) (u : Value) : Es c (w.setCell a u) B v l :=
 h.keep (fun g hg => Below.heap_setCell w a u g (fun e => ha (by rw [hg, e]))) (by simp [World.setCell])
theorem Es.put {r n q : Nat} (h : Es c w B (.slice (some ⟨r, 0, none⟩) n q) l) (k : Nat) (hk : k < l.length) (x : α) : Es c (w.setCell ⟨r, k, none⟩ (c x)) B (.slice (some ⟨r, 0, none⟩) n q) (l.set k x) := by
 rcases h with ⟨h, _⟩ | ⟨g, cap, e, h1, h2, h3, h4, h5, h6⟩
 · cases h
 · injection e with e1 e2 e3
   injection e1 with e1
   injection e1 with e1
   subst e1 e2 e3
   obtain ⟨u, hu⟩ := Option.isSome_iff_exists.1 (h5 k (by omega)).1
   have hs : (w.setCell ⟨r, k, none⟩ (c x)).heap.size = w.heap.size := by simp [World.setCell]
   refine .inr ⟨r, q, by rw [List.length_set], h1, by rw [hs]; exact h2, by rw [List.length_set]; exact h3, h4, fun j hj => ?_, fun j u2 hu2 => ?_⟩
   · rw [World.frozen?_setCell]
     refine ⟨?_, (h5 j hj).2⟩
     by_cases e : j = k
     · subst e; rw [World.cell?_setCell_same w _ _ hu]; rfl
     · rw [World.cell?_setCell_other w _ _ _ (fun e2 => e (by injection e2 with _ e3; exact e3.symm))]
       exact (h5 j hj).1
   · rw [List.map_set] at hu2
     by_cases e : j = k
     · subst e
       rw [List.getElem?_set_self (by simpa using hk)] at hu2
       rw [World.cell?_setCell_same w _ _ hu, hu2]
     · rw [List.getElem?_set_ne (fun e2 => e e2.symm)] at hu2
       rw [World.cell?_setCell_other w _ _ _ (fun e2 => e (by injection e2 with _ e3; exact e3.symm))]
       exact h6 j u2 hu2
theorem Es.len (h : Es c w B v l) : ∃ A k, v = .slice A l.length k := by
 rcases h with ⟨rfl, rfl⟩ | ⟨g, cap, rfl, _⟩
 · exact ⟨_, _, rfl⟩
 · exact ⟨_, _, rfl⟩
theorem Es.of_own {e : TypeId} {n : Nat} (h : w.ownsRow B e 1 v n (l.map c)) : Es c w B v l := by
 have hn : n = l.length := by have := h.1; rw [List.length_map] at this; omega
 subst hn
 rcases h.2 with ⟨rfl, h0⟩ | ⟨g, cap, cur, rfl, hB, hg, hnc, hcm, hcs, htake⟩
 · exact .inl ⟨rfl, List.eq_nil_of_length_eq_zero h0⟩
 · have hlt : g < w.heap.size := (Array.getElem?_eq_some_iff.1 hg).1
   refine .inr ⟨g, cap, rfl, hB, hlt, hnc, hcm, fun j hj => ⟨?_, ?_⟩, fun j u hu => ?_⟩
   · rw [cell_of_row w g j cur e (0, 0) hg]
     simp [show j < cur.size by omega]
   · exact frozen_of_row w g j cur e hg
   · rw [cell_of_row w g j cur e (0, 0) hg]
     rw [← htake, List.getElem?_take] at hu
     split at hu
     · simpa using hu
     · cases hu
theorem Es.room {g cap : Nat} {news : List α} (hv : Es c w B (.slice (some ⟨g, 0, none⟩) l.length cap) l) (hr : l.length + news.length ≤ cap) :
   Es c (w.setCells g l.length (news.map c)) B (.slice (some ⟨g, 0, none⟩) (l ++ news).length cap) (l ++ news) := by
 rcases hv with ⟨h, _⟩ | ⟨g', cap', e, h1, h2, h3, h4, h5, h6⟩
 · cases h
 · injection e with e1 _ e3
   injection e1 with e1
   injection e1 with e1
   subst e1 e3
   have hlc : (news.map c).length = news.length := List.length_map ..
   refine .inr ⟨g, cap, rfl, h1, ?_, by simpa using hr, h4, fun j hj => ?_, fun j u hu => ?_⟩
   · have := (By.grown_setCells g (news.map c) l.length w).size
     omega
   · rw [World.frozen?_setCells]
     refine ⟨?_, (h5 j hj).2⟩
     by_cases hin : l.length ≤ j ∧ j < l.length + (news.map c).length
     · have := World.cell?_setCells_in g (news.map c) l.length w (fun i hi => (h5 _ (by omega)).1) (j - l.length) (by omega)
       rw [show l.length + (j - l.length) = j by omega] at this
       rw [this]; rfl
     · rw [World.cell?_setCells_out g (news.map c) l.length w ⟨g, j, none⟩ (fun _ _ => by show j < _ ∨ _ ≤ j; omega)]
       exact (h5 j hj).1
   · rw [List.map_append, List.getElem?_append] at hu
     by_cases hin : j < l.length
     · rw [if_pos (by simpa using hin)] at hu
       rw [World.cell?_setCells_out g (news.map c) l.length w ⟨g, j, none⟩ (fun _ _ => .inl hin)]
       exact h6 j u hu
     · rw [if_neg (by simpa using hin), List.length_map] at hu
       have hj : j - l.length < (news.map c).length := (List.getElem?_eq_some_iff.1 hu).1
       have := World.cell?_setCells_in g (news.map c) l.length w (fun i hi => (h5 _ (by omega)).1) (j - l.length) hj
       rw [show l.length + (j - l.length) = j by omega] at this
       rw [this, ← hu, List.getElem?_eq_getElem hj]
end
section
variable {P : Program} {c : α → Value} {w : World} {B : Nat} {v : Value} {l : List α} {T E : TypeId} {z : Value} {bytes : Nat} {ops : Array Oper} {rest : List Oper} {o : Oper} {a : Act} {Q : Exit → Act → World → Prop}
end
end Own
end
section
open Go.RowKit
namespace Tx
structure Kept (p : Prop) : Prop where
 out : p
theorem below_drewN {B : Nat} {a w : World} (h : Below B a w) (n : Nat) : Below B a (w.drewN n) := ⟨h.os, h.tape, h.output, h.size, h.block⟩
def toL (s : ByteArray) : List UInt8 := s.data.toList
def bs (l : List UInt8) : ByteArray := ⟨l.toArray⟩
theorem toL_bs (l : List UInt8) : toL (bs l) = l := by simp [toL, bs]
theorem bs_toL (s : ByteArray) : bs (toL s) = s := by cases s; simp [toL, bs]
theorem toL_length (s : ByteArray) : (toL s).length = s.size := by simp [toL]
theorem bs_size (l : List UInt8) : (bs l).size = l.length := by
 show (l.toArray).size = _
 simp
theorem toL_inj {a b : ByteArray} (h : toL a = toL b) : a = b := by rw [← bs_toL a, h, bs_toL]
theorem bs_append (a b : List UInt8) : bs a ++ bs b = bs (a ++ b) := by
 apply toL_inj
 rw [toL_bs]
 unfold toL bs
 simp
theorem toL_extract (s : ByteArray) (a b : Nat) : toL (s.extract a b) = ((toL s).drop a).take (b - a) := by
 unfold toL
 rw [ByteArray.data_extract, Array.toList_extract]
theorem beq_str (a b : ByteArray) : (a.toList == b.toList) = decide (a = b) := by
 rw [ByteArray.toList_eq, ByteArray.toList_eq]
 by_cases h : a = b
 · subst h; simp
 · rw [decide_eq_false h, beq_eq_false_iff_ne]
   intro e
   apply h
   cases a; cases b
   simpa using e
structure Only (B : Nat → Prop) (w w' : World) : Prop where
 os : w'.os = w.os
 tape : w'.tape = w.tape
 output : w'.output = w.output
 size : w.heap.size ≤ w'.heap.size
 block : ∀ k, k < w.heap.size → ¬ B k → w'.heap[k]? = w.heap[k]?
section
variable {B C : Nat → Prop} {w w' w2 : World}
theorem Only.refl (B : Nat → Prop) (w : World) : Only B w w := ⟨rfl, rfl, rfl, Nat.le_refl _, fun _ _ _ => rfl⟩
theorem Only.trans (h : Only B w w') (k : Only C w' w2) (hC : ∀ i, i < w.heap.size → C i → B i) : Only B w w2 :=
 ⟨k.os.trans h.os, k.tape.trans h.tape, k.output.trans h.output, Nat.le_trans h.size k.size, fun i hi hn => (k.block i (Nat.lt_of_lt_of_le hi h.size) (fun c => hn (hC i hi c))).trans (h.block i hi hn)⟩
theorem Only.mono (h : Only B w w') (hC : ∀ i, i < w.heap.size → B i → C i) : Only C w w' := ⟨h.os, h.tape, h.output, h.size, fun i hi hn => h.block i hi (fun c => hn (hC i hi c))⟩
theorem Only.drew (h : Only B w w') : Only B w w'.drew := ⟨h.os, h.tape, h.output, h.size, h.block⟩
theorem Only.drewN (h : Only B w w') (n : Nat) : Only B w (w'.drewN n) := ⟨h.os, h.tape, h.output, h.size, h.block⟩
theorem Only.alloc (h : Only B w w') (o : Obj) : Only B w (w'.alloc o) :=
 ⟨h.os, h.tape, h.output, by have := h.size; simp; omega, fun k hk hn => (heap_alloc_old w' o k (by have := h.size; omega)).trans (h.block k hk hn)⟩
theorem Only.setCell (h : Only B w w') (a : Addr) (v : Value) (ha : a.block < w.heap.size → B a.block) : Only B w (w'.setCell a v) :=
 ⟨h.os, h.tape, h.output, by have := h.size; simpa [World.setCell] using this, fun k hk hn => (Below.heap_setCell w' a v k (fun e => hn (by subst e; exact ha hk))).trans (h.block k hk hn)⟩
theorem Only.below (h : Only B w w') (hb : Below w'.heap.size w' w2) : Only B w w2 :=
 ⟨hb.os.trans h.os, hb.tape.trans h.tape, hb.output.trans h.output, Nat.le_trans h.size hb.size, fun k hk hn => (hb.block k (Nat.lt_of_lt_of_le hk h.size)).trans (h.block k hk hn)⟩
end
end Tx
end
end Go.Proofs.YtlggpefmojacoaaGreatDoor
