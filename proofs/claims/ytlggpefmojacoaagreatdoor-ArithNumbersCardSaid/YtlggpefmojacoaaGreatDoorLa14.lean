/-
  Parts of the proof, merged.
-/
import Derived.Laws.AppendOwn
import Derived.OwnWalk
import Derived.Test.YtlggpefmojacoaaGreatDoorChecked
import Derived.Test.YtlggpefmojacoaaGreatDoorLa01
import Derived.Test.YtlggpefmojacoaaGreatDoorLa13
namespace Go.Proofs.YtlggpefmojacoaaGreatDoor
section
open Go.RowKit Tx
namespace Wx
def pvs (k : Int) (q : Bool) (t n o : List UInt8) (v : Value) : List Value := [.int .i64 k, .bool q, .string (bs t), .string (bs n), .string (bs o), v]
mutual
inductive LV (P : Nat → Prop) (w : World) : Value → List Pt → Prop
 | nil (A : Option Addr) (cap : Nat) (h : A = none → cap = 0) : LV P w (.slice A 0 cap) []
 | at (g off n cap : Nat) (xs : List Value) (l : List Pt) (hn : l.length = n) (hm : n ≤ cap) (hP : P g) (hg : g < w.heap.size) (hc : ∀ j u, xs[j]? = some u → w.cell? ⟨g, off + j, none⟩ = some u) (h : Cs P w xs l) : LV P w (.slice (some ⟨g, off, none⟩) n cap) l
inductive Cs (P : Nat → Prop) (w : World) : List Value → List Pt → Prop
 | nil : Cs P w [] []
 | cons (k : Int) (q : Bool) (t n o : List UInt8) (wd : List Pt) (v : Value) (xs : List Value) (l : List Pt) (hv : v.oneCell' = true) (h : LV P w v wd) (hr : Cs P w xs l) : Cs P w (pvs k q t n o v ++ xs) (.mk k q t n o wd :: l)
end
mutual
theorem LV.same {P Q : Nat → Prop} {w w' : World} (hk : ∀ g, P g → g < w.heap.size → Q g ∧ w'.heap[g]? = w.heap[g]?) (hs : w.heap.size ≤ w'.heap.size) {v : Value} {l : List Pt} : LV P w v l → LV Q w' v l
 | .nil A cap h => .nil A cap h
 | .at g off n cap xs l hn hm hP hg hc h => .at g off n cap xs l hn hm (hk g hP hg).1 (Nat.lt_of_lt_of_le hg hs) (fun j u hu => (World.cell?_of_block (w := w) (a := ⟨g, off + j, none⟩) (hk g hP hg).2).trans (hc j u hu)) (h.same hk hs)
theorem Cs.same {P Q : Nat → Prop} {w w' : World} (hk : ∀ g, P g → g < w.heap.size → Q g ∧ w'.heap[g]? = w.heap[g]?) (hs : w.heap.size ≤ w'.heap.size) {xs : List Value} {l : List Pt} : Cs P w xs l → Cs Q w' xs l
 | .nil => .nil
 | .cons k q t n o wd v xs l hv h hr => .cons k q t n o wd v xs l hv (h.same hk hs) (hr.same hk hs)
end
section
variable {P Q : Nat → Prop} {w w' : World} {v : Value} {xs : List Value} {l : List Pt}
theorem LV.keep (h : LV P w v l) (hb : Below w.heap.size w w') : LV P w' v l := h.same (fun g hP hg => ⟨hP, hb.block g hg⟩) hb.size
theorem Cs.keep (h : Cs P w xs l) (hb : Below w.heap.size w w') : Cs P w' xs l := h.same (fun g hP hg => ⟨hP, hb.block g hg⟩) hb.size
theorem LV.mono (h : LV P w v l) (hPQ : ∀ g, P g → g < w.heap.size → Q g) : LV Q w v l := h.same (fun g hP hg => ⟨hPQ g hP hg, rfl⟩) (Nat.le_refl _)
theorem Cs.mono (h : Cs P w xs l) (hPQ : ∀ g, P g → g < w.heap.size → Q g) : Cs Q w xs l := h.same (fun g hP hg => ⟨hPQ g hP hg, rfl⟩) (Nat.le_refl _)
end
theorem LV.slice {P : Nat → Prop} {w : World} {v : Value} {l : List Pt} (h : LV P w v l) : ∃ A cap, v = .slice A l.length cap := by
 cases h with
 | nil A cap h => exact ⟨A, cap, rfl⟩
 | «at» g off n cap xs l hn hm hP hg hc h => subst hn; exact ⟨_, _, rfl⟩
theorem Cs.length {P : Nat → Prop} {w : World} {xs : List Value} {l : List Pt} (h : Cs P w xs l) : xs.length = l.length * 6 := by
 induction l generalizing xs with
 | nil => cases h; rfl
 | cons p l ih =>
   cases h with
   | cons k q t n o wd v xs l hv h hr =>
     have := ih hr
     simp [pvs, this]; omega
theorem Cs.append {P : Nat → Prop} {w : World} {xs ys : List Value} {l m : List Pt} (h : Cs P w xs l) (h2 : Cs P w ys m) : Cs P w (xs ++ ys) (l ++ m) := by
 induction l generalizing xs with
 | nil => cases h; exact h2
 | cons p l ih =>
   cases h with
   | cons k q t n o wd v xs l hv h hr =>
     rw [List.append_assoc]
     exact .cons k q t n o wd v _ _ hv h (ih hr)
theorem Cs.one {P : Nat → Prop} {w : World} {xs : List Value} {l : List Pt} (h : Cs P w xs l) : ∀ u ∈ xs, u.oneCell' = true := by
 induction l generalizing xs with
 | nil => cases h; intro u hu; cases hu
 | cons p l ih =>
   cases h with
   | cons k q t n o wd v xs l hv h hr =>
     intro u hu
     rcases List.mem_append.1 hu with hu | hu
     · simp only [pvs, List.mem_cons, List.not_mem_nil, or_false] at hu
       rcases hu with rfl | rfl | rfl | rfl | rfl | rfl <;> first | rfl | exact hv
     · exact ih hr u hu
theorem Cs.get {P : Nat → Prop} {w : World} {xs : List Value} {l : List Pt} (h : Cs P w xs l) {j : Nat} (hj : j < l.length) : ∃ k q t n o wd v, l[j] = .mk k q t n o wd ∧ v.oneCell' = true ∧ LV P w v wd ∧ ∀ i u, (pvs k q t n o v)[i]? = some u → xs[j * 6 + i]? = some u := by
 induction l generalizing xs j with
 | nil => simp at hj
 | cons p l ih =>
   cases h with
   | cons k q t n o wd v xs l hv h hr =>
     cases j with
     | zero =>
       refine ⟨k, q, t, n, o, wd, v, rfl, hv, h, fun i u hu => ?_⟩
       rw [Nat.zero_mul, Nat.zero_add, List.getElem?_append_left (List.getElem?_eq_some_iff.1 hu).1]
       exact hu
     | succ j =>
       obtain ⟨k', q', t', n', o', wd', v', e, hv', h', hx⟩ := ih hr (j := j) (by simpa using hj)
       refine ⟨k', q', t', n', o', wd', v', e, hv', h', fun i u hu => ?_⟩
       have h6 : (pvs k q t n o v).length = 6 := rfl
       rw [List.getElem?_append_right (by omega), h6, show (j + 1) * 6 + i - 6 = j * 6 + i by omega]
       exact hx i u hu
theorem LV.get {P : Nat → Prop} {w : World} {A : Option Addr} {m cap : Nat} {l : List Pt} (h : LV P w (.slice A m cap) l) {j : Nat} (hj : j < l.length) : ∃ g off k q t n o wd v, A = some ⟨g, off, none⟩ ∧ g < w.heap.size ∧ l[j] = .mk k q t n o wd ∧ v.oneCell' = true ∧ LV P w v wd ∧
   w.cell? ⟨g, off + j * 6, none⟩ = some (.int .i64 k) ∧ w.cell? ⟨g, off + j * 6 + 1, none⟩ = some (.bool q) ∧ w.cell? ⟨g, off + j * 6 + 2, none⟩ = some (.string (bs t)) ∧ w.cell? ⟨g, off + j * 6 + 3, none⟩ = some (.string (bs n)) ∧ w.cell? ⟨g, off + j * 6 + 4, none⟩ = some (.string (bs o)) ∧ w.cell? ⟨g, off + j * 6 + 5, none⟩ = some v := by
 cases h with
 | nil A cap h => simp at hj
 | «at» g off n cap xs l hn hm hP hg hc h =>
   obtain ⟨k, q, t, n, o, wd, v, e, hv, h', hx⟩ := h.get hj
   have c : ∀ i u, (pvs k q t n o v)[i]? = some u → w.cell? ⟨g, off + j * 6 + i, none⟩ = some u := fun i u hu => by
     have := hc _ _ (hx i u hu)
     rwa [← Nat.add_assoc] at this
   exact ⟨g, off, k, q, t, n, o, wd, v, rfl, hg, e, hv, h', c 0 _ rfl, c 1 _ rfl, c 2 _ rfl, c 3 _ rfl, c 4 _ rfl, c 5 _ rfl⟩
theorem LV.len {P : Nat → Prop} {w : World} {A : Option Addr} {m cap : Nat} {l : List Pt} (h : LV P w (.slice A m cap) l) : m = l.length := by
 cases h with
 | nil A cap h => rfl
 | «at» g off n cap xs l hn hm hP hg hc h => exact hn.symm
theorem LV.none {P : Nat → Prop} {w : World} {m cap : Nat} {l : List Pt} (h : LV P w (.slice none m cap) l) : l = [] ∧ cap = 0 := by
 cases h with
 | nil A cap h => exact ⟨rfl, h rfl⟩
structure OW (P : Nat → Prop) (w0 w : World) (B : Nat) (v : Value) (l : List Pt) : Prop where
 own : ∃ xs, w.ownsRow B 125 6 v l.length xs ∧ Cs P w0 xs l
 bel : Below w0.heap.size w0 w
 le : w0.heap.size ≤ B
theorem Cs.split {P : Nat → Prop} {w : World} {a b : List Pt} {xs : List Value} (h : Cs P w xs (a ++ b)) : ∃ ys zs, xs = ys ++ zs ∧ Cs P w ys a ∧ Cs P w zs b := by
 induction a generalizing xs with
 | nil => exact ⟨[], xs, rfl, .nil, h⟩
 | cons p l ih =>
   cases h with
   | cons k q t n o wd v xs l hv h hr =>
     obtain ⟨ys, zs, e, h1, h2⟩ := ih hr
     exact ⟨pvs k q t n o v ++ ys, zs, by rw [e, List.append_assoc], .cons k q t n o wd v ys _ hv h h1, h2⟩
theorem partInfo : (Tryz.prog.info? 125).map (fun i => (i.zero, i.size, i.bytes)) = some (some (.agg #[.int .i64 0, .bool false, .string ⟨#[]⟩, .string ⟨#[]⟩, .string ⟨#[]⟩, .slice none 0 0]), 6, 88) := by kernel_rfl
end Wx
end
end Go.Proofs.YtlggpefmojacoaaGreatDoor
