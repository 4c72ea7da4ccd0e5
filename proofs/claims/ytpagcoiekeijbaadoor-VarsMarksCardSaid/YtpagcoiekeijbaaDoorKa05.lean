/-
  Parts of the proof, merged.
-/
import Derived.BigCall
import Derived.BigGuardPart
import Derived.BigQuiet
import Derived.BigRegion
import Derived.Deep.CutBlock
import Derived.Deep.DeepCutAuto
import Derived.Deep.QuietTactic
import Derived.Deep.RegionHeld3
import Derived.Deep.RegionLaw
import Derived.Laws.AppendOwn
import Derived.Laws.Concat
import Derived.Laws.MakeOwn
import Derived.Laws.Pointers
import Derived.Laws.Shifts
import Derived.Laws.Slices
import Derived.Laws.Strings
import Derived.Laws.Unary
import Derived.Lib.AppendZeros
import Derived.Lib.Bytealg
import Derived.OwnWalk
import Derived.StillTail
import Derived.StillTailTactics
import Derived.Test.YtpagcoiekeijbaaDoorKa03
import Derived.Test.YtpagcoiekeijbaaDoorKa04
import Derived.Test.YtpagcoiekeijbaaDoorProg
import Derived.WalkKit
namespace Go.Proofs.YtpagcoiekeijbaaDoor
section
open Go.RowKit Tx
namespace Va
structure Vr where
 name : ByteArray
 value : ByteArray
 ex : Bool
 ro : Bool
def Vr.zero : Vr := ⟨⟨#[]⟩, ⟨#[]⟩, false, false⟩
def lt (a b : ByteArray) : Prop := toL a < toL b
instance (a b : ByteArray) : Decidable (lt a b) := inferInstanceAs (Decidable (toL a < toL b))
def pos (l : List Vr) (n : ByteArray) : Nat := (l.takeWhile fun v => decide (lt v.name n)).length
def get? (l : List Vr) (n : ByteArray) : Option Vr :=
 match l.drop (pos l n) with
 | [] => none
 | v :: _ => if v.name = n then some v else none
def getD (l : List Vr) (n : ByteArray) : Vr := (get? l n).getD Vr.zero
def found (l : List Vr) (n : ByteArray) : Bool := (get? l n).isSome
def behind (l : List Vr) (n : ByteArray) : List Vr := l.drop (pos l n + if found l n then 1 else 0)
def before (l : List Vr) (n : ByteArray) : List Vr := l.take (pos l n)
def put (l : List Vr) (n : ByteArray) (m : List Vr) : List Vr := before l n ++ m ++ behind l n
def isName (n : ByteArray) : Bool := isN (toL n)
def set (l : List Vr) (n x : ByteArray) : Except Int (List Vr) :=
 if isName n = false then .error 1 else if (getD l n).ro = true then .error 150 else .ok (put l n [⟨n, x, (getD l n).ex, (getD l n).ro⟩])
def mark (l : List Vr) (n : ByteArray) (e r : Bool) : Except Int (List Vr) :=
 if isName n = false then .error 1 else .ok (put l n [⟨n, (getD l n).value, (getD l n).ex || e, (getD l n).ro || r⟩])
def unset (l : List Vr) (n : ByteArray) : Except Int (List Vr) := if (getD l n).ro = true then .error 150 else .ok (put l n [])
def envOf (v : Vr) : ByteArray := v.name ++ ⟨#[61]⟩ ++ v.value
def environ (l : List Vr) : List ByteArray := (l.filter Vr.ex).map envOf
def Sorted (l : List Vr) : Prop := l.Pairwise fun a b => lt a.name b.name
theorem lt_irrefl (a : ByteArray) : ¬ lt a a := List.lt_irrefl _
theorem lt_trans {a b c : ByteArray} (h : lt a b) (k : lt b c) : lt a c := List.lt_trans h k
theorem lt_ne {a b : ByteArray} (h : lt a b) : a ≠ b := fun e => lt_irrefl b (e ▸ h)
theorem lt_total {a b : ByteArray} (h : ¬ lt a b) (hn : a ≠ b) : lt b a :=
 Decidable.byContradiction fun k => hn (toL_inj (List.le_antisymm (List.not_lt.1 k) (List.not_lt.1 h)))
theorem less_lt : ∀ a b : List UInt8, Op.bytesLess a b = decide (a < b)
 | [], [] => by simp [Op.bytesLess]
 | [], _ :: _ => by simp [Op.bytesLess]
 | _ :: _, [] => by simp [Op.bytesLess]
 | a :: r, b :: s => by
   rw [Op.bytesLess, less_lt r s]
   simp only [List.cons_lt_cons_iff, Bool.decide_or, Bool.decide_and]
   by_cases h : a = b
   · simp [h]
   · simp [h]
theorem less_str (a b : ByteArray) : Op.bytesLess a.toList b.toList = decide (lt a b) := by
 rw [ByteArray.toList_eq, ByteArray.toList_eq, less_lt]
 rfl
theorem cmp_lt : ∀ a b : List UInt8, (Lib.compareBytes a b < 0 ↔ a < b) ∧ (Lib.compareBytes a b = 0 ↔ a = b)
 | [], [] => by simp [Lib.compareBytes]
 | [], b :: l => by simp [Lib.compareBytes]
 | a :: l, [] => by simp [Lib.compareBytes]
 | a :: l, b :: m => by
   have ih := cmp_lt l m
   unfold Lib.compareBytes
   rw [List.cons_lt_cons_iff]
   by_cases h1 : a < b
   · rw [if_pos h1]
     exact ⟨by simp [h1], by simp; intro e; subst e; exact absurd h1 (UInt8.lt_irrefl _)⟩
   · rw [if_neg h1]
     by_cases h2 : b < a
     · rw [if_pos h2]
       exact ⟨by simp [h1]; intro e; subst e; exact absurd h2 (UInt8.lt_irrefl _), by simp; intro e; subst e; exact absurd h2 (UInt8.lt_irrefl _)⟩
     · rw [if_neg h2]
       have e : a = b := UInt8.le_antisymm (UInt8.not_lt.1 h2) (UInt8.not_lt.1 h1)
       subst e
       simp only [List.cons.injEq, true_and]
       exact ⟨by rw [ih.1]; simp [UInt8.lt_irrefl], ih.2⟩
theorem pos_le (l : List Vr) (n : ByteArray) : pos l n ≤ l.length := (List.takeWhile_prefix _).length_le
theorem pos_is {n : ByteArray} : ∀ {l : List Vr} {j : Nat}, j ≤ l.length → (∀ i (hi : i < l.length), i < j → lt l[i].name n) → (∀ hj : j < l.length, ¬ lt l[j].name n) → pos l n = j
 | [], j, hj, _, _ => by
   have : j = 0 := by simpa using hj
   subst this; rfl
 | v :: l, 0, _, _, h2 => by
   have := h2 (by simp)
   unfold pos
   rw [List.takeWhile_cons, if_neg (by simpa using this)]
   rfl
 | v :: l, j + 1, hj, h1, h2 => by
   have h0 : lt v.name n := h1 0 (by simp) (by omega)
   have := pos_is (n := n) (l := l) (j := j) (by simpa using hj) (fun i hi hij => h1 (i + 1) (by simpa using hi) (by omega)) (fun hlt => h2 (by simpa using hlt))
   unfold pos at this ⊢
   rw [List.takeWhile_cons, if_pos (by simpa using h0), List.length_cons, this]
theorem pos_at {l : List Vr} {n : ByteArray} {j : Nat} {v : Vr} (hv : l[j]? = some v) (h1 : ∀ i u, l[i]? = some u → i < j → lt u.name n) (h2 : ¬ lt v.name n) : pos l n = j ∧ found l n = decide (v.name = n) := by
 obtain ⟨hj, rfl⟩ := List.getElem?_eq_some_iff.1 hv
 have e : pos l n = j := pos_is (by omega) (fun i hi hij => h1 i _ (List.getElem?_eq_getElem hi) hij) (fun _ => h2)
 refine ⟨e, ?_⟩
 have hl : pos l n < l.length := by omega
 unfold found get?
 rw [e, List.drop_eq_getElem_cons hj]
 by_cases h : l[j].name = n
 · simp [h]
 · simp [h]
theorem pos_all {l : List Vr} {n : ByteArray} (h1 : ∀ i u, l[i]? = some u → i < l.length → lt u.name n) : pos l n = l.length ∧ found l n = false := by
 have e : pos l n = l.length := pos_is (Nat.le_refl _) (fun i hi _ => h1 i _ (List.getElem?_eq_getElem hi) hi) (fun h => absurd h (Nat.lt_irrefl _))
 refine ⟨e, ?_⟩
 unfold found get?
 rw [e, List.drop_length]
 rfl
theorem get_at {l : List Vr} {n : ByteArray} (h : pos l n < l.length) : get? l n = if l[pos l n].name = n then some l[pos l n] else none := by
 unfold get?
 rw [List.drop_eq_getElem_cons h]
theorem get_end {l : List Vr} {n : ByteArray} (h : ¬ pos l n < l.length) : get? l n = none := by
 unfold get?
 rw [List.drop_eq_nil_of_le (by omega)]
theorem found_at {l : List Vr} {n : ByteArray} (h : pos l n < l.length) : found l n = decide (l[pos l n].name = n) := by
 unfold found
 rw [get_at h]
 by_cases e : l[pos l n].name = n
 · rw [if_pos e]; simp [e]
 · rw [if_neg e]; simp [e]
theorem found_end {l : List Vr} {n : ByteArray} (h : ¬ pos l n < l.length) : found l n = false := by
 unfold found; rw [get_end h]; rfl
theorem found_lt {l : List Vr} {n : ByteArray} (h : found l n = true) : pos l n < l.length := by
 apply Decidable.byContradiction
 intro hn
 rw [found_end hn] at h; cases h
theorem getD_at {l : List Vr} {n : ByteArray} (h : found l n = true) : getD l n = l[pos l n]'(found_lt h) := by
 have hl := found_lt h
 rw [found_at hl] at h
 unfold getD
 rw [get_at hl, if_pos (of_decide_eq_true h)]
 rfl
theorem getD_no {l : List Vr} {n : ByteArray} (h : found l n = false) : getD l n = Vr.zero := by
 unfold found at h
 unfold getD
 cases e : get? l n with
 | none => rfl
 | some v => rw [e] at h; cases h
theorem getD_name {l : List Vr} {n : ByteArray} (h : found l n = true) : (getD l n).name = n := by
 rw [getD_at h]
 have hl := found_lt h
 rw [found_at hl] at h
 exact of_decide_eq_true h
theorem before_lt {l : List Vr} {n : ByteArray} : ∀ v ∈ before l n, lt v.name n := by
 intro v hv
 unfold before pos at hv
 induction l with
 | nil => cases hv
 | cons a l ih =>
   rw [List.takeWhile_cons] at hv
   split at hv
   · rename_i h
     rw [List.length_cons, List.take_succ_cons] at hv
     rcases List.mem_cons.1 hv with rfl | hv
     · exact of_decide_eq_true h
     · exact ih hv
   · cases hv
theorem split3 (l : List Vr) (n : ByteArray) : l = before l n ++ (get? l n).toList ++ behind l n := by
 unfold before behind
 by_cases h : found l n = true
 · have hl := found_lt h
   have h2 := h
   rw [found_at hl] at h2
   rw [get_at hl, if_pos (of_decide_eq_true h2), if_pos h, List.append_assoc]
   show l = l.take (pos l n) ++ ([l[pos l n]] ++ l.drop (pos l n + 1))
   rw [List.singleton_append, ← List.drop_eq_getElem_cons hl, List.take_append_drop]
 · have h1 : get? l n = none := by
     unfold found at h
     cases e : get? l n with
     | none => rfl
     | some v => rw [e] at h; exact absurd rfl h
   rw [h1, if_neg h]
   show l = l.take (pos l n) ++ [] ++ l.drop (pos l n + 0)
   rw [List.append_nil, Nat.add_zero, List.take_append_drop]
theorem mid_name {l : List Vr} {n : ByteArray} {v : Vr} (h : get? l n = some v) : v.name = n := by
 unfold get? at h
 split at h
 · cases h
 · split at h
   · rename_i e; cases h; exact e
   · cases h
theorem behind_lt {l : List Vr} {n : ByteArray} (hs : Sorted l) : ∀ v ∈ behind l n, lt n v.name := by
 intro v hv
 unfold behind at hv
 by_cases h : found l n = true
 · have hl := found_lt h
   have hn := getD_name h
   rw [getD_at h] at hn
   rw [if_pos h] at hv
   have hs2 := hs
   rw [Sorted, ← List.take_append_drop (pos l n) l, List.pairwise_append, List.drop_eq_getElem_cons hl, List.pairwise_cons] at hs2
   have := hs2.2.1.1 v hv
   rwa [hn] at this
 · rw [if_neg h, Nat.add_zero] at hv
   have hf : found l n = false := by simpa using h
   by_cases hl : pos l n < l.length
   · have hnl : ¬ lt l[pos l n].name n := by
       have h3 : ∀ (l : List Vr) (hl : pos l n < l.length), ¬ lt l[pos l n].name n := by
         intro l
         induction l with
         | nil => intro hl; simp at hl
         | cons a l ih =>
           intro hl
           by_cases ha : lt a.name n
           · have e : pos (a :: l) n = pos l n + 1 := by unfold pos; rw [List.takeWhile_cons, if_pos (by simpa using ha), List.length_cons]
             have hl2 : pos l n < l.length := by rw [e] at hl; simpa using hl
             have := ih hl2
             simpa [e] using this
           · have e : pos (a :: l) n = 0 := by unfold pos; rw [List.takeWhile_cons, if_neg (by simpa using ha)]; rfl
             simpa [e] using ha
       exact h3 l hl
     rw [found_at hl] at hf
     have h1 : lt n l[pos l n].name := lt_total hnl (of_decide_eq_false hf)
     rw [List.drop_eq_getElem_cons hl] at hv
     have hs2 := hs
     rw [Sorted, ← List.take_append_drop (pos l n) l, List.pairwise_append, List.drop_eq_getElem_cons hl, List.pairwise_cons] at hs2
     rcases List.mem_cons.1 hv with rfl | hv
     · exact h1
     · exact lt_trans h1 (hs2.2.1.1 v hv)
   · rw [List.drop_eq_nil_of_le (by omega)] at hv; cases hv
theorem put_sorted {l : List Vr} {n : ByteArray} {m : List Vr} (hs : Sorted l) (hm : m = [] ∨ ∃ v, m = [v] ∧ v.name = n) : Sorted (put l n m) := by
 have h3 := split3 l n
 have hs2 := hs
 rw [Sorted, h3, List.pairwise_append, List.pairwise_append] at hs2
 unfold put Sorted
 rw [List.pairwise_append, List.pairwise_append]
 have hmn : ∀ v ∈ m, v.name = n := by
   rcases hm with rfl | ⟨u, rfl, rfl⟩
   · intro v hv; cases hv
   · intro v hv; rw [List.mem_singleton.1 hv]
 refine ⟨⟨hs2.1.1, ?_, fun a ha b hb => by rw [hmn b hb]; exact before_lt a ha⟩, hs2.2.1, fun a ha b hb => ?_⟩
 · rcases hm with rfl | ⟨u, rfl, _⟩
   · exact .nil
   · exact List.pairwise_singleton _ _
 · rcases List.mem_append.1 ha with ha | ha
   · exact lt_trans (before_lt a ha) (behind_lt hs b hb)
   · rw [hmn a ha]; exact behind_lt hs b hb
theorem get_find {l : List Vr} (hs : Sorted l) (o : ByteArray) : get? l o = l.find? fun v => decide (v.name = o) := by
 conv => rhs; rw [split3 l o]
 rw [List.find?_append, List.find?_append]
 have h1 : (before l o).find? (fun v => decide (v.name = o)) = none := List.find?_eq_none.2 fun v hv => by simpa using lt_ne (before_lt v hv)
 have h2 : (behind l o).find? (fun v => decide (v.name = o)) = none := List.find?_eq_none.2 fun v hv => by simpa using fun e => lt_ne (behind_lt hs v hv) e.symm
 rw [h1, h2]
 cases e : get? l o with
 | none => rfl
 | some v => simp [mid_name e]
theorem find_one (m : List Vr) (n o : ByteArray) (h : ∀ v ∈ m, v.name = n) (hne : o ≠ n) : m.find? (fun v => decide (v.name = o)) = none :=
 List.find?_eq_none.2 fun v hv => by simpa using fun e => hne (by rw [← e, h v hv])
theorem find_same (m : List Vr) (n : ByteArray) (h : ∀ v ∈ m, v.name = n) : m.find? (fun v => decide (v.name = n)) = m.head? := by
 cases m with
 | nil => rfl
 | cons v m => rw [List.find?_cons, h v (List.mem_cons_self ..)]; simp
theorem put_get {l : List Vr} {n o : ByteArray} {m : List Vr} (hs : Sorted l) (hm : m = [] ∨ ∃ v, m = [v] ∧ v.name = n) : get? (put l n m) o = if o = n then m.head? else get? l o := by
 have hmn : ∀ v ∈ m, v.name = n := by
   rcases hm with rfl | ⟨u, rfl, rfl⟩
   · intro v hv; cases hv
   · intro v hv; rw [List.mem_singleton.1 hv]
 rw [get_find (put_sorted hs hm), get_find hs]
 unfold put
 rw [List.find?_append, List.find?_append]
 split
 · rename_i e
   subst e
   have h1 : (before l o).find? (fun v => decide (v.name = o)) = none := List.find?_eq_none.2 fun v hv => by simpa using lt_ne (before_lt v hv)
   have h2 : (behind l o).find? (fun v => decide (v.name = o)) = none := List.find?_eq_none.2 fun v hv => by simpa using fun e => lt_ne (behind_lt hs v hv) e.symm
   rw [h1, h2, find_same m o hmn]
   simp
 · rename_i e
   conv => rhs; rw [split3 l n]
   rw [List.find?_append, List.find?_append, find_one m n o hmn e]
   have : (get? l n).toList.find? (fun v => decide (v.name = o)) = none := find_one _ n o (fun v hv => by
     cases h : get? l n with
     | none => rw [h] at hv; cases hv
     | some u => rw [h] at hv; rw [List.mem_singleton.1 hv]; exact mid_name h) e
   rw [this]
theorem put_len (l : List Vr) (n : ByteArray) (m : List Vr) : (put l n m).length + (if found l n then 1 else 0) = l.length + m.length := by
 have h := congrArg List.length (split3 l n)
 unfold put
 simp only [List.length_append] at h ⊢
 have : (get? l n).toList.length = if found l n then 1 else 0 := by
   unfold found
   cases get? l n <;> rfl
 omega
end Va
end
section
open Go.RowKit Tx
namespace Va
def pv (v : Vr) : List Value := [.string v.name, .string v.value, .bool v.ex, .bool v.ro]
def pvl (l : List Vr) : List Value := l.flatMap pv
theorem pvl_cons (p : Vr) (t : List Vr) : pvl (p :: t) = pv p ++ pvl t := rfl
theorem pvl_app (l m : List Vr) : pvl (l ++ m) = pvl l ++ pvl m := by simp [pvl]
theorem pvl_one (v : Vr) : pvl [v] = pv v := by simp [pvl]
theorem pv_length (v : Vr) : (pv v).length = 4 := rfl
theorem pvl_length (t : List Vr) : (pvl t).length = t.length * 4 := by
 induction t with
 | nil => rfl
 | cons p t ih => rw [pvl_cons, List.length_append, ih, pv_length, List.length_cons]; omega
theorem pvl_drop : ∀ (n : Nat) (l : List Vr), pvl (l.drop n) = (pvl l).drop (n * 4)
 | 0, l => by simp
 | n + 1, [] => by simp [pvl]
 | n + 1, u :: l => by
   have h1 : (pv u).drop ((n + 1) * 4) = [] := List.drop_eq_nil_of_le (by rw [pv_length]; omega)
   rw [List.drop_succ_cons, pvl_drop n l, pvl_cons, List.drop_append, h1, List.nil_append, pv_length, show (n + 1) * 4 - 4 = n * 4 by omega]
theorem pvl_take : ∀ (n : Nat) (l : List Vr), pvl (l.take n) = (pvl l).take (n * 4)
 | 0, l => by simp [pvl]
 | n + 1, [] => by simp [pvl]
 | n + 1, u :: l => by
   have h1 : (pv u).take ((n + 1) * 4) = pv u := List.take_of_length_le (by rw [pv_length]; omega)
   rw [List.take_succ_cons, pvl_cons, pvl_take n l, pvl_cons, List.take_append, h1, pv_length, show (n + 1) * 4 - 4 = n * 4 by omega]
theorem pv_one (x : Vr) : ∀ u ∈ pv x, u.oneCell' = true := by
 intro u hp
 simp only [pv, List.mem_cons, List.not_mem_nil, or_false] at hp
 rcases hp with rfl | rfl | rfl | rfl <;> rfl
theorem pvl_ones (l : List Vr) : ∀ u ∈ pvl l, u.oneCell' = true := by
 intro u hu
 obtain ⟨v, _, h⟩ := List.mem_flatMap.1 hu
 exact pv_one v u h
structure VS (w : World) (A : Option Addr) (k : Nat) (l : List Vr) : Prop where
 cap : l.length ≤ k
 nil : A = none → k = 0
 mem : l ≠ [] → ∃ g off, A = some ⟨g, off, none⟩ ∧ g < w.heap.size ∧ ∀ j u, (pvl l)[j]? = some u → w.cell? ⟨g, off + j, none⟩ = some u
section
variable {w w' : World} {A : Option Addr} {k : Nat} {l : List Vr}
theorem VS.empty (w : World) : VS w none 0 [] := ⟨Nat.le_refl _, fun _ => rfl, fun h => absurd rfl h⟩
theorem VS.below (h : VS w A k l) (hb : Below w.heap.size w w') : VS w' A k l :=
 ⟨h.cap, h.nil, fun hl => by
   obtain ⟨g, off, h1, h3, h4⟩ := h.mem hl
   exact ⟨g, off, h1, Nat.lt_of_lt_of_le h3 hb.size, fun j u hu => (World.cell?_of_block (w := w) (a := ⟨g, off + j, Option.none⟩) (hb.block g h3)).trans (h4 j u hu)⟩⟩
theorem VS.at {v : Vr} (h : VS w A k l) {j : Nat} (hv : l[j]? = some v) : ∃ g off, A = some ⟨g, off, Option.none⟩ ∧ g < w.heap.size ∧ w.cell? ⟨g, off + j * 4, Option.none⟩ = some (.string v.name) ∧ w.cell? ⟨g, off + j * 4 + 1, Option.none⟩ = some (.string v.value) ∧ w.cell? ⟨g, off + j * 4 + 2, Option.none⟩ = some (.bool v.ex) ∧ w.cell? ⟨g, off + j * 4 + 3, Option.none⟩ = some (.bool v.ro) := by
 obtain ⟨hj, rfl⟩ := List.getElem?_eq_some_iff.1 hv
 obtain ⟨g, off, h1, h3, h4⟩ := h.mem (by intro e; subst e; simp at hj)
 have hd : pvl (l.drop j) = pv l[j] ++ pvl (l.drop (j + 1)) := by rw [List.drop_eq_getElem_cons hj, pvl_cons]
 rw [pvl_drop] at hd
 have e (i : Nat) (u : Value) (hi : (pv l[j])[i]? = some u) : w.cell? ⟨g, off + j * 4 + i, Option.none⟩ = some u := by
   rw [Nat.add_assoc]
   refine h4 _ _ ?_
   rw [← List.getElem?_drop, hd, List.getElem?_append_left]
   · exact hi
   · exact (List.getElem?_eq_some_iff.1 hi).1
 exact ⟨g, off, h1, h3, e 0 _ rfl, e 1 _ rfl, e 2 _ rfl, e 3 _ rfl⟩
end
theorem var_und : Tryd.prog.underlying 24 = some (.slice 30) := by kernel_rfl
theorem var_info : (Tryd.prog.info? 30).map (fun i => (i.zero, i.size, i.bytes)) = some (some (.agg #[.string ⟨#[]⟩, .string ⟨#[]⟩, .bool false, .bool false]), 4, 40) := by kernel_rfl
theorem var_und2 : Tryd.prog.underlying 24 = some (.slice (Tryd.prog.elem 24)) := by kernel_rfl
theorem var_four (W : World) : (sizeOf (Tryd.prog.elem 24)).run Tryd.prog W = .ok 4 W := by kernel_rfl
theorem var_from (A : Option Addr) (n k i : Nat) (h : i ≤ n) (W : World) : (Instr.slice 24 (.slice A n k) (some (.int .i64 (i : Int))) none none).run Tryd.prog W = .ok (sliced A i n k 4) W := by
 have h2 : (Instr.sliceBounds true n k (some (.int .i64 (i : Int))) none none).run Tryd.prog W = .ok (i, n, k) W := by
   have : (i : Int) ≤ (n : Int) := by omega
   simp [Instr.sliceBounds, go_sem, this]
 rw [run_slice_any W _ _ _ _ var_und2, h2]
 simp only [Result.andThen_ok, var_four]
theorem var_upto (A : Option Addr) (n k i : Nat) (h : i ≤ k) (W : World) : (Instr.slice 24 (.slice A n k) none (some (.int .i64 (i : Int))) none).run Tryd.prog W = .ok (sliced A 0 i k 4) W := by
 have h2 : (Instr.sliceBounds true n k none (some (.int .i64 (i : Int))) none).run Tryd.prog W = .ok (0, i, k) W := by
   have : (i : Int) ≤ (k : Int) := by omega
   simp [Instr.sliceBounds, go_sem, this]
 rw [run_slice_any W _ _ _ _ var_und2, h2]
 simp only [Result.andThen_ok, var_four]
theorem add_four (g off i : Nat) : (⟨g, off, none⟩ : Addr).add i = ⟨g, off + i, none⟩ := by unfold Addr.add; split <;> simp_all
theorem VS.drop {w : World} {A : Option Addr} {k n : Nat} {l : List Vr} (h : VS w A k l) (i m : Nat) (hi : i ≤ l.length) (hn : l.length = n) (hm : (l.drop i).length = m) :
   ∃ A' k', (∀ W : World, (Instr.slice 24 (.slice A n k) (some (.int .i64 (i : Int))) none none).run Tryd.prog W = .ok (.slice A' m k') W) ∧ VS w A' k' (l.drop i) := by
 subst hn hm
 have hk := h.cap
 refine ⟨_, _, fun W => by rw [var_from A _ k i hi W, List.length_drop]; rfl, ⟨by rw [List.length_drop]; omega, fun e => ?_, fun hl => ?_⟩⟩
 · split at e
   · rename_i hki; omega
   · rw [Option.map_eq_none_iff] at e
     have := h.nil e; omega
 · have hlt : i < l.length := by
     rcases Nat.lt_or_ge i l.length with h1 | h1
     · exact h1
     · exact absurd (List.drop_eq_nil_of_le h1) hl
   obtain ⟨g, off, h1, h3, h4⟩ := h.mem (by intro e; subst e; simp at hlt)
   refine ⟨g, off + i * 4, ?_, h3, fun j u hu => ?_⟩
   · rw [if_neg (by omega), h1, Option.map_some, add_four]
   · rw [pvl_drop, List.getElem?_drop] at hu
     rw [Nat.add_assoc]
     exact h4 _ u hu
theorem VS.take {w : World} {A : Option Addr} {k n : Nat} {l : List Vr} (h : VS w A k l) (i : Nat) (hi : i ≤ l.length) :
   ∃ A' k', (∀ W : World, (Instr.slice 24 (.slice A n k) none (some (.int .i64 (i : Int))) none).run Tryd.prog W = .ok (.slice A' i k') W) ∧ VS w A' k' (l.take i) := by
 have hk := h.cap
 refine ⟨_, _, fun W => by rw [var_upto A n k i (by omega) W]; rfl, ⟨by rw [List.length_take]; omega, fun e => ?_, fun hl => ?_⟩⟩
 · split at e
   · omega
   · rw [Option.map_eq_none_iff] at e
     have := h.nil e; omega
 · obtain ⟨g, off, h1, h3, h4⟩ := h.mem (by intro e; subst e; simp at hl)
   refine ⟨g, off, ?_, h3, fun j u hu => h4 j u ?_⟩
   · rw [h1]
     split
     · rfl
     · rw [Option.map_some, add_four, Nat.zero_mul, Nat.add_zero]
   · rw [pvl_take, List.getElem?_take] at hu
     split at hu
     · exact hu
     · cases hu
theorem VS.fresh (w : World) (v : Vr) (cs : Array Value) (t : TypeId) (h : cs = (pv v).toArray) : VS (w.alloc (.cells cs t)) (some ⟨w.heap.size, 0, none⟩) 1 [v] := by
 subst h
 refine ⟨Nat.le_refl _, fun e => (by cases e), fun _ => ⟨w.heap.size, 0, rfl, by simp, fun j u hu => ?_⟩⟩
 rw [Nat.zero_add, cell_of_row _ _ j _ t (0, 0) (heap_alloc_new w _)]
 rw [pvl_one] at hu
 simpa using hu
def VO (w : World) (B : Nat) (v : Value) (l : List Vr) : Prop := w.ownsRow B 30 4 v l.length (pvl l)
section
variable {w w' : World} {B : Nat} {v : Value} {l : List Vr}
theorem VO.empty (w : World) (B : Nat) : VO w B (.slice none 0 0) [] := World.ownsRow_nil _ _ _ _
theorem VO.lt (h : VO w B v l) {g : Nat} (hg : v.ownBlock = some g) : B ≤ g ∧ g < w.heap.size := by
 rcases h.2 with ⟨rfl, _⟩ | ⟨g', cap, cur, rfl, hB, hb, _⟩
 · cases hg
 · injection hg with hg
   subst hg
   exact ⟨hB, (Array.getElem?_eq_some_iff.1 hb).1⟩
theorem VO.below (h : VO w B v l) (hb : Below w.heap.size w w') : VO w' B v l := by
 refine ⟨h.1, ?_⟩
 rcases h.2 with h0 | ⟨g, cap, cur, h1, hB, hg, r⟩
 · exact .inl h0
 · exact .inr ⟨g, cap, cur, h1, hB, (hb.block g (Array.getElem?_eq_some_iff.1 hg).1).trans hg, r⟩
theorem VO.more {C : Nat} (h : VO w B v l) (hC : C ≤ B) : VO w C v l := by
 refine ⟨h.1, ?_⟩
 rcases h.2 with h0 | ⟨g, cap, cur, h1, hB, r⟩
 · exact .inl h0
 · exact .inr ⟨g, cap, cur, h1, Nat.le_trans hC hB, r⟩
theorem VO.grow (h : VO w B v l) (o : Obj) : VO (w.alloc o) B v l := h.below ((Below.refl _ _).alloc (Nat.le_refl _) _)
theorem VO.read (h : VO w B v l) : ∃ A k, v = .slice A l.length k ∧ VS w A k l := by
 rcases h.2 with ⟨rfl, h0⟩ | ⟨g, cap, cur, rfl, hB, hg, hnc, hcm, hcs, htake⟩
 · have := List.eq_nil_of_length_eq_zero h0
   subst this
   exact ⟨_, _, rfl, VS.empty w⟩
 · refine ⟨_, _, rfl, hnc, fun e => (by cases e), fun _ => ⟨g, 0, rfl, (Array.getElem?_eq_some_iff.1 hg).1, fun j u hu => ?_⟩⟩
   rw [Nat.zero_add, cell_of_row w g j cur _ (0, 0) hg]
   rw [← htake, List.getElem?_take] at hu
   split at hu
   · simpa using hu
   · cases hu
end
theorem run_append_vars {w : World} {B : Nat} {v : Value} {l m : List Vr} {A : Option Addr} {n k : Nat} (ty : TypeId) (hown : VO w B v l) (hx : VS w A k m) (hn : m.length = n) (hB : B ≤ w.heap.size) (hl : l.length + m.length ≤ 1000000) :
   ∃ A2 k2 w', (Builtin.append_ #[24, 24] ty #[v, .slice A n k]).run Tryd.prog w = .ok (.slice A2 (l.length + n) k2) w' ∧ VO w' B (.slice A2 (l.length + n) k2) (l ++ m) ∧ Below B w w' := by
 subst hn
 obtain ⟨i, hi, hz, hs, hby⟩ := info_parts var_info
 cases A with
 | none =>
   have h0 := hx.nil rfl
   subst h0
   have hm : m = [] := List.eq_nil_of_length_eq_zero (by have := hx.cap; omega)
   subst hm
   obtain ⟨A2, k2, rfl, _⟩ := hown.read
   refine ⟨A2, k2, w, ?_, ?_, Below.refl _ _⟩
   · exact run_append_owned_none w B 24 ty 30 i 4 var_und hi _ l.length _ hown
   · rw [List.append_nil]; exact hown
 | some ad =>
   have hc : ∀ j u, (pvl m)[j]? = some u → w.cell? (ad.add j) = some u := by
     intro j u hu
     obtain ⟨g, off, e, _, h4⟩ := hx.mem (fun e => by rw [e] at hu; cases hu)
     rw [Option.some.inj e, add_four]
     exact h4 j u hu
   obtain ⟨v', w', hr, ho, hg, _⟩ := run_append_own (P := Tryd.prog) w B 24 ty 30 i _ 4 40 var_und hi hz hs hby rfl (by omega) v l.length (pvl l) hown ad m.length k (pvl m) (pvl_length m) hc (pvl_ones m)
     (by unfold maxLen; omega) (by omega) hB
   have hO : VO w' B v' (l ++ m) := by
     unfold VO
     rw [List.length_append, pvl_app]
     exact ho
   obtain ⟨A2, k2, rfl, _⟩ := hO.read
   rw [List.length_append] at hr hO
   exact ⟨A2, k2, w', hr, hO, ⟨hg.os, hg.tape, hg.output, hg.size, fun j hj => hg.block j (by omega) (fun e => by have := (hown.lt e.symm).1; omega)⟩⟩
theorem wpList_append_vars {ops : Array Oper} {rest : List Oper} {o : Oper} {a : Act} {Q : Exit → Act → World → Prop} {w : World} {B : Nat} {v : Value} {l m : List Vr} {A : Option Addr} {ln n k : Nat} (hgd : o.guard = none) (s x : Operand)
   (ho : o.op = .call { callee := .builtin .append, args := #[s, x], argTypes := #[24, 24] }) (hs : a.eval s = v) (hx : a.eval x = .slice A n k)
   (hown : VO w B v l) (hln : l.length = ln) (hr : VS w A k m) (hn : m.length = n) (hB : B ≤ w.heap.size) (hl : ln + n ≤ 1000000)
   (h : ∀ A2 k2 n2 w', Kept (n2 = ln + n) → Kept (VO w' B (.slice A2 n2 k2) (l ++ m)) → Below B w w' → wpList Tryd.prog ops Q rest (a.put o.dst (.slice A2 n2 k2)) w') : wpList Tryd.prog ops Q (o :: rest) a w := by
 subst hln hn
 obtain ⟨A2, k2, w', hrun, hO, hb⟩ := run_append_vars o.type hown hr rfl hB hl
 exact Lib.wpList_append_run w hgd s x _ _ ho _ _ hs hx _ _ hrun (h A2 k2 _ w' ⟨rfl⟩ ⟨hO⟩ hb)
theorem VO.vs {w : World} {B n k : Nat} {A : Option Addr} {l : List Vr} (h : VO w B (.slice A n k) l) : VS w A k l ∧ n = l.length := by
 obtain ⟨A2, k2, e, h2⟩ := h.read
 injection e with e1 e2 e3
 subst e1 e3
 exact ⟨h2, e2⟩
end Va
end
section
open Go.RowKit Tx
namespace Va
theorem beq_true {a b : ByteArray} (h : a = b) : (a.toList == b.toList) = true := by rw [beq_str, decide_eq_true h]
theorem beq_false {a b : ByteArray} (h : a ≠ b) : (a.toList == b.toList) = false := by rw [beq_str, decide_eq_false h]
set_option maxRecDepth 100000 in
theorem find_any (l : List Vr) (A : Option Addr) (ln k : Nat) (n : ByteArray) (w : World) (hV : VS w A k l) (hn : l.length = ln) (hl : ln ≤ 100000) (p : Nat) (b : Bool) (hp : pos l n = p) (hb : found l n = b) :
   Calls Tryd.prog 25 #[.slice A ln k, .string n] w fun e w' => e = .returned (.tuple #[.int .i64 (p : Int), .bool b]) ∧ Below w.heap.size w w' := by
 have HV := Kept.mk hV
 have HN := Kept.mk hn
 have HP := Kept.mk hp
 have HF := Kept.mk hb
 clear hV hn hp hb
 go_enter Tryd.func25, Tryd.ntmps25
 go_wp2_with fail
 go_loop [6] (fun i => ∃ j : Nat, j ≤ ln ∧ i = .int .i64 (j : Int) ∧ Kept (∀ i u, l[i]? = some u → i < j → lt u.name n)) (fun i => ln - (intOf i).toNat)
 case atStart => exact ⟨0, by omega, rfl, ⟨fun i _ _ h => absurd h (Nat.not_lt_zero _)⟩⟩
 case round =>
   obtain ⟨j, hj, rfl, hI⟩ := hrel
   have j0 : (0 : Int) ≤ (j : Int) := by omega
   by_cases hlt : j < ln
   · obtain ⟨v, hv⟩ : ∃ v, l[j]? = some v := ⟨_, List.getElem?_eq_getElem (by rw [HN.out]; exact hlt)⟩
     obtain ⟨g, off, rfl, hg, c0, _⟩ := HV.out.at hv
     have j1 : (j : Int) < (ln : Int) := by omega
     by_cases hxn : lt v.name n
     · have HI2 : Kept (∀ i u, l[i]? = some u → i < j + 1 → lt u.name n) := ⟨fun i u hi hij => by
         by_cases e : i = j
         · subst e; rw [hv] at hi; injection hi with hi; rw [← hi]; exact hxn
         · exact hI.out i u hi (by omega)⟩
       clear hv hI
       generalize v.name = x at c0 hxn
       have bL : Op.bytesLess x.toList n.toList = true := by rw [less_str, decide_eq_true hxn]
       clear hxn
       go_wp2_with fail
       go_round
       case rel => exact ⟨j + 1, by omega, by go_num, HI2⟩
       case measure => simp [intOf]; omega
     · obtain ⟨e1, e2⟩ := pos_at hv hI.out hxn
       obtain rfl : p = j := HP.out.symm.trans e1
       have hf : b = decide (v.name = n) := HF.out.symm.trans e2
       clear hv hI e1 e2
       generalize v.name = x at c0 hxn hf
       have bL : Op.bytesLess x.toList n.toList = false := by rw [less_str, decide_eq_false hxn]
       clear hxn
       by_cases hE : x = n
       · have hE1 := beq_true hE
         have : b = true := by rw [hf, decide_eq_true hE]
         subst this
         clear hf hE
         go_wp2_with fail
         go_quiet (fail)
         go_wp2_with fail
         go_ret2
         exact ⟨rfl, below_drewN (Below.refl _ _) _⟩
       · have hE1 := beq_false hE
         have : b = false := by rw [hf, decide_eq_false hE]
         subst this
         clear hf hE
         go_wp2_with fail
         go_quiet (fail)
         go_wp2_with fail
         go_ret2
         exact ⟨rfl, below_drewN (Below.refl _ _) _⟩
   · obtain rfl : j = ln := by omega
     obtain ⟨e1, e2⟩ := pos_all (l := l) (n := n) (fun i u h1 h2 => hI.out i u h1 (by have := HN.out; omega))
     obtain rfl : p = j := by rw [← HP.out, e1, HN.out]
     obtain rfl : b = false := HF.out.symm.trans e2
     have j1 : ¬ (p : Int) < (p : Int) := by omega
     clear hlt hI e1 e2
     go_wp2_with fail
     go_quiet (fail)
     go_wp2_with fail
     go_ret2
     exact ⟨rfl, below_drewN (Below.refl _ _) _⟩
end Va
end
section
open Go.RowKit Tx
namespace Va
theorem res_two {P : Program} {fn : Func} {p u : Tmp} {ty : TypeId} (h : fn.results = #[.cell p ty, .tmp u]) (tmps : Array Value) (w : World) (g : Nat) (t : TypeId) (cs : Array Value) (fr : Nat × Nat) (d : TypeDesc)
   (hp : tmps.getD p undef = .pointer (some ⟨g, 0, none⟩)) (hg : w.heap[g]? = some (.cells cs t fr))
   (hu : P.underlying ty = some d) (hd : (match d with | .struct _ | .array _ _ => true | _ => false) = true) (hi : (P.info? ty).map (·.size) = some cs.size) :
   (results fn tmps).run P w = .ok (.tuple #[.agg cs, tmps.getD u undef]) w := by
 rw [results_cell_tmp h, hp]
 simp [asAddr, run_loadVar_row w g t ty cs fr d hg hu hd hi, Result.andThen]
structure VX (w w1 : World) (b : Nat) (v : Vr) : Prop where
 r : w1.heap[b]? = some (.cells #[.string v.name, .string v.value, .bool v.ex, .bool v.ro] 30 (0, 0))
 bl : Below w.heap.size w w1
 ge : w.heap.size ≤ b
section
variable {w w1 w2 : World} {b : Nat} {v : Vr}
theorem VX.begin (w : World) (v : Vr) : VX w (w.alloc (.cells #[.string v.name, .string v.value, .bool v.ex, .bool v.ro] 30)) w.heap.size v := ⟨heap_alloc_new w _, (Below.refl _ _).alloc (Nat.le_refl _) _, Nat.le_refl _⟩
theorem VX.next (h : Below w.heap.size w w1) (v : Vr) : VX w (w1.alloc (.cells #[.string v.name, .string v.value, .bool v.ex, .bool v.ro] 30)) w1.heap.size v := ⟨heap_alloc_new w1 _, h.alloc h.size _, h.size⟩
theorem VX.zero (h : Below w.heap.size w w1) : VX w (w1.alloc (.cells #[.string ⟨#[]⟩, .string ⟨#[]⟩, .bool false, .bool false] 30)) w1.heap.size Vr.zero := VX.next h Vr.zero
theorem VX.lt (h : VX w w1 b v) : b < w1.heap.size := (Array.getElem?_eq_some_iff.1 h.r).1
theorem VX.below (h : VX w w1 b v) (hb : Below w1.heap.size w1 w2) : VX w w2 b v := ⟨(hb.block _ h.lt).trans h.r, h.bl.trans (hb.mono h.bl.size), h.ge⟩
theorem VX.row (h : VX w w1 b v) (u : Vr) : VX w (w1.setRow b #[.string u.name, .string u.value, .bool u.ex, .bool u.ro]) b u :=
 ⟨setRow_heap _ _ _ _ _ _ h.r, ⟨h.bl.os, h.bl.tape, h.bl.output, by rw [setRow_size]; exact h.bl.size, fun i hi => (setRow_other _ _ i _ (by have := h.ge; omega)).trans (h.bl.block i hi)⟩, h.ge⟩
theorem VX.set {i : Nat} {x : Value} {u : Vr} (h : VX w w1 b v) (hi : #[Value.string v.name, .string v.value, .bool v.ex, .bool v.ro].setIfInBounds i x = #[.string u.name, .string u.value, .bool u.ex, .bool u.ro]) : VX w (w1.setCell ⟨b, i, none⟩ x) b u :=
 ⟨by have := heap_setCell_same w1 b i _ _ x h.r; rwa [hi] at this, h.bl.setCell (by exact h.ge) _, h.ge⟩
theorem VX.c0 (h : VX w w1 b v) : w1.cell? ⟨b, 0, none⟩ = some (.string v.name) := cell_of_row _ _ 0 _ _ _ h.r
theorem VX.c1 (h : VX w w1 b v) : w1.cell? ⟨b, 1, none⟩ = some (.string v.value) := cell_of_row _ _ 1 _ _ _ h.r
theorem VX.c2 (h : VX w w1 b v) : w1.cell? ⟨b, 2, none⟩ = some (.bool v.ex) := cell_of_row _ _ 2 _ _ _ h.r
theorem VX.c3 (h : VX w w1 b v) : w1.cell? ⟨b, 3, none⟩ = some (.bool v.ro) := cell_of_row _ _ 3 _ _ _ h.r
theorem VX.f0 (h : VX w w1 b v) : w1.frozen? ⟨b, 0, none⟩ = false := frozen_of_row _ _ 0 _ _ h.r
theorem VX.f1 (h : VX w w1 b v) : w1.frozen? ⟨b, 1, none⟩ = false := frozen_of_row _ _ 1 _ _ h.r
theorem VX.f2 (h : VX w w1 b v) : w1.frozen? ⟨b, 2, none⟩ = false := frozen_of_row _ _ 2 _ _ h.r
theorem VX.f3 (h : VX w w1 b v) : w1.frozen? ⟨b, 3, none⟩ = false := frozen_of_row _ _ 3 _ _ h.r
end
def GEnd (w : World) (v : Vr) (b : Bool) (e : Ending) (w' : World) : Prop := e = .returned (.tuple #[.agg #[.string v.name, .string v.value, .bool v.ex, .bool v.ro], .bool b]) ∧ Below w.heap.size w w'
set_option maxHeartbeats 1000000 in
set_option maxRecDepth 100000 in
theorem refGet_any (l : List Vr) (A : Option Addr) (ln k : Nat) (n : ByteArray) (w : World) (hV : VS w A k l) (hn : l.length = ln) (hl : ln ≤ 100000) (v : Vr) (b : Bool) (hp : getD l n = v) (hb : found l n = b) :
   Calls Tryd.prog 10 #[.slice A ln k, .string n] w (GEnd w v b) := by
 have HV := Kept.mk hV
 have HN := Kept.mk hn
 have HF := Kept.mk hb
 have HX0 := Kept.mk (VX.begin w Vr.zero)
 have HV0 := Kept.mk (HV.out.below HX0.out.bl)
 cases b with
 | false =>
   obtain rfl : Vr.zero = v := (getD_no hb).symm.trans hp
   clear hV hn hp hb
   go_enter Tryd.func10, Tryd.ntmps10
   go_wp2_with (first
     | (go_at_call 25; refine (find_any l A ln k n _ HV0.out HN.out hl _ false rfl HF.out).mono ?_; rintro e w1 ⟨rfl, hb1⟩; have HX1 := Kept.mk (HX0.out.below hb1); clear hb1)
     | (refine wpList_store_row rfl 30 _ _ rfl _ _ rfl rfl 30 _ HX1.out.r (by kernel_rfl) rfl (by simp [Value.oneCell']) ?_
        have HO := Kept.mk (HX1.out.row Vr.zero)))
   refine bodyPost_ret (res_two rfl _ _ w.heap.size _ _ (0, 0) _ rfl HO.out.r Tryd.underlying30 rfl (by kernel_rfl)) rfl ?_
   exact ⟨rfl, HO.out.bl⟩
 | true =>
   have hlt := found_lt hb
   have hv : l[pos l n]? = some v := by rw [List.getElem?_eq_getElem hlt, ← getD_at hb, hp]
   obtain ⟨p, hpp⟩ : ∃ p, pos l n = p := ⟨_, rfl⟩
   rw [hpp] at hlt hv
   rw [hn] at hlt
   have HPp := Kept.mk hpp
   obtain ⟨g, off, rfl, hg, c0, c1, c2, c3⟩ := HV.out.at hv
   have HC := Kept.mk (And.intro hg (And.intro c0 (And.intro c1 (And.intro c2 c3))))
   have z0 : (0 : Int) ≤ (p : Int) := by omega
   have z1 : (p : Int) < (ln : Int) := by omega
   clear hV hn hp hb hv hpp c0 c1 c2 c3 hg
   go_enter Tryd.func10, Tryd.ntmps10
   go_wp2_with (first
     | (go_at_call 25; refine (find_any l _ ln k n _ HV0.out HN.out hl p true HPp.out HF.out).mono ?_; rintro e w1 ⟨rfl, hb1⟩; have HX1 := Kept.mk (HX0.out.below hb1)
        have c0 := (HX1.out.bl.cell (p := ⟨g, off + p * 4, none⟩) HC.out.1).trans HC.out.2.1
        have c1 := (HX1.out.bl.cell (p := ⟨g, off + p * 4 + 1, none⟩) HC.out.1).trans HC.out.2.2.1
        have c2 := (HX1.out.bl.cell (p := ⟨g, off + p * 4 + 2, none⟩) HC.out.1).trans HC.out.2.2.2.1
        have c3 := (HX1.out.bl.cell (p := ⟨g, off + p * 4 + 3, none⟩) HC.out.1).trans HC.out.2.2.2.2
        clear hb1)
     | (refine wpList_store_row rfl 30 _ _ rfl _ _ rfl rfl 30 _ HX1.out.r (by kernel_rfl) rfl (by simp [Value.oneCell']) ?_
        have HO := Kept.mk (HX1.out.row v)))
   refine bodyPost_ret (res_two rfl _ _ w.heap.size _ _ (0, 0) _ rfl HO.out.r Tryd.underlying30 rfl (by kernel_rfl)) rfl ?_
   exact ⟨rfl, HO.out.bl⟩
end Va
end
end Go.Proofs.YtpagcoiekeijbaaDoor
