/-
  Layer 5 in plain words: entries, the places of a tree in rising order, what stands right below a place; how a tree reads as a map's datum. Nothing of the program stands here.
-/
import Derived.Test.YtjmblgahoejoiaaGreatDoorTxt
import Derived.Maps.OwnSet
import Derived.Maps.Ext
import Derived.Sort.KeysCollected
namespace Go.Proofs.YtjmblgahoejoiaaGreatDoor
open Go.RowKit Tx
namespace St

structure Ent where
  kind : Int
  mode : Int
  data : ByteArray
deriving DecidableEq
def emp : ByteArray := ⟨#[]⟩
def zeroE : Ent := ⟨0, 0, emp⟩
def rootE : Ent := ⟨2, 7, emp⟩
abbrev Tree := List (ByteArray × Ent)
/-- Bytes are compared one by one. -/
def lt (a b : ByteArray) : Prop := toL a < toL b
instance (a b : ByteArray) : Decidable (lt a b) := inferInstanceAs (Decidable (toL a < toL b))
theorem lt_irrefl (a : ByteArray) : ¬ lt a a := List.lt_irrefl _
theorem lt_trans {a b c : ByteArray} (h : lt a b) (k : lt b c) : lt a c := List.lt_trans h k
theorem lt_ne {a b : ByteArray} (h : lt a b) : a ≠ b := fun e => lt_irrefl b (e ▸ h)
theorem lt_asymm {a b : ByteArray} (h : lt a b) : ¬ lt b a := fun k => lt_irrefl a (lt_trans h k)
theorem lt_total {a b : ByteArray} (h : ¬ lt a b) (hn : a ≠ b) : lt b a :=
  Decidable.byContradiction fun k => hn (toL_inj (List.le_antisymm (List.not_lt.1 k) (List.not_lt.1 h)))
theorem before_lt : ∀ a b : List UInt8, bytesBefore a b = decide (a < b)
  | [], [] => by simp [bytesBefore]
  | [], _ :: _ => by simp [bytesBefore]
  | _ :: _, [] => by simp [bytesBefore]
  | a :: r, b :: s => by
    rw [bytesBefore, before_lt r s]
    simp only [List.cons_lt_cons_iff, Bool.decide_or, Bool.decide_and]
    by_cases h : a = b
    · simp [h]
    · simp [h]
theorem less_lt : ∀ a b : List UInt8, Op.bytesLess a b = decide (a < b)
  | [], [] => by simp [Op.bytesLess]
  | [], _ :: _ => by simp [Op.bytesLess]
  | _ :: _, [] => by simp [Op.bytesLess]
  | a :: r, b :: s => by
    rw [Op.bytesLess, less_lt r s]
    simp only [List.cons_lt_cons_iff, Bool.decide_or, Bool.decide_and]
    by_cases h : a = b
    · simp [h]
    · simp [h]
theorem less_str (a b : ByteArray) : Op.bytesLess a.toList b.toList = decide (lt a b) := by
  rw [ByteArray.toList_eq, ByteArray.toList_eq, less_lt]
  rfl

/-! ### The tree -/
def find (t : Tree) (k : ByteArray) : Option Ent := (t.find? (fun p => decide (p.1 = k))).map (·.2)
def get (t : Tree) (k : ByteArray) : Ent := if k = emp then rootE else (find t k).getD zeroE
def ins : Tree → ByteArray → Ent → Tree
  | [], k, e => [(k, e)]
  | p :: r, k, e => if lt p.1 k then p :: ins r k e else if p.1 = k then (k, e) :: r else (k, e) :: p :: r
def del (t : Tree) (k : ByteArray) : Tree := t.filter (fun p => !decide (p.1 = k))
def put (t : Tree) (k : ByteArray) (e : Ent) : Tree := if k = emp then t else if e.kind = 0 then del t k else ins t k e
/-- Rising places, none of them the root. -/
def Sorted (t : Tree) : Prop := t.Pairwise (fun p q => lt p.1 q.1)
structure Good (t : Tree) : Prop where
  sorted : Sorted t
  noRoot : ∀ p ∈ t, p.1 ≠ emp
theorem good_nil : Good [] := ⟨List.Pairwise.nil, fun _ h => by simp at h⟩

theorem find_nil (k : ByteArray) : find [] k = none := rfl
theorem find_cons (p : ByteArray × Ent) (t : Tree) (k : ByteArray) : find (p :: t) k = if p.1 = k then some p.2 else find t k := by
  unfold find
  rw [List.find?_cons]
  by_cases h : p.1 = k <;> simp [h]
theorem find_none {t : Tree} {k : ByteArray} (h : ∀ p ∈ t, p.1 ≠ k) : find t k = none := by
  induction t with
  | nil => rfl
  | cons p t ih => rw [find_cons, if_neg (h p (by simp)), ih fun q hq => h q (by simp [hq])]

theorem mem_ins {t : Tree} {k : ByteArray} {e : Ent} {q : ByteArray × Ent} (h : q ∈ ins t k e) : q = (k, e) ∨ q ∈ t := by
  induction t with
  | nil => exact .inl (by simpa [ins] using h)
  | cons p t ih =>
    unfold ins at h
    split at h
    · rcases List.mem_cons.1 h with h | h
      · exact .inr (by simp [h])
      · rcases ih h with h | h
        · exact .inl h
        · exact .inr (by simp [h])
    · split at h
      · rcases List.mem_cons.1 h with h | h
        · exact .inl h
        · exact .inr (by simp [h])
      · rcases List.mem_cons.1 h with h | h
        · exact .inl h
        · exact .inr h
theorem sorted_ins : ∀ {t : Tree} (k : ByteArray) (e : Ent), Sorted t → Sorted (ins t k e)
  | [], k, e, _ => by simp [ins, Sorted]
  | p :: t, k, e, h => by
    obtain ⟨h1, h2⟩ := List.pairwise_cons.1 h
    unfold ins
    split
    · rename_i hlt
      refine List.pairwise_cons.2 ⟨fun q hq => ?_, sorted_ins k e h2⟩
      rcases mem_ins hq with rfl | hq
      · exact hlt
      · exact h1 q hq
    · rename_i hlt
      split
      · rename_i he
        subst he
        exact List.pairwise_cons.2 ⟨h1, h2⟩
      · rename_i he
        have hk := lt_total hlt he
        refine List.pairwise_cons.2 ⟨fun q hq => ?_, h⟩
        rcases List.mem_cons.1 hq with rfl | hq
        · exact hk
        · exact lt_trans hk (h1 q hq)
theorem sorted_del {t : Tree} (k : ByteArray) (h : Sorted t) : Sorted (del t k) := List.Pairwise.filter _ h
theorem Good.put {t : Tree} (h : Good t) (k : ByteArray) (e : Ent) : Good (put t k e) := by
  unfold St.put
  split
  · exact h
  · rename_i hk
    split
    · exact ⟨sorted_del k h.sorted, fun p hp => h.noRoot p (List.mem_filter.1 hp).1⟩
    · refine ⟨sorted_ins k e h.sorted, fun p hp => ?_⟩
      rcases mem_ins hp with rfl | hp
      · exact hk
      · exact h.noRoot p hp

theorem find_ins : ∀ (t : Tree) (k : ByteArray) (e : Ent) (j : ByteArray), Sorted t → find (ins t k e) j = if k = j then some e else find t j
  | [], k, e, j, _ => by rw [ins, find_cons]
  | p :: t, k, e, j, h => by
    obtain ⟨h1, h2⟩ := List.pairwise_cons.1 h
    unfold ins
    split
    · rename_i hlt
      rw [find_cons, find_cons, find_ins t k e j h2]
      by_cases hj : p.1 = j
      · rw [if_pos hj, if_pos hj, if_neg (fun h => lt_ne hlt (hj.trans h.symm))]
      · rw [if_neg hj, if_neg hj]
    · split
      · rename_i he
        rw [find_cons, find_cons]
        by_cases hj : k = j
        · simp [hj]
        · rw [if_neg hj, if_neg hj, if_neg (by rw [he]; exact hj)]
      · rw [find_cons]
theorem find_del (t : Tree) (k j : ByteArray) : find (del t k) j = if k = j then none else find t j := by
  induction t with
  | nil => simp [del, find_nil]
  | cons p t ih =>
    unfold del at ih ⊢
    rw [List.filter_cons]
    by_cases hp : p.1 = k
    · simp only [hp, decide_true, Bool.not_true, Bool.false_eq_true, if_false]
      rw [ih, find_cons]
      by_cases hj : k = j
      · simp [hj]
      · rw [if_neg hj, if_neg hj, hp, if_neg hj]
    · simp only [hp, decide_false, Bool.not_false, if_true]
      rw [find_cons, ih, find_cons]
      by_cases hj : p.1 = j
      · rw [if_pos hj, if_pos hj, if_neg (fun h => hp (hj.trans h.symm))]
      · rw [if_neg hj, if_neg hj]
/-- What is put is there. -/
theorem get_put (t : Tree) (h : Good t) (k : ByteArray) (e : Ent) (j : ByteArray) :
    get (put t k e) j = if j = emp then rootE else if k = j then (if e.kind = 0 then zeroE else e) else get t j := by
  unfold get
  by_cases hj : j = emp
  · rw [if_pos hj, if_pos hj]
  · rw [if_neg hj, if_neg hj, if_neg hj]
    unfold St.put
    by_cases hk : k = emp
    · rw [if_pos hk, if_neg (fun h => hj (by rw [← h, hk]))]
    · rw [if_neg hk]
      by_cases h0 : e.kind = 0
      · rw [if_pos h0, if_pos h0, find_del]
        by_cases hkj : k = j <;> simp [hkj]
      · rw [if_neg h0, if_neg h0, find_ins t k e j h.sorted]
        by_cases hkj : k = j <;> simp [hkj]
theorem length_ins (t : Tree) (k : ByteArray) (e : Ent) : (ins t k e).length ≤ t.length + 1 := by
  induction t with
  | nil => simp [ins]
  | cons p t ih =>
    unfold ins
    split
    · simp; omega
    · split <;> simp
theorem length_put (t : Tree) (k : ByteArray) (e : Ent) : (put t k e).length ≤ t.length + 1 := by
  unfold put
  split
  · omega
  · split
    · have := List.length_filter_le (fun p : ByteArray × Ent => !decide (p.1 = k)) t
      unfold del; omega
    · exact length_ins t k e

/-! ### Names -/
def child (p k : List UInt8) : Option (List UInt8) :=
  if (p ++ [47]).isPrefixOf k = true ∧ (47 : UInt8) ∉ k.drop (p.length + 1) then some (k.drop (p.length + 1)) else none
def names (t : Tree) (p : ByteArray) : List ByteArray := t.filterMap fun q => (child (toL p) (toL q.1)).map bs
theorem child_some {p k n : List UInt8} (h : child p k = some n) : k = p ++ 47 :: n ∧ (47 : UInt8) ∉ n := by
  unfold child at h
  split at h
  · rename_i hc
    obtain ⟨r, hr⟩ := List.isPrefixOf_iff_prefix.1 hc.1
    injection h with h
    have e : k.drop (p.length + 1) = r := by rw [← hr, show p.length + 1 = (p ++ [47]).length by simp]; exact List.drop_left ..
    rw [e] at h hc
    subst h
    exact ⟨by rw [← hr]; simp, hc.2⟩
  · cases h
theorem append_lt (p : List UInt8) {a b : List UInt8} : p ++ a < p ++ b → a < b := by
  induction p with
  | nil => exact id
  | cons x p ih =>
    intro h
    rw [List.cons_append, List.cons_append, List.cons_lt_cons_iff] at h
    rcases h with h | ⟨_, h⟩
    · exact absurd h (UInt8.lt_irrefl x)
    · exact ih h
theorem names_sorted {t : Tree} (h : Sorted t) (p : ByteArray) : (names t p).Pairwise lt := by
  unfold names
  refine List.Pairwise.filterMap _ ?_ h
  intro a b hab x hx y hy
  obtain ⟨n, hn, rfl⟩ := Option.map_eq_some_iff.1 hx
  obtain ⟨m, hm, rfl⟩ := Option.map_eq_some_iff.1 hy
  obtain ⟨e1, _⟩ := child_some hn
  obtain ⟨e2, _⟩ := child_some hm
  unfold lt at hab ⊢
  rw [toL_bs, toL_bs]
  rw [e1, e2] at hab
  have := append_lt _ hab
  rw [List.cons_lt_cons_iff] at this
  rcases this with h | ⟨_, h⟩
  · exact absurd h (UInt8.lt_irrefl _)
  · exact h

/-! ### As a map's datum -/
def entD (e : Ent) : DataW Unit := .agg [.lit (.int .i64 e.kind), .lit (.int .i64 e.mode), .lit (.string (toL e.data))]
def entV (e : Ent) : Value := .agg #[.int .i64 e.kind, .int .i64 e.mode, .string e.data]
def entL : List Value → Option (DataW Unit × List MemPlace)
  | [.int .i64 k, .int .i64 m, .string s] => some (entD ⟨k, m, s⟩, [])
  | _ => none
/-- How an entry reads. -/
def entR : Value → Option (DataW Unit × List MemPlace)
  | .agg cs => entL cs.toList
  | _ => none
theorem entR_V (e : Ent) : entR (entV e) = some (entD e, []) := rfl
theorem entD_inj {a b : Ent} (h : entD a = entD b) : a = b := by
  cases a; cases b
  simp only [entD, DataW.agg.injEq, List.cons.injEq, DataW.lit.injEq, Lit.int.injEq, Lit.string.injEq, true_and, and_true] at h
  obtain ⟨rfl, rfl, h⟩ := h
  rw [toL_inj h]
theorem entR_inv {v : Value} {e : Ent} {ps : List MemPlace} (h : entR v = some (entD e, ps)) : v = entV e := by
  cases v <;> simp only [entR, reduceCtorEq] at h
  rename_i cs
  unfold entL at h
  split at h
  · rename_i k m s hl
    injection h with h
    rw [← entD_inj (congrArg Prod.fst h)]
    unfold entV
    rw [← Array.toArray_toList (xs := cs), hl]
  · cases h
def key (k : ByteArray) : Lit := .string (toL k)
def datL (t : Tree) : List (Lit × DataW Unit) := t.map fun p => (key p.1, entD p.2)
def dat (t : Tree) : DataW Unit := .map (datL t)
/-- All places, the root too. -/
def all (t : Tree) : Tree := (emp, rootE) :: t
theorem key_same (a b : ByteArray) : (key a).sameKey (key b) = decide (a = b) := by
  show (toL a == toL b) = _
  by_cases h : a = b
  · subst h; simp
  · rw [decide_eq_false h, beq_eq_false_iff_ne]; exact fun e => h (toL_inj e)
theorem key_before (a b : ByteArray) : (key a).before (key b) = decide (lt a b) := before_lt _ _
theorem find_dat (t : Tree) (k : ByteArray) : (datL t).find? (fun p => p.1.sameKey (key k)) = (t.find? (fun p => decide (p.1 = k))).map fun p => (key p.1, entD p.2) := by
  induction t with
  | nil => rfl
  | cons p t ih =>
    show ((key p.1, entD p.2) :: datL t).find? _ = _
    rw [List.find?_cons, List.find?_cons, key_same]
    by_cases h : p.1 = k
    · simp [h]
    · simp only [h, decide_false]; exact ih
theorem atKey_dat (t : Tree) (k : ByteArray) (z : Ent) : (dat t).atKey (key k) (entD z) = entD ((find t k).getD z) := by
  unfold dat DataW.atKey find
  simp only [find_dat]
  cases t.find? (fun p => decide (p.1 = k)) <;> rfl
theorem has_dat (t : Tree) (k : ByteArray) : Maps.has (dat t) (key k) = (find t k).isSome := by
  unfold dat find
  rw [Maps.has_eq]
  induction t with
  | nil => rfl
  | cons p t ih =>
    show ((key p.1, entD p.2) :: datL t).any _ = _
    rw [List.any_cons, List.find?_cons, key_same, ih]
    by_cases h : p.1 = k <;> simp [h]
theorem insert_front {x : Lit × DataW Unit} : ∀ {l : List (Lit × DataW Unit)}, (∀ p ∈ l, x.1.before p.1 = true) → DataW.insert x l = x :: l
  | [], _ => rfl
  | p :: r, h => by rw [DataW.insert, if_pos (h p (by simp))]
theorem filter_keys (t : Tree) (k : ByteArray) : (datL t).filter (fun p => !p.1.sameKey (key k)) = datL (del t k) := by
  induction t with
  | nil => rfl
  | cons p t ih =>
    show ((key p.1, entD p.2) :: datL t).filter _ = _
    unfold del at ih ⊢
    rw [List.filter_cons, List.filter_cons, key_same, ih]
    by_cases h : p.1 = k <;> simp [h, datL]
theorem del_id {t : Tree} {k : ByteArray} (h : ∀ p ∈ t, p.1 ≠ k) : del t k = t := by
  unfold del
  rw [List.filter_eq_self]
  intro p hp
  simp [h p hp]
theorem insert_dat : ∀ (t : Tree) (k : ByteArray) (e : Ent), Sorted t → DataW.insert (key k, entD e) (datL (del t k)) = datL (ins t k e)
  | [], k, e, _ => rfl
  | p :: t, k, e, h => by
    obtain ⟨h1, h2⟩ := List.pairwise_cons.1 h
    have ih := insert_dat t k e h2
    unfold ins
    split
    · rename_i hlt
      have hd : del (p :: t) k = p :: del t k := by unfold del; rw [List.filter_cons]; simp [lt_ne hlt]
      rw [hd]
      show DataW.insert _ ((key p.1, entD p.2) :: datL (del t k)) = (key p.1, entD p.2) :: datL (ins t k e)
      rw [DataW.insert, key_before, decide_eq_false (lt_asymm hlt), if_neg (by simp), ih]
    · rename_i hlt
      split
      · rename_i he
        have hd : del (p :: t) k = t := by
          rw [← del_id (t := t) (k := k) (fun q hq => by rw [← he]; exact fun e => lt_ne (h1 q hq) e.symm)]
          unfold del
          rw [List.filter_cons]
          simp [he]
        rw [hd]
        refine insert_front fun q hq => ?_
        obtain ⟨x, hx, rfl⟩ := List.mem_map.1 hq
        show (key k).before (key x.1) = true
        rw [key_before, ← he]
        exact decide_eq_true (h1 x hx)
      · rename_i he
        have hk := lt_total hlt he
        rw [del_id (t := p :: t) (k := k) (fun q hq => by
          rcases List.mem_cons.1 hq with rfl | hq
          · exact he
          · exact fun e => lt_ne (lt_trans hk (h1 q hq)) e.symm)]
        refine insert_front fun q hq => ?_
        obtain ⟨x, hx, rfl⟩ := List.mem_map.1 hq
        show (key k).before (key x.1) = true
        rw [key_before]
        rcases List.mem_cons.1 hx with rfl | hx
        · exact decide_eq_true hk
        · exact decide_eq_true (lt_trans hk (h1 x hx))
theorem put_dat (t : Tree) (k : ByteArray) (e : Ent) (h : Sorted t) : (dat t).put (key k) (entD e) = dat (ins t k e) := by
  show DataW.map (DataW.insert _ ((datL t).filter _)) = _
  rw [filter_keys, insert_dat t k e h]
  rfl
theorem del_dat (t : Tree) (k : ByteArray) : (dat t).del (key k) = dat (del t k) := by
  show DataW.map ((datL t).filter _) = _
  rw [filter_keys]
  rfl
theorem emp_lt {k : ByteArray} (h : k ≠ emp) : lt emp k := by
  unfold lt
  have e : toL emp = [] := rfl
  rw [e]
  cases hk : toL k with
  | nil => exact absurd (toL_inj (hk.trans e.symm)) h
  | cons x r => exact List.nil_lt_cons x r
theorem Good.all {t : Tree} (h : Good t) : Sorted (all t) := List.pairwise_cons.2 ⟨fun p hp => emp_lt (h.noRoot p hp), h.sorted⟩
theorem ins_all {t : Tree} {k : ByteArray} (e : Ent) (hk : k ≠ emp) : ins (all t) k e = all (ins t k e) := by
  unfold St.all
  rw [ins, if_pos (emp_lt hk)]
theorem del_all {t : Tree} {k : ByteArray} (hk : k ≠ emp) : del (all t) k = all (del t k) := by
  unfold St.all del
  rw [List.filter_cons]
  simp [Ne.symm hk]
theorem get_all (t : Tree) (k : ByteArray) : (find (all t) k).getD zeroE = get t k := by
  unfold St.all get
  rw [find_cons]
  by_cases h : k = emp
  · simp [h]
  · rw [if_neg h, if_neg (fun e => h e.symm)]
theorem keys_dat (t : Tree) : strKeys (dat t) = t.map fun p => toL p.1 := by
  show (t.map _).map _ = _
  rw [List.map_map]
  rfl
theorem size_dat (t : Tree) : Maps.size (dat t) = t.length := by
  show (t.map _).length = _
  rw [List.length_map]
/-- What was gathered in some order and sorted is what stands in order. -/
theorem sorted_unique {l : List ByteArray} (hl : l.Pairwise lt) {ss : List (List UInt8)} (h : ss.Perm (l.map toL)) : (ss.mergeSort fun x y => decide (x ≤ y)).map bs = l := by
  have e := mergeSort_of_perm h
  have hs : (l.map toL).mergeSort leB = l.map toL := by
    refine List.mergeSort_of_pairwise ?_
    rw [List.pairwise_map]
    exact hl.imp fun {a b} hab => decide_eq_true (List.le_of_lt hab)
  rw [hs] at e
  show (ss.mergeSort leB).map bs = l
  rw [e, List.map_map]
  have : bs ∘ toL = id := funext bs_toL
  rw [this, List.map_id]
end St
end Go.Proofs.YtjmblgahoejoiaaGreatDoor
