/-
  Patterns as units (bytes, each with a backslash or without), and units as elements; what the elements match is what the pattern matches. Nothing of the program stands here.
-/
import Derived.Test.YtkifnabkoidhcaaPm
namespace Go.Proofs.Ytkifnabkoidhcaa
namespace Pm

abbrev Un := UInt8 × Bool
def un : List UInt8 → List Un
  | [] => []
  | [x] => [(x, false)]
  | x :: y :: r => if x = 92 then (y, true) :: un r else (x, false) :: un (y :: r)
def isU (c : UInt8) (u : Un) : Bool := u.1 == c && !u.2
/-- Where the first closing bracket stands, so many units passed over. -/
def closeF : Nat → List Un → Option Nat
  | _, [] => none
  | k + 1, _ :: r => (closeF k r).map (· + 1)
  | 0, u :: r => if isU 93 u then some 0 else (closeF 0 r).map (· + 1)
def notU (l : List Un) : Bool := match l with
  | [] => false
  | u :: _ => isU 33 u
def members (l : List Un) : Option Nat := closeF ((if notU l then 1 else 0) + 1) l
def rangesU : List Un → List (UInt8 × UInt8)
  | a :: b :: c :: r => if isU 45 b then (a.1, c.1) :: rangesU r else (a.1, a.1) :: rangesU (b :: c :: r)
  | a :: r => (a.1, a.1) :: rangesU r
  | [] => []
def setU (l : List Un) (c : UInt8) : Bool := (rangesU (if notU l then l.tail else l)).any (inR c) != notU l
/-- An element as the program has it. -/
inductive PE where
  | star
  | any
  | one (c : UInt8)
  | set (l : List Un)
def PE.fn : PE → Option (UInt8 → Bool)
  | .star => none
  | .any => some fun _ => true
  | .one c => some fun d => c == d
  | .set l => some (setU l)
def matE : List (Option (UInt8 → Bool)) → List UInt8 → Bool
  | [], s => s.isEmpty
  | none :: l, s => (List.range (s.length + 1)).any fun i => matE l (s.drop i)
  | some f :: l, s => first f (matE l) s
def plainE (u : Un) : PE := if isU 42 u then .star else if isU 63 u then .any else .one u.1
/-- One element: what it is, what is behind it, whether a bracket has no end. -/
def read1 (f : Bool) (u : Un) (r : List Un) : PE × List Un × Bool :=
  if isU 91 u = true ∧ f = false then
    match members r with
    | some n => (.set (r.take n), r.drop (n + 1), false)
    | none => (plainE u, r, true)
  else (plainE u, r, f)
inductive Els : Bool → List Un → List PE → Prop
  | nil (f : Bool) : Els f [] []
  | cons {f f2 : Bool} {u : Un} {r r2 : List Un} {e : PE} {l : List PE} (h : read1 f u r = (e, r2, f2)) (h2 : Els f2 r2 l) : Els f (u :: r) (e :: l)

theorem un_cons (x : UInt8) (r : List UInt8) : ∃ e, un (x :: r) = ((byteOf x r).1, e) :: un (byteOf x r).2 ∧ (e = true ↔ x = 92 ∧ r ≠ []) := by
  cases r with
  | nil => exact ⟨false, by simp [un, byteOf], by simp⟩
  | cons y r =>
    by_cases h : x = 92
    · exact ⟨true, by simp [un, byteOf, h], by simp [h]⟩
    · exact ⟨false, by simp [un, byteOf, h], by simp [h]⟩
theorem un_nil_iff (r : List UInt8) : un r = [] ↔ r = [] := by
  cases r with
  | nil => simp [un]
  | cons x r => obtain ⟨e, he, _⟩ := un_cons x r; rw [he]; simp
/-- A unit that is the sign c: the byte itself. -/
theorem isU_iff {c x : UInt8} {r : List UInt8} {e : Bool} (hc : c ≠ 92) (he : e = true ↔ x = 92 ∧ r ≠ []) : isU c ((byteOf x r).1, e) = true ↔ x = c := by
  unfold isU byteOf
  by_cases h : x = 92 ∧ r ≠ []
  · have := he.2 h
    subst this
    rw [if_pos h]
    simp only [Bool.not_true, Bool.and_false, Bool.false_eq_true, false_iff]
    exact fun hx => hc (hx.symm.trans h.1)
  · have : e = false := by cases e <;> simp_all
    subst this
    rw [if_neg h]
    simp
theorem closeF_drop (k : Nat) (l : List Un) : closeF k l = (closeF 0 (l.drop k)).map (· + k) := by
  induction k generalizing l with
  | zero => simp
  | succ k ih =>
    cases l with
    | nil => simp [closeF]
    | cons u r => rw [closeF, ih, List.drop_succ_cons, Option.map_map]; congr 1
theorem closeF_lt : ∀ (k : Nat) (l : List Un) (n : Nat), closeF k l = some n → n < l.length ∧ k ≤ n
  | _, [], n, h => by cases h
  | k + 1, _ :: r, n, h => by
    rw [closeF] at h
    obtain ⟨m, hm, rfl⟩ := Option.map_eq_some_iff.1 h
    have := closeF_lt k r m hm
    simp only [List.length_cons]; omega
  | 0, u :: r, n, h => by
    rw [closeF] at h
    split at h
    · cases h; simp
    · obtain ⟨m, hm, rfl⟩ := Option.map_eq_some_iff.1 h
      have := closeF_lt 0 r m hm
      simp only [List.length_cons]; omega
theorem closeF_none : ∀ (k : Nat) (l : List Un), closeF k l = none ↔ ∀ i, k ≤ i → ∀ u, l[i]? = some u → isU 93 u = false
  | _, [] => by simp [closeF]
  | k + 1, u :: r => by
    rw [closeF, Option.map_eq_none_iff, closeF_none k r]
    constructor
    · intro h i hi v hv
      obtain ⟨i, rfl⟩ : ∃ j, i = j + 1 := ⟨i - 1, by omega⟩
      exact h i (by omega) v (by simpa using hv)
    · intro h i hi v hv
      exact h (i + 1) (by omega) v (by simpa using hv)
  | 0, u :: r => by
    rw [closeF]
    constructor
    · intro h i _ v hv
      split at h
      · cases h
      · rename_i hu
        rw [Option.map_eq_none_iff, closeF_none 0 r] at h
        cases i with
        | zero => simp at hv; subst hv; simpa using hu
        | succ i => exact h i (by omega) v (by simpa using hv)
    · intro h
      rw [if_neg (by simp [h 0 (by omega) u rfl]), Option.map_eq_none_iff, closeF_none 0 r]
      exact fun i _ v hv => h (i + 1) (by omega) v (by simpa using hv)
/-- What the byte's and the unit's reading of a bracket expression have in common. -/
def ItemsU (k : Nat) (o : Option (List (UInt8 × UInt8) × List UInt8)) (q : List UInt8) : Prop :=
  (closeF k (un q) = none ∧ o = none) ∨ ∃ n q2, closeF k (un q) = some n ∧ o = some (rangesU ((un q).take n), q2) ∧ un q2 = (un q).drop (n + 1)
theorem rangesU_one (a : Un) (r : List Un) (h : ∀ b c t, r = b :: c :: t → isU 45 b = false) : rangesU (a :: r) = (a.1, a.1) :: rangesU r := by
  match r, h with
  | [], _ => rfl
  | [b], _ => rfl
  | b :: c :: t, h => rw [rangesU, h b c t rfl]; rfl
theorem items_un : ∀ (n : Nat) (fst : Bool) (q : List UInt8), q.length ≤ n → ItemsU (if fst then 1 else 0) (items fst q) q
  | _, fst, [], _ => .inl ⟨by cases fst <;> rfl, items_nil fst⟩
  | 0, _, _ :: _, h => by simp at h
  | n + 1, fst, x :: r, hl => by
    rw [List.length_cons] at hl
    obtain ⟨e, hun, he⟩ := un_cons x r
    by_cases hend : fst = false ∧ x = 93
    · obtain ⟨rfl, rfl⟩ := hend
      refine .inr ⟨0, r, ?_, ?_, ?_⟩
      · rw [hun, if_neg (by simp), closeF, if_pos ((isU_iff (by decide) he).2 rfl)]
      · rw [items_end]; simp [rangesU]
      · have : byteOf 93 r = (93, r) := by unfold byteOf; rw [if_neg (fun h => absurd h.1 (by decide))]
        rw [hun, this]; rfl
    · rw [items_on hend]
      have hlen := (byteOf_suf x r).length_le
      have hcl : closeF (if fst then 1 else 0) (un (x :: r)) = (closeF 0 (un (byteOf x r).2)).map (· + 1) := by
        rw [hun]
        cases fst with
        | true => rfl
        | false =>
          simp only [Bool.false_eq_true, if_false]
          rw [closeF, if_neg]
          rw [isU_iff (by decide) he]
          exact fun h => hend ⟨rfl, h⟩
      unfold ItemsU
      rw [hcl, hun]
      unfold rangeOf
      by_cases hr : 1 < (byteOf x r).2.length ∧ (byteOf x r).2.headD 0 = 45 ∧ (byteOf x r).2.tail.headD 0 ≠ 93
      · rw [if_pos hr]
        simp only []
        generalize (byteOf x r).2 = r1 at hr hlen ⊢
        match r1, hr, hlen with
        | a :: y :: r2, hr, hlen =>
          simp only [List.length_cons] at hlen
          have ha : a = 45 := hr.2.1
          have hy : y ≠ 93 := hr.2.2
          subst ha
          simp only [List.tail_cons, List.headD_cons]
          have h1 : un (45 :: y :: r2) = (45, false) :: un (y :: r2) := by rw [un, if_neg (by decide)]
          obtain ⟨e2, hun2, he2⟩ := un_cons y r2
          have hlen2 := (byteOf_suf y r2).length_le
          have hn2 : isU 93 ((byteOf y r2).1, e2) = false := by
            rw [Bool.eq_false_iff, ne_eq, isU_iff (by decide) he2]; exact hy
          have hc2 : closeF 0 (un (45 :: y :: r2)) = (closeF 0 (un (byteOf y r2).2)).map (· + 2) := by
            rw [h1, closeF, if_neg (by decide), hun2, closeF, if_neg (by rw [hn2]; decide), Option.map_map]; rfl
          rw [hc2]
          have hIH : ItemsU 0 (items false (byteOf y r2).2) (byteOf y r2).2 := items_un n false (byteOf y r2).2 (by omega)
          rcases hIH with ⟨i1, i2⟩ | ⟨m, q2, i1, i2, i3⟩
          · rw [i1, i2]; exact .inl ⟨rfl, rfl⟩
          · rw [i1, i2]
            refine .inr ⟨m + 3, q2, rfl, ?_, ?_⟩
            · rw [h1, hun2]
              simp only [Option.map_some, List.take_succ_cons]
              rw [rangesU, if_pos (by rfl)]
            · rw [h1, hun2, i3]; rfl
      · rw [if_neg hr]
        simp only []
        generalize hr1 : (byteOf x r).2 = r1 at hr hlen ⊢
        have hIH : ItemsU 0 (items false r1) r1 := items_un n false r1 (by omega)
        rcases hIH with ⟨i1, i2⟩ | ⟨m, q2, i1, i2, i3⟩
        · rw [i1, i2]; exact .inl ⟨rfl, rfl⟩
        · rw [i1, i2]
          refine .inr ⟨m + 1, q2, rfl, ?_, ?_⟩
          · simp only [Option.map_some, List.take_succ_cons]
            rw [rangesU_one]
            intro b c t hbc
            rw [Bool.eq_false_iff]
            intro hb
            match r1, hr, i1, hbc with
            | [], hr, i1, hbc => simp [un] at hbc
            | [z], hr, i1, hbc =>
              have := congrArg List.length hbc
              simp [un, List.length_take] at this
              omega
            | z :: y :: r2, hr, i1, hbc =>
              obtain ⟨ez, hz, hez⟩ := un_cons z (y :: r2)
              have hm : 2 ≤ m := by
                have := congrArg List.length hbc
                simp [List.length_take] at this
                omega
              obtain ⟨m, rfl⟩ : ∃ j, m = j + 2 := ⟨m - 2, by omega⟩
              rw [hz, List.take_succ_cons] at hbc
              injection hbc with hb1 hb2
              rw [← hb1, isU_iff (by decide) hez] at hb
              subst hb
              have hby : byteOf 45 (y :: r2) = (45, y :: r2) := by unfold byteOf; rw [if_neg (fun h => absurd h.1 (by decide))]
              rw [hby] at hz
              have hy : y = 93 := by
                rcases Decidable.em (y = 93) with h | h
                · exact h
                · exact absurd ⟨by simp, rfl, h⟩ hr
              subst hy
              obtain ⟨ey, hy2, hey⟩ := un_cons 93 r2
              rw [hz, closeF, if_neg (by simp [isU]), hy2, closeF, if_pos ((isU_iff (by decide) hey).2 rfl)] at i1
              simp at i1
          · rw [i3]; rfl
theorem notU_un (r : List UInt8) : notU (un r) = decide (r.head? = some 33) := by
  cases r with
  | nil => rfl
  | cons x r =>
    obtain ⟨e, he, h⟩ := un_cons x r
    rw [he]
    show isU 33 _ = _
    rw [Bool.eq_iff_iff, isU_iff (by decide) h]
    simp
theorem notU_take {l : List Un} {n : Nat} (h : 0 < n) : notU (l.take n) = notU l := by
  cases l with
  | nil => rw [List.take_nil]
  | cons u r => obtain ⟨m, rfl⟩ : ∃ m, n = m + 1 := ⟨n - 1, by omega⟩; rfl
/-- A bracket expression. -/
theorem bracket_un (r : List UInt8) : (members (un r) = none ∧ bracket r = none) ∨
    ∃ n z, members (un r) = some n ∧ bracket r = some z ∧ un z.2.2 = (un r).drop (n + 1) ∧ ∀ c, (z.2.1.any (inR c) != z.1) = setU ((un r).take n) c := by
  unfold members bracket
  rw [notU_un]
  by_cases h : r.head? = some 33
  · rw [if_pos h, decide_eq_true h, if_pos rfl]
    match r, h with
    | x :: q, h =>
      have hx : x = 33 := by simpa using h
      subst hx
      have h1 : un (33 :: q) = (33, false) :: un q := by
        cases q with
        | nil => rfl
        | cons y q => rw [un, if_neg (by decide)]
      rw [h1, closeF]
      have hIH : ItemsU 1 (items true q) q := items_un q.length true q (Nat.le_refl _)
      rcases hIH with ⟨i1, i2⟩ | ⟨m, q2, i1, i2, i3⟩
      · exact .inl ⟨by rw [i1]; rfl, by rw [List.tail_cons, i2]; rfl⟩
      · refine .inr ⟨m + 1, (true, rangesU ((un q).take m), q2), by rw [i1]; rfl, by rw [List.tail_cons, i2]; rfl, by rw [i3]; rfl, fun c => ?_⟩
        unfold setU
        rw [List.take_succ_cons]
        rfl
  · rw [if_neg h, decide_eq_false h]
    simp only [Bool.false_eq_true, if_false]
    have hIH : ItemsU 1 (items true r) r := items_un r.length true r (Nat.le_refl _)
    rcases hIH with ⟨i1, i2⟩ | ⟨m, q2, i1, i2, i3⟩
    · exact .inl ⟨i1, by rw [i2]; rfl⟩
    · refine .inr ⟨m, (false, rangesU ((un r).take m), q2), i1, by rw [i2]; rfl, i3, fun c => ?_⟩
      have := (closeF_lt _ _ _ i1).2
      unfold setU
      rw [notU_take (by omega), notU_un, decide_eq_false h]
      rfl
/-- No bracket in these has an end. -/
def Unc (l : List Un) : Prop := ∀ (k : Nat) (u : Un) (r : List Un), l.drop k = u :: r → isU 91 u = true → members r = none
theorem Unc.tail {u : Un} {r : List Un} (h : Unc (u :: r)) : Unc r := fun k v t e hv => h (k + 1) v t (by simpa using e) hv
theorem unc_of {r : List Un} (h : members r = none) : Unc r := by
  intro k u t e _
  unfold members at h ⊢
  rw [closeF_none] at h ⊢
  intro i hi v hv
  have ht : t = r.drop (k + 1) := by rw [← List.tail_drop, e]; rfl
  refine h (k + 1 + i) ?_ v (by rw [ht, List.getElem?_drop] at hv; exact hv)
  split at hi <;> split <;> omega
theorem elem_un {f : Bool} {x : UInt8} {r : List UInt8} {u : Un} {t r2 : List Un} {e : PE} {f2 : Bool} (hu : un (x :: r) = u :: t) (hf : f = true → Unc (u :: t)) (h : read1 f u t = (e, r2, f2)) :
    (x = 42 → e.fn = none ∧ r2 = un r) ∧ (x ≠ 42 → e.fn = some (elem x r).1 ∧ r2 = un (elem x r).2) ∧ (f2 = true → Unc r2) := by
  obtain ⟨es, hun, hes⟩ := un_cons x r
  rw [hun] at hu
  injection hu with hu1 hu2
  subst hu1
  have hby : x ≠ 92 ∨ r = [] → byteOf x r = (x, r) := fun hh => by
    unfold byteOf
    rw [if_neg]
    rintro ⟨h1, h2⟩
    exact hh.elim (fun k => k h1) h2
  have hpl : x = 92 ∧ r ≠ [] → plainE ((byteOf x r).1, es) = .one (r.headD 0) := fun hh => by
    have := hes.2 hh
    subst this
    unfold plainE isU
    simp only [Bool.not_true, Bool.and_false, Bool.false_eq_true, if_false]
    unfold byteOf
    rw [if_pos hh]
  unfold read1 at h
  by_cases hb : x = 91
  · subst hb
    have hB := hby (.inl (by decide))
    have h91 : isU 91 ((byteOf 91 r).1, es) = true := (isU_iff (by decide) hes).2 rfl
    have hpe : plainE ((byteOf 91 r).1, es) = .one 91 := by
      unfold plainE
      rw [if_neg (by rw [isU_iff (by decide) hes]; decide), if_neg (by rw [isU_iff (by decide) hes]; decide), hB]
    rw [hB] at hu2
    have hel : elem 91 r = match bracket r with
      | some z => (fun c => z.2.1.any (inR c) != z.1, z.2.2)
      | none => (fun c => 91 == c, r) := by
      unfold elem
      rw [if_neg (by decide), if_neg (fun h => absurd h.1 (by decide)), if_pos rfl]
      cases bracket r <;> rfl
    refine ⟨fun h => absurd h (by decide), fun _ => ?_, ?_⟩
    · rw [h91] at h
      cases f with
      | false =>
        rw [if_pos ⟨rfl, rfl⟩, ← hu2] at h
        rcases bracket_un r with ⟨h1, h2⟩ | ⟨n, z, h1, h2, h3, h4⟩
        · rw [h1] at h
          rw [hel, h2]
          simp only [Prod.mk.injEq] at h
          rw [← h.1, ← h.2.1, hpe]
          exact ⟨rfl, rfl⟩
        · rw [h1] at h
          rw [hel, h2]
          simp only [Prod.mk.injEq] at h
          rw [← h.1, ← h.2.1]
          exact ⟨congrArg some (funext fun c => (h4 c).symm), h3.symm⟩
      | true =>
        rw [if_neg (by simp)] at h
        have h5 := hf rfl 0 _ _ rfl h91
        rw [← hu2] at h5
        rcases bracket_un r with ⟨h1, h2⟩ | ⟨n, z, h1, h2, h3, h4⟩
        · rw [hel, h2]
          simp only [Prod.mk.injEq] at h
          rw [← h.1, ← h.2.1, hpe, ← hu2]
          exact ⟨rfl, rfl⟩
        · rw [h1] at h5; cases h5
    · intro h6
      rw [h91] at h
      cases f with
      | false =>
        rw [if_pos ⟨rfl, rfl⟩] at h
        split at h
        · simp only [Prod.mk.injEq] at h
          rw [← h.2.2] at h6; cases h6
        · rename_i hm
          simp only [Prod.mk.injEq] at h
          rw [← h.2.1]
          exact unc_of hm
      | true =>
        rw [if_neg (by simp)] at h
        simp only [Prod.mk.injEq] at h
        rw [← h.2.1]
        exact (hf rfl).tail
  · have h91 : isU 91 ((byteOf x r).1, es) = false := by
      rw [Bool.eq_false_iff, ne_eq, isU_iff (by decide) hes]; exact hb
    rw [if_neg (by rw [h91]; simp)] at h
    simp only [Prod.mk.injEq] at h
    obtain ⟨h1, h2, h3⟩ := h
    subst h2
    refine ⟨fun hx => ?_, fun hx => ?_, fun h6 => (hf (h3.trans h6)).tail⟩
    · subst hx
      rw [← h1, ← hu2, hby (.inl (by decide))]
      unfold plainE
      rw [if_pos (by rw [← hby (.inl (by decide))]; exact (isU_iff (by decide) hes).2 rfl)]
      exact ⟨rfl, rfl⟩
    · rw [← h1, ← hu2]
      unfold elem
      by_cases h92 : x = 92 ∧ r ≠ []
      · rw [hpl h92, if_neg (by rw [h92.1]; decide), if_pos h92]
        refine ⟨rfl, ?_⟩
        unfold byteOf
        rw [if_pos h92]
      · have hB := hby (by
          rcases Decidable.em (x = 92) with k | k
          · exact .inr (by rcases Decidable.em (r = []) with k2 | k2; · exact k2
                           · exact absurd ⟨k, k2⟩ h92)
          · exact .inl k)
        unfold plainE
        rw [if_neg (by rw [isU_iff (by decide) hes]; exact hx)]
        by_cases h63 : x = 63
        · rw [if_pos (by rw [isU_iff (by decide) hes]; exact h63), if_pos h63, hB]
          exact ⟨rfl, rfl⟩
        · rw [if_neg (by rw [isU_iff (by decide) hes]; exact h63), if_neg h63, if_neg h92, if_neg hb, hB]
          exact ⟨rfl, rfl⟩
theorem matE_none (l : List (Option (UInt8 → Bool))) (s : List UInt8) : matE (none :: l) s = (List.range (s.length + 1)).any fun i => matE l (s.drop i) := rfl
theorem matE_some (f : UInt8 → Bool) (l : List (Option (UInt8 → Bool))) (s : List UInt8) : matE (some f :: l) s = first f (matE l) s := rfl
/-- What the elements match is what the pattern matches. -/
theorem els_mat {f : Bool} {us : List Un} {l : List PE} (h : Els f us l) : ∀ p, un p = us → (f = true → Unc us) → ∀ s, mat p s = matE (l.map PE.fn) s := by
  induction h with
  | nil f =>
    intro p hp _ s
    rw [(un_nil_iff p).1 hp]
    rfl
  | @cons f f2 u r r2 e l h h2 ih =>
    intro p hp hf s
    cases p with
    | nil => rw [un] at hp; cases hp
    | cons x q =>
      obtain ⟨a1, a2, a3⟩ := elem_un hp hf h
      by_cases hx : x = 42
      · obtain ⟨b1, b2⟩ := a1 hx
        subst hx
        rw [List.map_cons, b1, matE_none, mat_star]
        congr 1
        exact funext fun i => ih q b2.symm a3 _
      · obtain ⟨b1, b2⟩ := a2 hx
        rw [List.map_cons, b1, matE_some]
        cases s with
        | nil => rw [mat_none hx]; rfl
        | cons c t => rw [mat_one hx, ih _ b2.symm a3]; rfl
end Pm
end Go.Proofs.Ytkifnabkoidhcaa
