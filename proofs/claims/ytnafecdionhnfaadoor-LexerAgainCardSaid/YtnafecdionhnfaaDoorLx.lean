/-
  A script's tokens, as plain Lean functions on lists of bytes. Nothing of the program stands here.
-/
namespace Go.Proofs.YtnafecdionhnfaaDoor
namespace Lx

/-- How many bytes there are up to the closing quote, and with it. -/
def quoted : List UInt8 → Option Nat
  | [] => none
  | c :: r => if c = 39 then some 1 else (quoted r).map (· + 1)
/-- How many bytes there are up to the closing byte e, and with it, unit by unit. -/
def til (u : List UInt8 → Option Nat) (e : UInt8) : Nat → List UInt8 → Option Nat
  | 0, _ => none
  | _ + 1, [] => none
  | n + 1, c :: r => if c = e then some 1 else
    match u (c :: r) with
    | none => none
    | some k => (til u e n ((c :: r).drop k)).map (k + ·)
/-- How long the unit is that stands ahead, in one that closes by e; d - 1 more may be in it. -/
def unit : Nat → UInt8 → List UInt8 → Option Nat
  | 0, _, _ => none
  | _ + 1, _, [] => none
  | d + 1, e, c :: r =>
    if c = 92 then (if r = [] then none else some 2)
    else if c = 39 ∧ e ≠ 34 then (quoted r).map (1 + ·)
    else if c = 34 then (til (unit d 34) 34 (r.length + 1) r).map (1 + ·)
    else if c = 36 ∧ r.head? = some 40 then (til (unit d 41) 41 r.length r.tail).map (2 + ·)
    else if c = 36 ∧ r.head? = some 123 then (til (unit d 125) 125 r.length r.tail).map (2 + ·)
    else if c = 40 ∧ e = 41 then (til (unit d 41) 41 (r.length + 1) r).map (1 + ·)
    else some 1
def nest (d : Nat) (e : UInt8) (l : List UInt8) : Option Nat := til (unit d e) e (l.length + 1) l
/-- Does a word end ahead of it? -/
def stops (c : UInt8) : Bool := c == 32 || c == 9 || c == 10 || c == 59 || c == 124 || c == 38 || c == 40 || c == 41 || c == 60 || c == 62
def wordF : Nat → List UInt8 → Option Nat
  | 0, _ => some 0
  | _ + 1, [] => some 0
  | n + 1, c :: r => if stops c then some 0 else
    match unit 30 0 (c :: r) with
    | none => none
    | some k => (wordF n ((c :: r).drop k)).map (k + ·)
/-- How long the word is that stands ahead. -/
def word (l : List UInt8) : Option Nat := wordF l.length l
def opers : List (List UInt8) := [[38, 38], [124, 124], [59, 59], [62, 62], [59], [124], [38], [40], [41], [60], [62]]
/-- The operator that stands ahead. -/
def lead (l : List UInt8) : Option (List UInt8) := opers.find? fun o => o.isPrefixOf l
structure Tok where
  kind : Int
  text : List UInt8
  deriving DecidableEq
def toksF : Nat → List UInt8 → Option (List Tok)
  | _, [] => some []
  | 0, _ :: _ => none
  | n + 1, c :: r =>
    if c = 32 ∨ c = 9 then toksF n r
    else if c = 35 then toksF n ((c :: r).dropWhile (· ≠ 10))
    else if c = 10 then (toksF n r).map (⟨2, [10]⟩ :: ·)
    else match lead (c :: r) with
      | some o => (toksF n ((c :: r).drop o.length)).map (⟨1, o⟩ :: ·)
      | none =>
        match word (c :: r) with
        | none => none
        | some k => (toksF n ((c :: r).drop k)).map (⟨0, (c :: r).take k⟩ :: ·)
def toks (l : List UInt8) : Option (List Tok) := toksF l.length l

/-! ### How long -/
theorem quoted_le {l : List UInt8} {k : Nat} (h : quoted l = some k) : 1 ≤ k ∧ k ≤ l.length := by
  induction l generalizing k with
  | nil => cases h
  | cons c r ih =>
    unfold quoted at h
    split at h
    · obtain rfl := Option.some.inj h; simp
    · obtain ⟨j, hj, rfl⟩ := Option.map_eq_some_iff.1 h
      have := ih hj
      simp; omega
theorem til_le {u : List UInt8 → Option Nat} {e : UInt8} (hu : ∀ l k, u l = some k → 1 ≤ k ∧ k ≤ l.length) {n : Nat} {l : List UInt8} {k : Nat} (h : til u e n l = some k) : 1 ≤ k ∧ k ≤ l.length := by
  induction n generalizing l k with
  | zero => cases h
  | succ n ih =>
    cases l with
    | nil => cases h
    | cons c r =>
      unfold til at h
      split at h
      · obtain rfl := Option.some.inj h; simp
      · split at h
        · cases h
        · rename_i j hj
          obtain ⟨i, hi, rfl⟩ := Option.map_eq_some_iff.1 h
          have h1 := hu _ _ hj
          have h2 := ih hi
          rw [List.length_drop] at h2
          omega
theorem til_more {u : List UInt8 → Option Nat} {e : UInt8} (hu : ∀ l k, u l = some k → 1 ≤ k ∧ k ≤ l.length) : ∀ (n m : Nat) (l : List UInt8), l.length < n → l.length < m → til u e n l = til u e m l
  | 0, _, l, h, _ => by omega
  | _, 0, l, _, h => by omega
  | n + 1, m + 1, [], _, _ => rfl
  | n + 1, m + 1, c :: r, h, h2 => by
    rw [til, til]
    split
    · rfl
    · split
      · rfl
      · rename_i j hj
        have := hu _ _ hj
        rw [til_more hu n m _ (by rw [List.length_drop]; omega) (by rw [List.length_drop]; omega)]
theorem unit_le : ∀ (d : Nat) {e : UInt8} {l : List UInt8} {k : Nat}, unit d e l = some k → 1 ≤ k ∧ k ≤ l.length
  | 0, _, _, _, h => by cases h
  | d + 1, e, [], _, h => by cases h
  | d + 1, e, c :: r, k, h => by
    have ht : ∀ (x : UInt8) (n j : Nat) (l : List UInt8), til (unit d x) x n l = some j → 1 ≤ j ∧ j ≤ l.length := fun x n j l => til_le (fun _ _ => unit_le d)
    unfold unit at h
    split at h
    · split at h
      · cases h
      · rename_i h2
        obtain rfl := Option.some.inj h
        have := List.length_pos_iff.2 h2
        simp; omega
    · split at h
      · obtain ⟨j, hj, rfl⟩ := Option.map_eq_some_iff.1 h
        have := quoted_le hj
        simp; omega
      · split at h
        · obtain ⟨j, hj, rfl⟩ := Option.map_eq_some_iff.1 h
          have := ht _ _ _ _ hj
          simp; omega
        · split at h
          · rename_i h2
            obtain ⟨j, hj, rfl⟩ := Option.map_eq_some_iff.1 h
            have := ht _ _ _ _ hj
            have : r ≠ [] := fun e => by rw [e] at h2; simp at h2
            have := List.length_pos_iff.2 this
            rw [List.length_tail] at *
            simp; omega
          · split at h
            · rename_i h2
              obtain ⟨j, hj, rfl⟩ := Option.map_eq_some_iff.1 h
              have := ht _ _ _ _ hj
              have : r ≠ [] := fun e => by rw [e] at h2; simp at h2
              have := List.length_pos_iff.2 this
              rw [List.length_tail] at *
              simp; omega
            · split at h
              · obtain ⟨j, hj, rfl⟩ := Option.map_eq_some_iff.1 h
                have := ht _ _ _ _ hj
                simp; omega
              · obtain rfl := Option.some.inj h; simp
theorem nest_le {d : Nat} {e : UInt8} {l : List UInt8} {k : Nat} (h : nest d e l = some k) : 1 ≤ k ∧ k ≤ l.length := til_le (fun _ _ => unit_le d) h
theorem nest_nil (d : Nat) (e : UInt8) : nest d e [] = none := rfl
theorem nest_end (d : Nat) (e : UInt8) (r : List UInt8) : nest d e (e :: r) = some 1 := by
  unfold nest til
  rw [if_pos rfl]
theorem nest_bad {d : Nat} {e c : UInt8} {r : List UInt8} (hc : c ≠ e) (h : unit d e (c :: r) = none) : nest d e (c :: r) = none := by
  unfold nest til
  rw [if_neg hc, h]
theorem nest_on {d : Nat} {e c : UInt8} {r : List UInt8} {k : Nat} (hc : c ≠ e) (h : unit d e (c :: r) = some k) : nest d e (c :: r) = (nest d e ((c :: r).drop k)).map (k + ·) := by
  have := unit_le d h
  unfold nest
  conv => lhs; unfold til
  rw [if_neg hc, h]
  simp only []
  rw [til_more (fun _ _ => unit_le d) (c :: r).length (((c :: r).drop k).length + 1) _ (by rw [List.length_drop]; omega) (by omega)]
theorem unit_step (d : Nat) (e c : UInt8) (r : List UInt8) : unit (d + 1) e (c :: r) =
    if c = 92 then (if r = [] then none else some 2)
    else if c = 39 ∧ e ≠ 34 then (quoted r).map (1 + ·)
    else if c = 34 then (nest d 34 r).map (1 + ·)
    else if c = 36 ∧ r.head? = some 40 then (nest d 41 r.tail).map (2 + ·)
    else if c = 36 ∧ r.head? = some 123 then (nest d 125 r.tail).map (2 + ·)
    else if c = 40 ∧ e = 41 then (nest d 41 r).map (1 + ·)
    else some 1 := by
  have ht : ∀ (x : UInt8), c = 36 ∧ r.head? = some x → r.length = r.tail.length + 1 := fun x h => by
    cases r with
    | nil => cases h.2
    | cons y r => rfl
  conv => lhs; unfold unit
  unfold nest
  split
  · rfl
  · split
    · rfl
    · split
      · rfl
      · split
        · rename_i h; rw [ht _ h]
        · split
          · rename_i h; rw [ht _ h]
          · rfl
theorem wordF_le : ∀ (n : Nat) {l : List UInt8} {k : Nat}, wordF n l = some k → k ≤ l.length
  | 0, _, _, h => by obtain rfl := Option.some.inj h; omega
  | n + 1, [], _, h => by obtain rfl := Option.some.inj h; simp
  | n + 1, c :: r, k, h => by
    unfold wordF at h
    split at h
    · obtain rfl := Option.some.inj h; simp
    · split at h
      · cases h
      · rename_i j hj
        obtain ⟨i, hi, rfl⟩ := Option.map_eq_some_iff.1 h
        have h1 := unit_le _ hj
        have h2 := wordF_le n hi
        rw [List.length_drop] at h2
        omega
theorem wordF_more : ∀ (n m : Nat) (l : List UInt8), l.length ≤ n → l.length ≤ m → wordF n l = wordF m l
  | 0, 0, _, _, _ => rfl
  | 0, m + 1, [], _, _ => rfl
  | n + 1, 0, [], _, _ => rfl
  | 0, _, c :: r, h, _ => by simp at h
  | _, 0, c :: r, _, h => by simp at h
  | n + 1, m + 1, [], _, _ => rfl
  | n + 1, m + 1, c :: r, h, h2 => by
    rw [wordF, wordF]
    split
    · rfl
    · split
      · rfl
      · rename_i j hj
        have := unit_le _ hj
        rw [List.length_cons] at *
        rw [wordF_more n m _ (by rw [List.length_drop, List.length_cons]; omega) (by rw [List.length_drop, List.length_cons]; omega)]
theorem word_le {l : List UInt8} {k : Nat} (h : word l = some k) : k ≤ l.length := wordF_le _ h
theorem word_nil : word [] = some 0 := rfl
theorem word_stop {c : UInt8} {r : List UInt8} (h : stops c = true) : word (c :: r) = some 0 := by
  unfold word
  rw [List.length_cons, wordF, if_pos h]
theorem word_bad {c : UInt8} {r : List UInt8} (h : stops c = false) (hu : unit 30 0 (c :: r) = none) : word (c :: r) = none := by
  unfold word
  rw [List.length_cons, wordF, if_neg (by simp [h]), hu]
theorem word_on {c : UInt8} {r : List UInt8} {k : Nat} (h : stops c = false) (hu : unit 30 0 (c :: r) = some k) : word (c :: r) = (word ((c :: r).drop k)).map (k + ·) := by
  have := unit_le _ hu
  unfold word
  conv => lhs; rw [List.length_cons, wordF, if_neg (by simp [h]), hu]
  simp only []
  rw [wordF_more r.length ((c :: r).drop k).length _ (by rw [List.length_drop, List.length_cons] at *; omega) (by omega)]
theorem word_pos {c : UInt8} {r : List UInt8} {k : Nat} (h : stops c = false) (hw : word (c :: r) = some k) : 1 ≤ k := by
  cases hu : unit 30 0 (c :: r) with
  | none => rw [word_bad h hu] at hw; cases hw
  | some j =>
    rw [word_on h hu] at hw
    obtain ⟨i, _, rfl⟩ := Option.map_eq_some_iff.1 hw
    have := unit_le _ hu
    omega

/-! ### Operators -/
theorem lead_one (c : UInt8) : lead [c] = if c = 59 ∨ c = 124 ∨ c = 38 ∨ c = 40 ∨ c = 41 ∨ c = 60 ∨ c = 62 then some [c] else none := by
  have : ∀ i : Fin 256, lead [UInt8.ofNat i.val] = if UInt8.ofNat i.val = 59 ∨ UInt8.ofNat i.val = 124 ∨ UInt8.ofNat i.val = 38 ∨ UInt8.ofNat i.val = 40 ∨ UInt8.ofNat i.val = 41 ∨ UInt8.ofNat i.val = 60 ∨ UInt8.ofNat i.val = 62 then some [UInt8.ofNat i.val] else none := by decide +kernel
  have h := this ⟨c.toNat, c.toNat_lt⟩
  simpa using h
def isOp (c : UInt8) : Bool := c == 59 || c == 124 || c == 38 || c == 40 || c == 41 || c == 60 || c == 62
def twin (c : UInt8) : Bool := c == 59 || c == 124 || c == 38 || c == 62
theorem lead_more (c d : UInt8) (r : List UInt8) : lead (c :: d :: r) = if d = c ∧ twin c = true then some [c, d] else lead [c] := by
  unfold lead opers
  simp only [List.find?_cons, List.isPrefixOf, Bool.and_true, List.find?_nil]
  by_cases h1 : c = 38
  · subst h1
    by_cases h2 : d = 38
    · subst h2; rfl
    · have : ((38 : UInt8) == d) = false := by simpa using fun e => h2 e.symm
      simp [this, h2, twin]
  · by_cases h2 : c = 124
    · subst h2
      by_cases h2 : d = 124
      · subst h2; rfl
      · have : ((124 : UInt8) == d) = false := by simpa using fun e => h2 e.symm
        simp [this, h2, twin]
    · by_cases h3 : c = 59
      · subst h3
        by_cases h2 : d = 59
        · subst h2; rfl
        · have : ((59 : UInt8) == d) = false := by simpa using fun e => h2 e.symm
          simp [this, h2, twin]
      · by_cases h4 : c = 62
        · subst h4
          by_cases h2 : d = 62
          · subst h2; rfl
          · have : ((62 : UInt8) == d) = false := by simpa using fun e => h2 e.symm
            simp [this, h2, twin]
        · have g1 : ((38 : UInt8) == c) = false := by simpa using fun e => h1 e.symm
          have g2 : ((124 : UInt8) == c) = false := by simpa using fun e => h2 e.symm
          have g3 : ((59 : UInt8) == c) = false := by simpa using fun e => h3 e.symm
          have g4 : ((62 : UInt8) == c) = false := by simpa using fun e => h4 e.symm
          have g5 : twin c = false := by simp [twin, h1, h2, h3, h4]
          simp [g1, g2, g3, g4, g5]
theorem lead_is {c : UInt8} {r : List UInt8} : lead (c :: r) = if isOp c = true then (if r.head? = some c ∧ twin c = true then some [c, c] else some [c]) else none := by
  cases r with
  | nil =>
    rw [lead_one]
    unfold isOp
    by_cases h : c = 59 ∨ c = 124 ∨ c = 38 ∨ c = 40 ∨ c = 41 ∨ c = 60 ∨ c = 62
    · rw [if_pos h, if_pos (by simp; simpa [or_assoc] using h), if_neg (by simp)]
    · rw [if_neg h, if_neg (by simp; simpa [and_assoc, not_or] using h)]
  | cons d r =>
    rw [lead_more, lead_one]
    by_cases h2 : d = c ∧ twin c = true
    · obtain ⟨rfl, h2⟩ := h2
      have : isOp d = true := by unfold twin at h2; unfold isOp; simp at h2 ⊢; rcases h2 with ((h | h) | h) | h <;> simp [h]
      simp [h2, this]
    · rw [if_neg h2]
      have h3 : ¬ ((d :: r).head? = some c ∧ twin c = true) := by simpa using h2
      rw [if_neg h3]
      unfold isOp
      by_cases h : c = 59 ∨ c = 124 ∨ c = 38 ∨ c = 40 ∨ c = 41 ∨ c = 60 ∨ c = 62
      · rw [if_pos h, if_pos (by simp; simpa [or_assoc] using h)]
      · rw [if_neg h, if_neg (by simp; simpa [and_assoc, not_or] using h)]
theorem stops_is (c : UInt8) : stops c = (c == 32 || c == 9 || c == 10 || isOp c) := by
  unfold stops isOp
  simp [Bool.or_assoc]
theorem lead_none {c : UInt8} {r : List UInt8} (h : lead (c :: r) = none) (h1 : c ≠ 32) (h2 : c ≠ 9) (h3 : c ≠ 10) : stops c = false := by
  rw [lead_is] at h
  rw [stops_is]
  by_cases ho : isOp c = true
  · rw [if_pos ho] at h
    split at h <;> cases h
  · simp [h1, h2, h3, ho]
theorem lead_some {l o : List UInt8} (h : lead l = some o) : 1 ≤ o.length ∧ o.length ≤ l.length ∧ o.length ≤ 2 ∧ o = l.take o.length := by
  cases l with
  | nil => simp [lead, opers] at h
  | cons c r =>
    rw [lead_is] at h
    split at h
    · split at h
      · obtain rfl := Option.some.inj h
        rename_i h2
        cases r with
        | nil => simp at h2
        | cons d r => obtain ⟨h2, _⟩ := h2; simp at h2; subst h2; simp
      · obtain rfl := Option.some.inj h; simp
    · cases h
end Lx
end Go.Proofs.YtnafecdionhnfaaDoor
