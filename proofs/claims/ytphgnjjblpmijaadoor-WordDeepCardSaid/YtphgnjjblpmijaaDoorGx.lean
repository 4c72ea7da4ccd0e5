/-
  A script's tokens, as plain Lean functions on lists of bytes. Nothing of the program stands here.
-/
import Derived.Test.YtphgnjjblpmijaaDoorTxtM
import Derived.Lib.IndexMore
import Derived.Lib.Bytealg
import Derived.Lib.Strings
namespace Go.Proofs.YtphgnjjblpmijaaDoor
namespace Lx

/-- How many bytes there are up to the closing quote, and with it. -/
def quoted : List UInt8 → Option Nat
  | [] => none
  | c :: r => if c = 39 then some 1 else (quoted r).map (· + 1)
/-- How many bytes there are up to the closing byte e, and with it, unit by unit. -/
def til (u : List UInt8 → Option Nat) (e : UInt8) : Nat → List UInt8 → Option Nat
  | 0, _ => none
  | _ + 1, [] => none
  | n + 1, c :: r => if c = e then some 1 else
    match u (c :: r) with
    | none => none
    | some k => (til u e n ((c :: r).drop k)).map (k + ·)
/-- How long the unit is that stands ahead, in one that closes by e; d - 1 more may be in it. -/
def unit : Nat → UInt8 → List UInt8 → Option Nat
  | 0, _, _ => none
  | _ + 1, _, [] => none
  | d + 1, e, c :: r =>
    if c = 92 then (if r = [] then none else some 2)
    else if c = 39 ∧ e ≠ 34 then (quoted r).map (1 + ·)
    else if c = 34 then (til (unit d 34) 34 (r.length + 1) r).map (1 + ·)
    else if c = 36 ∧ r.head? = some 40 then (til (unit d 41) 41 r.length r.tail).map (2 + ·)
    else if c = 36 ∧ r.head? = some 123 then (til (unit d 125) 125 r.length r.tail).map (2 + ·)
    else if c = 40 ∧ e = 41 then (til (unit d 41) 41 (r.length + 1) r).map (1 + ·)
    else some 1
def nest (d : Nat) (e : UInt8) (l : List UInt8) : Option Nat := til (unit d e) e (l.length + 1) l
/-- Does a word end ahead of it? -/
def stops (c : UInt8) : Bool := c == 32 || c == 9 || c == 10 || c == 59 || c == 124 || c == 38 || c == 40 || c == 41 || c == 60 || c == 62
def wordF : Nat → List UInt8 → Option Nat
  | 0, _ => some 0
  | _ + 1, [] => some 0
  | n + 1, c :: r => if stops c then some 0 else
    match unit 30 0 (c :: r) with
    | none => none
    | some k => (wordF n ((c :: r).drop k)).map (k + ·)
/-- How long the word is that stands ahead. -/
def word (l : List UInt8) : Option Nat := wordF l.length l
def opers : List (List UInt8) := [[38, 38], [124, 124], [59, 59], [62, 62], [59], [124], [38], [40], [41], [60], [62]]
/-- The operator that stands ahead. -/
def lead (l : List UInt8) : Option (List UInt8) := opers.find? fun o => o.isPrefixOf l
structure Tok where
  kind : Int
  text : List UInt8
  deriving DecidableEq
def toksF : Nat → List UInt8 → Option (List Tok)
  | _, [] => some []
  | 0, _ :: _ => none
  | n + 1, c :: r =>
    if c = 32 ∨ c = 9 then toksF n r
    else if c = 35 then toksF n ((c :: r).dropWhile (· ≠ 10))
    else if c = 10 then (toksF n r).map (⟨2, [10]⟩ :: ·)
    else match lead (c :: r) with
      | some o => (toksF n ((c :: r).drop o.length)).map (⟨1, o⟩ :: ·)
      | none =>
        match word (c :: r) with
        | none => none
        | some k => (toksF n ((c :: r).drop k)).map (⟨0, (c :: r).take k⟩ :: ·)
def toks (l : List UInt8) : Option (List Tok) := toksF l.length l

/-! ### How long -/
theorem quoted_le {l : List UInt8} {k : Nat} (h : quoted l = some k) : 1 ≤ k ∧ k ≤ l.length := by
  induction l generalizing k with
  | nil => cases h
  | cons c r ih =>
    unfold quoted at h
    split at h
    · obtain rfl := Option.some.inj h; simp
    · obtain ⟨j, hj, rfl⟩ := Option.map_eq_some_iff.1 h
      have := ih hj
      simp; omega
theorem til_le {u : List UInt8 → Option Nat} {e : UInt8} (hu : ∀ l k, u l = some k → 1 ≤ k ∧ k ≤ l.length) {n : Nat} {l : List UInt8} {k : Nat} (h : til u e n l = some k) : 1 ≤ k ∧ k ≤ l.length := by
  induction n generalizing l k with
  | zero => cases h
  | succ n ih =>
    cases l with
    | nil => cases h
    | cons c r =>
      unfold til at h
      split at h
      · obtain rfl := Option.some.inj h; simp
      · split at h
        · cases h
        · rename_i j hj
          obtain ⟨i, hi, rfl⟩ := Option.map_eq_some_iff.1 h
          have h1 := hu _ _ hj
          have h2 := ih hi
          rw [List.length_drop] at h2
          omega
theorem til_more {u : List UInt8 → Option Nat} {e : UInt8} (hu : ∀ l k, u l = some k → 1 ≤ k ∧ k ≤ l.length) : ∀ (n m : Nat) (l : List UInt8), l.length < n → l.length < m → til u e n l = til u e m l
  | 0, _, l, h, _ => by omega
  | _, 0, l, _, h => by omega
  | n + 1, m + 1, [], _, _ => rfl
  | n + 1, m + 1, c :: r, h, h2 => by
    rw [til, til]
    split
    · rfl
    · split
      · rfl
      · rename_i j hj
        have := hu _ _ hj
        rw [til_more hu n m _ (by rw [List.length_drop]; omega) (by rw [List.length_drop]; omega)]
theorem unit_le : ∀ (d : Nat) {e : UInt8} {l : List UInt8} {k : Nat}, unit d e l = some k → 1 ≤ k ∧ k ≤ l.length
  | 0, _, _, _, h => by cases h
  | d + 1, e, [], _, h => by cases h
  | d + 1, e, c :: r, k, h => by
    have ht : ∀ (x : UInt8) (n j : Nat) (l : List UInt8), til (unit d x) x n l = some j → 1 ≤ j ∧ j ≤ l.length := fun x n j l => til_le (fun _ _ => unit_le d)
    unfold unit at h
    split at h
    · split at h
      · cases h
      · rename_i h2
        obtain rfl := Option.some.inj h
        have := List.length_pos_iff.2 h2
        simp; omega
    · split at h
      · obtain ⟨j, hj, rfl⟩ := Option.map_eq_some_iff.1 h
        have := quoted_le hj
        simp; omega
      · split at h
        · obtain ⟨j, hj, rfl⟩ := Option.map_eq_some_iff.1 h
          have := ht _ _ _ _ hj
          simp; omega
        · split at h
          · rename_i h2
            obtain ⟨j, hj, rfl⟩ := Option.map_eq_some_iff.1 h
            have := ht _ _ _ _ hj
            have : r ≠ [] := fun e => by rw [e] at h2; simp at h2
            have := List.length_pos_iff.2 this
            rw [List.length_tail] at *
            simp; omega
          · split at h
            · rename_i h2
              obtain ⟨j, hj, rfl⟩ := Option.map_eq_some_iff.1 h
              have := ht _ _ _ _ hj
              have : r ≠ [] := fun e => by rw [e] at h2; simp at h2
              have := List.length_pos_iff.2 this
              rw [List.length_tail] at *
              simp; omega
            · split at h
              · obtain ⟨j, hj, rfl⟩ := Option.map_eq_some_iff.1 h
                have := ht _ _ _ _ hj
                simp; omega
              · obtain rfl := Option.some.inj h; simp
theorem nest_le {d : Nat} {e : UInt8} {l : List UInt8} {k : Nat} (h : nest d e l = some k) : 1 ≤ k ∧ k ≤ l.length := til_le (fun _ _ => unit_le d) h
theorem nest_nil (d : Nat) (e : UInt8) : nest d e [] = none := rfl
theorem nest_end (d : Nat) (e : UInt8) (r : List UInt8) : nest d e (e :: r) = some 1 := by
  unfold nest til
  rw [if_pos rfl]
theorem nest_bad {d : Nat} {e c : UInt8} {r : List UInt8} (hc : c ≠ e) (h : unit d e (c :: r) = none) : nest d e (c :: r) = none := by
  unfold nest til
  rw [if_neg hc, h]
theorem nest_on {d : Nat} {e c : UInt8} {r : List UInt8} {k : Nat} (hc : c ≠ e) (h : unit d e (c :: r) = some k) : nest d e (c :: r) = (nest d e ((c :: r).drop k)).map (k + ·) := by
  have := unit_le d h
  unfold nest
  conv => lhs; unfold til
  rw [if_neg hc, h]
  simp only []
  rw [til_more (fun _ _ => unit_le d) (c :: r).length (((c :: r).drop k).length + 1) _ (by rw [List.length_drop]; omega) (by omega)]
theorem unit_step (d : Nat) (e c : UInt8) (r : List UInt8) : unit (d + 1) e (c :: r) =
    if c = 92 then (if r = [] then none else some 2)
    else if c = 39 ∧ e ≠ 34 then (quoted r).map (1 + ·)
    else if c = 34 then (nest d 34 r).map (1 + ·)
    else if c = 36 ∧ r.head? = some 40 then (nest d 41 r.tail).map (2 + ·)
    else if c = 36 ∧ r.head? = some 123 then (nest d 125 r.tail).map (2 + ·)
    else if c = 40 ∧ e = 41 then (nest d 41 r).map (1 + ·)
    else some 1 := by
  have ht : ∀ (x : UInt8), c = 36 ∧ r.head? = some x → r.length = r.tail.length + 1 := fun x h => by
    cases r with
    | nil => cases h.2
    | cons y r => rfl
  conv => lhs; unfold unit
  unfold nest
  split
  · rfl
  · split
    · rfl
    · split
      · rfl
      · split
        · rename_i h; rw [ht _ h]
        · split
          · rename_i h; rw [ht _ h]
          · rfl
theorem wordF_le : ∀ (n : Nat) {l : List UInt8} {k : Nat}, wordF n l = some k → k ≤ l.length
  | 0, _, _, h => by obtain rfl := Option.some.inj h; omega
  | n + 1, [], _, h => by obtain rfl := Option.some.inj h; simp
  | n + 1, c :: r, k, h => by
    unfold wordF at h
    split at h
    · obtain rfl := Option.some.inj h; simp
    · split at h
      · cases h
      · rename_i j hj
        obtain ⟨i, hi, rfl⟩ := Option.map_eq_some_iff.1 h
        have h1 := unit_le _ hj
        have h2 := wordF_le n hi
        rw [List.length_drop] at h2
        omega
theorem wordF_more : ∀ (n m : Nat) (l : List UInt8), l.length ≤ n → l.length ≤ m → wordF n l = wordF m l
  | 0, 0, _, _, _ => rfl
  | 0, m + 1, [], _, _ => rfl
  | n + 1, 0, [], _, _ => rfl
  | 0, _, c :: r, h, _ => by simp at h
  | _, 0, c :: r, _, h => by simp at h
  | n + 1, m + 1, [], _, _ => rfl
  | n + 1, m + 1, c :: r, h, h2 => by
    rw [wordF, wordF]
    split
    · rfl
    · split
      · rfl
      · rename_i j hj
        have := unit_le _ hj
        rw [List.length_cons] at *
        rw [wordF_more n m _ (by rw [List.length_drop, List.length_cons]; omega) (by rw [List.length_drop, List.length_cons]; omega)]
theorem word_le {l : List UInt8} {k : Nat} (h : word l = some k) : k ≤ l.length := wordF_le _ h
theorem word_nil : word [] = some 0 := rfl
theorem word_stop {c : UInt8} {r : List UInt8} (h : stops c = true) : word (c :: r) = some 0 := by
  unfold word
  rw [List.length_cons, wordF, if_pos h]
theorem word_bad {c : UInt8} {r : List UInt8} (h : stops c = false) (hu : unit 30 0 (c :: r) = none) : word (c :: r) = none := by
  unfold word
  rw [List.length_cons, wordF, if_neg (by simp [h]), hu]
theorem word_on {c : UInt8} {r : List UInt8} {k : Nat} (h : stops c = false) (hu : unit 30 0 (c :: r) = some k) : word (c :: r) = (word ((c :: r).drop k)).map (k + ·) := by
  have := unit_le _ hu
  unfold word
  conv => lhs; rw [List.length_cons, wordF, if_neg (by simp [h]), hu]
  simp only []
  rw [wordF_more r.length ((c :: r).drop k).length _ (by rw [List.length_drop, List.length_cons] at *; omega) (by omega)]
theorem word_pos {c : UInt8} {r : List UInt8} {k : Nat} (h : stops c = false) (hw : word (c :: r) = some k) : 1 ≤ k := by
  cases hu : unit 30 0 (c :: r) with
  | none => rw [word_bad h hu] at hw; cases hw
  | some j =>
    rw [word_on h hu] at hw
    obtain ⟨i, _, rfl⟩ := Option.map_eq_some_iff.1 hw
    have := unit_le _ hu
    omega

/-! ### Operators -/
theorem lead_one (c : UInt8) : lead [c] = if c = 59 ∨ c = 124 ∨ c = 38 ∨ c = 40 ∨ c = 41 ∨ c = 60 ∨ c = 62 then some [c] else none := by
  have : ∀ i : Fin 256, lead [UInt8.ofNat i.val] = if UInt8.ofNat i.val = 59 ∨ UInt8.ofNat i.val = 124 ∨ UInt8.ofNat i.val = 38 ∨ UInt8.ofNat i.val = 40 ∨ UInt8.ofNat i.val = 41 ∨ UInt8.ofNat i.val = 60 ∨ UInt8.ofNat i.val = 62 then some [UInt8.ofNat i.val] else none := by decide +kernel
  have h := this ⟨c.toNat, c.toNat_lt⟩
  simpa using h
def isOp (c : UInt8) : Bool := c == 59 || c == 124 || c == 38 || c == 40 || c == 41 || c == 60 || c == 62
def twin (c : UInt8) : Bool := c == 59 || c == 124 || c == 38 || c == 62
theorem lead_more (c d : UInt8) (r : List UInt8) : lead (c :: d :: r) = if d = c ∧ twin c = true then some [c, d] else lead [c] := by
  unfold lead opers
  simp only [List.find?_cons, List.isPrefixOf, Bool.and_true, List.find?_nil]
  by_cases h1 : c = 38
  · subst h1
    by_cases h2 : d = 38
    · subst h2; rfl
    · have : ((38 : UInt8) == d) = false := by simpa using fun e => h2 e.symm
      simp [this, h2, twin]
  · by_cases h2 : c = 124
    · subst h2
      by_cases h2 : d = 124
      · subst h2; rfl
      · have : ((124 : UInt8) == d) = false := by simpa using fun e => h2 e.symm
        simp [this, h2, twin]
    · by_cases h3 : c = 59
      · subst h3
        by_cases h2 : d = 59
        · subst h2; rfl
        · have : ((59 : UInt8) == d) = false := by simpa using fun e => h2 e.symm
          simp [this, h2, twin]
      · by_cases h4 : c = 62
        · subst h4
          by_cases h2 : d = 62
          · subst h2; rfl
          · have : ((62 : UInt8) == d) = false := by simpa using fun e => h2 e.symm
            simp [this, h2, twin]
        · have g1 : ((38 : UInt8) == c) = false := by simpa using fun e => h1 e.symm
          have g2 : ((124 : UInt8) == c) = false := by simpa using fun e => h2 e.symm
          have g3 : ((59 : UInt8) == c) = false := by simpa using fun e => h3 e.symm
          have g4 : ((62 : UInt8) == c) = false := by simpa using fun e => h4 e.symm
          have g5 : twin c = false := by simp [twin, h1, h2, h3, h4]
          simp [g1, g2, g3, g4, g5]
theorem lead_is {c : UInt8} {r : List UInt8} : lead (c :: r) = if isOp c = true then (if r.head? = some c ∧ twin c = true then some [c, c] else some [c]) else none := by
  cases r with
  | nil =>
    rw [lead_one]
    unfold isOp
    by_cases h : c = 59 ∨ c = 124 ∨ c = 38 ∨ c = 40 ∨ c = 41 ∨ c = 60 ∨ c = 62
    · rw [if_pos h, if_pos (by simp; simpa [or_assoc] using h), if_neg (by simp)]
    · rw [if_neg h, if_neg (by simp; simpa [and_assoc, not_or] using h)]
  | cons d r =>
    rw [lead_more, lead_one]
    by_cases h2 : d = c ∧ twin c = true
    · obtain ⟨rfl, h2⟩ := h2
      have : isOp d = true := by unfold twin at h2; unfold isOp; simp at h2 ⊢; rcases h2 with ((h | h) | h) | h <;> simp [h]
      simp [h2, this]
    · rw [if_neg h2]
      have h3 : ¬ ((d :: r).head? = some c ∧ twin c = true) := by simpa using h2
      rw [if_neg h3]
      unfold isOp
      by_cases h : c = 59 ∨ c = 124 ∨ c = 38 ∨ c = 40 ∨ c = 41 ∨ c = 60 ∨ c = 62
      · rw [if_pos h, if_pos (by simp; simpa [or_assoc] using h)]
      · rw [if_neg h, if_neg (by simp; simpa [and_assoc, not_or] using h)]
theorem stops_is (c : UInt8) : stops c = (c == 32 || c == 9 || c == 10 || isOp c) := by
  unfold stops isOp
  simp [Bool.or_assoc]
theorem lead_none {c : UInt8} {r : List UInt8} (h : lead (c :: r) = none) (h1 : c ≠ 32) (h2 : c ≠ 9) (h3 : c ≠ 10) : stops c = false := by
  rw [lead_is] at h
  rw [stops_is]
  by_cases ho : isOp c = true
  · rw [if_pos ho] at h
    split at h <;> cases h
  · simp [h1, h2, h3, ho]
theorem lead_some {l o : List UInt8} (h : lead l = some o) : 1 ≤ o.length ∧ o.length ≤ l.length ∧ o.length ≤ 2 ∧ o = l.take o.length := by
  cases l with
  | nil => simp [lead, opers] at h
  | cons c r =>
    rw [lead_is] at h
    split at h
    · split at h
      · obtain rfl := Option.some.inj h
        rename_i h2
        cases r with
        | nil => simp at h2
        | cons d r => obtain ⟨h2, _⟩ := h2; simp at h2; subst h2; simp
      · obtain rfl := Option.some.inj h; simp
    · cases h
end Lx
end Go.Proofs.YtphgnjjblpmijaaDoor

/-
  A script's tokens, on: what stands behind a unit does not matter to it; two scripts one behind the other; tokens told again. Nothing of the program stands here.
-/
namespace Go.Proofs.YtphgnjjblpmijaaDoor
namespace Lx

/-! ### What stands behind -/
def opn (l : List UInt8) : Prop := l.head? = some 40 ∨ l.head? = some 123
theorem quoted_sim : ∀ (a x y : List UInt8), quoted (a ++ x) = some a.length → quoted (a ++ y) = some a.length
  | [], x, y, h => by have := quoted_le h; simp at this
  | c :: a, x, y, h => by
    rw [List.cons_append, quoted] at h ⊢
    split at h
    · rename_i hc
      rw [if_pos hc]; exact h
    · rename_i hc
      rw [if_neg hc]
      obtain ⟨j, hj, he⟩ := Option.map_eq_some_iff.1 h
      obtain rfl : j = a.length := by simpa using he
      rw [quoted_sim a x y hj]; rfl
theorem split_at {a : List UInt8} {k : Nat} (h : k ≤ a.length) : ∃ a1 a2, a = a1 ++ a2 ∧ a1.length = k := ⟨a.take k, a.drop k, (List.take_append_drop k a).symm, by rw [List.length_take]; omega⟩
theorem opn_app {a x y : List UInt8} (h : a = [] → opn y → opn x) : opn (a ++ y) → opn (a ++ x) := by
  cases a with
  | nil => exact h rfl
  | cons c a => exact id
theorem nest_sim {d : Nat} {e : UInt8} (hu : ∀ a x y, unit d e (a ++ x) = some a.length → (opn y → opn x) → unit d e (a ++ y) = some a.length) :
    ∀ (n : Nat) (a x y : List UInt8), a.length ≤ n → nest d e (a ++ x) = some a.length → nest d e (a ++ y) = some a.length
  | n, [], x, y, _, h => by have := nest_le h; simp at this
  | 0, c :: a, x, y, hn, _ => by simp at hn
  | n + 1, c :: a, x, y, hn, h => by
    by_cases hc : c = e
    · subst hc
      rw [List.cons_append, nest_end] at h ⊢
      exact h
    · cases hk : unit d e (c :: a ++ x) with
      | none => rw [List.cons_append] at hk h; rw [nest_bad hc hk] at h; cases h
      | some k =>
        have h0 := h
        rw [List.cons_append] at hk h
        rw [nest_on hc hk] at h
        obtain ⟨j, hj, he⟩ := Option.map_eq_some_iff.1 h
        have h1 := unit_le _ hk
        have h2 := nest_le hj
        obtain ⟨a1, a2, ha, hl⟩ := split_at (a := c :: a) (k := k) (by omega)
        have ha2 : a2 ≠ [] := fun e2 => by have := congrArg List.length ha; rw [e2, List.append_nil] at this; omega
        rw [← List.cons_append, ha, List.append_assoc] at hk hj
        rw [← hl, List.drop_left] at hj
        have e2 : j = a2.length := by have := congrArg List.length ha; rw [List.length_append] at this; omega
        subst e2
        have u1 := hu a1 (a2 ++ x) (a2 ++ y) (by rw [hk, hl]) (opn_app fun e3 => absurd e3 ha2)
        have hj2 := nest_sim hu n a2 x y (by have := congrArg List.length ha; rw [List.length_append, List.length_cons] at this; rw [List.length_cons] at hn; omega) hj
        have u2 : unit d e (c :: (a ++ y)) = some a1.length := by rw [← List.cons_append, ha, List.append_assoc]; exact u1
        rw [List.cons_append, nest_on hc u2, ← List.cons_append, ha, List.append_assoc, List.drop_left, hj2]
        simp
theorem unit_sim : ∀ (d : Nat) (e : UInt8) (a x y : List UInt8), unit d e (a ++ x) = some a.length → (opn y → opn x) → unit d e (a ++ y) = some a.length
  | 0, _, _, _, _, h, _ => by cases h
  | d + 1, e, [], x, y, h, _ => by have := unit_le _ h; simp at this
  | d + 1, e, c :: a, x, y, h, ho => by
    have hN := fun (z : UInt8) => nest_sim (unit_sim d z)
    rw [List.cons_append, unit_step] at h ⊢
    split at h
    · rename_i hc
      rw [if_pos hc]
      split at h
      · cases h
      · have h3 := Option.some.inj h
        cases a with
        | nil => simp at h3
        | cons z a => rw [if_neg (by simp)]; exact h
    · rename_i hc
      rw [if_neg hc]
      split at h
      · rename_i hc
        rw [if_pos hc]
        obtain ⟨j, hj, he⟩ := Option.map_eq_some_iff.1 h
        obtain rfl : j = a.length := by simp at he; omega
        rw [quoted_sim a x y hj]; exact congrArg some he
      · rename_i hc
        rw [if_neg hc]
        split at h
        · rename_i hc
          rw [if_pos hc]
          obtain ⟨j, hj, he⟩ := Option.map_eq_some_iff.1 h
          obtain rfl : j = a.length := by simp at he; omega
          rw [hN 34 _ a x y (Nat.le_refl _) hj]; exact congrArg some he
        · rename_i hc
          rw [if_neg hc]
          split at h
          · rename_i hc
            obtain ⟨j, hj, he⟩ := Option.map_eq_some_iff.1 h
            have h1 := nest_le hj
            cases a with
            | nil => simp at he; omega
            | cons z b =>
              obtain rfl : j = b.length := by simp at he; omega
              rw [if_pos (by simpa using hc)]
              rw [List.cons_append, List.tail_cons] at hj ⊢
              rw [hN 41 _ b x y (Nat.le_refl _) hj]; exact congrArg some he
          · rename_i hc4
            split at h
            · rename_i hc
              obtain ⟨j, hj, he⟩ := Option.map_eq_some_iff.1 h
              have h1 := nest_le hj
              cases a with
              | nil => simp at he; omega
              | cons z b =>
                obtain rfl : j = b.length := by simp at he; omega
                rw [if_neg (by simpa using hc4), if_pos (by simpa using hc)]
                rw [List.cons_append, List.tail_cons] at hj ⊢
                rw [hN 125 _ b x y (Nat.le_refl _) hj]; exact congrArg some he
            · rename_i hc5
              have key : ¬ (c = 36 ∧ (a ++ y).head? = some 40) ∧ ¬ (c = 36 ∧ (a ++ y).head? = some 123) := by
                cases a with
                | nil =>
                  refine ⟨fun hk => ?_, fun hk => ?_⟩
                  · rcases ho (.inl hk.2) with h2 | h2
                    · exact hc4 ⟨hk.1, h2⟩
                    · exact hc5 ⟨hk.1, h2⟩
                  · rcases ho (.inr hk.2) with h2 | h2
                    · exact hc4 ⟨hk.1, h2⟩
                    · exact hc5 ⟨hk.1, h2⟩
                | cons z b => exact ⟨hc4, hc5⟩
              rw [if_neg key.1, if_neg key.2]
              split at h
              · rename_i hc
                rw [if_pos hc]
                obtain ⟨j, hj, he⟩ := Option.map_eq_some_iff.1 h
                obtain rfl : j = a.length := by simp at he; omega
                rw [hN 41 _ a x y (Nat.le_refl _) hj]; exact congrArg some he
              · rename_i hc
                rw [if_neg hc]; exact h
theorem word_sim : ∀ (n : Nat) (a x y : List UInt8), a.length ≤ n → word (a ++ x) = some a.length → (∀ c, y.head? = some c → stops c = true) → (opn y → opn x) → word (a ++ y) = some a.length
  | n, [], x, y, _, h, hy, _ => by
    cases y with
    | nil => rfl
    | cons c y => exact word_stop (hy c rfl)
  | 0, c :: a, x, y, hn, _, _, _ => by simp at hn
  | n + 1, c :: a, x, y, hn, h, hy, ho => by
    rw [List.cons_append] at h ⊢
    by_cases hc : stops c = true
    · rw [word_stop hc] at h; simp at h
    · have hc : stops c = false := by simpa using hc
      cases hk : unit 30 0 (c :: (a ++ x)) with
      | none => rw [word_bad hc hk] at h; cases h
      | some k =>
        rw [word_on hc hk] at h
        obtain ⟨j, hj, he⟩ := Option.map_eq_some_iff.1 h
        have h1 := unit_le _ hk
        obtain ⟨a1, a2, ha, hl⟩ := split_at (a := c :: a) (k := k) (by omega)
        rw [← List.cons_append, ha, List.append_assoc] at hk hj
        rw [← hl, List.drop_left] at hj
        have e2 : j = a2.length := by have := congrArg List.length ha; rw [List.length_append] at this; omega
        subst e2
        have u1 := unit_sim 30 0 a1 (a2 ++ x) (a2 ++ y) (by rw [hk, hl]) (opn_app fun _ => ho)
        have hj2 := word_sim n a2 x y (by have := congrArg List.length ha; rw [List.length_append, List.length_cons] at this; rw [List.length_cons] at hn; omega) hj hy ho
        have u2 : unit 30 0 (c :: (a ++ y)) = some a1.length := by rw [← List.cons_append, ha, List.append_assoc]; exact u1
        rw [word_on hc u2, ← List.cons_append, ha, List.append_assoc, List.drop_left, hj2]
        simp
theorem word_end : ∀ (n : Nat) (l : List UInt8) (k : Nat), l.length ≤ n → word l = some k → ∀ c, (l.drop k).head? = some c → stops c = true
  | _, [], k, _, h, c, hc => by simp at hc
  | 0, c :: l, _, hn, _, _, _ => by simp at hn
  | n + 1, c :: r, k, hn, h, b, hb => by
    by_cases hc : stops c = true
    · rw [word_stop hc] at h
      obtain rfl := Option.some.inj h
      obtain rfl : c = b := by simpa using hb
      exact hc
    · have hc : stops c = false := by simpa using hc
      cases hk : unit 30 0 (c :: r) with
      | none => rw [word_bad hc hk] at h; cases h
      | some j =>
        rw [word_on hc hk] at h
        obtain ⟨i, hi, rfl⟩ := Option.map_eq_some_iff.1 h
        have h1 := unit_le _ hk
        refine word_end n _ i (by rw [List.length_drop]; rw [List.length_cons] at *; omega) hi b ?_
        rw [List.drop_drop]; exact hb

/-! ### Tokens, one by one -/
theorem dropW_le (l : List UInt8) : (l.dropWhile (· ≠ 10)).length ≤ l.length := by
  exact (List.dropWhile_sublist _).length_le
theorem toksF_more : ∀ (n m : Nat) (l : List UInt8), l.length ≤ n → l.length ≤ m → toksF n l = toksF m l
  | 0, 0, _, _, _ => rfl
  | 0, m + 1, [], _, _ => rfl
  | n + 1, 0, [], _, _ => rfl
  | 0, _, c :: r, h, _ => by simp at h
  | _, 0, c :: r, _, h => by simp at h
  | n + 1, m + 1, [], _, _ => rfl
  | n + 1, m + 1, c :: r, h, h2 => by
    have hd : ∀ k, 1 ≤ k → ((c :: r).drop k).length ≤ r.length := fun k hk => by rw [List.length_drop, List.length_cons]; omega
    rw [List.length_cons] at h h2
    rw [toksF, toksF]
    split
    · exact toksF_more n m r (by omega) (by omega)
    · split
      · rename_i h35
        have : ((c :: r).dropWhile (· ≠ 10)).length ≤ r.length := by
          subst h35
          have := dropW_le r
          simpa [List.dropWhile] using this
        exact toksF_more n m _ (by omega) (by omega)
      · split
        · rw [toksF_more n m r (by omega) (by omega)]
        · split
          · rename_i o ho
            have := hd _ (lead_some ho).1
            rw [toksF_more n m _ (by omega) (by omega)]
          · rename_i h1 h2 h3 _ hl
            split
            · rfl
            · rename_i k hk
              have := hd _ (word_pos (lead_none hl (fun e => h1 (.inl e)) (fun e => h1 (.inr e)) h3) hk)
              rw [toksF_more n m _ (by omega) (by omega)]
theorem toksF_is {n : Nat} {l : List UInt8} (h : l.length ≤ n) : toksF n l = toks l := toksF_more n _ l h (Nat.le_refl _)
theorem toks_nil : toks [] = some [] := rfl
theorem toks_blank {c : UInt8} {r : List UInt8} (h : c = 32 ∨ c = 9) : toks (c :: r) = toks r := by
  unfold toks
  rw [List.length_cons, toksF, if_pos h]
theorem toks_comment {r : List UInt8} : toks (35 :: r) = toks (r.dropWhile (· ≠ 10)) := by
  have := dropW_le r
  rw [← toksF_is (n := r.length) this]
  unfold toks
  rw [List.length_cons, toksF, if_neg (by simp), if_pos rfl]
  simp [List.dropWhile]
theorem toks_line {r : List UInt8} : toks (10 :: r) = (toks r).map (⟨2, [10]⟩ :: ·) := by
  unfold toks
  rw [List.length_cons, toksF, if_neg (by simp), if_neg (by simp), if_pos rfl]
/-- Neither a blank, nor a comment, nor a line's end. -/
def plain (c : UInt8) : Prop := c ≠ 32 ∧ c ≠ 9 ∧ c ≠ 35 ∧ c ≠ 10
theorem toks_op {c : UInt8} {r o : List UInt8} (hc : plain c) (h : lead (c :: r) = some o) : toks (c :: r) = (toks ((c :: r).drop o.length)).map (⟨1, o⟩ :: ·) := by
  have h1 := lead_some h
  rw [← toksF_is (n := r.length) (l := (c :: r).drop o.length) (by rw [List.length_drop, List.length_cons]; omega)]
  conv => lhs; unfold toks
  rw [List.length_cons, toksF, if_neg (by simp [hc.1, hc.2.1]), if_neg hc.2.2.1, if_neg hc.2.2.2, h]
theorem toks_bad {c : UInt8} {r : List UInt8} (hc : plain c) (h : lead (c :: r) = none) (hw : word (c :: r) = none) : toks (c :: r) = none := by
  unfold toks
  rw [List.length_cons, toksF, if_neg (by simp [hc.1, hc.2.1]), if_neg hc.2.2.1, if_neg hc.2.2.2, h]
  simp only []
  rw [hw]
theorem toks_word {c : UInt8} {r : List UInt8} {k : Nat} (hc : plain c) (h : lead (c :: r) = none) (hw : word (c :: r) = some k) : toks (c :: r) = (toks ((c :: r).drop k)).map (⟨0, (c :: r).take k⟩ :: ·) := by
  have h1 := word_pos (lead_none h hc.1 hc.2.1 hc.2.2.2) hw
  rw [← toksF_is (n := r.length) (l := (c :: r).drop k) (by rw [List.length_drop, List.length_cons]; omega)]
  conv => lhs; unfold toks
  rw [List.length_cons, toksF, if_neg (by simp [hc.1, hc.2.1]), if_neg hc.2.2.1, if_neg hc.2.2.2, h]
  simp only []
  rw [hw]

/-- How a script with tokens is made. -/
inductive Goes : List UInt8 → List Tok → Prop
  | nil : Goes [] []
  | blank {c : UInt8} {r ts} (h : c = 32 ∨ c = 9) (hr : Goes r ts) : Goes (c :: r) ts
  | comment {r ts} (hr : Goes (r.dropWhile (· ≠ 10)) ts) : Goes (35 :: r) ts
  | line {r ts} (hr : Goes r ts) : Goes (10 :: r) (⟨2, [10]⟩ :: ts)
  | op {c : UInt8} {r o x ts} (hc : plain c) (h : lead (c :: r) = some o) (he : c :: r = o ++ x) (hr : Goes x ts) : Goes (c :: r) (⟨1, o⟩ :: ts)
  | word {c : UInt8} {r a x ts} (hc : plain c) (h : lead (c :: r) = none) (he : c :: r = a ++ x) (hw : word (a ++ x) = some a.length) (hr : Goes x ts) : Goes (c :: r) (⟨0, a⟩ :: ts)
theorem goes_of : ∀ (n : Nat) (l : List UInt8) (ts : List Tok), l.length ≤ n → toks l = some ts → Goes l ts
  | _, [], ts, _, h => by obtain rfl := Option.some.inj h; exact .nil
  | 0, c :: r, _, hn, _ => by simp at hn
  | n + 1, c :: r, ts, hn, h => by
    rw [List.length_cons] at hn
    by_cases h1 : c = 32 ∨ c = 9
    · rw [toks_blank h1] at h
      exact .blank h1 (goes_of n r ts (by omega) h)
    · by_cases h2 : c = 35
      · subst h2
        rw [toks_comment] at h
        have := dropW_le r
        exact .comment (goes_of n _ ts (by omega) h)
      · by_cases h3 : c = 10
        · subst h3
          rw [toks_line] at h
          obtain ⟨u, hu, rfl⟩ := Option.map_eq_some_iff.1 h
          exact .line (goes_of n r u (by omega) hu)
        · have hp : plain c := ⟨fun e => h1 (.inl e), fun e => h1 (.inr e), h2, h3⟩
          cases hl : lead (c :: r) with
          | some o =>
            have ho := lead_some hl
            rw [toks_op hp hl] at h
            obtain ⟨u, hu, rfl⟩ := Option.map_eq_some_iff.1 h
            refine .op (x := (c :: r).drop o.length) hp hl ?_ (goes_of n _ u (by rw [List.length_drop, List.length_cons]; omega) hu)
            conv => rhs; rw [ho.2.2.2]
            rw [List.length_take, Nat.min_eq_left ho.2.1, List.take_append_drop]
          | none =>
            cases hw : Lx.word (c :: r) with
            | none => rw [toks_bad hp hl hw] at h; cases h
            | some k =>
              rw [toks_word hp hl hw] at h
              obtain ⟨u, hu, rfl⟩ := Option.map_eq_some_iff.1 h
              have h1 := word_pos (lead_none hl hp.1 hp.2.1 hp.2.2.2) hw
              have h2 := word_le hw
              refine .word (x := (c :: r).drop k) hp hl (List.take_append_drop k _).symm ?_ (goes_of n _ u (by rw [List.length_drop, List.length_cons]; omega) hu)
              rw [List.take_append_drop, hw, List.length_take, Nat.min_eq_left h2]
theorem Goes.toks {l : List UInt8} {ts : List Tok} (h : Goes l ts) : toks l = some ts := by
  induction h with
  | nil => rfl
  | blank h _ ih => rw [toks_blank h, ih]
  | comment _ ih => rw [toks_comment, ih]
  | line _ ih => rw [toks_line, ih]; rfl
  | op hc h he _ ih => rw [toks_op hc h, he, List.drop_left, ih]; rfl
  | word hc h he hw _ ih => rw [toks_word hc h (by rw [he]; exact hw), he, List.drop_left, List.take_left, ih]; rfl
theorem goes_iff {l : List UInt8} {ts : List Tok} : toks l = some ts ↔ Goes l ts := ⟨goes_of _ l ts (Nat.le_refl _), Goes.toks⟩

/-! ### Two scripts -/
/-- What may stand between two scripts. -/
structure Sep (y t : List UInt8) : Prop where
  head : y.head? = some 10 ∨ y.head? = some 32
  all : ∀ u, Goes t u → Goes y (⟨2, [10]⟩ :: u)
  drop : y.dropWhile (· ≠ 10) = 10 :: t
theorem Sep.line (t : List UInt8) : Sep (10 :: t) t := ⟨.inl rfl, fun _ h => .line h, rfl⟩
theorem Sep.comment (t : List UInt8) : Sep ([32, 35, 32, 39, 32, 40, 32] ++ 10 :: t) t := ⟨.inr rfl, fun _ h => .blank (.inl rfl) (.comment (.line h)), rfl⟩
theorem Sep.stop {y t : List UInt8} (h : Sep y t) : (∀ c, y.head? = some c → stops c = true) ∧ ¬ opn y := by
  refine ⟨fun c hc => ?_, fun ho => ?_⟩
  · rcases h.head with h2 | h2 <;> (rw [h2] at hc; obtain rfl := Option.some.inj hc; rfl)
  · rcases h.head with h2 | h2 <;> rcases ho with ho | ho <;> (rw [h2] at ho; cases ho)
theorem dropW_app (r y : List UInt8) : (r.dropWhile (· ≠ 10) ≠ [] ∧ (r ++ y).dropWhile (· ≠ 10) = r.dropWhile (· ≠ 10) ++ y) ∨ (r.dropWhile (· ≠ 10) = [] ∧ (r ++ y).dropWhile (· ≠ 10) = y.dropWhile (· ≠ 10)) := by
  induction r with
  | nil => exact .inr ⟨rfl, rfl⟩
  | cons c r ih =>
    by_cases h : c = 10
    · subst h
      exact .inl ⟨by simp [List.dropWhile], by simp [List.dropWhile]⟩
    · have e : ∀ z : List UInt8, (c :: z).dropWhile (· ≠ 10) = z.dropWhile (· ≠ 10) := fun z => by
        rw [List.dropWhile_cons, if_pos (by simpa using h)]
      rw [e, List.cons_append, e]
      exact ih
theorem lead_sep {c : UInt8} {r y : List UInt8} (h : ∀ b, y.head? = some b → b = 10 ∨ b = 32) : lead (c :: (r ++ y)) = lead (c :: r) := by
  rw [lead_is, lead_is]
  cases r with
  | cons d r => rfl
  | nil =>
    have : ¬ (y.head? = some c ∧ twin c = true) := fun ⟨h1, h2⟩ => by
      rcases h c h1 with rfl | rfl <;> cases h2
    rw [List.nil_append]
    by_cases ho : isOp c = true
    · rw [if_pos ho, if_pos ho, if_neg this, if_neg (by simp)]
    · rw [if_neg ho, if_neg ho]
theorem goes_two {l t y : List UInt8} {ts u : List Tok} (hl : Goes l ts) (ht : Goes t u) (hs : Sep y t) : Goes (l ++ y) (ts ++ ⟨2, [10]⟩ :: u) := by
  have hh : ∀ b, y.head? = some b → b = 10 ∨ b = 32 := fun b hb => by rcases hs.head with h2 | h2 <;> (rw [h2] at hb; obtain rfl := Option.some.inj hb; simp)
  induction hl with
  | nil => exact hs.all u ht
  | blank h _ ih => exact .blank h ih
  | @comment r ts hr ih =>
    refine Goes.comment (r := r ++ y) ?_
    rcases dropW_app r y with ⟨_, e⟩ | ⟨e0, e⟩
    · rw [e]; exact ih
    · rw [e, hs.drop]
      rw [e0] at hr
      obtain rfl : ts = [] := by have := hr.toks; exact (Option.some.inj this).symm
      exact .line ht
  | line _ ih => exact .line ih
  | @op c r o x ts hc h he hr ih => exact Goes.op (r := r ++ y) (x := x ++ y) hc (by rw [lead_sep hh]; exact h) (by rw [← List.cons_append, he, List.append_assoc]) ih
  | @word c r a x ts hc h he hw hr ih =>
    refine Goes.word (r := r ++ y) (x := x ++ y) hc (by rw [lead_sep hh]; exact h) (by rw [← List.cons_append, he, List.append_assoc]) ?_ ih
    refine word_sim _ a x (x ++ y) (Nat.le_refl _) hw ?_ ?_
    · intro b hb
      cases x with
      | nil => exact hs.stop.1 b hb
      | cons z x => exact word_end _ _ _ (Nat.le_refl _) hw b (by rw [List.drop_left]; exact hb)
    · cases x with
      | nil => exact fun ho => absurd ho hs.stop.2
      | cons z x => exact id

/-! ### Told again -/
def glue (ts : List Tok) : List UInt8 := ts.flatMap fun t => t.text ++ [32]
theorem goes_again {l : List UInt8} {ts : List Tok} (h : Goes l ts) : Goes (glue ts) ts := by
  induction h with
  | nil => exact .nil
  | blank _ _ ih => exact ih
  | comment _ ih => exact ih
  | line _ ih => exact .line (.blank (.inl rfl) ih)
  | @op c r o x ts hc h he hr ih =>
    have ho := lead_some h
    obtain ⟨b, o, rfl⟩ : ∃ b o', o = b :: o' := by
      cases o with
      | nil => simp at ho
      | cons b o => exact ⟨b, o, rfl⟩
    obtain ⟨rfl, rfl⟩ := List.cons.inj (he.trans (List.cons_append ..))
    have e : glue (⟨1, c :: o⟩ :: ts) = c :: (o ++ (32 :: glue ts)) := by simp [glue]
    rw [e]
    refine .op (x := 32 :: glue ts) hc ?_ rfl (.blank (.inl rfl) ih)
    rw [lead_is] at h ⊢
    split at h
    · rename_i h1
      rw [if_pos h1]
      split at h
      · rename_i h2
        obtain rfl : o = [c] := by have := Option.some.inj h; simp at this; exact this.symm
        rw [if_pos ⟨rfl, h2.2⟩]
      · obtain rfl : o = [] := by have := Option.some.inj h; simpa using this
        rw [if_neg (fun hk => by obtain ⟨hk, h3⟩ := hk; obtain rfl := Option.some.inj hk; cases h3)]
    · cases h
  | @word c r a x ts hc h he hw hr ih =>
    have h1 := word_pos (lead_none h hc.1 hc.2.1 hc.2.2.2) (by rw [he]; exact hw)
    obtain ⟨b, a, rfl⟩ : ∃ b a', a = b :: a' := by
      cases a with
      | nil => simp at h1
      | cons b a => exact ⟨b, a, rfl⟩
    obtain ⟨rfl, rfl⟩ := List.cons.inj (he.trans (List.cons_append ..))
    have e : glue (⟨0, c :: a⟩ :: ts) = c :: (a ++ (32 :: glue ts)) := by simp [glue]
    rw [e]
    refine .word (a := c :: a) (x := 32 :: glue ts) hc ?_ rfl ?_ (.blank (.inl rfl) ih)
    · rw [lead_is] at h ⊢
      split at h
      · split at h <;> cases h
      · rename_i h1; rw [if_neg h1]
    · refine word_sim _ (c :: a) x _ (Nat.le_refl _) hw (fun b hb => ?_) (fun ho => ?_)
      · obtain rfl := Option.some.inj hb; rfl
      · rcases ho with ho | ho <;> cases ho
theorem goes_size {l : List UInt8} {ts : List Tok} (h : Goes l ts) : (glue ts).length ≤ 2 * l.length ∧ ts.length ≤ l.length := by
  induction h with
  | nil => exact ⟨Nat.le_refl _, Nat.le_refl _⟩
  | blank _ _ ih => rw [List.length_cons]; omega
  | @comment r _ _ ih => have := dropW_le r; rw [List.length_cons]; omega
  | line _ ih => simp [glue] at ih ⊢; omega
  | @op c r o x ts hc h he hr ih =>
    have ho := (lead_some h).1
    have := congrArg List.length he
    simp [glue] at ih this ⊢; omega
  | @word c r a x ts hc h he hw hr ih =>
    have h1 := word_pos (lead_none h hc.1 hc.2.1 hc.2.2.2) (by rw [he]; exact hw)
    have := congrArg List.length he
    simp [glue] at ih this ⊢; omega

/-! ### Round by round -/
/-- So far acc, and r is left. -/
structure Left (s : List UInt8) (acc : List Tok) (r : List UInt8) : Prop where
  eq : toks s = (toks r).map (acc ++ ·)
  len : acc.length + r.length ≤ s.length
theorem Left.start (s : List UInt8) : Left s [] s := ⟨by cases toks s <;> rfl, by simp⟩
theorem Left.blank {s : List UInt8} {acc : List Tok} {c : UInt8} {r : List UInt8} (h : Left s acc (c :: r)) (hc : c = 32 ∨ c = 9) : Left s acc r :=
  ⟨by rw [h.eq, toks_blank hc], by have := h.len; rw [List.length_cons] at this; omega⟩
theorem Left.comment {s : List UInt8} {acc : List Tok} {r : List UInt8} (h : Left s acc (35 :: r)) : Left s acc (r.dropWhile (· ≠ 10)) :=
  ⟨by rw [h.eq, toks_comment], by have := h.len; have := dropW_le r; rw [List.length_cons] at *; omega⟩
theorem Left.line {s : List UInt8} {acc : List Tok} {r : List UInt8} (h : Left s acc (10 :: r)) : Left s (acc ++ [⟨2, [10]⟩]) r :=
  ⟨by rw [h.eq, toks_line]; cases toks r <;> simp, by have := h.len; simp at *; omega⟩
theorem Left.op {s : List UInt8} {acc : List Tok} {c : UInt8} {r o : List UInt8} (h : Left s acc (c :: r)) (hc : plain c) (hl : lead (c :: r) = some o) : Left s (acc ++ [⟨1, o⟩]) ((c :: r).drop o.length) := by
  refine ⟨by rw [h.eq, toks_op hc hl]; cases toks ((c :: r).drop o.length) <;> simp, ?_⟩
  have := h.len; have := (lead_some hl).1; rw [List.length_append, List.length_drop]; simp at *; omega
theorem Left.word {s : List UInt8} {acc : List Tok} {c : UInt8} {r : List UInt8} {k : Nat} (h : Left s acc (c :: r)) (hc : plain c) (hl : lead (c :: r) = none) (hw : word (c :: r) = some k) : Left s (acc ++ [⟨0, (c :: r).take k⟩]) ((c :: r).drop k) := by
  refine ⟨by rw [h.eq, toks_word hc hl hw]; cases toks ((c :: r).drop k) <;> simp, ?_⟩
  have := h.len; have := word_pos (lead_none hl hc.1 hc.2.1 hc.2.2.2) hw; rw [List.length_append, List.length_drop]; simp at *; omega
theorem Left.bad {s : List UInt8} {acc : List Tok} {c : UInt8} {r : List UInt8} (h : Left s acc (c :: r)) (hc : plain c) (hl : lead (c :: r) = none) (hw : Lx.word (c :: r) = none) : toks s = none := by rw [h.eq, toks_bad hc hl hw]; rfl
theorem Left.done {s : List UInt8} {acc : List Tok} (h : Left s acc []) : toks s = some acc := by rw [h.eq, toks_nil]; simp
end Lx
end Go.Proofs.YtphgnjjblpmijaaDoor

/-
  A word's parts, as plain Lean functions on lists of bytes. Nothing of the program stands here.
-/
namespace Go.Proofs.YtphgnjjblpmijaaDoor
namespace Wx
open Lx

/-- A part: its kind, is it quoted, its text, name, operator and word. -/
inductive Pt where
  | mk (kind : Int) (q : Bool) (text name op : List UInt8) (word : List Pt)
def Pt.kind : Pt → Int | mk k _ _ _ _ _ => k
def Pt.q : Pt → Bool | mk _ q _ _ _ _ => q
def Pt.text : Pt → List UInt8 | mk _ _ t _ _ _ => t
def Pt.name : Pt → List UInt8 | mk _ _ _ n _ _ => n
def Pt.op : Pt → List UInt8 | mk _ _ _ _ o _ => o
def Pt.word : Pt → List Pt | mk _ _ _ _ _ w => w
/-- A text. -/
def txt (q : Bool) (l : List UInt8) : Pt := .mk 0 q l [] [] []

/-! ### Names -/
def letter (c : UInt8) : Bool := (65 ≤ c && c ≤ 90) || (97 ≤ c && c ≤ 122) || c == 95
def digit (c : UInt8) : Bool := 48 ≤ c && c ≤ 57
def special (c : UInt8) : Bool := digit c || c == 35 || c == 63 || c == 64 || c == 42
/-- How long the variable's name ahead is. -/
def nameL : List UInt8 → Nat
  | [] => 0
  | c :: r => if letter c then 1 + (r.takeWhile fun c => letter c || digit c).length else 0
/-- How long the parameter's name ahead is. -/
def paramL (s : List UInt8) : Nat :=
  if 0 < nameL s then nameL s else
  if 0 < (s.takeWhile digit).length then (s.takeWhile digit).length else
  match s with
  | [] => 0
  | c :: _ => if special c then 1 else 0

/-! ### Parts side by side -/
/-- Two texts that are quoted alike. -/
def alike (a p : Pt) : Bool := p.kind == 0 && a.kind == 0 && a.q == p.q
/-- The first one, with the second one's text. -/
def joined : Pt → Pt → Pt
  | .mk k q t n o w, p => .mk k q (t ++ p.text) n o w
/-- One more part; texts side by side that are quoted alike are one. -/
def add (l : List Pt) (p : Pt) : List Pt :=
  match l.getLast? with
  | none => [p]
  | some a => if alike a p then l.dropLast ++ [joined a p] else l ++ [p]
mutual
/-- All quoted, gathered onto what there is. -/
def quotesOn : List Pt → List Pt → List Pt
  | acc, [] => acc
  | acc, p :: l => quotesOn (add acc (quoteP p)) l
def quoteP : Pt → Pt
  | .mk k _ t n o w => .mk k true t n o (quotesOn [] w)
end
def quotes (l : List Pt) : List Pt := quotesOn [] l
mutual
/-- Is there a command? -/
def cmds : List Pt → Bool
  | [] => false
  | p :: l => cmdP p || cmds l
def cmdP : Pt → Bool
  | .mk k _ _ _ _ w => k == 2 || cmds w
end
mutual
/-- Lists that are alike. -/
def same : List Pt → List Pt → Bool
  | [], [] => true
  | p :: l, r :: m => sameP p r && same l m
  | _, _ => false
def sameP : Pt → Pt → Bool
  | .mk k q t n o w, .mk k' q' t' n' o' w' => k == k' && q == q' && t == t' && n == n' && o == o' && same w w'
end

/-! ### Reading -/
def wops : List (List UInt8) := [[58, 45], [58, 61], [58, 63], [58, 43], [37, 37], [35, 35], [45], [61], [63], [43], [37], [35]]
/-- The operator ahead. -/
def opL (s : List UInt8) : Option (List UInt8) := wops.find? fun o => o.isPrefixOf s
def lenOp : List UInt8 := [108, 101, 110]
/-- What is within braces; w reads the word behind an operator. -/
def braces (w : List UInt8 → Except Int (List Pt)) (q : Bool) (s : List UInt8) : Except Int Pt :=
  if 1 < s.length ∧ s.head? = some 35 ∧ paramL (s.drop 1) = s.length - 1 then .ok (.mk 1 q [] (s.drop 1) lenOp [])
  else if paramL s = 0 then .error 90
  else if s.drop (paramL s) = [] then .ok (.mk 1 q [] (s.take (paramL s)) [] [])
  else match opL (s.drop (paramL s)) with
    | none => .error 90
    | some o =>
      if (o = [61] ∨ o = [58, 61]) ∧ nameL (s.take (paramL s)) = 0 then .error 90
      else match w (s.drop (paramL s + o.length)) with
        | .error e => .error e
        | .ok l => if cmds l then .error 90 else .ok (.mk 1 q [] (s.take (paramL s)) o (if q then quotes l else l))
/-- What a dollar ahead begins, and how long it is. -/
def dollar (w : List UInt8 → Except Int (List Pt)) (q : Bool) (s : List UInt8) : Except Int (Pt × Nat) :=
  let r := s.drop 1
  if r.head? = some 40 ∨ r.head? = some 123 then
    match unit 30 0 s with
    | none => .error 90
    | some k =>
      if r.head? = some 123 then (braces w q ((s.take (k - 1)).drop 2)).map fun p => (p, k)
      else if 4 < k ∧ s[2]? = some 40 ∧ s[k - 2]? = some 41 then .ok (.mk 3 q ((s.take (k - 2)).drop 3) [] [] [], k)
      else .ok (.mk 2 q ((s.take (k - 1)).drop 2) [] [] [], k)
  else
    let n := if nameL r = 0 ∧ (r.head?.map special) = some true then 1 else nameL r
    if n = 0 then .ok (txt q [36], 1) else .ok (.mk 1 q [] (r.take n) [] [], n + 1)
/-- One step within double quotes. -/
def step2 (w : List UInt8 → Except Int (List Pt)) : List UInt8 → Except Int (Pt × Nat)
  | [] => .error 90
  | c :: r =>
    if c = 36 then dollar w true (c :: r)
    else if c = 92 ∧ (r.head? = some 36 ∨ r.head? = some 96 ∨ r.head? = some 34 ∨ r.head? = some 92) then .ok (txt true (r.take 1), 2)
    else .ok (txt true [c], 1)
def doubleF (w : List UInt8 → Except Int (List Pt)) : Nat → List UInt8 → List Pt → Except Int (List Pt)
  | _, [], acc => .ok acc
  | 0, _ :: _, _ => .error 90
  | n + 1, c :: r, acc =>
    match step2 w (c :: r) with
    | .error e => .error e
    | .ok (p, k) => doubleF w n ((c :: r).drop k) (add acc p)
/-- What is within double quotes. -/
def double (w : List UInt8 → Except Int (List Pt)) (s : List UInt8) : Except Int (List Pt) :=
  if s = [] then .ok [txt true []] else doubleF w s.length s []
/-- One step. -/
def step1 (w : List UInt8 → Except Int (List Pt)) : List UInt8 → Except Int (List Pt × Nat)
  | [] => .error 90
  | c :: r =>
    if c = 92 ∨ c = 39 ∨ c = 34 then
      match unit 30 0 (c :: r) with
      | none => .error 90
      | some k =>
        if c = 92 then .ok ([txt true (r.take 1)], k)
        else if c = 39 then .ok ([txt true (r.take (k - 2))], k)
        else (double w (r.take (k - 2))).map fun l => (l, k)
    else if c = 36 then (dollar w false (c :: r)).map fun x => ([x.1], x.2)
    else .ok ([txt false [c]], 1)
def partsF (w : List UInt8 → Except Int (List Pt)) : Nat → List UInt8 → List Pt → Except Int (List Pt)
  | _, [], acc => .ok acc
  | 0, _ :: _, _ => .error 90
  | n + 1, c :: r, acc =>
    match step1 w (c :: r) with
    | .error e => .error e
    | .ok (l, k) => partsF w n ((c :: r).drop k) (l.foldl add acc)
/-- A text's parts; d levels are left. -/
def parts : Nat → List UInt8 → Except Int (List Pt)
  | 0, _ => .error 2
  | d + 1, s => partsF (parts d) s.length s []

/-! ### Telling -/
def single (l : List UInt8) : List UInt8 := 39 :: (l.flatMap fun c => if c = 39 then [39, 92, 39, 39] else [c]) ++ [39]
def about (q : Bool) (l : List UInt8) : List UInt8 := if q then 34 :: l ++ [34] else l
mutual
def print : List Pt → List UInt8
  | [] => []
  | p :: l => printP p ++ print l
def printP : Pt → List UInt8
  | .mk k q t n o w =>
    if k = 0 then (if q then single t else t)
    else if k = 2 then about q ([36, 40] ++ t ++ [41])
    else if k = 3 then about q ([36, 40, 40] ++ t ++ [41, 41])
    else if k = 1 then about q (if o = lenOp then [36, 123, 35] ++ n ++ [125] else [36, 123] ++ n ++ o ++ print w ++ [125])
    else about q []
end

/-! ### How far a step goes -/
theorem nameL_le (s : List UInt8) : nameL s ≤ s.length := by
  cases s with
  | nil => exact Nat.le_refl _
  | cons c r =>
    show (if letter c = true then 1 + (r.takeWhile fun c => letter c || digit c).length else 0) ≤ _
    split
    · have := (List.takeWhile_prefix (l := r) (fun c => letter c || digit c)).length_le
      rw [List.length_cons]; omega
    · omega
theorem paramL_le (s : List UInt8) : paramL s ≤ s.length := by
  have h1 := nameL_le s
  have h2 := (List.takeWhile_prefix (l := s) digit).length_le
  unfold paramL
  split
  · exact h1
  · split
    · exact h2
    · split
      · simp
      · split <;> simp
/-- How long the name behind a dollar is. -/
def dName (r : List UInt8) : Nat := if nameL r = 0 ∧ (r.head?.map special) = some true then 1 else nameL r
theorem dName_le (r : List UInt8) : dName r ≤ r.length := by
  unfold dName
  split
  · rename_i h4
    cases r with
    | nil => simp at h4
    | cons c r => simp
  · exact nameL_le _
theorem dollar_unit {w : List UInt8 → Except Int (List Pt)} {q : Bool} {s : List UInt8} (h : (s.drop 1).head? = some 40 ∨ (s.drop 1).head? = some 123) : dollar w q s =
    match unit 30 0 s with
    | none => .error 90
    | some k =>
      if (s.drop 1).head? = some 123 then (braces w q ((s.take (k - 1)).drop 2)).map fun p => (p, k)
      else if 4 < k ∧ s[2]? = some 40 ∧ s[k - 2]? = some 41 then .ok (.mk 3 q ((s.take (k - 2)).drop 3) [] [] [], k)
      else .ok (.mk 2 q ((s.take (k - 1)).drop 2) [] [] [], k) := by
  unfold dollar
  simp only []
  rw [if_pos h]
theorem dollar_name {w : List UInt8 → Except Int (List Pt)} {q : Bool} {s : List UInt8} (h : ¬ ((s.drop 1).head? = some 40 ∨ (s.drop 1).head? = some 123)) : dollar w q s =
    if dName (s.drop 1) = 0 then .ok (txt q [36], 1) else .ok (.mk 1 q [] ((s.drop 1).take (dName (s.drop 1))) [] [], dName (s.drop 1) + 1) := by
  unfold dollar dName
  simp only []
  rw [if_neg h]
theorem dollar_le {w : List UInt8 → Except Int (List Pt)} {q : Bool} {s : List UInt8} {p : Pt} {k : Nat} (hs : s ≠ []) (h : dollar w q s = .ok (p, k)) : 1 ≤ k ∧ k ≤ s.length := by
  have hl := List.length_pos_iff.2 hs
  by_cases hu : (s.drop 1).head? = some 40 ∨ (s.drop 1).head? = some 123
  · rw [dollar_unit hu] at h
    cases hk : unit 30 0 s with
    | none => rw [hk] at h; cases h
    | some j =>
      have hj := unit_le _ hk
      rw [hk] at h
      simp only [] at h
      split at h
      · cases hb : braces w q ((s.take (j - 1)).drop 2) with
        | error e => rw [hb] at h; cases h
        | ok x => rw [hb] at h; cases h; exact hj
      · split at h <;> (cases h; exact hj)
  · rw [dollar_name hu] at h
    have h3 := dName_le (s.drop 1)
    rw [List.length_drop] at h3
    split at h
    · injection h with h; injection h with _ h; omega
    · injection h with h; injection h with _ h; omega
theorem step2_le {w : List UInt8 → Except Int (List Pt)} {s : List UInt8} {p : Pt} {k : Nat} (h : step2 w s = .ok (p, k)) : 1 ≤ k ∧ k ≤ s.length := by
  cases s with
  | nil => cases h
  | cons c r =>
    rw [step2] at h
    split at h
    · exact dollar_le (by simp) h
    · split at h
      · rename_i h2
        injection h with h; injection h with _ h
        have : r ≠ [] := fun e => by rw [e] at h2; simp at h2
        have := List.length_pos_iff.2 this
        rw [List.length_cons]; omega
      · injection h with h; injection h with _ h
        rw [List.length_cons]; omega
theorem step1_le {w : List UInt8 → Except Int (List Pt)} {s : List UInt8} {l : List Pt} {k : Nat} (h : step1 w s = .ok (l, k)) : 1 ≤ k ∧ k ≤ s.length := by
  cases s with
  | nil => cases h
  | cons c r =>
    rw [step1] at h
    split at h
    · cases hk : unit 30 0 (c :: r) with
      | none => rw [hk] at h; cases h
      | some j =>
        have hj := unit_le _ hk
        rw [hk] at h
        simp only [] at h
        split at h
        · injection h with h; injection h with _ h; omega
        · split at h
          · injection h with h; injection h with _ h; omega
          · cases hd : double w (r.take (j - 2)) with
            | error e => rw [hd] at h; cases h
            | ok x => rw [hd] at h; cases h; exact hj
    · split at h
      · cases hd : dollar w false (c :: r) with
        | error e => rw [hd] at h; cases h
        | ok x =>
          rw [hd] at h
          injection h with h; injection h with _ h
          have := dollar_le (p := x.1) (k := x.2) (by simp) hd
          omega
      · injection h with h; injection h with _ h
        rw [List.length_cons]; omega
theorem doubleF_more {w : List UInt8 → Except Int (List Pt)} : ∀ (n m : Nat) (l : List UInt8) (acc : List Pt), l.length ≤ n → l.length ≤ m → doubleF w n l acc = doubleF w m l acc
  | 0, 0, _, _, _, _ => rfl
  | 0, m + 1, [], _, _, _ => rfl
  | n + 1, 0, [], _, _, _ => rfl
  | 0, _, c :: r, _, h, _ => by simp at h
  | _, 0, c :: r, _, _, h => by simp at h
  | n + 1, m + 1, [], _, _, _ => rfl
  | n + 1, m + 1, c :: r, acc, h, h2 => by
    rw [doubleF, doubleF]
    cases hs : step2 w (c :: r) with
    | error e => rfl
    | ok x =>
      obtain ⟨p, k⟩ := x
      have := step2_le hs
      rw [List.length_cons] at *
      simp only []
      exact doubleF_more n m _ _ (by rw [List.length_drop, List.length_cons]; omega) (by rw [List.length_drop, List.length_cons]; omega)
theorem partsF_more {w : List UInt8 → Except Int (List Pt)} : ∀ (n m : Nat) (l : List UInt8) (acc : List Pt), l.length ≤ n → l.length ≤ m → partsF w n l acc = partsF w m l acc
  | 0, 0, _, _, _, _ => rfl
  | 0, m + 1, [], _, _, _ => rfl
  | n + 1, 0, [], _, _, _ => rfl
  | 0, _, c :: r, _, h, _ => by simp at h
  | _, 0, c :: r, _, _, h => by simp at h
  | n + 1, m + 1, [], _, _, _ => rfl
  | n + 1, m + 1, c :: r, acc, h, h2 => by
    rw [partsF, partsF]
    cases hs : step1 w (c :: r) with
    | error e => rfl
    | ok x =>
      obtain ⟨p, k⟩ := x
      have := step1_le hs
      rw [List.length_cons] at *
      simp only []
      exact partsF_more n m _ _ (by rw [List.length_drop, List.length_cons]; omega) (by rw [List.length_drop, List.length_cons]; omega)
/-- What is read of a text, behind what there is. -/
def doubleOn (w : List UInt8 → Except Int (List Pt)) (l : List UInt8) (acc : List Pt) : Except Int (List Pt) := doubleF w l.length l acc
def partsOn (w : List UInt8 → Except Int (List Pt)) (l : List UInt8) (acc : List Pt) : Except Int (List Pt) := partsF w l.length l acc
theorem doubleOn_nil {w : List UInt8 → Except Int (List Pt)} {acc : List Pt} : doubleOn w [] acc = .ok acc := rfl
theorem partsOn_nil {w : List UInt8 → Except Int (List Pt)} {acc : List Pt} : partsOn w [] acc = .ok acc := rfl
theorem doubleOn_bad {w : List UInt8 → Except Int (List Pt)} {c : UInt8} {r : List UInt8} {acc : List Pt} {e : Int} (h : step2 w (c :: r) = .error e) : doubleOn w (c :: r) acc = .error e := by
  unfold doubleOn
  rw [List.length_cons, doubleF, h]
theorem doubleOn_go {w : List UInt8 → Except Int (List Pt)} {c : UInt8} {r : List UInt8} {acc : List Pt} {p : Pt} {k : Nat} (h : step2 w (c :: r) = .ok (p, k)) : doubleOn w (c :: r) acc = doubleOn w ((c :: r).drop k) (add acc p) := by
  have := step2_le h
  unfold doubleOn
  conv => lhs; rw [List.length_cons, doubleF, h]
  exact doubleF_more _ _ _ _ (by rw [List.length_drop, List.length_cons] at *; omega) (by omega)
theorem partsOn_bad {w : List UInt8 → Except Int (List Pt)} {c : UInt8} {r : List UInt8} {acc : List Pt} {e : Int} (h : step1 w (c :: r) = .error e) : partsOn w (c :: r) acc = .error e := by
  unfold partsOn
  rw [List.length_cons, partsF, h]
theorem partsOn_go {w : List UInt8 → Except Int (List Pt)} {c : UInt8} {r : List UInt8} {acc : List Pt} {l : List Pt} {k : Nat} (h : step1 w (c :: r) = .ok (l, k)) : partsOn w (c :: r) acc = partsOn w ((c :: r).drop k) (l.foldl add acc) := by
  have := step1_le h
  unfold partsOn
  conv => lhs; rw [List.length_cons, partsF, h]
  exact partsF_more _ _ _ _ (by rw [List.length_drop, List.length_cons] at *; omega) (by omega)
end Wx
end Go.Proofs.YtphgnjjblpmijaaDoor

/-
  A unit that ends needs no more levels than half its length. Nothing of the program stands here.
-/
namespace Go.Proofs.YtphgnjjblpmijaaDoor
namespace Wx
open Lx

theorem nest_enough {d c : Nat} {e : UInt8} (hu : ∀ l k, unit d e l = some k → k + 1 ≤ 2 * c → unit c e l = some k) : ∀ (n : Nat) (l : List UInt8) (j : Nat), l.length ≤ n → nest d e l = some j → j ≤ 2 * c → nest c e l = some j
  | _, [], _, _, h, _ => by rw [nest_nil] at h; cases h
  | 0, _ :: _, _, hn, _, _ => by simp at hn
  | n + 1, x :: r, j, hn, h, hj => by
    by_cases hx : x = e
    · subst hx
      rw [nest_end] at h ⊢
      exact h
    · cases hk : unit d e (x :: r) with
      | none => rw [nest_bad hx hk] at h; cases h
      | some k =>
        rw [nest_on hx hk] at h
        obtain ⟨i, hi, rfl⟩ := Option.map_eq_some_iff.1 h
        have h1 := unit_le _ hk
        have h2 := nest_le hi
        rw [nest_on hx (hu _ _ hk (by omega)), nest_enough hu n _ i (by rw [List.length_drop]; omega) hi (by omega)]
        rfl
theorem unit_enough : ∀ (d c : Nat) (e : UInt8) (l : List UInt8) (k : Nat), unit d e l = some k → k + 1 ≤ 2 * c → unit c e l = some k
  | 0, _, _, _, _, h, _ => by cases h
  | d + 1, 0, e, l, k, h, hc => by omega
  | d + 1, c + 1, e, [], k, h, _ => by cases h
  | d + 1, c + 1, e, x :: r, k, h, hc => by
    have hN : ∀ (z : UInt8) (m : List UInt8) (j : Nat), nest d z m = some j → j ≤ 2 * c → nest c z m = some j := fun z m j => nest_enough (fun l k => unit_enough d c z l k) _ m j (Nat.le_refl _)
    rw [unit_step] at h ⊢
    split at h
    · rename_i h0; rw [if_pos h0]; exact h
    · rename_i h0
      rw [if_neg h0]
      split at h
      · rename_i h1; rw [if_pos h1]; exact h
      · rename_i h1
        rw [if_neg h1]
        split at h
        · rename_i h2
          obtain ⟨j, hj, rfl⟩ := Option.map_eq_some_iff.1 h
          rw [if_pos h2, hN _ _ _ hj (by omega)]; rfl
        · rename_i h2
          rw [if_neg h2]
          split at h
          · rename_i h3
            obtain ⟨j, hj, rfl⟩ := Option.map_eq_some_iff.1 h
            rw [if_pos h3, hN _ _ _ hj (by omega)]; rfl
          · rename_i h3
            rw [if_neg h3]
            split at h
            · rename_i h4
              obtain ⟨j, hj, rfl⟩ := Option.map_eq_some_iff.1 h
              rw [if_pos h4, hN _ _ _ hj (by omega)]; rfl
            · rename_i h4
              rw [if_neg h4]
              split at h
              · rename_i h5
                obtain ⟨j, hj, rfl⟩ := Option.map_eq_some_iff.1 h
                rw [if_pos h5, hN _ _ _ hj (by omega)]; rfl
              · rename_i h5; rw [if_neg h5]; exact h
/-- The same, where more levels are left. -/
theorem nest_more {d : Nat} {e : UInt8} (hu : ∀ l k, unit d e l = some k → unit (d + 1) e l = some k) : ∀ (n : Nat) (l : List UInt8) (j : Nat), l.length ≤ n → nest d e l = some j → nest (d + 1) e l = some j
  | _, [], _, _, h => by rw [nest_nil] at h; cases h
  | 0, _ :: _, _, hn, _ => by simp at hn
  | n + 1, x :: r, j, hn, h => by
    by_cases hx : x = e
    · subst hx
      rw [nest_end] at h ⊢
      exact h
    · cases hk : unit d e (x :: r) with
      | none => rw [nest_bad hx hk] at h; cases h
      | some k =>
        rw [nest_on hx hk] at h
        obtain ⟨i, hi, rfl⟩ := Option.map_eq_some_iff.1 h
        have h1 := unit_le _ hk
        rw [nest_on hx (hu _ _ hk), nest_more hu n _ i (by rw [List.length_drop]; omega) hi]
        rfl
theorem unit_more1 : ∀ (d : Nat) (e : UInt8) (l : List UInt8) (k : Nat), unit d e l = some k → unit (d + 1) e l = some k
  | 0, _, _, _, h => by cases h
  | d + 1, e, [], k, h => by cases h
  | d + 1, e, x :: r, k, h => by
    have hN : ∀ (z : UInt8) (m : List UInt8) (j : Nat), nest d z m = some j → nest (d + 1) z m = some j := fun z m j => nest_more (fun l k => unit_more1 d z l k) _ m j (Nat.le_refl _)
    rw [unit_step] at h ⊢
    split at h
    · rename_i h0; rw [if_pos h0]; exact h
    · rename_i h0
      rw [if_neg h0]
      split at h
      · rename_i h1; rw [if_pos h1]; exact h
      · rename_i h1
        rw [if_neg h1]
        split at h
        · rename_i h2
          obtain ⟨j, hj, rfl⟩ := Option.map_eq_some_iff.1 h
          rw [if_pos h2, hN _ _ _ hj]; rfl
        · rename_i h2
          rw [if_neg h2]
          split at h
          · rename_i h3
            obtain ⟨j, hj, rfl⟩ := Option.map_eq_some_iff.1 h
            rw [if_pos h3, hN _ _ _ hj]; rfl
          · rename_i h3
            rw [if_neg h3]
            split at h
            · rename_i h4
              obtain ⟨j, hj, rfl⟩ := Option.map_eq_some_iff.1 h
              rw [if_pos h4, hN _ _ _ hj]; rfl
            · rename_i h4
              rw [if_neg h4]
              split at h
              · rename_i h5
                obtain ⟨j, hj, rfl⟩ := Option.map_eq_some_iff.1 h
                rw [if_pos h5, hN _ _ _ hj]; rfl
              · rename_i h5; rw [if_neg h5]; exact h
theorem unit_more {d c : Nat} {e : UInt8} {l : List UInt8} {k : Nat} (h : unit d e l = some k) (hd : d ≤ c) : unit c e l = some k := by
  obtain ⟨m, rfl⟩ : ∃ m, c = d + m := ⟨c - d, by omega⟩
  clear hd
  induction m with
  | zero => exact h
  | succ m ih => exact unit_more1 _ _ _ _ ih
end Wx
end Go.Proofs.YtphgnjjblpmijaaDoor

/-
  Parts that were read have a form: what is told of these is read as it was (first half: what is told, unit by unit). Nothing of the program stands here.
-/
namespace Go.Proofs.YtphgnjjblpmijaaDoor
namespace Wx
open Lx

/-! ### The form -/
/-- What may stand behind a dollar that is a text. -/
def okBy (l : List UInt8) : Prop := ∀ c, l.head? = some c → c ≠ 40 ∧ c ≠ 123 ∧ letter c = false ∧ special c = false
/-- An unquoted text; b: it stands in braces. -/
def plainT (b : Bool) : List UInt8 → Prop
  | [] => True
  | c :: r => c ≠ 92 ∧ c ≠ 39 ∧ c ≠ 34 ∧ (c = 36 → okBy r) ∧ (b = true → c ≠ 125) ∧ plainT b r
/-- A parameter's name. -/
def NameOk (n : List UInt8) : Prop := n ≠ [] ∧ paramL n = n.length
mutual
/-- All quoted, at any depth. -/
def AllQ : List Pt → Prop
  | [] => True
  | p :: l => AllQP p ∧ AllQ l
def AllQP : Pt → Prop
  | .mk _ q _ _ _ w => q = true ∧ AllQ w
end
/-- What holds of an operator and of the word behind it. -/
def OpOk (n o : List UInt8) (w : List Pt) : Prop :=
  o ∈ wops ∧ (o = [37] → (print w).head? ≠ some 37) ∧ (o = [35] → (print w).head? ≠ some 35) ∧ (n = [35] → o = [35] ∨ o = [63] → print w ≠ []) ∧ ((o = [61] ∨ o = [58, 61]) → nameL n ≠ 0)
mutual
/-- Parts as they are read; b: in braces. -/
def CanL (b : Bool) : List Pt → Prop
  | [] => True
  | p :: l => CanP b p ∧ (∀ r, l.head? = some r → alike p r = false) ∧ CanL b l
def CanP (b : Bool) : Pt → Prop
  | .mk k q t n o w =>
    (k = 0 ∧ n = [] ∧ o = [] ∧ w = [] ∧ (q = false → t ≠ [] ∧ plainT b t)) ∨
    (k = 2 ∧ n = [] ∧ o = [] ∧ w = [] ∧ nest 29 41 (t ++ [41]) = some (t.length + 1) ∧ ¬ (t.head? = some 40 ∧ t.getLast? = some 41 ∧ 2 ≤ t.length)) ∨
    (k = 3 ∧ n = [] ∧ o = [] ∧ w = [] ∧ nest 29 41 (40 :: t ++ [41, 41]) = some (t.length + 3)) ∨
    (k = 1 ∧ t = [] ∧ NameOk n ∧ ((o = lenOp ∧ w = []) ∨ (o = [] ∧ w = []) ∨ (OpOk n o w ∧ cmds w = false ∧ CanL true w ∧ (q = true → AllQ w))))
end
mutual
/-- How many levels a list's text needs, at most. -/
def needL : List Pt → Nat
  | [] => 1
  | p :: l => max (needP p) (needL l)
def needP : Pt → Nat
  | .mk k _ t _ _ w => if k = 0 then 1 else if k = 1 then 2 + needL w else if k = 2 then (t.length + 7) / 2 else (t.length + 9) / 2
end
theorem needL_pos : ∀ (l : List Pt), 1 ≤ needL l
  | [] => by rw [needL]; omega
  | p :: l => by rw [needL]; have := needL_pos l; omega

/-! ### Names, operators -/
theorem takeW_app {f : UInt8 → Bool} : ∀ (l : List UInt8) {x : List UInt8}, (l.takeWhile f).length = l.length → (∀ c, x.head? = some c → f c = false) → ((l ++ x).takeWhile f).length = l.length
  | [], [], _, _ => rfl
  | [], c :: x, _, h => by
    rw [List.nil_append, List.takeWhile_cons, if_neg (by simp [h c rfl])]
  | c :: l, x, h, hx => by
    rw [List.cons_append, List.takeWhile_cons]
    rw [List.takeWhile_cons] at h
    by_cases hc : f c = true
    · rw [if_pos hc] at h ⊢
      rw [List.length_cons, List.length_cons, takeW_app l (by simpa using h) hx]
    · rw [if_neg hc] at h
      simp at h
theorem special_digit {c : UInt8} (h : digit c = true) : special c = true := by unfold special; rw [h]; rfl
theorem paramL_app {n x : List UInt8} (hn : NameOk n) (hx : ∀ c, x.head? = some c → letter c = false ∧ digit c = false) : paramL (n ++ x) = n.length := by
  obtain ⟨h0, h1⟩ := hn
  cases n with
  | nil => exact absurd rfl h0
  | cons c r =>
    by_cases hL : letter c = true
    · have e1 : nameL (c :: r) = 1 + (r.takeWhile fun c => letter c || digit c).length := if_pos hL
      have e2 : nameL (c :: r ++ x) = 1 + ((r ++ x).takeWhile fun c => letter c || digit c).length := if_pos hL
      unfold paramL at h1 ⊢
      rw [if_pos (by omega)] at h1 ⊢
      rw [e1, List.length_cons] at h1
      rw [e2, takeW_app r (by omega) (fun c hc => by simp [hx c hc]), List.length_cons]
      omega
    · have e1 : nameL (c :: r) = 0 := if_neg hL
      have e2 : nameL (c :: r ++ x) = 0 := if_neg hL
      unfold paramL at h1 ⊢
      rw [if_neg (by omega)] at h1 ⊢
      by_cases hD : digit c = true
      · have p1 : 0 < ((c :: r).takeWhile digit).length := by rw [List.takeWhile_cons, if_pos hD]; simp
        have p2 : 0 < ((c :: r ++ x).takeWhile digit).length := by rw [List.cons_append, List.takeWhile_cons, if_pos hD]; simp
        rw [if_pos p1] at h1
        rw [if_pos p2]
        exact takeW_app _ h1 fun c hc => (hx c hc).2
      · have p1 : ¬ 0 < ((c :: r).takeWhile digit).length := by rw [List.takeWhile_cons, if_neg hD]; simp
        have p2 : ¬ 0 < ((c :: r ++ x).takeWhile digit).length := by rw [List.cons_append, List.takeWhile_cons, if_neg hD]; simp
        rw [if_neg p1] at h1
        rw [if_neg p2]
        simp only [List.cons_append] at h1 ⊢
        by_cases hS : special c = true
        · rw [if_pos hS] at h1 ⊢; exact h1
        · rw [if_neg hS] at h1; simp at h1
/-- Bytes of names and operators: each is a unit alone. -/
def lone (c : UInt8) : Prop := c ≠ 92 ∧ c ≠ 39 ∧ c ≠ 34 ∧ c ≠ 36 ∧ c ≠ 125
theorem letter_lone {c : UInt8} (h : (letter c || digit c) = true) : lone c := by
  refine ⟨?_, ?_, ?_, ?_, ?_⟩ <;> (rintro rfl; exact absurd h (by decide))
theorem special_lone {c : UInt8} (h : special c = true) : lone c := by
  refine ⟨?_, ?_, ?_, ?_, ?_⟩ <;> (rintro rfl; exact absurd h (by decide))
theorem takeW_all {f : UInt8 → Bool} : ∀ (l : List UInt8), (l.takeWhile f).length = l.length → ∀ c ∈ l, f c = true
  | [], _, c, hc => by cases hc
  | a :: l, h, c, hc => by
    rw [List.takeWhile_cons] at h
    by_cases ha : f a = true
    · rw [if_pos ha] at h
      rcases List.mem_cons.1 hc with rfl | hc
      · exact ha
      · exact takeW_all l (by simpa using h) c hc
    · rw [if_neg ha] at h; simp at h
theorem name_lone {n : List UInt8} (hn : NameOk n) : ∀ c ∈ n, lone c := by
  obtain ⟨h0, h1⟩ := hn
  cases n with
  | nil => exact absurd rfl h0
  | cons c r =>
    by_cases hL : letter c = true
    · have e1 : nameL (c :: r) = 1 + (r.takeWhile fun c => letter c || digit c).length := if_pos hL
      unfold paramL at h1
      rw [if_pos (by omega), e1, List.length_cons] at h1
      intro x hx
      rcases List.mem_cons.1 hx with rfl | hx
      · exact letter_lone (by rw [hL]; rfl)
      · have h2 : (r.takeWhile fun c => letter c || digit c).length = r.length := by omega
        exact letter_lone (takeW_all r h2 x hx)
    · have e1 : nameL (c :: r) = 0 := if_neg hL
      unfold paramL at h1
      rw [if_neg (by omega)] at h1
      by_cases hD : digit c = true
      · have p1 : 0 < ((c :: r).takeWhile digit).length := by rw [List.takeWhile_cons, if_pos hD]; simp
        rw [if_pos p1] at h1
        intro x hx
        exact special_lone (special_digit (takeW_all _ h1 x hx))
      · have p1 : ¬ 0 < ((c :: r).takeWhile digit).length := by rw [List.takeWhile_cons, if_neg hD]; simp
        rw [if_neg p1] at h1
        simp only at h1
        by_cases hS : special c = true
        · rw [if_pos hS] at h1
          intro x hx
          have : r = [] := by cases r with | nil => rfl | cons a r => simp at h1
          subst this
          rw [List.mem_singleton.1 hx]
          exact special_lone hS
        · rw [if_neg hS] at h1; simp at h1
/-- What operators begin with. -/
theorem wops_head {o : List UInt8} (h : o ∈ wops) : ∃ c r, o = c :: r ∧ letter c = false ∧ digit c = false ∧ (∀ x ∈ o, lone x) ∧ o ≠ lenOp := by
  unfold wops at h
  simp only [List.mem_cons, List.not_mem_nil, or_false] at h
  rcases h with rfl | rfl | rfl | rfl | rfl | rfl | rfl | rfl | rfl | rfl | rfl | rfl <;>
    exact ⟨_, _, rfl, by decide, by decide, by intro x hx; simp only [List.mem_cons, List.not_mem_nil, or_false] at hx; rcases hx with rfl | rfl <;> exact ⟨by decide, by decide, by decide, by decide, by decide⟩, by decide⟩
theorem opL_app {n o : List UInt8} {w : List Pt} (h : OpOk n o w) : opL (o ++ print w) = some o := by
  obtain ⟨hm, h37, h35, _, _⟩ := h
  unfold wops at hm
  simp only [List.mem_cons, List.not_mem_nil, or_false] at hm
  generalize print w = x at *
  rcases hm with rfl | rfl | rfl | rfl | rfl | rfl | rfl | rfl | rfl | rfl | rfl | rfl
  · simp [opL, wops]
  · simp [opL, wops]
  · simp [opL, wops]
  · simp [opL, wops]
  · simp [opL, wops]
  · simp [opL, wops]
  · simp [opL, wops]
  · simp [opL, wops]
  · simp [opL, wops]
  · simp [opL, wops]
  · have := h37 rfl
    cases x with
    | nil => simp [opL, wops]
    | cons c x =>
      have hc : (37 : UInt8) ≠ c := fun e => this (by rw [← e]; rfl)
      have hc2 : ((37 : UInt8) == c) = false := by simpa using hc
      simp [opL, wops, List.isPrefixOf, hc2]
  · have := h35 rfl
    cases x with
    | nil => simp [opL, wops]
    | cons c x =>
      have hc : (35 : UInt8) ≠ c := fun e => this (by rw [← e]; rfl)
      have hc2 : ((35 : UInt8) == c) = false := by simpa using hc
      simp [opL, wops, List.isPrefixOf, hc2]

/-! ### What is told, unit by unit -/
theorem unit_lone (d : Nat) {c : UInt8} (hc : lone c) {e : UInt8} (he : e ≠ 41) (r : List UInt8) : unit (d + 1) e (c :: r) = some 1 := by
  obtain ⟨h1, h2, h3, h4, _⟩ := hc
  rw [unit_step, if_neg h1, if_neg (fun h => h2 h.1), if_neg h3, if_neg (fun h => h4 h.1), if_neg (fun h => h4 h.1), if_neg (fun h => he h.2)]
theorem nest_lone {d : Nat} : ∀ (l : List UInt8), (∀ c ∈ l, lone c) → ∀ r, nest (d + 1) 125 (l ++ r) = (nest (d + 1) 125 r).map (l.length + ·)
  | [], _, r => by rw [List.nil_append]; simp
  | c :: l, h, r => by
    have hc := h c (List.mem_cons_self ..)
    rw [List.cons_append, nest_on hc.2.2.2.2 (unit_lone d hc (by decide) _), List.drop_one, List.tail_cons, nest_lone l (fun x hx => h x (List.mem_cons_of_mem _ hx)), Option.map_map, List.length_cons]
    congr 1
    funext x
    show 1 + (l.length + x) = l.length + 1 + x
    omega
/-- A part that is no text, told without quotes. -/
def body : Pt → List UInt8
  | .mk k _ t n o w => if k = 2 then [36, 40] ++ t ++ [41] else if k = 3 then [36, 40, 40] ++ t ++ [41, 41] else if o = lenOp then [36, 123, 35] ++ n ++ [125] else [36, 123] ++ n ++ o ++ print w ++ [125]
theorem printP_body {b : Bool} {p : Pt} (hp : CanP b p) (hk : p.kind ≠ 0) : printP p = about p.q (body p) := by
  obtain ⟨k, q, t, n, o, w⟩ := p
  rw [CanP] at hp
  rcases hp with ⟨rfl, _⟩ | ⟨rfl, _⟩ | ⟨rfl, _⟩ | ⟨rfl, _⟩
  · exact absurd rfl hk
  · rw [printP, body]; simp [Pt.q]
  · rw [printP, body]; simp [Pt.q]
  · rw [printP, body]
    simp only [show ¬ (1 : Int) = 0 by omega, show ¬ (1 : Int) = 2 by omega, show ¬ (1 : Int) = 3 by omega, if_false, if_true, Pt.q]
theorem printP_text (q : Bool) (t n o : List UInt8) (w : List Pt) : printP (.mk 0 q t n o w) = if q then single t else t := by rw [printP, if_pos rfl]
/-- What a part's text begins with. -/
theorem body_head {b : Bool} {p : Pt} (hp : CanP b p) (hk : p.kind ≠ 0) : ∃ c r, body p = 36 :: c :: r ∧ (c = 40 ∨ c = 123) := by
  obtain ⟨k, q, t, n, o, w⟩ := p
  rw [CanP] at hp
  rcases hp with ⟨rfl, _⟩ | ⟨rfl, _⟩ | ⟨rfl, _⟩ | ⟨rfl, _⟩
  · exact absurd rfl hk
  · exact ⟨40, t ++ [41], by rw [body]; simp, .inl rfl⟩
  · exact ⟨40, 40 :: t ++ [41, 41], by rw [body]; simp, .inl rfl⟩
  · rw [body]
    simp only [show ¬ (1 : Int) = 2 by omega, show ¬ (1 : Int) = 3 by omega, if_false]
    split
    · exact ⟨123, 35 :: n ++ [125], by simp, .inr rfl⟩
    · exact ⟨123, n ++ o ++ print w ++ [125], by simp, .inr rfl⟩
/-- What stands behind an unquoted text lets a dollar alone. -/
def shut (l : List UInt8) : Prop := ∀ c, l.head? = some c → c = 39 ∨ c = 34 ∨ c = 36 ∨ c = 125
theorem shut.ok {l : List UInt8} (h : shut l) : okBy l := by
  intro c hc
  rcases h c hc with rfl | rfl | rfl | rfl <;> exact ⟨by decide, by decide, by decide, by decide⟩
theorem print_shut {b : Bool} {l : List Pt} (hl : CanL b l) (h : ∀ r, l.head? = some r → r.kind = 0 → r.q = true) (z : List UInt8) (hz : shut z) : shut (print l ++ z) := by
  cases l with
  | nil => rw [print]; exact hz
  | cons p l =>
    rw [CanL] at hl
    rw [print, List.append_assoc]
    by_cases hk : p.kind = 0
    · have hq := h p rfl hk
      obtain ⟨k, q, t, n, o, w⟩ := p
      obtain rfl : k = 0 := hk
      obtain rfl : q = true := hq
      rw [printP_text, if_pos rfl]
      intro c hc
      rw [single] at hc
      simp at hc
      exact .inl hc.symm
    · rw [printP_body hl.1 hk]
      obtain ⟨c, r, he, _⟩ := body_head hl.1 hk
      rw [he]
      intro x hx
      unfold about at hx
      split at hx
      · simp at hx; exact .inr (.inl hx.symm)
      · simp at hx; exact .inr (.inr (.inl hx.symm))
theorem nest_plain {d : Nat} : ∀ (t : List UInt8), plainT true t → ∀ r, (t ≠ [] → okBy r) → nest (d + 1) 125 (t ++ r) = (nest (d + 1) 125 r).map (t.length + ·)
  | [], _, r, _ => by rw [List.nil_append]; simp
  | c :: t, h, r, hr => by
    obtain ⟨h1, h2, h3, h4, h5, h6⟩ := h
    have hn : c = 36 → (t ++ r).head? ≠ some 40 ∧ (t ++ r).head? ≠ some 123 := by
      intro hc
      cases t with
      | nil => rw [List.nil_append]; exact ⟨fun e => (hr (by simp) _ e).1 rfl, fun e => (hr (by simp) _ e).2.1 rfl⟩
      | cons x t => exact ⟨fun e => (h4 hc x rfl).1 (by simpa using e), fun e => (h4 hc x rfl).2.1 (by simpa using e)⟩
    have hu : unit (d + 1) 125 (c :: (t ++ r)) = some 1 := by
      rw [unit_step, if_neg h1, if_neg (fun h => h2 h.1), if_neg h3, if_neg (fun h => (hn h.1).1 h.2), if_neg (fun h => (hn h.1).2 h.2), if_neg (fun h => absurd h.2 (by decide))]
    rw [List.cons_append, nest_on (h5 rfl) hu, List.drop_one, List.tail_cons, nest_plain t h6 r (fun _ => hr (by simp)), Option.map_map, List.length_cons]
    congr 1
    funext x
    show 1 + (t.length + x) = t.length + 1 + x
    omega
/-- A text with its quotes told so that it may stand in quotes. -/
def enc (l : List UInt8) : List UInt8 := l.flatMap fun c => if c = 39 then [39, 92, 39, 39] else [c]
theorem single_enc (l : List UInt8) : single l = 39 :: enc l ++ [39] := rfl
theorem enc_cons (c : UInt8) (l : List UInt8) : enc (c :: l) = (if c = 39 then [39, 92, 39, 39] else [c]) ++ enc l := by unfold enc; rw [List.flatMap_cons]
theorem quoted_at : ∀ (a r : List UInt8), 39 ∉ a → quoted (a ++ 39 :: r) = some (a.length + 1)
  | [], r, _ => by rw [List.nil_append, quoted, if_pos rfl]; rfl
  | c :: a, r, h => by
    rw [List.mem_cons, not_or] at h
    rw [List.cons_append, quoted, if_neg (fun e => h.1 e.symm), quoted_at a r h.2, List.length_cons]
    rfl
theorem unit_single (d : Nat) {e : UInt8} (he : e ≠ 34) (a r : List UInt8) (ha : 39 ∉ a) : unit (d + 1) e (39 :: (a ++ 39 :: r)) = some (a.length + 2) := by
  rw [unit_step, if_neg (by decide), if_pos ⟨rfl, he⟩, quoted_at a r ha]
  show some (1 + (a.length + 1)) = _
  congr 1
  omega
theorem unit_bslash (d : Nat) (e c : UInt8) (r : List UInt8) : unit (d + 1) e (92 :: c :: r) = some 2 := by rw [unit_step, if_pos rfl, if_neg (by simp)]
theorem nest_single {d : Nat} : ∀ (t a r : List UInt8), 39 ∉ a → nest (d + 1) 125 (39 :: (a ++ enc t ++ 39 :: r)) = (nest (d + 1) 125 r).map ((a.length + (enc t).length + 2) + ·)
  | [], a, r, ha => by
    have hu := unit_single d (e := 125) (by decide) a r ha
    rw [show enc [] = [] from rfl, List.append_nil, nest_on (by decide) hu]
    have : (39 :: (a ++ 39 :: r)).drop (a.length + 2) = r := by
      rw [show 39 :: (a ++ 39 :: r) = (39 :: a ++ [39]) ++ r by simp, List.drop_left' (by simp)]
    rw [this]
    rfl
  | c :: t, a, r, ha => by
    by_cases hc : c = 39
    · subst hc
      rw [enc_cons, if_pos rfl]
      have e1 : (39 : UInt8) :: (a ++ ([39, 92, 39, 39] ++ enc t) ++ 39 :: r) = 39 :: (a ++ 39 :: (92 :: 39 :: 39 :: ([] ++ enc t ++ 39 :: r))) := by simp
      have hu := unit_single d (e := 125) (by decide) a (92 :: 39 :: 39 :: ([] ++ enc t ++ 39 :: r)) ha
      have e2 : (39 :: (a ++ 39 :: (92 :: 39 :: 39 :: ([] ++ enc t ++ 39 :: r)))).drop (a.length + 2) = 92 :: 39 :: 39 :: ([] ++ enc t ++ 39 :: r) := by
        rw [show ∀ z : List UInt8, 39 :: (a ++ 39 :: z) = (39 :: a ++ [39]) ++ z by intro z; simp, List.drop_left' (by simp)]
      rw [e1, nest_on (by decide) hu, e2, nest_on (by decide) (unit_bslash d 125 39 _)]
      show Option.map _ (Option.map _ (nest (d + 1) 125 (39 :: ([] ++ enc t ++ 39 :: r)))) = _
      rw [nest_single t [] r (by simp), Option.map_map, Option.map_map]
      congr 1
      funext x
      show a.length + 2 + (2 + (([] : List UInt8).length + (enc t).length + 2 + x)) = a.length + ([39, 92, 39, 39] ++ enc t).length + 2 + x
      simp
      omega
    · rw [enc_cons, if_neg hc]
      have := nest_single t (a ++ [c]) r (by simp [ha]; exact fun e => hc e.symm) (d := d)
      rw [show a ++ ([c] ++ enc t) = a ++ [c] ++ enc t by simp, this]
      congr 1
      funext x
      simp
      omega
/-- Where a unit that begins with a dollar ends, in any context, whatever stands behind. -/
theorem unit_par (d : Nat) (e : UInt8) (r : List UInt8) : unit (d + 1) e (36 :: 40 :: r) = (nest d 41 r).map (2 + ·) := by
  rw [unit_step, if_neg (by decide), if_neg (fun h => absurd h.1 (by decide)), if_neg (by decide), if_pos ⟨rfl, rfl⟩]; rfl
theorem unit_brace (d : Nat) (e : UInt8) (r : List UInt8) : unit (d + 1) e (36 :: 123 :: r) = (nest d 125 r).map (2 + ·) := by
  rw [unit_step, if_neg (by decide), if_neg (fun h => absurd h.1 (by decide)), if_neg (by decide), if_neg (fun h => absurd h.2 (by simp)), if_pos ⟨rfl, rfl⟩]; rfl
theorem unit_dq (d : Nat) (e : UInt8) (r : List UInt8) : unit (d + 1) e (34 :: r) = (nest d 34 r).map (1 + ·) := by
  rw [unit_step, if_neg (by decide), if_neg (fun h => absurd h.1 (by decide)), if_pos rfl]
theorem nest_cut {d : Nat} {e : UInt8} {a x : List UInt8} (y : List UInt8) (h : nest d e (a ++ x) = some a.length) : nest d e (a ++ y) = some a.length := nest_sim (unit_sim d e) _ a x y (Nat.le_refl _) h
theorem nest_few {d c : Nat} {e : UInt8} {l : List UInt8} {j : Nat} (h : nest d e l = some j) (hj : j ≤ 2 * c) : nest c e l = some j := nest_enough (unit_enough d c e) _ l j (Nat.le_refl _) h hj
mutual
theorem print_nest : ∀ (l : List Pt), CanL true l → ∀ d, needL l ≤ d → ∀ z, nest d 125 (print l ++ 125 :: z) = some ((print l).length + 1)
  | [], _, d, _, z => by rw [print]; exact nest_end ..
  | p :: l, hc, d, hd, z => by
    rw [CanL] at hc
    rw [needL] at hd
    obtain ⟨hp, hr, hl⟩ := hc
    have ih := print_nest l hl d (by omega) z
    rw [print, List.append_assoc]
    obtain ⟨d, rfl⟩ : ∃ c, d = c + 1 := ⟨d - 1, by have := needL_pos l; omega⟩
    by_cases hk : p.kind = 0
    · obtain ⟨k, q, t, n, o, w⟩ := p
      obtain rfl : k = 0 := hk
      rw [printP_text]
      rw [CanP] at hp
      have hp := (hp.resolve_right (by rintro (⟨h, _⟩ | ⟨h, _⟩ | ⟨h, _⟩) <;> omega)).2.2.2.2
      cases q with
      | true =>
        rw [if_pos rfl, single_enc]
        have := nest_single t [] (print l ++ 125 :: z) (by simp) (d := d)
        rw [show 39 :: enc t ++ [39] ++ (print l ++ 125 :: z) = 39 :: ([] ++ enc t ++ 39 :: (print l ++ 125 :: z)) by simp, this, ih]
        show some _ = some _
        congr 1
        simp
        omega
      | false =>
        obtain ⟨_, hp⟩ := hp rfl
        have hs : shut (print l ++ 125 :: z) := print_shut hl (fun r h h0 => by
          have := hr r h
          obtain ⟨k', q', t', n', o', w'⟩ := r
          obtain rfl : k' = 0 := h0
          cases q' with
          | true => rfl
          | false => exact absurd this (by simp [alike, Pt.kind, Pt.q])) _ (by intro c hc; simp at hc; exact .inr (.inr (.inr hc.symm)))
        rw [if_neg (by decide), nest_plain t hp _ (fun _ => hs.ok), ih]
        show some _ = some _
        congr 1
        dsimp only
        rw [List.length_append]
        omega
    · have hu := body_unit p hp hk
      obtain ⟨c, r, he, _⟩ := body_head hp hk
      rw [printP_body hp hk]
      unfold about
      split
      · have e1 : 34 :: body p ++ [34] ++ (print l ++ 125 :: z) = 34 :: (body p ++ 34 :: (print l ++ 125 :: z)) := by simp
        have h1 : unit (d + 1) 125 (34 :: (body p ++ 34 :: (print l ++ 125 :: z))) = some ((body p).length + 2) := by
          rw [unit_dq]
          have := hu d (by omega) 34 (34 :: (print l ++ 125 :: z))
          rw [he] at this ⊢
          rw [List.cons_append] at this ⊢
          rw [nest_on (by decide) this, ← List.cons_append, List.drop_left, nest_end]
          show some _ = some _
          congr 1
          dsimp only
          omega
        rw [e1, nest_on (by decide) h1]
        have e2 : (34 :: (body p ++ 34 :: (print l ++ 125 :: z))).drop ((body p).length + 2) = print l ++ 125 :: z := by
          rw [← e1, List.drop_left' (by simp)]
        rw [e2, ih]
        show some _ = some _
        congr 1
        simp
        omega
      · have := hu (d + 1) (by omega) 125 (print l ++ 125 :: z)
        rw [he] at this ⊢
        rw [List.cons_append] at this ⊢
        rw [nest_on (by decide) this, ← List.cons_append, List.drop_left, ih]
        show some _ = some _
        congr 1
        dsimp only
        rw [List.length_append]
        omega
theorem body_unit : ∀ (p : Pt) {b : Bool}, CanP b p → p.kind ≠ 0 → ∀ d, needP p ≤ d + 1 → ∀ e z, unit d e (body p ++ z) = some (body p).length
  | .mk k q t n o w, b, hp, hk, d, hd, e, z => by
    rw [CanP] at hp
    rw [needP] at hd
    rcases hp with ⟨rfl, _⟩ | ⟨rfl, _, _, _, h, _⟩ | ⟨rfl, _, _, _, h⟩ | ⟨rfl, _, hn, h⟩
    · exact absurd rfl hk
    · rw [if_neg (by omega), if_neg (by omega), if_pos rfl] at hd
      obtain ⟨d, rfl⟩ : ∃ c, d = c + 1 := ⟨d - 1, by omega⟩
      have h1 := nest_cut (a := t ++ [41]) (x := []) z (by rw [List.append_nil, List.length_append]; exact nest_few (c := d) h (by show t.length + 1 ≤ _; omega))
      rw [body, if_pos rfl, show [36, 40] ++ t ++ [41] ++ z = 36 :: 40 :: (t ++ [41] ++ z) by simp, unit_par, h1]
      show some _ = some _
      congr 1
      simp
      omega
    · rw [if_neg (by omega), if_neg (by omega), if_neg (by omega)] at hd
      obtain ⟨d, rfl⟩ : ∃ c, d = c + 1 := ⟨d - 1, by omega⟩
      have h1 := nest_cut (a := 40 :: t ++ [41, 41]) (x := []) z (by rw [List.append_nil]; simpa using nest_few (c := d) h (by omega))
      rw [body, if_neg (by omega), if_pos rfl, show [36, 40, 40] ++ t ++ [41, 41] ++ z = 36 :: 40 :: (40 :: t ++ [41, 41] ++ z) by simp, unit_par, h1]
      show some _ = some _
      congr 1
      simp
      omega
    · rw [if_neg (by omega), if_pos rfl] at hd
      obtain ⟨d, rfl⟩ : ∃ c, d = c + 2 := ⟨d - 2, by have := needL_pos w; omega⟩
      rw [body, if_neg (by omega), if_neg (by omega)]
      have hnl := name_lone hn
      rcases h with ⟨rfl, rfl⟩ | ⟨rfl, rfl⟩ | ⟨ho, _, hw, _⟩
      · rw [if_pos rfl, show [36, 123, 35] ++ n ++ [125] ++ z = 36 :: 123 :: ((35 :: n) ++ 125 :: z) by simp, unit_brace]
        rw [nest_lone (35 :: n) (by intro c hc; rcases List.mem_cons.1 hc with rfl | hc; exact ⟨by decide, by decide, by decide, by decide, by decide⟩; exact hnl c hc), nest_end]
        show some _ = some _
        congr 1
        simp
        omega
      · rw [if_neg (by decide), show [36, 123] ++ n ++ [] ++ print [] ++ [125] ++ z = 36 :: 123 :: (n ++ 125 :: z) by simp [print], unit_brace, nest_lone n hnl, nest_end]
        show some _ = some _
        congr 1
        simp [print]
        omega
      · obtain ⟨c, r, he, _, _, hol, hlen⟩ := wops_head ho.1
        rw [if_neg hlen, show [36, 123] ++ n ++ o ++ print w ++ [125] ++ z = 36 :: 123 :: (n ++ (o ++ (print w ++ 125 :: z))) by simp, unit_brace, nest_lone n hnl, nest_lone o hol]
        rw [print_nest w hw (d + 1) (by omega) z]
        show some _ = some _
        congr 1
        simp
        omega
end
end Wx
end Go.Proofs.YtphgnjjblpmijaaDoor

/-
  Parts that were read have a form: what is told of these is read as it was (second half: part by part). Nothing of the program stands here.
-/
namespace Go.Proofs.YtphgnjjblpmijaaDoor
namespace Wx
open Lx

theorem add_onto (l : List Pt) (a p : Pt) : add (l ++ [a]) p = if alike a p then l ++ [joined a p] else l ++ [a] ++ [p] := by
  unfold add
  simp
theorem add_join (l : List Pt) (q : Bool) (t x : List UInt8) : add (l ++ [txt q t]) (txt q x) = l ++ [txt q (t ++ x)] := by
  rw [add_onto, if_pos (by cases q <;> rfl)]
  rfl
theorem add_app {acc : List Pt} {p : Pt} (h : ∀ a, acc.getLast? = some a → alike a p = false) : add acc p = acc ++ [p] := by
  unfold add
  split
  · rename_i h0
    rw [List.getLast?_eq_none_iff] at h0
    rw [h0]; rfl
  · rename_i a ha
    rw [if_neg (by simp [h a ha])]
theorem alike_kind {a p : Pt} (h : p.kind ≠ 0) : alike a p = false := by
  unfold alike
  simp [h]
theorem dName_zero {r : List UInt8} (h : okBy r) : dName r = 0 := by
  unfold dName
  cases r with
  | nil => rfl
  | cons c r =>
    obtain ⟨_, _, hL, hS⟩ := h c rfl
    have e1 : nameL (c :: r) = 0 := if_neg (by simp [hL])
    rw [e1, if_neg (by simp [hS])]
theorem okBy_unit {r : List UInt8} (h : okBy r) (x : UInt8) : ¬ (((x :: r).drop 1).head? = some 40 ∨ ((x :: r).drop 1).head? = some 123) := by
  rw [List.drop_one, List.tail_cons]
  rintro (h1 | h1)
  · exact (h _ h1).1 rfl
  · exact (h _ h1).2.1 rfl
theorem dollar_plain {w : List UInt8 → Except Int (List Pt)} {q : Bool} {r : List UInt8} (h : okBy r) : dollar w q (36 :: r) = .ok (txt q [36], 1) := by
  rw [dollar_name (okBy_unit h 36), List.drop_one, List.tail_cons, if_pos (dName_zero h)]
theorem step1_plain {w : List UInt8 → Except Int (List Pt)} {c : UInt8} {r : List UInt8} (h1 : c ≠ 92) (h2 : c ≠ 39) (h3 : c ≠ 34) (h4 : c = 36 → okBy r) : step1 w (c :: r) = .ok ([txt false [c]], 1) := by
  rw [step1, if_neg (fun h => h.elim h1 (fun h => h.elim h2 h3))]
  by_cases hc : c = 36
  · subst hc
    rw [if_pos rfl, dollar_plain (h4 rfl)]; rfl
  · rw [if_neg hc]
theorem parts_plain {w : List UInt8 → Except Int (List Pt)} {b : Bool} {acc : List Pt} {r : List UInt8} : ∀ (t t1 : List UInt8), plainT b t → (t ≠ [] → okBy r) → partsOn w (t ++ r) (acc ++ [txt false t1]) = partsOn w r (acc ++ [txt false (t1 ++ t)])
  | [], t1, _, _ => by rw [List.nil_append, List.append_nil]
  | c :: t, t1, h, hr => by
    obtain ⟨h1, h2, h3, h4, _, h6⟩ := h
    have hn : c = 36 → okBy (t ++ r) := by
      intro hc
      cases t with
      | nil => exact hr (by simp)
      | cons x t => exact fun y hy => h4 hc y hy
    rw [List.cons_append, partsOn_go (step1_plain h1 h2 h3 hn), List.drop_one, List.tail_cons, List.foldl_cons, List.foldl_nil, add_join]
    have := parts_plain (w := w) (b := b) (acc := acc) (r := r) t (t1 ++ [c]) h6 (fun _ => hr (by simp))
    rw [show t1 ++ c :: t = t1 ++ [c] ++ t by simp]
    exact this
theorem step1_single {w : List UInt8 → Except Int (List Pt)} (a r : List UInt8) (ha : 39 ∉ a) : step1 w (39 :: (a ++ 39 :: r)) = .ok ([txt true a], a.length + 2) := by
  rw [step1, if_pos (.inr (.inl rfl)), unit_single 29 (by decide) a r ha]
  simp only [show ¬ (39 : UInt8) = 92 by decide, if_false, if_true]
  rw [Nat.add_sub_cancel, List.take_left]
theorem step1_bslash {w : List UInt8 → Except Int (List Pt)} (c : UInt8) (r : List UInt8) : step1 w (92 :: c :: r) = .ok ([txt true [c]], 2) := by
  rw [step1, if_pos (.inl rfl), unit_bslash 29 0 c r]
  simp only [if_true]
  rfl
theorem parts_single {w : List UInt8 → Except Int (List Pt)} {acc : List Pt} {r : List UInt8} : ∀ (t a t1 : List UInt8), 39 ∉ a → partsOn w (39 :: (a ++ enc t ++ 39 :: r)) (acc ++ [txt true t1]) = partsOn w r (acc ++ [txt true (t1 ++ a ++ t)])
  | [], a, t1, ha => by
    rw [show enc [] = [] from rfl, List.append_nil, List.append_nil, partsOn_go (step1_single a r ha)]
    rw [show 39 :: (a ++ 39 :: r) = (39 :: a ++ [39]) ++ r by simp, List.drop_left' (by simp), List.foldl_cons, List.foldl_nil, add_join]
  | c :: t, a, t1, ha => by
    by_cases hc : c = 39
    · subst hc
      rw [enc_cons, if_pos rfl]
      have e1 : (39 : UInt8) :: (a ++ ([39, 92, 39, 39] ++ enc t) ++ 39 :: r) = 39 :: (a ++ 39 :: (92 :: 39 :: 39 :: ([] ++ enc t ++ 39 :: r))) := by simp
      rw [e1, partsOn_go (step1_single a _ ha)]
      rw [show ∀ z : List UInt8, 39 :: (a ++ 39 :: z) = (39 :: a ++ [39]) ++ z by intro z; simp, List.drop_left' (by simp), List.foldl_cons, List.foldl_nil, add_join, partsOn_go (step1_bslash ..), List.foldl_cons, List.foldl_nil, add_join]
      have := parts_single (w := w) (acc := acc) (r := r) t [] (t1 ++ a ++ [39]) (by simp)
      rw [show t1 ++ a ++ 39 :: t = t1 ++ a ++ [39] ++ [] ++ t by simp, ← this]
      rfl
    · rw [enc_cons, if_neg hc]
      have := parts_single (w := w) (acc := acc) (r := r) t (a ++ [c]) t1 (by simp [ha]; exact fun e => hc e.symm)
      rw [show a ++ ([c] ++ enc t) = a ++ [c] ++ enc t by simp, this]
      simp
theorem add_txt {acc : List Pt} {t : List UInt8} (h : ∀ a, acc.getLast? = some a → alike a (txt true t) = false) (x : List UInt8) : add acc (txt true x) = acc ++ [txt true x] := add_app fun a ha => h a ha
theorem parts_quoted {w : List UInt8 → Except Int (List Pt)} {acc : List Pt} {r : List UInt8} (h : ∀ x a, acc.getLast? = some a → alike a (txt true x) = false) : ∀ (t a : List UInt8), 39 ∉ a → partsOn w (39 :: (a ++ enc t ++ 39 :: r)) acc = partsOn w r (acc ++ [txt true (a ++ t)])
  | [], a, ha => by
    rw [show enc [] = [] from rfl, List.append_nil, partsOn_go (step1_single a r ha)]
    rw [show 39 :: (a ++ 39 :: r) = (39 :: a ++ [39]) ++ r by simp, List.drop_left' (by simp), List.foldl_cons, List.foldl_nil, add_app (h a)]
  | c :: t, a, ha => by
    by_cases hc : c = 39
    · subst hc
      rw [enc_cons, if_pos rfl]
      have e1 : (39 : UInt8) :: (a ++ ([39, 92, 39, 39] ++ enc t) ++ 39 :: r) = 39 :: (a ++ 39 :: (92 :: 39 :: 39 :: ([] ++ enc t ++ 39 :: r))) := by simp
      rw [e1, partsOn_go (step1_single a _ ha)]
      rw [show ∀ z : List UInt8, 39 :: (a ++ 39 :: z) = (39 :: a ++ [39]) ++ z by intro z; simp, List.drop_left' (by simp), List.foldl_cons, List.foldl_nil, add_app (h a), partsOn_go (step1_bslash ..), List.foldl_cons, List.foldl_nil, add_join]
      have := parts_single (w := w) (acc := acc) (r := r) t [] (a ++ [39]) (by simp)
      rw [show a ++ 39 :: t = a ++ [39] ++ [] ++ t by simp, ← this]
      rfl
    · rw [enc_cons, if_neg hc]
      have := parts_quoted (w := w) (acc := acc) (r := r) h t (a ++ [c]) (by simp [ha]; exact fun e => hc e.symm)
      rw [show a ++ ([c] ++ enc t) = a ++ [c] ++ enc t by simp, this]
      simp
mutual
theorem quotes_same : ∀ (l : List Pt) (b : Bool) (acc : List Pt), AllQ l → CanL b l → (∀ p, l.head? = some p → ∀ a, acc.getLast? = some a → alike a p = false) → quotesOn acc l = acc ++ l
  | [], _, acc, _, _, _ => by rw [quotesOn, List.append_nil]
  | p :: l, b, acc, hq, hc, h => by
    rw [AllQ] at hq
    rw [CanL] at hc
    rw [quotesOn, quoteP_same p b hq.1 hc.1, add_app (h p rfl), quotes_same l b (acc ++ [p]) hq.2 hc.2.2 (fun r hr a ha => by
      rw [List.getLast?_concat] at ha
      cases ha
      exact hc.2.1 r hr)]
    simp
theorem quoteP_same : ∀ (p : Pt) (b : Bool), AllQP p → CanP b p → quoteP p = p
  | .mk k q t n o w, b, hq, hc => by
    rw [AllQP] at hq
    obtain ⟨rfl, hw⟩ := hq
    rw [CanP] at hc
    rw [quoteP]
    rcases hc with ⟨rfl, _, _, rfl, _⟩ | ⟨rfl, _, _, rfl, _⟩ | ⟨rfl, _, _, rfl, _⟩ | ⟨rfl, _, _, h⟩
    · rw [quotesOn]
    · rw [quotesOn]
    · rw [quotesOn]
    · rcases h with ⟨_, rfl⟩ | ⟨_, rfl⟩ | ⟨_, _, hc, _⟩
      · rw [quotesOn]
      · rw [quotesOn]
      · rw [quotes_same w true [] hw hc (fun _ _ a ha => by cases ha), List.nil_append]
end
/-- What stands within braces. -/
def inner : Pt → List UInt8
  | .mk _ _ _ n o w => if o = lenOp then 35 :: n else n ++ o ++ print w
theorem body_inner (q : Bool) (t n o : List UInt8) (w : List Pt) : body (.mk 1 q t n o w) = 36 :: 123 :: (inner (.mk 1 q t n o w) ++ [125]) := by
  rw [body, inner]
  simp only [show ¬ (1 : Int) = 2 by omega, show ¬ (1 : Int) = 3 by omega, if_false]
  split <;> simp
theorem name_hash {n : List UInt8} (hn : NameOk n) (h : n.head? = some 35) : n = [35] := by
  obtain ⟨h0, h1⟩ := hn
  cases n with
  | nil => exact absurd rfl h0
  | cons c r =>
    obtain rfl : c = 35 := by simpa using h
    have e1 : nameL (35 :: r) = 0 := by rw [nameL, if_neg (by decide)]
    unfold paramL at h1
    rw [if_neg (by omega)] at h1
    have p1 : ¬ 0 < ((35 :: r).takeWhile digit).length := by rw [List.takeWhile_cons, if_neg (by decide)]; simp
    rw [if_neg p1] at h1
    simp only at h1
    rw [if_pos (by decide)] at h1
    cases r with
    | nil => rfl
    | cons a r => simp at h1
theorem param_op {o : List UInt8} (ho : o ∈ wops) (x : List UInt8) : paramL (o ++ x) ≤ 1 ∧ (paramL (o ++ x) = 1 → 2 ≤ o.length ∨ o = [35] ∨ o = [63]) := by
  obtain ⟨c, r, rfl, hL, hD, _, _⟩ := wops_head ho
  have e1 : nameL (c :: r ++ x) = 0 := if_neg (by simp [hL])
  have p1 : ¬ 0 < ((c :: r ++ x).takeWhile digit).length := by rw [List.cons_append, List.takeWhile_cons, if_neg (by simp [hD])]; simp
  have e2 : paramL (c :: r ++ x) = if special c then 1 else 0 := by
    unfold paramL
    rw [if_neg (by omega), if_neg p1]
    rfl
  rw [e2]
  refine ⟨by split <;> omega, fun h => ?_⟩
  cases r with
  | cons a r => left; simp
  | nil =>
    right
    unfold wops at ho
    simp at ho
    rcases ho with rfl | rfl | rfl | rfl | rfl | rfl
    · exact absurd h (by decide)
    · exact absurd h (by decide)
    · exact .inr rfl
    · exact absurd h (by decide)
    · exact absurd h (by decide)
    · exact .inl rfl
theorem param_op2 {o x : List UInt8} (ho : o ∈ wops) (h : o = [35] ∨ o = [63] → x ≠ []) : paramL (o ++ x) ≠ (o ++ x).length := by
  obtain ⟨h1, h2⟩ := param_op ho x
  obtain ⟨c, r, rfl, _⟩ := wops_head ho
  intro e
  rw [List.length_append] at e
  rcases Nat.lt_or_ge (paramL (c :: r ++ x)) 1 with h3 | h3
  · rw [List.length_cons] at e; omega
  · have h4 : paramL (c :: r ++ x) = 1 := by omega
    rcases h2 h4 with h5 | h5
    · omega
    · have := List.length_pos_iff.2 (h h5)
      rw [List.length_cons] at e
      omega
/-- Braces, where the word is read as it was. -/
theorem braces_same {w : List UInt8 → Except Int (List Pt)} {b q : Bool} {t n o : List UInt8} {wd : List Pt} (hp : CanP b (.mk 1 q t n o wd)) (hw : OpOk n o wd → w (print wd) = .ok wd) : braces w q (inner (.mk 1 q t n o wd)) = .ok (.mk 1 q t n o wd) := by
  rw [CanP] at hp
  have hp := ((hp.resolve_left (by rintro ⟨h, _⟩; omega)).resolve_left (by rintro ⟨h, _⟩; omega)).resolve_left (by rintro ⟨h, _⟩; omega)
  obtain ⟨_, rfl, hn, h⟩ := hp
  rw [inner]
  rcases h with ⟨rfl, rfl⟩ | ⟨rfl, rfl⟩ | ⟨ho, hcm, hcw, hq⟩
  · rw [if_pos rfl, braces, if_pos]
    · rfl
    · have := List.length_pos_iff.2 hn.1
      exact ⟨by rw [List.length_cons]; omega, rfl, by rw [List.drop_one, List.tail_cons, hn.2, List.length_cons]; rfl⟩
  · rw [if_neg (by decide), show n ++ [] ++ print [] = n by simp [print], braces, if_neg, if_neg, if_pos]
    · rw [hn.2, List.take_length]
    · rw [hn.2, List.drop_length]
    · have := List.length_pos_iff.2 hn.1
      rw [hn.2]; omega
    · rintro ⟨h1, h2, _⟩
      rw [name_hash hn h2] at h1
      simp at h1
  · obtain ⟨c, r, he, hL, hD, _, hlen⟩ := wops_head ho.1
    have hpl : paramL (n ++ (o ++ print wd)) = n.length := paramL_app hn (by
      intro x hx
      rw [he] at hx
      obtain rfl : c = x := by simpa using hx
      exact ⟨hL, hD⟩)
    have hn0 := List.length_pos_iff.2 hn.1
    rw [if_neg hlen, List.append_assoc, braces, if_neg, if_neg, if_neg]
    · rw [hpl, List.drop_left, List.take_left, opL_app ho]
      simp only []
      rw [if_neg (fun h => ho.2.2.2.2 h.1 h.2), show (n ++ (o ++ print wd)).drop (n.length + o.length) = print wd by rw [← List.append_assoc]; exact List.drop_left' (by simp), hw ho]
      simp only []
      rw [hcm, if_neg (by decide)]
      cases q with
      | false => rfl
      | true =>
        rw [if_pos rfl, show quotes wd = wd from (quotes_same wd true [] (hq rfl) hcw (fun _ _ a ha => by cases ha)).trans (List.nil_append _)]
    · rw [hpl, List.drop_left, he]; simp
    · rw [hpl]; omega
    · rintro ⟨_, h2, h3⟩
      have hh : n = [35] := name_hash hn (by
        cases n with
        | nil => exact absurd rfl hn.1
        | cons a n => simpa using h2)
      subst hh
      rw [List.singleton_append, List.drop_one, List.tail_cons, List.length_cons, Nat.add_sub_cancel] at h3
      exact param_op2 ho.1 (ho.2.2.2.1 rfl) h3
theorem dollar_same {w : List UInt8 → Except Int (List Pt)} {b : Bool} {p : Pt} (hp : CanP b p) (hk : p.kind ≠ 0) (hn : needP p ≤ 30) (hw : ∀ k q t n o wd, p = .mk k q t n o wd → OpOk n o wd → w (print wd) = .ok wd) (z : List UInt8) : dollar w p.q (body p ++ z) = .ok (p, (body p).length) := by
  have hu := body_unit p hp hk 30 (by omega) 0 z
  obtain ⟨c, r, he, hc⟩ := body_head hp hk
  rw [dollar_unit (by rw [he, List.drop_one]; rcases hc with rfl | rfl; exact .inl rfl; exact .inr rfl), hu]
  obtain ⟨k, q, t, n, o, wd⟩ := p
  have hp0 := hp
  rw [CanP] at hp
  rcases hp with ⟨rfl, _⟩ | ⟨rfl, rfl, rfl, rfl, _, ha⟩ | ⟨rfl, rfl, rfl, rfl, _⟩ | ⟨rfl, rfl, _, _⟩
  · exact absurd rfl hk
  · have e : body (.mk 2 q t [] [] []) = 36 :: 40 :: (t ++ [41]) := by rw [body, if_pos rfl]; simp
    rw [e]
    simp only []
    rw [if_neg (by simp), if_neg]
    · have e2 : ((36 :: 40 :: (t ++ [41]) ++ z).take ((36 :: 40 :: (t ++ [41])).length - 1)).drop 2 = t := by
        rw [show 36 :: 40 :: (t ++ [41]) ++ z = (36 :: 40 :: t) ++ (41 :: z) by simp, List.take_left' (by simp)]
        rfl
      rw [e2]
      rfl
    · rintro ⟨h1, h2, h3⟩
      apply ha
      simp only [List.length_cons, List.length_append, List.length_nil] at h1 h3
      have ht : 2 ≤ t.length := by omega
      cases t with
      | nil => simp at ht
      | cons x t =>
        refine ⟨by simpa using h2, ?_, ht⟩
        rw [List.length_cons] at h3 ht
        rw [show t.length + 1 + (0 + 1) + 1 + 1 - 2 = t.length + 2 by omega] at h3
        rw [List.getLast?_eq_getElem?, List.length_cons, Nat.add_sub_cancel]
        have : (36 :: 40 :: (x :: t ++ [41]) ++ z)[t.length + 2]? = (x :: t)[t.length]? := by
          show ((x :: t ++ [41]) ++ z)[t.length]? = _
          rw [List.getElem?_append_left (by simp only [List.length_append, List.length_cons, List.length_nil]; omega), List.getElem?_append_left (by simp only [List.length_cons]; omega)]
        rw [← this]; exact h3
  · have e : body (.mk 3 q t [] [] []) = 36 :: 40 :: 40 :: (t ++ [41, 41]) := by rw [body, if_neg (by omega), if_pos rfl]; simp
    rw [e]
    simp only []
    rw [if_neg (by simp), if_pos]
    · have e2 : ((36 :: 40 :: 40 :: (t ++ [41, 41]) ++ z).take ((36 :: 40 :: 40 :: (t ++ [41, 41])).length - 2)).drop 3 = t := by
        rw [show 36 :: 40 :: 40 :: (t ++ [41, 41]) ++ z = (36 :: 40 :: 40 :: t) ++ (41 :: 41 :: z) by simp, List.take_left' (by simp)]
        rfl
      rw [e2]
      rfl
    · refine ⟨by simp, rfl, ?_⟩
      rw [show 36 :: 40 :: 40 :: (t ++ [41, 41]) ++ z = (36 :: 40 :: 40 :: t) ++ (41 :: 41 :: z) by simp, List.getElem?_append_right (by simp)]
      simp
  · rw [body_inner]
    simp only []
    rw [if_pos (by simp)]
    have e2 : ((36 :: 123 :: (inner (.mk 1 q [] n o wd) ++ [125]) ++ z).take ((36 :: 123 :: (inner (.mk 1 q [] n o wd) ++ [125])).length - 1)).drop 2 = inner (.mk 1 q [] n o wd) := by
      rw [show 36 :: 123 :: (inner (.mk 1 q [] n o wd) ++ [125]) ++ z = (36 :: 123 :: inner (.mk 1 q [] n o wd)) ++ (125 :: z) by simp, List.take_left' (by simp)]
      rfl
    rw [e2, show (Pt.mk 1 q [] n o wd).q = q from rfl, braces_same hp0 (hw 1 q [] n o wd rfl)]
    rfl
theorem step1_same {w : List UInt8 → Except Int (List Pt)} {b : Bool} {p : Pt} (hp : CanP b p) (hk : p.kind ≠ 0) (hn : needP p ≤ 30) (hw : ∀ k q t n o wd, p = .mk k q t n o wd → OpOk n o wd → w (print wd) = .ok wd) (z : List UInt8) : step1 w (printP p ++ z) = .ok ([p], (printP p).length) := by
  have hd := dollar_same hp hk hn hw
  obtain ⟨c, r, he, hc⟩ := body_head hp hk
  rw [printP_body hp hk]
  cases hq : p.q with
  | false =>
    rw [about, if_neg (by decide)]
    rw [hq] at hd
    have := hd z
    rw [he] at this ⊢
    rw [List.cons_append] at this ⊢
    rw [step1, if_neg (by decide), if_pos rfl, this]
    rfl
  | true =>
    rw [about, if_pos rfl]
    rw [hq] at hd
    have hu : unit 30 0 (34 :: body p ++ [34] ++ z) = some ((body p).length + 2) := by
      rw [show 34 :: body p ++ [34] ++ z = 34 :: (body p ++ 34 :: z) by simp, unit_dq 29]
      have := body_unit p hp hk 29 (by omega) 34 (34 :: z)
      rw [he] at this ⊢
      rw [List.cons_append] at this ⊢
      rw [nest_on (by decide) this, ← List.cons_append, List.drop_left, nest_end]
      show some _ = some _
      congr 1
      dsimp only
      omega
    have hdb : double w (body p) = .ok [p] := by
      unfold double
      rw [if_neg (by rw [he]; simp)]
      show doubleOn w (body p) [] = _
      have h2 : step2 w (body p) = .ok (p, (body p).length) := by
        have := hd []
        rw [List.append_nil] at this
        rw [he] at this ⊢
        rw [step2, if_pos rfl]
        exact this
      generalize hbl : (body p).length = bl at h2
      rw [he] at h2 hbl ⊢
      rw [doubleOn_go h2, ← hbl, List.drop_length, doubleOn_nil]
      rfl
    have h3 : 34 :: body p ++ [34] ++ z = 34 :: (body p ++ 34 :: z) := by simp
    rw [h3] at hu ⊢
    rw [step1, if_pos (.inr (.inr rfl)), hu]
    simp only []
    rw [if_neg (by decide), if_neg (by decide), Nat.add_sub_cancel, List.take_left, hdb]
    show Except.ok _ = Except.ok _
    congr 2
    simp
theorem parts_is (d : Nat) (s : List UInt8) : parts (d + 1) s = partsOn (parts d) s [] := by rw [parts]; rfl
mutual
theorem parts_print : ∀ (l : List Pt) (b : Bool), CanL b l → ∀ d, needL l ≤ d + 1 → d + 1 ≤ 30 → ∀ acc, (∀ p, l.head? = some p → ∀ a, acc.getLast? = some a → alike a p = false) → partsOn (parts d) (print l) acc = .ok (acc ++ l)
  | [], _, _, d, _, _, acc, _ => by rw [print, partsOn_nil, List.append_nil]
  | p :: l, b, hc, d, hd, hd2, acc, ha => by
    rw [CanL] at hc
    rw [needL] at hd
    obtain ⟨hp, hr, hl⟩ := hc
    have ih := parts_print l b hl d (by omega) hd2 (acc ++ [p]) (fun r h a h2 => by
      rw [List.getLast?_concat] at h2
      cases h2
      exact hr r h)
    rw [List.append_assoc, List.singleton_append] at ih
    rw [print, ← ih]
    by_cases hk : p.kind = 0
    · obtain ⟨k, q, t, n, o, w⟩ := p
      obtain rfl : k = 0 := hk
      rw [printP_text]
      rw [CanP] at hp
      obtain ⟨_, rfl, rfl, rfl, hp2⟩ := (hp.resolve_right (by rintro (⟨h, _⟩ | ⟨h, _⟩ | ⟨h, _⟩) <;> omega))
      cases q with
      | true =>
        rw [if_pos rfl, single_enc]
        have := parts_quoted (w := parts d) (acc := acc) (r := print l) (fun x a h2 => ha _ rfl a h2) t [] (by simp)
        rw [show 39 :: enc t ++ [39] ++ print l = 39 :: ([] ++ enc t ++ 39 :: print l) by simp, this]
        rfl
      | false =>
        obtain ⟨ht, hp⟩ := hp2 rfl
        have hs : shut (print l ++ []) := print_shut hl (fun r h h0 => by
          have := hr r h
          obtain ⟨k', q', t', n', o', w'⟩ := r
          obtain rfl : k' = 0 := h0
          cases q' with
          | true => rfl
          | false => exact absurd this (by simp [alike, Pt.kind, Pt.q])) _ (by intro c hc; simp at hc)
        rw [List.append_nil] at hs
        rw [if_neg (by decide)]
        cases t with
        | nil => exact absurd rfl ht
        | cons c t =>
          obtain ⟨h1, h2, h3, h4, _, h6⟩ := hp
          have hn : c = 36 → okBy (t ++ print l) := by
            intro hc
            cases t with
            | nil => exact hs.ok
            | cons x t => exact fun y hy => h4 hc y hy
          rw [List.cons_append, partsOn_go (step1_plain h1 h2 h3 hn), List.drop_one, List.tail_cons, List.foldl_cons, List.foldl_nil, add_app (p := txt false [c]) (fun a h2 => ha _ rfl a h2)]
          exact parts_plain t [c] h6 (fun _ => hs.ok)
    · have hs := step1_same (w := parts d) hp hk (by omega) (fun k q t n o wd e ho => by
        have := parts_word p hp d (by omega) hd2 k q t n o wd e ho
        exact this) (print l)
      obtain ⟨c, r, he⟩ : ∃ c r, printP p ++ print l = c :: r := by
        obtain ⟨c, r, he, _⟩ := body_head hp hk
        rw [printP_body hp hk, he]
        unfold about
        split
        · exact ⟨_, _, rfl⟩
        · exact ⟨_, _, rfl⟩
      generalize hpl : (printP p).length = pl at hs
      rw [he] at hs
      rw [he, partsOn_go hs, ← he, ← hpl, List.drop_left, List.foldl_cons, List.foldl_nil, add_app (fun a _ => alike_kind hk)]
theorem parts_word : ∀ (p : Pt) {b : Bool}, CanP b p → ∀ d, needP p ≤ d + 1 → d + 1 ≤ 30 → ∀ k q t n o wd, p = .mk k q t n o wd → OpOk n o wd → parts d (print wd) = .ok wd
  | .mk k q t n o w, b, hp, d, hd, hd2, k', q', t', n', o', wd, e, ho => by
    injection e with e1 e2 e3 e4 e5 e6
    subst e1 e2 e3 e4 e5 e6
    rw [CanP] at hp
    rw [needP] at hd
    have hm := wops_head ho.1
    rcases hp with ⟨_, _, rfl, _⟩ | ⟨_, _, rfl, _⟩ | ⟨_, _, rfl, _⟩ | ⟨rfl, _, _, h⟩
    · obtain ⟨_, _, h, _⟩ := hm; cases h
    · obtain ⟨_, _, h, _⟩ := hm; cases h
    · obtain ⟨_, _, h, _⟩ := hm; cases h
    · rw [if_neg (by omega), if_pos rfl] at hd
      rcases h with ⟨h, _⟩ | ⟨rfl, _⟩ | ⟨_, _, hw, _⟩
      · obtain ⟨_, _, _, _, _, _, h2⟩ := hm; exact absurd h h2
      · obtain ⟨_, _, h, _⟩ := hm; cases h
      · obtain ⟨d, rfl⟩ : ∃ c, d = c + 1 := ⟨d - 1, by have := needL_pos w; omega⟩
        rw [parts_is, parts_print w true hw d (by omega) (by omega) [] (fun _ _ a ha => by cases ha), List.nil_append]
end
theorem parts_told {l : List Pt} {b : Bool} (hl : CanL b l) (hn : needL l ≤ 30) : parts 30 (print l) = .ok l := by
  rw [parts_is, parts_print l b hl 29 (by omega) (by omega) [] (fun _ _ a ha => by cases ha), List.nil_append]
end Wx
end Go.Proofs.YtphgnjjblpmijaaDoor

/-
  Parts that were read have the form, and need few levels; so they are read again as they were. Nothing of the program stands here.
-/
namespace Go.Proofs.YtphgnjjblpmijaaDoor
namespace Wx
open Lx

/-! ### Lists of parts -/
theorem canL_nil (b : Bool) : CanL b [] := by rw [CanL]; trivial
theorem canL_cons {b : Bool} {p : Pt} {l : List Pt} : CanL b (p :: l) ↔ CanP b p ∧ (∀ r, l.head? = some r → alike p r = false) ∧ CanL b l := by rw [CanL]
theorem can_snoc {b : Bool} {p : Pt} : ∀ {l : List Pt}, CanL b (l ++ [p]) ↔ CanL b l ∧ CanP b p ∧ (∀ a, l.getLast? = some a → alike a p = false)
  | [] => by
    rw [List.nil_append, canL_cons]
    exact ⟨fun h => ⟨canL_nil b, h.1, fun a ha => nomatch ha⟩, fun h => ⟨h.2.1, fun r hr => (nomatch hr), canL_nil b⟩⟩
  | [x] => by
    rw [List.singleton_append, canL_cons, canL_cons, canL_cons]
    constructor
    · rintro ⟨h1, h2, h3, _, _⟩
      exact ⟨⟨h1, fun r hr => (nomatch hr), canL_nil b⟩, h3, fun a ha => by cases ha; exact h2 p rfl⟩
    · rintro ⟨⟨h1, _, _⟩, h3, h4⟩
      exact ⟨h1, fun r hr => by cases hr; exact h4 x rfl, h3, fun r hr => (nomatch hr), canL_nil b⟩
  | x :: y :: l => by
    have ih := can_snoc (b := b) (p := p) (l := y :: l)
    rw [List.cons_append, canL_cons, ih, canL_cons]
    constructor
    · rintro ⟨h1, h2, h3, h4, h5⟩
      exact ⟨⟨h1, h2, h3⟩, h4, fun a ha => h5 a (by simpa using ha)⟩
    · rintro ⟨⟨h1, h2, h3⟩, h4, h5⟩
      exact ⟨h1, h2, h3, h4, fun a ha => h5 a (by simpa using ha)⟩
theorem need_nil : needL [] = 1 := by rw [needL]
theorem need_cons (p : Pt) (l : List Pt) : needL (p :: l) = max (needP p) (needL l) := by rw [needL]
theorem need_snoc (p : Pt) : ∀ l, needL (l ++ [p]) = max (needL l) (needP p)
  | [] => by rw [List.nil_append, need_cons, need_nil]; omega
  | x :: l => by rw [List.cons_append, need_cons, need_snoc p l, need_cons]; omega
theorem allq_nil : AllQ [] := by rw [AllQ]; trivial
theorem allq_cons {p : Pt} {l : List Pt} : AllQ (p :: l) ↔ AllQP p ∧ AllQ l := by rw [AllQ]
theorem allq_snoc (p : Pt) : ∀ l, AllQ (l ++ [p]) ↔ AllQ l ∧ AllQP p
  | [] => by rw [List.nil_append, allq_cons]; exact ⟨fun h => ⟨h.2, h.1⟩, fun h => ⟨h.2, h.1⟩⟩
  | x :: l => by rw [List.cons_append, allq_cons, allq_snoc p l, allq_cons, and_assoc]
theorem cmds_none : cmds [] = false := by rw [cmds]
theorem cmds_cons (p : Pt) (l : List Pt) : cmds (p :: l) = (cmdP p || cmds l) := by rw [cmds]
theorem cmds_snoc (p : Pt) : ∀ l, cmds (l ++ [p]) = (cmds l || cmdP p)
  | [] => by rw [List.nil_append, cmds_cons, cmds_none, Bool.or_false, Bool.false_or]
  | x :: l => by rw [List.cons_append, cmds_cons, cmds_snoc p l, cmds_cons, Bool.or_assoc]
theorem needP_txt (q : Bool) (t n o : List UInt8) (w : List Pt) : needP (.mk 0 q t n o w) = 1 := by rw [needP, if_pos rfl]
theorem canP_txt {b q : Bool} {t n o : List UInt8} {w : List Pt} : CanP b (.mk 0 q t n o w) ↔ n = [] ∧ o = [] ∧ w = [] ∧ (q = false → t ≠ [] ∧ plainT b t) := by
  rw [CanP]
  constructor
  · intro h
    exact (h.resolve_right (by rintro (⟨h, _⟩ | ⟨h, _⟩ | ⟨h, _⟩) <;> omega)).2
  · exact fun h => .inl ⟨rfl, h⟩
theorem alike_is {a p : Pt} (h : alike a p = true) : a.kind = 0 ∧ p.kind = 0 ∧ a.q = p.q := by
  unfold alike at h
  simp at h
  exact ⟨h.1.2, h.1.1, h.2⟩
theorem alike_eq {a p r : Pt} (hk : a.kind = p.kind) (hq : a.q = p.q) : alike r a = alike r p := by unfold alike; rw [hk, hq]
/-- A part that is quoted, or no text: it may be put to any parts. -/
theorem add_can {b : Bool} {acc : List Pt} {p : Pt} (ha : CanL b acc) (hp : CanP b p) (hq : p.kind = 0 → p.q = true) : CanL b (add acc p) ∧ needL (add acc p) ≤ max (needL acc) (needP p) ∧ (∀ l t, add acc p ≠ l ++ [txt false t]) := by
  rcases List.eq_nil_or_concat acc with rfl | ⟨l, a, rfl⟩
  · show CanL b ([] ++ [p]) ∧ needL ([] ++ [p]) ≤ _ ∧ (∀ l t, [] ++ [p] ≠ _)
    refine ⟨can_snoc.2 ⟨ha, hp, fun a h => by cases h⟩, by rw [need_snoc]; exact Nat.le_refl _, fun l t e => ?_⟩
    obtain ⟨_, rfl⟩ := List.append_inj' e rfl |>.imp id (fun h => (List.cons.inj h).1)
    exact absurd (show false = true from hq rfl) (by decide)
  · rw [List.concat_eq_append] at ha ⊢
    obtain ⟨h1, h2, h3⟩ := can_snoc.1 ha
    rw [add_onto]
    split
    · rename_i hal
      obtain ⟨k1, k2, k3⟩ := alike_is hal
      have hq := hq k2
      obtain ⟨k, q, t, n, o, w⟩ := a
      obtain rfl : k = 0 := k1
      obtain rfl : q = true := k3.trans hq
      obtain ⟨rfl, rfl, rfl, _⟩ := canP_txt.1 h2
      refine ⟨can_snoc.2 ⟨h1, canP_txt.2 ⟨rfl, rfl, rfl, fun h => by cases h⟩, fun a ha => (alike_eq rfl rfl).trans (h3 a ha)⟩, ?_, fun l t e => ?_⟩
      · rw [need_snoc, need_snoc, joined, needP_txt, needP_txt]; omega
      · obtain ⟨_, h⟩ := List.append_inj' e rfl
        cases h
    · rename_i hal
      refine ⟨can_snoc.2 ⟨ha, hp, fun a' h => ?_⟩, by rw [need_snoc]; exact Nat.le_refl _, fun l t e => ?_⟩
      · rw [List.getLast?_concat] at h
        cases h
        simpa using hal
      · obtain ⟨_, h⟩ := List.append_inj' e rfl
        obtain rfl := (List.cons.inj h).1
        exact absurd (show false = true from hq rfl) (by decide)
theorem plainT_snoc {b : Bool} {t s : List UInt8} (ht : plainT b t) (hs : plainT b s) (h : t.getLast? = some 36 → okBy s) : plainT b (t ++ s) := by
  induction t with
  | nil => exact hs
  | cons c t ih =>
    obtain ⟨h1, h2, h3, h4, h5, h6⟩ := ht
    refine ⟨h1, h2, h3, fun hc => ?_, h5, ih h6 fun h7 => h ?_⟩
    · cases t with
      | nil => exact h (by rw [hc]; rfl)
      | cons x t => exact fun y hy => h4 hc y hy
    · cases t with
      | nil => cases h7
      | cons x t => simpa using h7
/-- An unquoted byte. -/
theorem add_plain {b : Bool} {acc : List Pt} {c : UInt8} {r : List UInt8} (ha : CanL b acc) (ht : ∀ l t, acc = l ++ [txt false t] → t.getLast? = some 36 → okBy (c :: r)) (h1 : c ≠ 92) (h2 : c ≠ 39) (h3 : c ≠ 34) (h4 : c = 36 → okBy r) (h5 : b = true → c ≠ 125) :
    CanL b (add acc (txt false [c])) ∧ needL (add acc (txt false [c])) ≤ needL acc ∧ (∀ l t, add acc (txt false [c]) = l ++ [txt false t] → t.getLast? = some 36 → okBy r) := by
  have hpl : plainT b [c] := ⟨h1, h2, h3, fun _ x hx => by simp at hx, h5, trivial⟩
  have hcp : CanP b (txt false [c]) := canP_txt.2 ⟨rfl, rfl, rfl, fun _ => ⟨by simp, hpl⟩⟩
  have hn : needP (txt false [c]) = 1 := needP_txt ..
  rcases List.eq_nil_or_concat acc with rfl | ⟨l, a, rfl⟩
  · show CanL b ([] ++ [txt false [c]]) ∧ needL ([] ++ [txt false [c]]) ≤ _ ∧ (∀ l t, [] ++ [txt false [c]] = _ → _)
    refine ⟨can_snoc.2 ⟨ha, hcp, fun a h => by cases h⟩, by rw [need_snoc, hn, needL]; omega, fun l t e h => ?_⟩
    obtain ⟨_, e2⟩ := List.append_inj' e rfl
    cases e2
    exact h4 (by simpa using h)
  · rw [List.concat_eq_append] at ha ht ⊢
    obtain ⟨g1, g2, g3⟩ := can_snoc.1 ha
    have hpos := needL_pos (l ++ [a])
    rw [add_onto]
    split
    · rename_i hal
      obtain ⟨k1, k2, k3⟩ := alike_is hal
      obtain ⟨k, q, t, n, o, w⟩ := a
      obtain rfl : k = 0 := k1
      obtain rfl : q = false := k3
      obtain ⟨rfl, rfl, rfl, h⟩ := canP_txt.1 g2
      obtain ⟨hne, hpt⟩ := h rfl
      refine ⟨can_snoc.2 ⟨g1, canP_txt.2 ⟨rfl, rfl, rfl, fun _ => ⟨show t ++ [c] ≠ [] by simp, plainT_snoc hpt hpl fun h7 x hx => ht l t rfl h7 x hx⟩⟩, fun a ha => (alike_eq rfl rfl).trans (g3 a ha)⟩, ?_, fun l t e h => ?_⟩
      · rw [need_snoc, need_snoc, joined, needP_txt, needP_txt]; omega
      · obtain ⟨_, e2⟩ := List.append_inj' e rfl
        cases e2
        exact h4 (by simpa [Pt.text, txt] using h)
    · rename_i hal
      refine ⟨can_snoc.2 ⟨ha, hcp, fun a' h => ?_⟩, by rw [need_snoc, hn]; omega, fun l t e h => ?_⟩
      · rw [List.getLast?_concat] at h
        cases h
        simpa using hal
      · obtain ⟨_, e2⟩ := List.append_inj' e rfl
        cases e2
        exact h4 (by simpa using h)

/-! ### All quoted -/
theorem print_none {b : Bool} : ∀ {l : List Pt}, CanL b l → print l = [] → l = []
  | [], _, _ => rfl
  | p :: l, hc, h => by
    rw [CanL] at hc
    rw [print] at h
    have h := (List.append_eq_nil_iff.1 h).1
    by_cases hk : p.kind = 0
    · obtain ⟨k, q, t, n, o, w⟩ := p
      obtain rfl : k = 0 := hk
      obtain ⟨_, _, _, h2⟩ := canP_txt.1 hc.1
      rw [printP_text] at h
      cases q with
      | true => rw [if_pos rfl, single_enc] at h; simp at h
      | false => rw [if_neg (by decide)] at h; exact absurd h (h2 rfl).1
    · rw [printP_body hc.1 hk] at h
      obtain ⟨c, r, he, _⟩ := body_head hc.1 hk
      rw [he] at h
      unfold about at h
      split at h <;> simp at h
/-- What the text of parts begins with. -/
theorem print_first {b : Bool} {l : List Pt} (hc : CanL b l) {c : UInt8} (h : (print l).head? = some c) : c = 39 ∨ c = 34 ∨ c = 36 ∨ (∃ t m, l = txt false t :: m ∧ t.head? = some c) := by
  cases l with
  | nil => rw [print] at h; cases h
  | cons p l =>
    rw [CanL] at hc
    rw [print] at h
    by_cases hk : p.kind = 0
    · obtain ⟨k, q, t, n, o, w⟩ := p
      obtain rfl : k = 0 := hk
      obtain ⟨rfl, rfl, rfl, h2⟩ := canP_txt.1 hc.1
      rw [printP_text] at h
      cases q with
      | true => rw [if_pos rfl, single_enc] at h; simp at h; exact .inl h.symm
      | false =>
        rw [if_neg (by decide)] at h
        obtain ⟨h3, _⟩ := h2 rfl
        refine .inr (.inr (.inr ⟨t, l, rfl, ?_⟩))
        cases t with
        | nil => exact absurd rfl h3
        | cons x t => simpa using h
    · rw [printP_body hc.1 hk] at h
      obtain ⟨x, r, he, _⟩ := body_head hc.1 hk
      rw [he] at h
      unfold about at h
      split at h
      · simp at h; exact .inr (.inl h.symm)
      · simp at h; exact .inr (.inr (.inl h.symm))
theorem allq_first {b : Bool} {l : List Pt} (hc : CanL b l) (hq : AllQ l) {c : UInt8} (h : (print l).head? = some c) : c = 39 ∨ c = 34 ∨ c = 36 := by
  rcases print_first hc h with h | h | h | ⟨t, m, rfl, _⟩
  · exact .inl h
  · exact .inr (.inl h)
  · exact .inr (.inr h)
  · rw [AllQ] at hq
    exact absurd (show AllQP (.mk 0 false t [] [] []) from hq.1) (by rw [AllQP]; simp)
theorem opok_quoted {n o : List UInt8} {w v : List Pt} (h : OpOk n o w) (hv : CanL true v) (hq : AllQ v) (hn : v = [] → print w = []) : OpOk n o v := by
  obtain ⟨h1, h2, h3, h4, h5⟩ := h
  refine ⟨h1, fun _ e => ?_, fun _ e => ?_, fun a b e => h4 a b (hn (print_none hv e)), h5⟩
  · rcases allq_first hv hq e with h | h | h <;> exact absurd h (by decide)
  · rcases allq_first hv hq e with h | h | h <;> exact absurd h (by decide)
theorem add_more (acc : List Pt) (p : Pt) : add acc p ≠ [] := by
  unfold add
  split
  · simp
  · split <;> simp
theorem add_allq {acc : List Pt} {p : Pt} (ha : AllQ acc) (hp : AllQP p) : AllQ (add acc p) := by
  rcases List.eq_nil_or_concat acc with rfl | ⟨l, a, rfl⟩
  · exact (allq_snoc p []).2 ⟨ha, hp⟩
  · rw [List.concat_eq_append] at ha ⊢
    rw [add_onto]
    split
    · obtain ⟨h1, h2⟩ := (allq_snoc _ _).1 ha
      refine (allq_snoc _ _).2 ⟨h1, ?_⟩
      obtain ⟨k, q, t, n, o, w⟩ := a
      rw [AllQP] at h2
      rw [joined, AllQP]; exact h2
    · exact (allq_snoc _ _).2 ⟨ha, hp⟩
theorem add_cmds {acc : List Pt} {p : Pt} (ha : cmds acc = false) (hp : cmdP p = false) : cmds (add acc p) = false := by
  rcases List.eq_nil_or_concat acc with rfl | ⟨l, a, rfl⟩
  · show cmds ([] ++ [p]) = false
    rw [cmds_snoc, hp, ha]; rfl
  · rw [List.concat_eq_append] at ha ⊢
    rw [add_onto]
    split
    · rw [cmds_snoc] at ha ⊢
      obtain ⟨k, q, t, n, o, w⟩ := a
      rw [cmdP] at ha
      rw [joined, cmdP]; exact ha
    · rw [cmds_snoc, ha, hp]; rfl
mutual
theorem quotes_can (b : Bool) : ∀ (l : List Pt), CanL b l → ∀ acc, (∀ b, CanL b acc) → AllQ acc → (∀ b, CanL b (quotesOn acc l)) ∧ AllQ (quotesOn acc l) ∧ needL (quotesOn acc l) ≤ max (needL acc) (needL l) ∧ (cmds acc = false → cmds l = false → cmds (quotesOn acc l) = false) ∧ (quotesOn acc l = [] → acc = [] ∧ l = [])
  | [], _, acc, ha, hq => by
    rw [quotesOn]
    exact ⟨ha, hq, by omega, fun h _ => h, fun h => ⟨h, rfl⟩⟩
  | p :: l, hc, acc, ha, hq => by
    rw [CanL] at hc
    obtain ⟨p1, p2, p3, p4, p5⟩ := quoteP_can b p hc.1
    have hadd := fun c => add_can (ha c) (p1 c) (fun _ => p5)
    obtain ⟨h1, h2, h3, h4, h5⟩ := quotes_can b l hc.2.2 (add acc (quoteP p)) (fun c => (hadd c).1) (add_allq hq p2)
    rw [quotesOn]
    refine ⟨h1, h2, ?_, fun e1 e2 => ?_, fun e => absurd (h5 e).1 (add_more _ _)⟩
    · have := (hadd true).2.1
      rw [needL]
      omega
    · rw [cmds] at e2
      have e2 := Bool.or_eq_false_iff.1 e2
      exact h4 (add_cmds e1 (p4 e2.1)) e2.2
theorem quoteP_can (b : Bool) : ∀ (p : Pt), CanP b p → (∀ b, CanP b (quoteP p)) ∧ AllQP (quoteP p) ∧ needP (quoteP p) ≤ needP p ∧ (cmdP p = false → cmdP (quoteP p) = false) ∧ (quoteP p).q = true
  | .mk k q t n o w, hc => by
    rw [CanP] at hc
    rw [quoteP]
    rcases hc with ⟨rfl, rfl, rfl, rfl, _⟩ | ⟨rfl, rfl, rfl, rfl, h⟩ | ⟨rfl, rfl, rfl, rfl, h⟩ | ⟨rfl, rfl, hn, h⟩
    · rw [quotesOn]
      exact ⟨fun b => canP_txt.2 ⟨rfl, rfl, rfl, fun h => by cases h⟩, by rw [AllQP, AllQ]; exact ⟨rfl, trivial⟩, by rw [needP_txt, needP_txt]; exact Nat.le_refl _, fun _ => by rw [cmdP, cmds]; rfl, rfl⟩
    · rw [quotesOn]
      exact ⟨fun b => by rw [CanP]; exact .inr (.inl ⟨rfl, rfl, rfl, rfl, h⟩), by rw [AllQP, AllQ]; exact ⟨rfl, trivial⟩, by rw [needP, needP]; exact Nat.le_refl _, fun h => by rw [cmdP] at h ⊢; exact h, rfl⟩
    · rw [quotesOn]
      exact ⟨fun b => by rw [CanP]; exact .inr (.inr (.inl ⟨rfl, rfl, rfl, rfl, h⟩)), by rw [AllQP, AllQ]; exact ⟨rfl, trivial⟩, by rw [needP, needP]; exact Nat.le_refl _, fun h => by rw [cmdP] at h ⊢; exact h, rfl⟩
    · rcases h with ⟨rfl, rfl⟩ | ⟨rfl, rfl⟩ | ⟨ho, hcm, hw, _⟩
      · rw [quotesOn]
        exact ⟨fun b => by rw [CanP]; exact .inr (.inr (.inr ⟨rfl, rfl, hn, .inl ⟨rfl, rfl⟩⟩)), by rw [AllQP, AllQ]; exact ⟨rfl, trivial⟩, by rw [needP, needP]; exact Nat.le_refl _, fun h => by rw [cmdP] at h ⊢; exact h, rfl⟩
      · rw [quotesOn]
        exact ⟨fun b => by rw [CanP]; exact .inr (.inr (.inr ⟨rfl, rfl, hn, .inr (.inl ⟨rfl, rfl⟩)⟩)), by rw [AllQP, AllQ]; exact ⟨rfl, trivial⟩, by rw [needP, needP]; exact Nat.le_refl _, fun h => by rw [cmdP] at h ⊢; exact h, rfl⟩
      · obtain ⟨h1, h2, h3, h4, h5⟩ := quotes_can true w hw [] (fun b => by rw [CanL]; trivial) (by rw [AllQ]; trivial)
        have hcm2 := h4 (by rw [cmds]) hcm
        refine ⟨fun b => by
          rw [CanP]
          exact .inr (.inr (.inr ⟨rfl, rfl, hn, .inr (.inr ⟨opok_quoted ho (h1 true) h2 fun e => by rw [(h5 e).2, print], hcm2, h1 true, fun _ => h2⟩)⟩)), by rw [AllQP]; exact ⟨rfl, h2⟩, ?_, fun _ => ?_, rfl⟩
        · rw [needP, needP, if_neg (by omega), if_pos rfl, if_neg (by omega), if_pos rfl]
          have e : needL [] = 1 := by rw [needL]
          have := needL_pos w
          omega
        · rw [cmdP, hcm2]; rfl
end
end Wx
end Go.Proofs.YtphgnjjblpmijaaDoor

/-
  What is read of a text has the form, and needs few levels; so it is read again as it was. Nothing of the program stands here.
-/
namespace Go.Proofs.YtphgnjjblpmijaaDoor
namespace Wx
open Lx

/-! ### In braces -/
/-- The text ends where the braces end. -/
def Cl (d : Nat) (s : List UInt8) : Prop := ∃ z, nest d 125 (s ++ 125 :: z) = some (s.length + 1)
theorem nest_last {d : Nat} {e : UInt8} : ∀ (n : Nat) (l : List UInt8) (j : Nat), l.length ≤ n → nest d e l = some j → ∃ a z, l = a ++ e :: z ∧ j = a.length + 1
  | _, [], _, _, h => by rw [nest_nil] at h; cases h
  | 0, _ :: _, _, hn, _ => by simp at hn
  | n + 1, c :: r, j, hn, h => by
    by_cases hc : c = e
    · subst hc
      rw [nest_end] at h
      cases h
      exact ⟨[], r, rfl, rfl⟩
    · cases hk : unit d e (c :: r) with
      | none => rw [nest_bad hc hk] at h; cases h
      | some k =>
        have h1 := unit_le _ hk
        rw [nest_on hc hk] at h
        obtain ⟨i, hi, rfl⟩ := Option.map_eq_some_iff.1 h
        obtain ⟨a, z, he, rfl⟩ := nest_last n _ i (by rw [List.length_drop]; omega) hi
        refine ⟨(c :: r).take k ++ a, z, ?_, ?_⟩
        · rw [List.append_assoc, ← he, List.take_append_drop]
        · rw [List.length_append, List.length_take]; omega
theorem unit_any_e : ∀ (d : Nat) (l : List UInt8), unit d 125 l = unit d 0 l
  | 0, _ => rfl
  | _ + 1, [] => rfl
  | d + 1, c :: r => by
    rw [unit_step, unit_step]
    simp only [show ¬ (125 : UInt8) = 34 by decide, show ¬ (0 : UInt8) = 34 by decide, show ¬ (125 : UInt8) = 41 by decide, show ¬ (0 : UInt8) = 41 by decide, ne_eq, not_false_eq_true, and_true, and_false, if_false]
theorem Cl.head {d : Nat} {c : UInt8} {r : List UInt8} (h : Cl d (c :: r)) : c ≠ 125 := by
  obtain ⟨z, h⟩ := h
  rintro rfl
  rw [List.cons_append, nest_end] at h
  simp at h
theorem Cl.step {d : Nat} {a s : List UInt8} (ha : a ≠ []) (hu : unit 30 0 (a ++ s) = some a.length) (h : Cl d (a ++ s)) : Cl d s := by
  cases a with
  | nil => exact absurd rfl ha
  | cons c a =>
    have hc := h.head
    obtain ⟨z, h⟩ := h
    have hu2 : unit 30 0 (c :: a ++ (s ++ 125 :: z)) = some (c :: a).length := unit_sim 30 0 _ s _ hu (by
      intro ho
      cases s with
      | nil => exact absurd ho (by rintro (h | h) <;> simp at h)
      | cons x s => exact ho)
    rw [← unit_any_e] at hu2
    rw [List.append_assoc] at h
    cases hk : unit d 125 (c :: a ++ (s ++ 125 :: z)) with
    | none => rw [List.cons_append] at hk h; rw [nest_bad hc hk] at h; cases h
    | some k =>
      have e1 := unit_more hk (Nat.le_max_left d 30)
      have e2 := unit_more hu2 (Nat.le_max_right d 30)
      rw [e1] at e2
      obtain rfl := Option.some.inj e2
      refine ⟨z, ?_⟩
      rw [List.cons_append] at hk h
      rw [nest_on hc hk, ← List.cons_append, List.drop_left] at h
      obtain ⟨i, hi, he⟩ := Option.map_eq_some_iff.1 h
      rw [hi]
      congr 1
      rw [List.length_append] at he
      omega
theorem unit_one {c : UInt8} {r : List UInt8} (h1 : c ≠ 92) (h2 : c ≠ 39) (h3 : c ≠ 34) (h4 : c = 36 → r.head? ≠ some 40 ∧ r.head? ≠ some 123) : unit 30 0 ([c] ++ r) = some [c].length := by
  rw [List.singleton_append, unit_step 29, if_neg h1, if_neg (fun h => h2 h.1), if_neg h3, if_neg (fun h => (h4 h.1).1 h.2), if_neg (fun h => (h4 h.1).2 h.2), if_neg (fun h => absurd h.2 (by decide))]
  rfl
theorem Cl.lones {d : Nat} : ∀ {a s : List UInt8}, (∀ c ∈ a, lone c) → Cl d (a ++ s) → Cl d s
  | [], _, _, h => h
  | c :: a, s, hl, h => by
    have hc := hl c (List.mem_cons_self ..)
    refine Cl.lones (a := a) (fun x hx => hl x (List.mem_cons_of_mem _ hx)) (Cl.step (a := [c]) (by simp) ?_ (by simpa using h))
    exact unit_one hc.1 hc.2.1 hc.2.2.1 (fun e => absurd e hc.2.2.2.1)

/-! ### Names -/
theorem take_takeW {f : UInt8 → Bool} : ∀ (l : List UInt8), l.take (l.takeWhile f).length = l.takeWhile f
  | [] => rfl
  | c :: l => by
    rw [List.takeWhile_cons]
    split
    · rw [List.length_cons, List.take_succ_cons, take_takeW l]
    · rfl
theorem takeW_twice {f : UInt8 → Bool} : ∀ (l : List UInt8), ((l.takeWhile f).takeWhile f).length = (l.takeWhile f).length
  | [] => rfl
  | c :: l => by
    rw [List.takeWhile_cons]
    split
    · rename_i h
      rw [List.takeWhile_cons, if_pos h, List.length_cons, takeW_twice l, List.length_cons]
    · rfl
theorem nameL_cons (c : UInt8) (r : List UInt8) : nameL (c :: r) = if letter c then 1 + (r.takeWhile fun c => letter c || digit c).length else 0 := rfl
theorem param_take {s : List UInt8} (h : paramL s ≠ 0) : NameOk (s.take (paramL s)) := by
  have hle := paramL_le s
  refine ⟨fun e => ?_, ?_⟩
  · have := congrArg List.length e
    rw [List.length_take, Nat.min_eq_left hle] at this
    exact h this
  rw [List.length_take, Nat.min_eq_left hle]
  cases s with
  | nil => exact absurd rfl h
  | cons c r =>
    by_cases hL : letter c = true
    · have e1 : nameL (c :: r) = 1 + (r.takeWhile fun c => letter c || digit c).length := by rw [nameL_cons, if_pos hL]
      have e2 : paramL (c :: r) = 1 + (r.takeWhile fun c => letter c || digit c).length := by unfold paramL; rw [if_pos (by omega), e1]
      rw [e2, Nat.add_comm 1, List.take_succ_cons, take_takeW]
      have e3 : nameL (c :: r.takeWhile fun c => letter c || digit c) = 1 + (r.takeWhile fun c => letter c || digit c).length := by rw [nameL_cons, if_pos hL, takeW_twice]
      unfold paramL
      rw [if_pos (by omega), e3]; omega
    · have e1 : nameL (c :: r) = 0 := by rw [nameL_cons, if_neg hL]
      by_cases hD : digit c = true
      · have p1 : 0 < ((c :: r).takeWhile digit).length := by rw [List.takeWhile_cons, if_pos hD]; simp
        have e2 : paramL (c :: r) = ((c :: r).takeWhile digit).length := by unfold paramL; rw [if_neg (by omega), if_pos p1]
        rw [e2, take_takeW]
        have e4 : (c :: r).takeWhile digit = c :: r.takeWhile digit := by rw [List.takeWhile_cons, if_pos hD]
        have e3 : nameL ((c :: r).takeWhile digit) = 0 := by rw [e4, nameL_cons, if_neg hL]
        unfold paramL
        rw [if_neg (by omega), takeW_twice, if_pos p1]
      · have p1 : ¬ 0 < ((c :: r).takeWhile digit).length := by rw [List.takeWhile_cons, if_neg hD]; simp
        have e2 : paramL (c :: r) = if special c then 1 else 0 := by unfold paramL; rw [if_neg (by omega), if_neg p1]
        rw [e2] at h ⊢
        by_cases hS : special c = true
        · rw [if_pos hS, List.take_succ_cons, List.take_zero]
          unfold paramL
          rw [nameL_cons, if_neg hL, if_neg (by omega), List.takeWhile_cons, if_neg hD]
          simp [hS]
        · rw [if_neg hS] at h; exact absurd rfl h
theorem dName_param {r : List UInt8} (h : dName r ≠ 0) : NameOk (r.take (dName r)) := by
  unfold dName at h ⊢
  split
  · rename_i hs
    cases r with
    | nil => simp at hs
    | cons c r =>
      obtain ⟨h0, h1⟩ := hs
      have hS : special c = true := by simpa using h1
      have hL : ¬ letter c = true := fun hL => by rw [nameL_cons, if_pos hL] at h0; omega
      rw [List.take_succ_cons, List.take_zero]
      refine ⟨by simp, ?_⟩
      unfold paramL
      rw [nameL_cons, if_neg hL, if_neg (by omega)]
      by_cases hD : digit c = true
      · rw [List.takeWhile_cons, if_pos hD]; rfl
      · rw [List.takeWhile_cons, if_neg hD]; simp [hS]
  · rename_i hs
    rw [if_neg hs] at h
    have e : paramL r = nameL r := by unfold paramL; rw [if_pos (by omega)]
    have := param_take (s := r) (by omega)
    rwa [e] at this
theorem dName_none {r : List UInt8} (h : dName r = 0) (hu : ¬ (r.head? = some 40 ∨ r.head? = some 123)) : okBy r := by
  intro c hc
  cases r with
  | nil => cases hc
  | cons x r =>
    cases hc
    unfold dName at h
    split at h
    · cases h
    · rename_i hs
      have hL : letter c = false := by
        rw [nameL_cons] at h
        split at h
        · omega
        · rename_i h2; simpa using h2
      refine ⟨fun e => hu (.inl (by rw [e]; rfl)), fun e => hu (.inr (by rw [e]; rfl)), hL, ?_⟩
      cases hS : special c with
      | false => rfl
      | true => exact absurd ⟨h, by simp [hS]⟩ hs

/-! ### Reading gives the form -/
/-- What the first part of a list says of the text. -/
def Fst (s : List UInt8) (l : List Pt) : Prop := ∀ t m, l = txt false t :: m → t.head? = s.head?
/-- A reader of words, whose answers have the form. -/
structure Wok (w : List UInt8 → Except Int (List Pt)) : Prop where
  can : ∀ {s l}, w s = .ok l → ∀ b, (b = true → ∃ d, Cl d s) → CanL b l
  fst : ∀ {s l}, w s = .ok l → Fst s l
  non : ∀ {s}, w s = .ok [] → s = []
  few : ∀ {s l}, w s = .ok l → 2 * needL l ≤ s.length + 4
theorem opL_is {s o : List UInt8} (h : opL s = some o) : o ∈ wops ∧ ∃ x, s = o ++ x := by
  refine ⟨List.mem_of_find?_eq_some h, ?_⟩
  have hp := List.find?_some h
  obtain ⟨x, hx⟩ := List.isPrefixOf_iff_prefix.1 hp
  exact ⟨x, hx.symm⟩
theorem braces_can {w : List UInt8 → Except Int (List Pt)} (hw : Wok w) {q : Bool} {s : List UInt8} {p : Pt} (h : braces w q s = .ok p) (hcl : ∃ d, Cl d s) : (∀ b, CanP b p) ∧ p.kind = 1 ∧ 2 * needP p ≤ s.length + 7 := by
  have hle := paramL_le s
  have hone : ∀ (n o : List UInt8), needP (.mk 1 q [] n o []) = 3 := fun n o => by rw [needP, if_neg (by omega), if_pos rfl, need_nil]
  unfold braces at h
  split at h
  · rename_i hc
    cases h
    have hl : (s.drop 1).length = s.length - 1 := List.length_drop
    refine ⟨fun b => ?_, rfl, by rw [hone]; omega⟩
    rw [CanP]
    refine .inr (.inr (.inr ⟨rfl, rfl, ⟨fun e => ?_, by rw [hc.2.2, hl]⟩, .inl ⟨rfl, rfl⟩⟩))
    rw [e] at hl
    simp at hl
    omega
  rename_i hnl
  split at h
  · cases h
  rename_i hp0
  split at h
  · rename_i hd
    cases h
    have hlen := congrArg List.length hd
    rw [List.length_drop] at hlen
    simp at hlen
    refine ⟨fun b => ?_, rfl, by rw [hone]; omega⟩
    rw [CanP]
    exact .inr (.inr (.inr ⟨rfl, rfl, param_take hp0, .inr (.inl ⟨rfl, rfl⟩)⟩))
  rename_i hd
  split at h
  · cases h
  rename_i o ho
  split at h
  · cases h
  rename_i has
  split at h
  · cases h
  rename_i l hl
  split at h
  · cases h
  rename_i hcm
  cases h
  have hn := param_take hp0
  obtain ⟨hom, x, hx⟩ := opL_is ho
  obtain ⟨oc, orr, hoe, hoL, hoD, hol, holen⟩ := wops_head hom
  have hs : s = s.take (paramL s) ++ (o ++ x) := by rw [← hx, List.take_append_drop]
  have hxd : s.drop (paramL s + o.length) = x := by rw [← List.drop_drop, hx, List.drop_left]
  rw [hxd] at hl
  have hlen : s.length = paramL s + (o.length + x.length) := by
    have := congrArg List.length hs
    rw [List.length_append, List.length_append, List.length_take] at this
    omega
  have hol1 : 1 ≤ o.length := by rw [hoe]; simp
  have hcx : ∃ d, Cl d x := by
    obtain ⟨d, hd⟩ := hcl
    rw [hs] at hd
    exact ⟨d, Cl.lones hol (Cl.lones (name_lone hn) hd)⟩
  have hcan := hw.can hl true (fun _ => hcx)
  have hfew := hw.few hl
  have hok : OpOk (s.take (paramL s)) o l := by
    have hh : ∀ c : UInt8, c ≠ 39 → c ≠ 34 → c ≠ 36 → (print l).head? = some c → x.head? = some c := by
      intro c h1 h2 h3 h4
      rcases print_first hcan h4 with e | e | e | ⟨t, m, e, e2⟩
      · exact absurd e h1
      · exact absurd e h2
      · exact absurd e h3
      · rw [← hw.fst hl t m e]; exact e2
    have htwo : ∀ c : UInt8, o = [c] → x.head? = some c → opL (c :: c :: x.drop 1) = some [c] := by
      intro c e e2
      rw [hx, e] at ho
      cases x with
      | nil => cases e2
      | cons y x =>
        obtain rfl : y = c := by simpa using e2
        exact ho
    refine ⟨hom, fun e e2 => ?_, fun e e2 => ?_, fun e e2 e3 => ?_, fun e e2 => has ⟨e, e2⟩⟩
    · have := htwo 37 e (hh 37 (by decide) (by decide) (by decide) e2)
      simp [opL, wops] at this
    · have := htwo 35 e (hh 35 (by decide) (by decide) (by decide) e2)
      simp [opL, wops] at this
    · obtain rfl := print_none hcan e3
      obtain rfl := hw.non hl
      apply hnl
      rw [e, List.append_nil] at hs
      rcases e2 with rfl | rfl
      · rw [hs]; exact ⟨by decide, rfl, by decide⟩
      · rw [hs]; exact ⟨by decide, rfl, by decide⟩
  have hcm2 : cmds l = false := by simpa using hcm
  cases q with
  | false =>
    refine ⟨fun b => ?_, rfl, ?_⟩
    · rw [CanP]
      exact .inr (.inr (.inr ⟨rfl, rfl, hn, .inr (.inr ⟨hok, hcm2, hcan, fun h => by cases h⟩)⟩))
    · rw [needP, if_neg (by omega), if_pos rfl]
      simp only [Bool.false_eq_true, if_false]
      omega
  | true =>
    obtain ⟨q1, q2, q3, q4, q5⟩ := quotes_can true l hcan [] canL_nil allq_nil
    have hpos := needL_pos l
    rw [need_nil] at q3
    refine ⟨fun b => ?_, rfl, ?_⟩
    · rw [CanP]
      exact .inr (.inr (.inr ⟨rfl, rfl, hn, .inr (.inr ⟨opok_quoted hok (q1 true) q2 fun e => by rw [(q5 e).2, print], q4 cmds_none hcm2, q1 true, fun _ => q2⟩)⟩))
    · rw [needP, if_neg (by omega), if_pos rfl]
      show 2 * (2 + needL (quotesOn [] l)) ≤ _
      omega
/-- What a dollar gives. -/
structure DolOk (q : Bool) (r : List UInt8) (p : Pt) (k : Nat) : Prop where
  is : (p = txt q [36] ∧ k = 1 ∧ okBy r) ∨ (p.kind ≠ 0 ∧ (∀ b, CanP b p) ∧ 2 * needP p ≤ k + 4)
  cl : ∀ d, Cl d (36 :: r) → Cl d ((36 :: r).drop k)
theorem dollar_can {w : List UInt8 → Except Int (List Pt)} (hw : Wok w) {q : Bool} {r : List UInt8} {p : Pt} {k : Nat} (h : dollar w q (36 :: r) = .ok (p, k)) : DolOk q r p k := by
  have hk := dollar_le (by simp) h
  by_cases hu : ((36 :: r).drop 1).head? = some 40 ∨ ((36 :: r).drop 1).head? = some 123
  · rw [dollar_unit hu] at h
    rw [List.drop_one, List.tail_cons] at hu
    cases hj : unit 30 0 (36 :: r) with
    | none => rw [hj] at h; cases h
    | some j =>
      have hjl := unit_le _ hj
      rw [hj] at h
      simp only [] at h
      have hcl : j = k → ∀ d, Cl d (36 :: r) → Cl d ((36 :: r).drop k) := by
        rintro rfl d hd
        have ht : ((36 :: r).take j).length = j := by rw [List.length_take]; omega
        refine Cl.step (a := (36 :: r).take j) (fun e => by rw [e] at ht; simp at ht; omega) ?_ ?_
        · rw [List.take_append_drop, ht]; exact hj
        · rw [List.take_append_drop]; exact hd
      rcases hu with hu | hu
      · obtain ⟨r, rfl⟩ : ∃ r2, r = 40 :: r2 := by
          cases r with
          | nil => cases hu
          | cons x r => cases hu; exact ⟨r, rfl⟩
        rw [if_neg (by simp)] at h
        rw [unit_par 29] at hj
        obtain ⟨i, hi, rfl⟩ := Option.map_eq_some_iff.1 hj
        obtain ⟨a, z, rfl, rfl⟩ := nest_last _ _ _ (Nat.le_refl _) hi
        have hi2 : nest 29 41 (a ++ [41]) = some (a.length + 1) := by
          have := nest_cut (a := a ++ [41]) (x := z) [] (by rw [List.append_assoc]; simpa using hi)
          simpa using this
        split at h
        · rename_i ha
          cases h
          obtain ⟨a1, a2, a3⟩ := ha
          have e0 : 2 + (a.length + 1) - 2 = a.length + 1 := by omega
          rw [e0] at a3 ⊢
          cases a with
          | nil => simp at a1
          | cons x a =>
            obtain rfl : x = 40 := by simpa using a2
            rcases List.eq_nil_or_concat a with rfl | ⟨b, y, rfl⟩
            · simp at a1
            · rw [List.concat_eq_append] at *
              obtain rfl : y = 41 := by
                rw [List.length_cons, List.length_append] at a3
                simp at a3
                exact a3
              have et : ((36 :: 40 :: (40 :: (b ++ [41]) ++ 41 :: z)).take ((40 :: (b ++ [41])).length + 1)).drop 3 = b := by
                rw [show 36 :: 40 :: (40 :: (b ++ [41]) ++ 41 :: z) = (36 :: 40 :: 40 :: b) ++ (41 :: 41 :: z) by simp, List.take_left' (by simp)]
                rfl
              rw [et]
              refine ⟨.inr ⟨by show (3 : Int) ≠ 0; omega, fun c => ?_, ?_⟩, hcl rfl⟩
              · rw [CanP]
                refine .inr (.inr (.inl ⟨rfl, rfl, rfl, rfl, ?_⟩))
                have e1 : (40 :: (b ++ [41])) ++ [41] = 40 :: b ++ [41, 41] := by simp
                rw [e1] at hi2
                rw [hi2]
                simp
              · rw [needP, if_neg (by omega), if_neg (by omega), if_neg (by omega)]
                simp
                omega
        · rename_i ha
          cases h
          have et : ((36 :: 40 :: (a ++ 41 :: z)).take (2 + (a.length + 1) - 1)).drop 2 = a := by
            rw [show 36 :: 40 :: (a ++ 41 :: z) = (36 :: 40 :: a) ++ (41 :: z) by simp, List.take_left' (by simp; omega)]
            rfl
          rw [et]
          refine ⟨.inr ⟨by show (2 : Int) ≠ 0; omega, fun c => ?_, ?_⟩, hcl rfl⟩
          · rw [CanP]
            refine .inr (.inl ⟨rfl, rfl, rfl, rfl, hi2, ?_⟩)
            rintro ⟨b1, b2, b3⟩
            apply ha
            refine ⟨by omega, ?_, ?_⟩
            · cases a with
              | nil => cases b1
              | cons x a => simpa using b1
            · rw [List.getLast?_eq_getElem?] at b2
              rw [show 2 + (a.length + 1) - 2 = a.length - 1 + 2 by omega]
              show (a ++ 41 :: z)[a.length - 1]? = _
              rw [List.getElem?_append_left (by omega)]
              exact b2
          · rw [needP, if_neg (by omega), if_neg (by omega), if_pos rfl]
            omega
      · obtain ⟨r, rfl⟩ : ∃ r2, r = 123 :: r2 := by
          cases r with
          | nil => cases hu
          | cons x r => cases hu; exact ⟨r, rfl⟩
        rw [if_pos (by rfl)] at h
        rw [unit_brace 29] at hj
        obtain ⟨i, hi, rfl⟩ := Option.map_eq_some_iff.1 hj
        obtain ⟨a, z, rfl, rfl⟩ := nest_last _ _ _ (Nat.le_refl _) hi
        have et : ((36 :: 123 :: (a ++ 125 :: z)).take (2 + (a.length + 1) - 1)).drop 2 = a := by
          rw [show 36 :: 123 :: (a ++ 125 :: z) = (36 :: 123 :: a) ++ (125 :: z) by simp, List.take_left' (by simp; omega)]
          rfl
        rw [et] at h
        cases hb : braces w q a with
        | error e => rw [hb] at h; cases h
        | ok x =>
          rw [hb] at h
          cases h
          obtain ⟨b1, b2, b3⟩ := braces_can hw hb ⟨29, z, hi⟩
          exact ⟨.inr ⟨by rw [b2]; omega, b1, by omega⟩, hcl rfl⟩
  · rw [dollar_name hu] at h
    rw [List.drop_one, List.tail_cons] at h hu
    have hone : unit 30 0 ([36] ++ r) = some [(36 : UInt8)].length := unit_one (by decide) (by decide) (by decide) (fun _ => ⟨fun e => hu (.inl e), fun e => hu (.inr e)⟩)
    have hc1 : ∀ d, Cl d (36 :: r) → Cl d r := fun d hd => Cl.step (a := [36]) (by simp) hone hd
    split at h
    · rename_i h0
      cases h
      exact ⟨.inl ⟨rfl, rfl, dName_none h0 hu⟩, hc1⟩
    · rename_i h0
      cases h
      have hn := dName_param h0
      refine ⟨.inr ⟨by show (1 : Int) ≠ 0; omega, fun b => ?_, ?_⟩, fun d hd => ?_⟩
      · rw [CanP]
        exact .inr (.inr (.inr ⟨rfl, rfl, hn, .inr (.inl ⟨rfl, rfl⟩)⟩))
      · rw [needP, if_neg (by omega), if_pos rfl, need_nil]
        omega
      · rw [List.drop_succ_cons]
        refine Cl.lones (name_lone hn) ?_
        rw [List.take_append_drop]
        exact hc1 d hd
/-- Good within quotes: whatever it is put to. -/
def Good (m : Nat) (p : Pt) : Prop := (∀ b, CanP b p) ∧ (p.kind = 0 → p.q = true) ∧ 2 * needP p ≤ m + 4
theorem good_txt {m : Nat} (t : List UInt8) : Good m (txt true t) := ⟨fun b => canP_txt.2 ⟨rfl, rfl, rfl, fun h => by cases h⟩, fun _ => rfl, by rw [show needP (txt true t) = 1 from needP_txt ..]; omega⟩
theorem Good.more {m n : Nat} {p : Pt} (h : Good m p) (hm : m ≤ n) : Good n p := ⟨h.1, h.2.1, by have := h.2.2; omega⟩
theorem add_good {m : Nat} {acc : List Pt} {p : Pt} (ha : ∀ x ∈ acc, Good m x) (hp : Good m p) : ∀ x ∈ add acc p, Good m x := by
  rcases List.eq_nil_or_concat acc with rfl | ⟨l, a, rfl⟩
  · intro x hx
    obtain rfl := List.mem_singleton.1 (show x ∈ [p] from hx)
    exact hp
  · rw [List.concat_eq_append] at ha ⊢
    rw [add_onto]
    split
    · rename_i hal
      obtain ⟨k1, k2, k3⟩ := alike_is hal
      have hga := ha a (by simp)
      intro x hx
      rcases List.mem_append.1 hx with hx | hx
      · exact ha x (by simp [hx])
      · obtain rfl := List.mem_singleton.1 hx
        obtain ⟨k, q, t, n, o, w⟩ := a
        obtain rfl : k = 0 := k1
        obtain rfl : q = true := hga.2.1 rfl
        obtain ⟨rfl, rfl, rfl, _⟩ := canP_txt.1 (hga.1 true)
        exact good_txt _
    · intro x hx
      rcases List.mem_append.1 hx with hx | hx
      · exact ha x hx
      · obtain rfl := List.mem_singleton.1 hx
        exact hp
theorem step2_can {w : List UInt8 → Except Int (List Pt)} (hw : Wok w) {s : List UInt8} {p : Pt} {k : Nat} (h : step2 w s = .ok (p, k)) : Good k p := by
  cases s with
  | nil => cases h
  | cons c r =>
    rw [step2] at h
    split at h
    · rename_i hc
      subst hc
      rcases (dollar_can hw h).is with ⟨rfl, _, _⟩ | ⟨h1, h2, h3⟩
      · exact good_txt _
      · exact ⟨h2, fun h => absurd h h1, h3⟩
    · split at h
      · cases h; exact good_txt _
      · cases h; exact good_txt _
theorem double_can {w : List UInt8 → Except Int (List Pt)} (hw : Wok w) {m : Nat} : ∀ (n : Nat) (s : List UInt8) (acc l : List Pt), doubleF w n s acc = .ok l → s.length ≤ m → (∀ x ∈ acc, Good m x) → ∀ x ∈ l, Good m x
  | _, [], acc, l, h, _, ha => by rw [doubleF] at h; cases h; exact ha
  | 0, c :: r, acc, l, h, _, _ => by rw [doubleF] at h; cases h
  | n + 1, c :: r, acc, l, h, hm, ha => by
    rw [doubleF] at h
    cases hs : step2 w (c :: r) with
    | error e => rw [hs] at h; cases h
    | ok x =>
      obtain ⟨p, k⟩ := x
      rw [hs] at h
      have h1 := step2_le hs
      have h2 := (step2_can hw hs).more (n := m) (by omega)
      exact double_can hw n _ _ _ h (by rw [List.length_drop]; omega) (add_good ha h2)
/-- What one step gives. -/
structure StepOk (c : UInt8) (r : List UInt8) (l : List Pt) (k : Nat) : Prop where
  is : (l = [txt false [c]] ∧ k = 1 ∧ c ≠ 92 ∧ c ≠ 39 ∧ c ≠ 34 ∧ (c = 36 → okBy r)) ∨ (l ≠ [] ∧ ∀ p ∈ l, Good k p)
  cl : ∀ d, Cl d (c :: r) → Cl d ((c :: r).drop k)
theorem doubleF_ne {w : List UInt8 → Except Int (List Pt)} : ∀ (n : Nat) (s : List UInt8) (acc l : List Pt), doubleF w n s acc = .ok l → acc ≠ [] ∨ s ≠ [] → l ≠ []
  | _, [], acc, l, h, ha => by rw [doubleF] at h; cases h; exact ha.resolve_right (fun h => h rfl)
  | 0, c :: r, acc, l, h, _ => by rw [doubleF] at h; cases h
  | n + 1, c :: r, acc, l, h, _ => by
    rw [doubleF] at h
    cases hs : step2 w (c :: r) with
    | error e => rw [hs] at h; cases h
    | ok x =>
      rw [hs] at h
      exact doubleF_ne n _ _ _ h (.inl (add_more _ _))
theorem step1_can {w : List UInt8 → Except Int (List Pt)} (hw : Wok w) {c : UInt8} {r : List UInt8} {l : List Pt} {k : Nat} (h : step1 w (c :: r) = .ok (l, k)) : StepOk c r l k := by
  rw [step1] at h
  split at h
  · cases hj : unit 30 0 (c :: r) with
    | none => rw [hj] at h; cases h
    | some j =>
      have hjl := unit_le _ hj
      rw [hj] at h
      simp only [] at h
      have hcl : j = k → ∀ d, Cl d (c :: r) → Cl d ((c :: r).drop k) := by
        rintro rfl d hd
        have ht : ((c :: r).take j).length = j := by rw [List.length_take]; omega
        refine Cl.step (a := (c :: r).take j) (fun e => by rw [e] at ht; simp at ht; omega) ?_ ?_
        · rw [List.take_append_drop, ht]; exact hj
        · rw [List.take_append_drop]; exact hd
      split at h
      · cases h
        exact ⟨.inr ⟨by simp, fun p hp => by obtain rfl := List.mem_singleton.1 hp; exact good_txt _⟩, hcl rfl⟩
      · split at h
        · cases h
          exact ⟨.inr ⟨by simp, fun p hp => by obtain rfl := List.mem_singleton.1 hp; exact good_txt _⟩, hcl rfl⟩
        · cases hd : double w (r.take (j - 2)) with
          | error e => rw [hd] at h; cases h
          | ok x =>
            rw [hd] at h
            cases h
            refine ⟨.inr ?_, hcl rfl⟩
            unfold double at hd
            split at hd
            · cases hd
              exact ⟨by simp, fun p hp => by obtain rfl := List.mem_singleton.1 hp; exact good_txt _⟩
            · rename_i hne
              exact ⟨doubleF_ne _ _ _ _ hd (.inr hne), double_can hw _ _ _ _ hd (by rw [List.length_take]; omega) (fun x hx => by cases hx)⟩
  · rename_i hq
    have h92 : c ≠ 92 := fun e => hq (.inl e)
    have h39 : c ≠ 39 := fun e => hq (.inr (.inl e))
    have h34 : c ≠ 34 := fun e => hq (.inr (.inr e))
    split at h
    · rename_i hc
      subst hc
      cases hd : dollar w false (36 :: r) with
      | error e => rw [hd] at h; cases h
      | ok x =>
        obtain ⟨p, k'⟩ := x
        rw [hd] at h
        cases h
        have hD := dollar_can hw hd
        refine ⟨?_, hD.cl⟩
        rcases hD.is with ⟨rfl, h1, h2⟩ | ⟨h1, h2, h3⟩
        · exact .inl ⟨rfl, h1, h92, h39, h34, fun _ => h2⟩
        · exact .inr ⟨by simp, fun x hx => by obtain rfl := List.mem_singleton.1 hx; exact ⟨h2, fun h => absurd h h1, h3⟩⟩
    · rename_i hc
      cases h
      exact ⟨.inl ⟨rfl, rfl, h92, h39, h34, fun e => absurd e hc⟩, fun d hd => Cl.step (a := [c]) (by simp) (unit_one h92 h39 h34 (fun e => absurd e hc)) hd⟩
theorem foldl_can {b : Bool} {m : Nat} : ∀ (l acc : List Pt), l ≠ [] → (∀ p ∈ l, Good m p) → CanL b acc → 2 * needL acc ≤ m + 4 → CanL b (l.foldl add acc) ∧ 2 * needL (l.foldl add acc) ≤ m + 4 ∧ (∀ l0 t, l.foldl add acc ≠ l0 ++ [txt false t])
  | [], _, h, _, _, _ => absurd rfl h
  | [p], acc, _, hg, ha, hn => by
    have hp := hg p (by simp)
    obtain ⟨h1, h2, h3⟩ := add_can ha (hp.1 b) hp.2.1
    exact ⟨h1, by have := hp.2.2; show 2 * needL (add acc p) ≤ _; omega, h3⟩
  | p :: r :: l, acc, _, hg, ha, hn => by
    have hp := hg p (by simp)
    obtain ⟨h1, h2, h3⟩ := add_can ha (hp.1 b) hp.2.1
    rw [List.foldl_cons]
    exact foldl_can (r :: l) (add acc p) (by simp) (fun x hx => hg x (List.mem_cons_of_mem _ hx)) h1 (by have := hp.2.2; omega)
theorem partsF_can {w : List UInt8 → Except Int (List Pt)} (hw : Wok w) {b : Bool} {m : Nat} : ∀ (n : Nat) (s : List UInt8) (acc l : List Pt), partsF w n s acc = .ok l → s.length ≤ m → CanL b acc → 2 * needL acc ≤ m + 4 → (∀ l0 t, acc = l0 ++ [txt false t] → t.getLast? = some 36 → okBy s) → (b = true → ∃ d, Cl d s) → CanL b l ∧ 2 * needL l ≤ m + 4
  | _, [], acc, l, h, _, ha, hn, _, _ => by rw [partsF] at h; cases h; exact ⟨ha, hn⟩
  | 0, c :: r, acc, l, h, _, _, _, _, _ => by rw [partsF] at h; cases h
  | n + 1, c :: r, acc, l, h, hm, ha, hn, ht, hb => by
    rw [partsF] at h
    cases hs : step1 w (c :: r) with
    | error e => rw [hs] at h; cases h
    | ok x =>
      obtain ⟨ps, k⟩ := x
      rw [hs] at h
      have h1 := step1_le hs
      have hS := step1_can hw hs
      have hb2 : b = true → ∃ d, Cl d ((c :: r).drop k) := fun e => (hb e).imp fun d hd => hS.cl d hd
      have hl2 : ((c :: r).drop k).length ≤ m := by rw [List.length_drop]; omega
      rcases hS.is with ⟨rfl, rfl, h92, h39, h34, h36⟩ | ⟨hne, hg⟩
      · obtain ⟨a1, a2, a3⟩ := add_plain ha ht h92 h39 h34 h36 (fun e => by obtain ⟨d, hd⟩ := hb e; exact hd.head)
        exact partsF_can hw n _ _ _ h hl2 a1 (by show 2 * needL (add acc (txt false [c])) ≤ _; omega) a3 hb2
      · obtain ⟨a1, a2, a3⟩ := foldl_can (m := m) ps acc hne (fun p hp => (hg p hp).more (by omega)) ha hn
        exact partsF_can hw n _ _ _ h hl2 a1 a2 (fun l0 t e => absurd e (a3 l0 t)) hb2
/-- The first one stays what it is. -/
theorem add_first (x : Pt) (acc : List Pt) (p : Pt) : ∃ y m, add (x :: acc) p = y :: m ∧ y.kind = x.kind ∧ y.q = x.q ∧ (x.text ≠ [] → y.text.head? = x.text.head?) := by
  rcases List.eq_nil_or_concat acc with rfl | ⟨l, a, rfl⟩
  · show ∃ y m, add ([] ++ [x]) p = y :: m ∧ _
    rw [add_onto]
    split
    · obtain ⟨k, q, t, n, o, w⟩ := x
      refine ⟨_, _, rfl, rfl, rfl, fun h => ?_⟩
      cases t with
      | nil => exact absurd rfl h
      | cons c t => rfl
    · exact ⟨_, _, rfl, rfl, rfl, fun _ => rfl⟩
  · rw [List.concat_eq_append, ← List.cons_append, add_onto]
    split
    · exact ⟨_, _, rfl, rfl, rfl, fun _ => rfl⟩
    · exact ⟨_, _, rfl, rfl, rfl, fun _ => rfl⟩
theorem foldl_first : ∀ (l : List Pt) (x : Pt) (acc : List Pt), ∃ y m, l.foldl add (x :: acc) = y :: m ∧ y.kind = x.kind ∧ y.q = x.q ∧ (x.text ≠ [] → y.text.head? = x.text.head?)
  | [], x, acc => ⟨_, _, rfl, rfl, rfl, fun _ => rfl⟩
  | p :: l, x, acc => by
    obtain ⟨y, m, e, h1, h2, h3⟩ := add_first x acc p
    rw [List.foldl_cons, e]
    obtain ⟨y', m', e', g1, g2, g3⟩ := foldl_first l y m
    refine ⟨y', m', e', g1.trans h1, g2.trans h2, fun h => ?_⟩
    have h4 := h3 h
    rw [← h4]
    refine g3 fun e5 => ?_
    rw [e5] at h4
    cases hx : x.text with
    | nil => exact h hx
    | cons c t => rw [hx] at h4; cases h4
theorem partsF_first {w : List UInt8 → Except Int (List Pt)} : ∀ (n : Nat) (s : List UInt8) (x : Pt) (acc l : List Pt), partsF w n s (x :: acc) = .ok l → ∃ y m, l = y :: m ∧ y.kind = x.kind ∧ y.q = x.q ∧ (x.text ≠ [] → y.text.head? = x.text.head?)
  | _, [], x, acc, l, h => by rw [partsF] at h; cases h; exact ⟨_, _, rfl, rfl, rfl, fun _ => rfl⟩
  | 0, c :: r, x, acc, l, h => by rw [partsF] at h; cases h
  | n + 1, c :: r, x, acc, l, h => by
    rw [partsF] at h
    cases hs : step1 w (c :: r) with
    | error e => rw [hs] at h; cases h
    | ok z =>
      obtain ⟨ps, k⟩ := z
      rw [hs] at h
      simp only [] at h
      obtain ⟨y, m, e, h1, h2, h3⟩ := foldl_first ps x acc
      rw [e] at h
      obtain ⟨y', m', e', g1, g2, g3⟩ := partsF_first n _ _ _ _ h
      refine ⟨y', m', e', g1.trans h1, g2.trans h2, fun h => ?_⟩
      have h4 := h3 h
      rw [← h4]
      refine g3 fun e5 => ?_
      rw [e5] at h4
      cases hx : x.text with
      | nil => exact h hx
      | cons c t => rw [hx] at h4; cases h4
theorem parts_ok : ∀ d, Wok (parts d)
  | 0 => ⟨fun h => (by rw [parts] at h; cases h), fun h => (by rw [parts] at h; cases h), fun h => (by rw [parts] at h; cases h), fun h => (by rw [parts] at h; cases h)⟩
  | d + 1 => by
    have hw := parts_ok d
    have hcan : ∀ {s l}, parts (d + 1) s = .ok l → ∀ b, (b = true → ∃ d, Cl d s) → CanL b l ∧ 2 * needL l ≤ s.length + 4 := by
      intro s l h b hb
      rw [parts] at h
      exact partsF_can hw _ _ _ _ h (Nat.le_refl _) (canL_nil b) (by rw [need_nil]; omega) (fun l0 t e => by simp at e) hb
    have hfst : ∀ {c r l}, parts (d + 1) (c :: r) = .ok l → ∃ y m, l = y :: m ∧ (y.kind = 0 → y.q = false → y.text.head? = some c) := by
      intro c r l h
      rw [parts, List.length_cons, partsF] at h
      cases hs : step1 (parts d) (c :: r) with
      | error e => rw [hs] at h; cases h
      | ok z =>
        obtain ⟨ps, k⟩ := z
        rw [hs] at h
        simp only [] at h
        rcases (step1_can hw hs).is with ⟨rfl, rfl, _⟩ | ⟨hne, hg⟩
        · rw [List.foldl_cons, List.foldl_nil] at h
          obtain ⟨y, m, e, h1, h2, h3⟩ := partsF_first _ _ _ _ _ (show partsF (parts d) r.length ((c :: r).drop 1) (txt false [c] :: []) = .ok l from h)
          exact ⟨y, m, e, fun _ _ => h3 (by simp [txt, Pt.text])⟩
        · cases ps with
          | nil => exact absurd rfl hne
          | cons p ps =>
            have hp := hg p (by simp)
            rw [List.foldl_cons] at h
            obtain ⟨y1, m1, e1, a1, a2, _⟩ := foldl_first ps p []
            have h : partsF (parts d) r.length ((c :: r).drop k) (ps.foldl add (p :: [])) = .ok l := h
            rw [e1] at h
            obtain ⟨y, m, e, h1, h2, h3⟩ := partsF_first _ _ _ _ _ h
            refine ⟨y, m, e, fun g1 g2 => ?_⟩
            have := hp.2.1 (a1.symm.trans (h1.symm.trans g1))
            rw [← a2, ← h2, g2] at this
            cases this
    refine ⟨fun h b hb => (hcan h b hb).1, fun {s l} h t m e => ?_, fun {s} h => ?_, fun h => (hcan h false (fun h => by cases h)).2⟩
    · cases s with
      | nil => rw [parts] at h; cases h; cases e
      | cons c r =>
        obtain ⟨y, m', e2, h2⟩ := hfst h
        rw [e] at e2
        cases e2
        exact h2 rfl rfl
    · cases s with
      | nil => rfl
      | cons c r =>
        obtain ⟨y, m', e2, h2⟩ := hfst h
        cases e2
/-- What was read of at most 56 bytes, told, is read as it was. -/
theorem parts_back {s : List UInt8} {l : List Pt} (h : parts 30 s = .ok l) (hs : s.length ≤ 56) : parts 30 (print l) = .ok l := by
  have hc := (parts_ok 30).can h false (fun h => by cases h)
  have hn := (parts_ok 30).few h
  exact parts_told hc (by omega)
end Wx
end Go.Proofs.YtphgnjjblpmijaaDoor

/-
  Parts that are gathered otherwise than the chapter gathers them: quoted at once, a run of bytes at once, what is within quotes onto what there is. Nothing of the program stands here.
-/
namespace Go.Proofs.YtphgnjjblpmijaaDoor
namespace Wx
open Lx

theorem add_none (p : Pt) : add [] p = [p] := rfl
theorem snoc_cases (l : List Pt) : l = [] ∨ ∃ y z, l = y ++ [z] := by
  rcases List.eq_nil_or_concat l with h | ⟨y, z, h⟩
  · exact .inl h
  · exact .inr ⟨y, z, by rw [h, List.concat_eq_append]⟩
theorem joined_kind (a p : Pt) : (joined a p).kind = a.kind ∧ (joined a p).q = a.q ∧ (joined a p).text = a.text ++ p.text := by cases a; exact ⟨rfl, rfl, rfl⟩
theorem joined_joined (a b p : Pt) : joined (joined a b) p = joined a (joined b p) := by
  cases a; cases b
  simp [joined, Pt.text, List.append_assoc]
theorem alike_of {a p : Pt} (h1 : a.kind = 0) (h2 : p.kind = 0) (h3 : a.q = p.q) : alike a p = true := by
  unfold alike; rw [h1, h2, h3]; simp
/-- Two texts are added one behind the other, or as one. -/
theorem add_assoc (x : List Pt) {a p : Pt} (h1 : a.kind = 0) (h2 : p.kind = 0) (h3 : a.q = p.q) : add (add x a) p = add x (joined a p) := by
  obtain ⟨j1, j2, _⟩ := joined_kind a p
  rcases snoc_cases x with rfl | ⟨y, z, rfl⟩
  · show add [a] p = [joined a p]
    have := add_onto [] a p
    rw [alike_of h1 h2 h3, if_pos rfl] at this
    exact this
  · rw [add_onto, add_onto]
    have e : alike z (joined a p) = alike z a := alike_eq j1 j2
    rw [e]
    by_cases hz : alike z a = true
    · obtain ⟨k1, k2, k3⟩ := alike_is hz
      obtain ⟨l1, l2, _⟩ := joined_kind z a
      rw [if_pos hz, if_pos hz, add_onto, alike_of (l1.trans k1) h2 (l2.trans (k3.trans h3)), if_pos rfl, joined_joined]
    · rw [if_neg hz, if_neg hz, add_onto, alike_of h1 h2 h3, if_pos rfl]
/-! ### Quoted -/
theorem quotesOn_snoc (p : Pt) : ∀ (l acc : List Pt), quotesOn acc (l ++ [p]) = add (quotesOn acc l) (quoteP p)
  | [], acc => by rw [List.nil_append, quotesOn, quotesOn, quotesOn]
  | a :: l, acc => by rw [List.cons_append, quotesOn, quotesOn_snoc p l, quotesOn]
theorem quotes_nil : quotes [] = [] := by rw [quotes, quotesOn]
theorem quotes_snoc (l : List Pt) (p : Pt) : quotes (l ++ [p]) = add (quotes l) (quoteP p) := quotesOn_snoc p l []
theorem quoteP_is (p : Pt) : (quoteP p).kind = p.kind ∧ (quoteP p).q = true ∧ (quoteP p).text = p.text := by cases p; rw [quoteP]; exact ⟨rfl, rfl, rfl⟩
theorem quoteP_joined (a p : Pt) : quoteP (joined a p) = joined (quoteP a) (quoteP p) := by
  have h := (quoteP_is p).2.2
  cases a
  rw [joined, quoteP, quoteP, joined, h]
theorem quotes_add (l : List Pt) (p : Pt) : quotes (add l p) = add (quotes l) (quoteP p) := by
  rcases snoc_cases l with rfl | ⟨y, z, rfl⟩
  · rw [add_none, quotes_nil]
    exact quotes_snoc [] p
  · rw [add_onto]
    by_cases h : alike z p = true
    · obtain ⟨k1, k2, _⟩ := alike_is h
      obtain ⟨z1, z2, _⟩ := quoteP_is z
      obtain ⟨p1, p2, _⟩ := quoteP_is p
      rw [if_pos h, quotes_snoc, quotes_snoc, quoteP_joined, add_assoc _ (z1.trans k1) (p1.trans k2) (z2.trans p2.symm)]
    · rw [if_neg h, quotes_snoc]
theorem quotes_fold (m : List Pt) : ∀ acc, quotes (m.foldl add acc) = (m.map quoteP).foldl add (quotes acc) := by
  induction m with
  | nil => intro acc; rfl
  | cons p m ih => intro acc; rw [List.foldl_cons, ih, quotes_add, List.map_cons, List.foldl_cons]
mutual
theorem quotes_twice : ∀ (l acc : List Pt), quotes acc = acc → quotes (quotesOn acc l) = quotesOn acc l
  | [], acc, h => by rw [quotesOn]; exact h
  | p :: l, acc, h => by
    rw [quotesOn]
    exact quotes_twice l _ (by rw [quotes_add, h, quoteP_twice p])
theorem quoteP_twice : ∀ (p : Pt), quoteP (quoteP p) = quoteP p
  | .mk k q t n o w => by
    have h := quotes_twice w [] quotes_nil
    rw [quoteP, quoteP]
    rw [quotes] at h
    rw [h]
end
theorem quotes_idem (l : List Pt) : quotes (quotes l) = quotes l := quotes_twice l [] quotes_nil
/-- Quoted, if q says so. -/
def qf (q : Bool) (l : List Pt) : List Pt := if q then quotes l else l
def qP (q : Bool) (p : Pt) : Pt := if q then quoteP p else p
theorem qf_nil (q : Bool) : qf q [] = [] := by cases q; rfl; exact quotes_nil
theorem qf_add (q : Bool) (l : List Pt) (p : Pt) : qf q (add l p) = add (qf q l) (qP q p) := by cases q; rfl; exact quotes_add l p
theorem qf_fold (q : Bool) (m acc : List Pt) : qf q (m.foldl add acc) = (m.map (qP q)).foldl add (qf q acc) := by
  cases q
  · have : m.map (qP false) = m := by
      conv => rhs; rw [← List.map_id m]
      rfl
    rw [this]; rfl
  · exact quotes_fold m acc
theorem qP_txt (q : Bool) (x : List UInt8) : qP q (txt false x) = txt q x := by
  cases q
  · rfl
  · show quoteP (.mk 0 false x [] [] []) = _; rw [quoteP, quotesOn]; rfl
theorem qP_txt1 (q : Bool) (x : List UInt8) : qP q (txt true x) = txt true x := by
  cases q
  · rfl
  · show quoteP (.mk 0 true x [] [] []) = _; rw [quoteP, quotesOn]; rfl
theorem braces_quote (w : List UInt8 → Except Int (List Pt)) (s : List UInt8) : braces w true s = (braces w false s).map quoteP := by
  have h0 : ∀ n o, quoteP (.mk 1 false [] n o []) = .mk 1 true [] n o [] := fun n o => by rw [quoteP, quotesOn]
  unfold braces
  split
  · show _ = Except.ok _; rw [h0]
  · split
    · rfl
    · split
      · show _ = Except.ok _; rw [h0]
      · split
        · rfl
        · split
          · rfl
          · split
            · rfl
            · split
              · rfl
              · rename_i l _ _
                show _ = Except.ok _
                rw [quoteP]
                rfl
theorem dollar_quote (w : List UInt8 → Except Int (List Pt)) (s : List UInt8) : dollar w true s = (dollar w false s).map fun x => (quoteP x.1, x.2) := by
  have h0 : ∀ (k : Int) t n o, quoteP (.mk k false t n o []) = .mk k true t n o [] := fun k t n o => by rw [quoteP, quotesOn]
  by_cases h : (s.drop 1).head? = some 40 ∨ (s.drop 1).head? = some 123
  · rw [dollar_unit h, dollar_unit h]
    split
    · rfl
    · split
      · rw [braces_quote]
        cases braces w false _ <;> rfl
      · split
        · show _ = Except.ok (quoteP _, _); rw [h0]
        · show _ = Except.ok (quoteP _, _); rw [h0]
  · rw [dollar_name h, dollar_name h]
    split
    · show _ = Except.ok (quoteP (txt false [36]), 1)
      rw [show quoteP (txt false [36]) = txt true [36] from qP_txt true [36]]
    · show _ = Except.ok (quoteP _, _); rw [h0]
theorem dollar_q (w : List UInt8 → Except Int (List Pt)) (q : Bool) (s : List UInt8) : dollar w q s = (dollar w false s).map fun x => (qP q x.1, x.2) := by
  cases q
  · cases dollar w false s <;> rfl
  · exact dollar_quote w s
/-- What is quoted already. -/
theorem step2_quote {w : List UInt8 → Except Int (List Pt)} {s : List UInt8} {p : Pt} {k : Nat} (h : step2 w s = .ok (p, k)) (q : Bool) : qP q p = p := by
  cases q
  · rfl
  · show quoteP p = p
    cases s with
    | nil => cases h
    | cons c r =>
      rw [step2] at h
      split at h
      · rw [dollar_quote] at h
        cases hd : dollar w false (c :: r) with
        | error e => rw [hd] at h; cases h
        | ok x =>
          rw [hd] at h
          cases h
          exact quoteP_twice _
      · split at h
        · cases h; exact qP_txt1 true _
        · cases h; exact qP_txt1 true _
/-! ### Onto what there is -/
theorem fold_add (l : List Pt) (p : Pt) (acc : List Pt) : (add l p).foldl add acc = add (l.foldl add acc) p := by
  rcases snoc_cases l with rfl | ⟨y, z, rfl⟩
  · rfl
  · rw [add_onto]
    by_cases h : alike z p = true
    · obtain ⟨k1, k2, k3⟩ := alike_is h
      rw [if_pos h, List.foldl_append, List.foldl_append]
      show add _ _ = add (add _ _) p
      rw [add_assoc _ k1 k2 k3]
    · rw [if_neg h, List.foldl_append]; rfl
theorem doubleF_fold {w : List UInt8 → Except Int (List Pt)} (acc : List Pt) : ∀ (n : Nat) (s : List UInt8) (l : List Pt), doubleF w n s (l.foldl add acc) = (doubleF w n s l).map fun m => m.foldl add acc
  | _, [], l => by rw [doubleF, doubleF]; rfl
  | 0, c :: r, l => by rw [doubleF, doubleF]; rfl
  | n + 1, c :: r, l => by
    rw [doubleF, doubleF]
    cases step2 w (c :: r) with
    | error e => rfl
    | ok x =>
      obtain ⟨p, k⟩ := x
      show doubleF w n ((c :: r).drop k) (add (l.foldl add acc) p) = _
      rw [← fold_add, doubleF_fold acc n]
theorem doubleOn_fold {w : List UInt8 → Except Int (List Pt)} (acc : List Pt) (s : List UInt8) : doubleOn w s acc = (doubleOn w s []).map fun m => m.foldl add acc := doubleF_fold acc s.length s []
/-- Quoted texts within quotes, with what was quoted ahead. -/
theorem doubleF_quote {w : List UInt8 → Except Int (List Pt)} (q : Bool) : ∀ (n : Nat) (s : List UInt8) (l : List Pt), doubleF w n s (qf q l) = (doubleF w n s l).map (qf q)
  | _, [], l => by rw [doubleF, doubleF]; rfl
  | 0, c :: r, l => by rw [doubleF, doubleF]; rfl
  | n + 1, c :: r, l => by
    rw [doubleF, doubleF]
    cases hs : step2 w (c :: r) with
    | error e => rfl
    | ok x =>
      obtain ⟨p, k⟩ := x
      show doubleF w n ((c :: r).drop k) (add (qf q l) p) = _
      have h := step2_quote hs q
      rw [show add (qf q l) p = qf q (add l p) by rw [qf_add, h]]
      exact doubleF_quote q n _ _
/-! ### A run of bytes -/
def lit (c : UInt8) : Bool := c != 92 && c != 39 && c != 34 && c != 36
theorem lit_is {c : UInt8} (h : lit c = true) : c ≠ 92 ∧ c ≠ 39 ∧ c ≠ 34 ∧ c ≠ 36 := by
  simp only [lit, Bool.and_eq_true, bne_iff_ne] at h
  exact ⟨h.1.1.1, h.1.1.2, h.1.2, h.2⟩
theorem step1_lit {w : List UInt8 → Except Int (List Pt)} {c : UInt8} (h : lit c = true) (r : List UInt8) : step1 w (c :: r) = .ok ([txt false [c]], 1) := by
  obtain ⟨h1, h2, h3, h4⟩ := lit_is h
  exact step1_plain h1 h2 h3 fun e => absurd e h4
theorem parts_run1 {w : List UInt8 → Except Int (List Pt)} {acc : List Pt} {r : List UInt8} : ∀ (t t1 : List UInt8), (∀ c ∈ t, lit c = true) → partsOn w (t ++ r) (add acc (txt false t1)) = partsOn w r (add acc (txt false (t1 ++ t)))
  | [], t1, _ => by rw [List.append_nil]; rfl
  | c :: t, t1, h => by
    rw [List.cons_append, partsOn_go (step1_lit (h c (by simp)) _)]
    show partsOn w (t ++ r) (add (add acc (txt false t1)) (txt false [c])) = _
    rw [add_assoc acc (a := txt false t1) (p := txt false [c]) rfl rfl rfl]
    show partsOn w (t ++ r) (add acc (txt false (t1 ++ [c]))) = _
    rw [parts_run1 t (t1 ++ [c]) fun c hc => h c (List.mem_cons_of_mem _ hc), List.append_assoc]
    rfl
theorem parts_run {w : List UInt8 → Except Int (List Pt)} {acc : List Pt} {t r : List UInt8} (h0 : t ≠ []) (h : ∀ c ∈ t, lit c = true) : partsOn w (t ++ r) acc = partsOn w r (add acc (txt false t)) := by
  cases t with
  | nil => exact absurd rfl h0
  | cons c t =>
    rw [List.cons_append, partsOn_go (step1_lit (h c (by simp)) _)]
    show partsOn w (t ++ r) (add acc (txt false [c])) = _
    rw [parts_run1 t [c] fun c hc => h c (List.mem_cons_of_mem _ hc)]
    rfl
/-! ### Commands -/
def any2 (l : List Pt) : Bool := l.any fun p => p.kind == 2
theorem any2_add (l : List Pt) (p : Pt) : any2 (add l p) = (any2 l || p.kind == 2) := by
  rcases snoc_cases l with rfl | ⟨y, z, rfl⟩
  · simp [add_none, any2]
  · rw [add_onto]
    by_cases h : alike z p = true
    · obtain ⟨k1, k2, _⟩ := alike_is h
      obtain ⟨j1, _, _⟩ := joined_kind z p
      rw [if_pos h]
      simp [any2, j1, k1, k2]
    · rw [if_neg h]
      simp [any2, Bool.or_assoc]
theorem any2_quotesOn : ∀ (l acc : List Pt), any2 (quotesOn acc l) = (any2 acc || any2 l)
  | [], acc => by rw [quotesOn]; simp [any2]
  | p :: l, acc => by
    rw [quotesOn, any2_quotesOn l, any2_add, (quoteP_is p).1]
    simp [any2, Bool.or_assoc]
theorem any2_qf (q : Bool) (l : List Pt) : any2 (qf q l) = any2 l := by
  cases q
  · rfl
  · show any2 (quotesOn [] l) = _
    rw [any2_quotesOn]; rfl
/-- No command stands in a word. -/
def Inn (l : List Pt) : Prop := ∀ p ∈ l, cmds p.word = false
theorem Inn.cmds {l : List Pt} (h : Inn l) : cmds l = any2 l := by
  induction l with
  | nil => rw [cmds_none]; rfl
  | cons p l ih =>
    rw [cmds_cons, ih fun x hx => h x (List.mem_cons_of_mem _ hx)]
    have hp := h p (by simp)
    cases p with
    | mk k q t n o w =>
      rw [cmdP]
      have : Wx.cmds w = false := hp
      rw [this, Bool.or_false]
      rfl
theorem joined_word (a p : Pt) : (joined a p).word = a.word := by cases a; rfl
theorem Inn.add {l : List Pt} {p : Pt} (h : Inn l) (hp : Wx.cmds p.word = false) : Inn (add l p) := by
  rcases snoc_cases l with rfl | ⟨y, z, rfl⟩
  · intro x hx
    rw [add_none, List.mem_singleton] at hx
    rw [hx]; exact hp
  · rw [add_onto]
    split
    · intro x hx
      rcases List.mem_append.1 hx with hx | hx
      · exact h x (List.mem_append_left _ hx)
      · rw [List.mem_singleton] at hx
        rw [hx, joined_word]
        exact h z (by simp)
    · intro x hx
      rcases List.mem_append.1 hx with hx | hx
      · exact h x hx
      · rw [List.mem_singleton] at hx
        rw [hx]; exact hp
theorem Inn.fold {m : List Pt} (hm : Inn m) : ∀ {acc : List Pt}, Inn acc → Inn (m.foldl Wx.add acc) := by
  induction m with
  | nil => intro acc h; exact h
  | cons p m ih =>
    intro acc h
    rw [List.foldl_cons]
    exact ih (fun x hx => hm x (List.mem_cons_of_mem _ hx)) (h.add (hm p (by simp)))
mutual
theorem cmds_quotes : ∀ (l acc : List Pt), cmds acc = false → cmds l = false → cmds (quotesOn acc l) = false
  | [], acc, h, _ => by rw [quotesOn]; exact h
  | p :: l, acc, h, hl => by
    rw [cmds_cons, Bool.or_eq_false_iff] at hl
    rw [quotesOn]
    exact cmds_quotes l _ (add_cmds h (cmds_quoteP p hl.1)) hl.2
theorem cmds_quoteP : ∀ (p : Pt), cmdP p = false → cmdP (quoteP p) = false
  | .mk k q t n o w, h => by
    rw [cmdP, Bool.or_eq_false_iff] at h
    rw [quoteP, cmdP, h.1, cmds_quotes w [] cmds_none h.2]; rfl
end
theorem braces_inn {w : List UInt8 → Except Int (List Pt)} {q : Bool} {s : List UInt8} {p : Pt} (h : braces w q s = .ok p) : cmds p.word = false := by
  unfold braces at h
  split at h
  · cases h; exact cmds_none
  · split at h
    · cases h
    · split at h
      · cases h; exact cmds_none
      · split at h
        · cases h
        · split at h
          · cases h
          · split at h
            · cases h
            · split at h
              · cases h
              · rename_i l _ hc
                cases h
                have hc : cmds l = false := by simpa using hc
                show cmds (if q then quotes l else l) = false
                split
                · exact cmds_quotes l [] cmds_none hc
                · exact hc
theorem dollar_inn {w : List UInt8 → Except Int (List Pt)} {q : Bool} {s : List UInt8} {p : Pt} {k : Nat} (h : dollar w q s = .ok (p, k)) : cmds p.word = false := by
  by_cases hu : (s.drop 1).head? = some 40 ∨ (s.drop 1).head? = some 123
  · rw [dollar_unit hu] at h
    split at h
    · cases h
    · split at h
      · cases hb : braces w q _ with
        | error e => rw [hb] at h; cases h
        | ok x => rw [hb] at h; cases h; exact braces_inn hb
      · split at h <;> (cases h; exact cmds_none)
  · rw [dollar_name hu] at h
    split at h <;> (cases h; exact cmds_none)
theorem step2_inn {w : List UInt8 → Except Int (List Pt)} {s : List UInt8} {p : Pt} {k : Nat} (h : step2 w s = .ok (p, k)) : cmds p.word = false := by
  cases s with
  | nil => cases h
  | cons c r =>
    rw [step2] at h
    split at h
    · exact dollar_inn h
    · split at h <;> (cases h; exact cmds_none)
theorem doubleF_inn {w : List UInt8 → Except Int (List Pt)} : ∀ (n : Nat) (s : List UInt8) (acc l : List Pt), doubleF w n s acc = .ok l → Inn acc → Inn l
  | _, [], acc, l, h, ha => by rw [doubleF] at h; cases h; exact ha
  | 0, c :: r, acc, l, h, ha => by rw [doubleF] at h; cases h
  | n + 1, c :: r, acc, l, h, ha => by
    rw [doubleF] at h
    cases hs : step2 w (c :: r) with
    | error e => rw [hs] at h; cases h
    | ok x => rw [hs] at h; exact doubleF_inn n _ _ _ h (ha.add (step2_inn hs))
theorem inn_nil : Inn [] := fun p hp => by cases hp
theorem inn_one {p : Pt} (h : cmds p.word = false) : Inn [p] := fun x hx => by rw [List.mem_singleton] at hx; rw [hx]; exact h
theorem step1_inn {w : List UInt8 → Except Int (List Pt)} {s : List UInt8} {l : List Pt} {k : Nat} (h : step1 w s = .ok (l, k)) : Inn l := by
  cases s with
  | nil => cases h
  | cons c r =>
    rw [step1] at h
    split at h
    · cases hk : unit 30 0 (c :: r) with
      | none => rw [hk] at h; cases h
      | some j =>
        rw [hk] at h
        simp only [] at h
        split at h
        · cases h; exact inn_one cmds_none
        · split at h
          · cases h; exact inn_one cmds_none
          · unfold double at h
            split at h
            · cases h; exact inn_one cmds_none
            · cases hd : doubleF w _ _ [] with
              | error e => rw [hd] at h; cases h
              | ok x => rw [hd] at h; cases h; exact doubleF_inn _ _ _ _ hd inn_nil
    · split at h
      · cases hd : dollar w false (c :: r) with
        | error e => rw [hd] at h; cases h
        | ok x => rw [hd] at h; cases h; exact inn_one (dollar_inn hd)
      · cases h; exact inn_one cmds_none
theorem partsF_inn {w : List UInt8 → Except Int (List Pt)} : ∀ (n : Nat) (s : List UInt8) (acc l : List Pt), partsF w n s acc = .ok l → Inn acc → Inn l
  | _, [], acc, l, h, ha => by rw [partsF] at h; cases h; exact ha
  | 0, c :: r, acc, l, h, ha => by rw [partsF] at h; cases h
  | n + 1, c :: r, acc, l, h, ha => by
    rw [partsF] at h
    cases hs : step1 w (c :: r) with
    | error e => rw [hs] at h; cases h
    | ok x => rw [hs] at h; exact partsF_inn n _ _ _ h ((step1_inn hs).fold ha)
theorem parts_inn : ∀ (d : Nat) {s : List UInt8} {l : List Pt}, parts d s = .ok l → Inn l
  | 0, s, l, h => by rw [parts] at h; cases h
  | d + 1, s, l, h => by rw [parts] at h; exact partsF_inn _ _ _ _ h inn_nil
/-! ### A text that may go on -/
/-- The parts, and a text that may go on, are acc. -/
structure Acc (ps : List Pt) (it q : Bool) (t : List UInt8) (acc : List Pt) : Prop where
  is : acc = ps ++ if it then [txt q t] else []
  no : it = false → t = []
  last : ∀ a, ps.getLast? = some a → (if it then alike a (txt q []) else a.kind == 0) = false
theorem Acc.start : Acc [] false false [] [] := ⟨rfl, fun _ => rfl, fun a h => by cases h⟩
theorem alike_txt (a : Pt) (q : Bool) (x y : List UInt8) : alike a (txt q x) = alike a (txt q y) := rfl
/-- A text goes on, or another one begins. -/
theorem Acc.text {ps acc : List Pt} {it q : Bool} {t : List UInt8} (h : Acc ps it q t acc) (q' : Bool) (x : List UInt8) :
    Acc (if q = q' then ps else ps ++ if it then [txt q t] else []) true q' ((if q = q' then t else []) ++ x) (add acc (txt q' x)) := by
  obtain ⟨rfl, hno, hlast⟩ := h
  cases it with
  | false =>
    obtain rfl := hno rfl
    have hk : ∀ a, ps.getLast? = some a → alike a (txt q' x) = false := fun a ha => by
      have := hlast a ha
      have h2 : (a.kind == 0) = false := this
      unfold alike; rw [h2]; simp
    have e : (if q = q' then ps else ps ++ []) = ps := by split <;> simp
    have e2 : (if q = q' then ([] : List UInt8) else []) = [] := by split <;> rfl
    refine ⟨?_, fun h => (by cases h), ?_⟩
    · show add (ps ++ []) _ = _
      simp only [Bool.false_eq_true, if_false, List.append_nil, ite_self, List.nil_append, if_true]
      exact add_app hk
    · intro a ha
      simp only [Bool.false_eq_true, if_false, List.append_nil, ite_self] at ha
      exact hk a ha
  | true =>
    by_cases hq : q = q'
    · subst hq
      rw [if_pos rfl, if_pos rfl]
      refine ⟨?_, fun h => (by cases h), hlast⟩
      show add (ps ++ [txt q t]) _ = ps ++ [txt q (t ++ x)]
      exact add_join ps q t x
    · rw [if_neg hq, if_neg hq]
      have hk : alike (txt q t) (txt q' x) = false := by
        have : (q == q') = false := by simpa using hq
        show ((0 : Int) == 0 && (0 : Int) == 0 && q == q') = false
        rw [this, Bool.and_false]
      refine ⟨?_, fun h => (by cases h), ?_⟩
      · show add (ps ++ [txt q t]) _ = ps ++ [txt q t] ++ [txt q' x]
        rw [add_onto, if_neg (by rw [hk]; simp)]
      · intro a ha
        have : a = txt q t := by simpa using ha.symm
        rw [this]
        exact hk
/-- Another part comes behind. -/
theorem Acc.part {ps acc : List Pt} {it q : Bool} {t : List UInt8} (h : Acc ps it q t acc) {p : Pt} (hp : p.kind ≠ 0) (q' : Bool) : Acc (ps ++ (if it then [txt q t] else []) ++ [p]) false q' [] (add acc p) := by
  obtain ⟨rfl, _, _⟩ := h
  refine ⟨?_, fun _ => rfl, fun a ha => ?_⟩
  · show _ = _ ++ []
    rw [List.append_nil]
    exact add_app fun a _ => alike_kind hp
  · have : a = p := by simpa using ha.symm
    rw [this]
    show (p.kind == 0) = false
    simpa using hp
/-- The text ends. -/
theorem Acc.done {ps acc : List Pt} {it q : Bool} {t : List UInt8} (h : Acc ps it q t acc) : (ps ++ if it then [txt q t] else []) = acc := h.is.symm
end Wx
end Go.Proofs.YtphgnjjblpmijaaDoor

/-
  What the library's words for texts have to do with a script's units. Nothing of the program stands here.
-/
namespace Go.Proofs.YtphgnjjblpmijaaDoor
open Tx
namespace Lx

/-- How many bytes there are ahead of the first c. -/
def ahead (c : UInt8) (s : List UInt8) : Nat := (s.takeWhile (· ≠ c)).length
theorem ahead_le (c : UInt8) (s : List UInt8) : ahead c s ≤ s.length := (List.takeWhile_prefix _).length_le
theorem ahead_nil (c : UInt8) : ahead c [] = 0 := rfl
theorem ahead_same (c : UInt8) (s : List UInt8) : ahead c (c :: s) = 0 := by simp [ahead]
theorem ahead_other {c b : UInt8} (h : b ≠ c) (s : List UInt8) : ahead c (b :: s) = ahead c s + 1 := by
  unfold ahead
  rw [List.takeWhile_cons, if_pos (by simpa using h)]
  rfl
theorem index_one (c : UInt8) (s : List UInt8) : Lib.index s [c] = if ahead c s < s.length then (ahead c s : Int) else -1 := by
  induction s with
  | nil => rfl
  | cons b s ih =>
    unfold Lib.index
    by_cases h : b = c
    · subst h
      rw [ahead_same, if_pos (by simp [List.isPrefixOf]), if_pos (by simp)]
      rfl
    · rw [ahead_other h, if_neg (by simpa [List.isPrefixOf] using fun e => h e.symm), ih, List.length_cons]
      by_cases h2 : ahead c s < s.length
      · rw [if_pos h2, if_neg (by simp), if_pos (by omega)]
        omega
      · rw [if_neg h2, if_pos (by simp), if_neg (by omega)]
theorem cut_len (c : UInt8) (s : List UInt8) : (Lib.cut s [c]).1.length = ahead c s := by
  have := ahead_le c s
  unfold Lib.cut
  rw [index_one]
  by_cases h : ahead c s < s.length
  · rw [if_pos h, if_pos (by omega)]
    simp; omega
  · rw [if_neg h, if_neg (by omega)]
    simp; omega
theorem quoted_is (s : List UInt8) : quoted s = if ahead 39 s < s.length then some (ahead 39 s + 1) else none := by
  induction s with
  | nil => rfl
  | cons b s ih =>
    unfold quoted
    by_cases h : b = 39
    · subst h
      rw [ahead_same, if_pos rfl, if_pos (by simp)]
    · rw [if_neg h, ahead_other h, ih, List.length_cons]
      by_cases h2 : ahead 39 s < s.length
      · rw [if_pos h2, if_pos (by omega)]; rfl
      · rw [if_neg h2, if_neg (by omega)]; rfl
theorem dropW_is (s : List UInt8) : s.dropWhile (· ≠ 10) = s.drop (ahead 10 s) := by
  induction s with
  | nil => rfl
  | cons b s ih =>
    by_cases h : b = 10
    · subst h; rw [ahead_same]; simp
    · rw [ahead_other h, List.dropWhile_cons, if_pos (by simpa using h), ih]; rfl
theorem index_stops (c : UInt8) : decide (0 ≤ Lib.indexByte [10, 59, 124, 38, 40, 41, 60, 62] c) = (c == 10 || isOp c) := by
  have : ∀ i : Fin 256, decide (0 ≤ Lib.indexByte [10, 59, 124, 38, 40, 41, 60, 62] (UInt8.ofNat i.val)) = (UInt8.ofNat i.val == 10 || isOp (UInt8.ofNat i.val)) := by decide +kernel
  have h := this ⟨c.toNat, c.toNat_lt⟩
  simpa using h
/-- The operator that stands ahead, as a text. -/
def leadS (l : List UInt8) : ByteArray := bs ((lead l).getD [])
theorem leadS_none {l : List UInt8} (h : lead l = none) : leadS l = ⟨#[]⟩ := by unfold leadS; rw [h]; rfl
theorem leadS_some {l o : List UInt8} (h : lead l = some o) : leadS l = bs o := by unfold leadS; rw [h]; rfl
end Lx
end Go.Proofs.YtphgnjjblpmijaaDoor
