/-
  Lists of texts as one text (netstrings), as plain Lean functions on lists of bytes, and what is true of them. Nothing of the program stands here.
-/
namespace Go.Proofs.YtjmblgahoejoiaaGreatDoor
namespace Net

/-- A number's digits to the base 10. -/
def dig (n : Nat) : List UInt8 := if n < 10 then [UInt8.ofNat (48 + n)] else dig (n / 10) ++ [UInt8.ofNat (48 + n % 10)]
/-- What digits are worth, onto what was ahead of them. -/
def worth : List UInt8 → Nat → Nat
  | [], n => n
  | b :: r, n => worth r (n * 10 + (b.toNat - 48))
def isDig (b : UInt8) : Bool := 48 ≤ b.toNat && b.toNat ≤ 57
/-- The number of 1 to 9 digits, without noughts ahead of others. -/
def num (l : List UInt8) : Option Nat :=
  if l = [] ∨ 9 < l.length ∨ (l.head? = some 48 ∧ 1 < l.length) then none else if l.all isDig then some (worth l 0) else none
def one (x : List UInt8) : List UInt8 := dig x.length ++ ([58] ++ x ++ [44])
def enc (l : List (List UInt8)) : List UInt8 := l.flatMap one
/-- How far the first colon stands. -/
def colon (s : List UInt8) : Nat := (s.takeWhile (· ≠ 58)).length
/-- One round: the first text, and the rest. -/
def cut (s : List UInt8) : Option (List UInt8 × List UInt8) :=
  match num (s.take (colon s)) with
  | none => none
  | some n => if s.length < n + colon s + 2 ∨ s[n + colon s + 1]? ≠ some 44 then none else some ((s.drop (colon s + 1)).take n, s.drop (n + colon s + 2))
/-- The list of a text; f is no less than its length. -/
def decF : Nat → List UInt8 → Option (List (List UInt8))
  | 0, s => if s = [] then some [] else none
  | f + 1, s => if s = [] then some [] else
    match cut s with
    | none => none
    | some (x, r) => (decF f r).map (x :: ·)
def dec (s : List UInt8) : Option (List (List UInt8)) := decF s.length s

theorem isDig_of (d : Nat) (h : d < 10) : isDig (UInt8.ofNat (48 + d)) = true := by
  unfold isDig
  rw [UInt8.toNat_ofNat']
  simp; omega
theorem dig_all (n : Nat) : (dig n).all isDig = true := by
  induction n using Nat.strongRecOn with
  | _ n ih =>
    unfold dig
    split
    · rename_i h
      show (isDig (UInt8.ofNat (48 + n)) && true) = true
      rw [isDig_of n h]; rfl
    · rw [List.all_append, ih (n / 10) (by omega)]
      show (true && (isDig (UInt8.ofNat (48 + n % 10)) && true)) = true
      rw [isDig_of (n % 10) (by omega)]; rfl
theorem worth_append (a b : List UInt8) : ∀ n, worth (a ++ b) n = worth b (worth a n) := by
  induction a with
  | nil => intro n; rfl
  | cons x a ih => intro n; exact ih _
theorem toNat_dig (d : Nat) (h : d < 10) : (UInt8.ofNat (48 + d)).toNat = 48 + d := by rw [UInt8.toNat_ofNat']; omega
theorem worth_dig (n : Nat) : worth (dig n) 0 = n := by
  induction n using Nat.strongRecOn with
  | _ n ih =>
    unfold dig
    split
    · rename_i h
      simp only [worth, toNat_dig n h]
      omega
    · rw [worth_append, ih (n / 10) (by omega)]
      simp only [worth, toNat_dig (n % 10) (by omega)]
      omega
theorem dig_ne (n : Nat) : dig n ≠ [] := by
  unfold dig
  split <;> simp
theorem dig_length (n k : Nat) (h : n < 10 ^ (k + 1)) : (dig n).length ≤ k + 1 := by
  induction k generalizing n with
  | zero =>
    unfold dig
    rw [if_pos (by simpa using h)]
    simp
  | succ k ih =>
    unfold dig
    split
    · simp
    · have := ih (n / 10) (by rw [Nat.pow_succ] at h; omega)
      simp
      omega
theorem dig_head (n : Nat) (h : 0 < n) : (dig n).head? ≠ some 48 := by
  induction n using Nat.strongRecOn with
  | _ n ih =>
    unfold dig
    split
    · rename_i h10
      intro e
      have e' : UInt8.ofNat (48 + n) = 48 := by simpa using e
      have := congrArg UInt8.toNat e'
      rw [toNat_dig n h10] at this
      simp at this
      omega
    · have := ih (n / 10) (by omega) (by omega)
      rw [List.head?_append]
      cases hd : (dig (n / 10)).head? with
      | none => exact absurd (List.head?_eq_none_iff.1 hd) (dig_ne _)
      | some b => rw [hd] at this; simpa using this
theorem num_dig (n : Nat) (h : n < 1000000000) : num (dig n) = some n := by
  have hl := dig_length n 8 (by omega)
  have hh : ¬ ((dig n).head? = some 48 ∧ 1 < (dig n).length) := by
    rintro ⟨h1, h2⟩
    rcases Nat.eq_zero_or_pos n with h0 | h0
    · subst h0
      have : dig 0 = [48] := by unfold dig; rfl
      rw [this] at h2
      simp at h2
    · exact dig_head n h0 h1
  unfold num
  have hn : ¬ (dig n = [] ∨ 9 < (dig n).length ∨ ((dig n).head? = some 48 ∧ 1 < (dig n).length)) := by
    rintro (h1 | h1 | h1)
    · exact dig_ne _ h1
    · omega
    · exact hh h1
  rw [if_neg hn, if_pos (dig_all n), worth_dig]

/-- Digits without a nought ahead are the digits of what they are worth. -/
theorem worth_lt (l : List UInt8) (hd : l.all isDig = true) : ∀ n, worth l n = n * 10 ^ l.length + worth l 0 := by
  induction l with
  | nil => intro n; simp [worth]
  | cons b l ih =>
    intro n
    simp only [List.all_cons, Bool.and_eq_true] at hd
    rw [worth, ih hd.2, worth, ih hd.2 (0 * 10 + (b.toNat - 48))]
    simp only [List.length_cons, Nat.pow_succ, Nat.zero_mul, Nat.zero_add]
    rw [Nat.add_mul, Nat.mul_assoc, Nat.mul_comm 10 (10 ^ l.length), Nat.add_assoc]
theorem dig_worth (l : List UInt8) : l ≠ [] → l.all isDig = true → ¬ (l.head? = some 48 ∧ 1 < l.length) → dig (worth l 0) = l := by
  induction hk : l.length using Nat.strongRecOn generalizing l with
  | _ k ih =>
    intro hne hd hh
    obtain ⟨a, b, rfl⟩ : ∃ a b, l = a ++ [b] := ⟨l.dropLast, l.getLast hne, (List.dropLast_concat_getLast hne).symm⟩
    rw [List.all_append, Bool.and_eq_true] at hd
    have hb : isDig b = true := by simpa using hd.2
    unfold isDig at hb
    simp only [Bool.and_eq_true, decide_eq_true_eq] at hb
    have hbb : UInt8.ofNat (48 + (b.toNat - 48)) = b := by
      rw [show 48 + (b.toNat - 48) = b.toNat by omega]
      simp
    rw [worth_append]
    simp only [worth]
    by_cases ha : a = []
    · subst ha
      simp only [worth, Nat.zero_mul, Nat.zero_add, List.nil_append]
      unfold dig
      rw [if_pos (by omega), hbb]
    · have hha : a.head? ≠ some 48 := by
        intro e
        refine hh ⟨by rw [List.head?_append, e]; rfl, ?_⟩
        have := List.length_pos_iff.2 ha
        rw [← hk, List.length_append]
        show 1 < a.length + 1
        omega
      have hr := ih a.length (by rw [List.length_append] at hk; have : [b].length = 1 := rfl; omega) a rfl ha hd.1 (fun e => hha e.1)
      have hpos : 0 < worth a 0 := by
        cases a with
        | nil => exact absurd rfl ha
        | cons c a =>
          have hc : isDig c = true := by have := hd.1; simp only [List.all_cons, Bool.and_eq_true] at this; exact this.1
          have had : a.all isDig = true := by have := hd.1; simp only [List.all_cons, Bool.and_eq_true] at this; exact this.2
          unfold isDig at hc
          simp only [Bool.and_eq_true, decide_eq_true_eq] at hc
          have hc0 : c.toNat ≠ 48 := fun e => hha (by simp only [List.head?_cons]; congr 1; exact UInt8.toNat_inj.1 (by simpa using e))
          rw [worth, worth_lt a had]
          have : 0 < 10 ^ a.length := Nat.pow_pos (by omega)
          have h1 : 1 ≤ 0 * 10 + (c.toNat - 48) := by omega
          have := Nat.mul_le_mul h1 this
          omega
      unfold dig
      rw [if_neg (by omega), show (worth a 0 * 10 + (b.toNat - 48)) / 10 = worth a 0 by omega, hr, show (worth a 0 * 10 + (b.toNat - 48)) % 10 = b.toNat - 48 by omega, hbb]
theorem num_some {l : List UInt8} {n : Nat} (h : num l = some n) : dig n = l ∧ n < 1000000000 ∧ l ≠ [] := by
  unfold num at h
  split at h
  · cases h
  · rename_i h1
    split at h
    · rename_i hd
      injection h with h
      subst h
      have hne : l ≠ [] := fun e => h1 (.inl e)
      have hl : l.length ≤ 9 := by
        rcases Nat.lt_or_ge 9 l.length with h2 | h2
        · exact absurd (.inr (.inl h2)) h1
        · exact h2
      refine ⟨dig_worth l hne hd (fun e => h1 (.inr (.inr e))), ?_, hne⟩
      have hb : ∀ l : List UInt8, l.all isDig = true → worth l 0 < 10 ^ l.length := by
        intro l
        induction l with
        | nil => intro _; simp [worth]
        | cons b l ih =>
          intro hd
          simp only [List.all_cons, Bool.and_eq_true] at hd
          have hb := hd.1
          unfold isDig at hb
          simp only [Bool.and_eq_true, decide_eq_true_eq] at hb
          have h2 := ih hd.2
          rw [worth, worth_lt l hd.2]
          simp only [List.length_cons, Nat.pow_succ]
          have h3 : (0 * 10 + (b.toNat - 48)) ≤ 9 := by omega
          have h4 := Nat.mul_le_mul_right (10 ^ l.length) h3
          omega
      have h2 := hb l hd
      have h3 : 10 ^ l.length ≤ 10 ^ 9 := Nat.pow_le_pow_right (by omega) hl
      omega
    · cases h

theorem isDig_colon {b : UInt8} (h : isDig b = true) : b ≠ 58 := by
  rintro rfl
  revert h
  decide
theorem colon_dig (d r : List UInt8) (hd : d.all isDig = true) : colon (d ++ 58 :: r) = d.length := by
  unfold colon
  have : (d ++ 58 :: r).takeWhile (· ≠ 58) = d := by
    induction d with
    | nil => simp
    | cons b d ih =>
      simp only [List.all_cons, Bool.and_eq_true] at hd
      rw [List.cons_append, List.takeWhile_cons, if_pos (by simpa using isDig_colon hd.1), ih hd.2]
  rw [this]
theorem cut_one (x r : List UInt8) (h : x.length < 1000000000) : cut (one x ++ r) = some (x, r) := by
  have e : one x ++ r = dig x.length ++ 58 :: (x ++ 44 :: r) := by simp [one]
  have hc := colon_dig (dig x.length) (x ++ 44 :: r) (dig_all _)
  unfold cut
  rw [e, hc, List.take_left, num_dig _ h]
  simp only []
  have hg : (dig x.length ++ 58 :: (x ++ 44 :: r))[x.length + (dig x.length).length + 1]? = some 44 := by
    rw [List.getElem?_append_right (by omega), show x.length + (dig x.length).length + 1 - (dig x.length).length = x.length + 1 by omega, List.getElem?_cons_succ, List.getElem?_append_right (Nat.le_refl _)]
    simp
  rw [if_neg (by
    rintro (h1 | h1)
    · simp only [List.length_append, List.length_cons] at h1; omega
    · exact h1 hg)]
  have hd1 : (dig x.length ++ 58 :: (x ++ 44 :: r)).drop ((dig x.length).length + 1) = x ++ 44 :: r := by
    rw [← List.drop_drop, List.drop_left]; rfl
  have hd2 : (dig x.length ++ 58 :: (x ++ 44 :: r)).drop (x.length + (dig x.length).length + 2) = r := by
    rw [show x.length + (dig x.length).length + 2 = ((dig x.length).length + 1) + (x.length + 1) by omega, ← List.drop_drop, hd1, ← List.drop_drop, List.drop_left]; rfl
  rw [hd1, hd2, List.take_left]
theorem one_pos (x : List UInt8) : 3 ≤ (one x).length := by
  have := List.length_pos_iff.2 (dig_ne x.length)
  simp [one]
  omega
theorem enc_cons (x : List UInt8) (l : List (List UInt8)) : enc (x :: l) = one x ++ enc l := rfl
theorem enc_append (l m : List (List UInt8)) : enc (l ++ m) = enc l ++ enc m := by simp [enc]
theorem decF_enc (l : List (List UInt8)) (hl : ∀ x ∈ l, x.length < 1000000000) : ∀ f, (enc l).length ≤ f → decF f (enc l) = some l := by
  induction l with
  | nil => intro f _; cases f <;> rfl
  | cons x l ih =>
    intro f hf
    rw [enc_cons] at hf ⊢
    have h1 := one_pos x
    rw [List.length_append] at hf
    cases f with
    | zero => omega
    | succ f =>
      have hne : one x ++ enc l ≠ [] := by
        intro e
        have := congrArg List.length e
        rw [List.length_append, List.length_nil] at this
        omega
      rw [decF, if_neg hne, cut_one x (enc l) (hl x (by simp))]
      simp only []
      rw [ih (fun y hy => hl y (by simp [hy])) f (by omega)]
      rfl
/-- What is told is read. -/
theorem dec_enc (l : List (List UInt8)) (hl : ∀ x ∈ l, x.length < 1000000000) : dec (enc l) = some l := decF_enc l hl _ (Nat.le_refl _)

theorem colon_at {s : List UInt8} (h : colon s < s.length) : s[colon s]? = some 58 := by
  unfold colon at *
  induction s with
  | nil => simp at h
  | cons b s ih =>
    by_cases hb : b = 58
    · subst hb
      simp
    · rw [List.takeWhile_cons, if_pos (by simpa using hb)] at h ⊢
      simp only [List.length_cons, List.getElem?_cons_succ] at h ⊢
      exact ih (by omega)
theorem cut_some {s x r : List UInt8} (h : cut s = some (x, r)) : s = one x ++ r ∧ x.length < 1000000000 := by
  unfold cut at h
  cases hn : num (s.take (colon s)) with
  | none => simp [hn] at h
  | some n =>
    simp only [hn] at h
    split at h
    · cases h
    · rename_i hc
      injection h with h
      injection h with h1 h2
      obtain ⟨hd, hlt, _⟩ := num_some hn
      have hlen : n + colon s + 2 ≤ s.length := by
        rcases Nat.lt_or_ge s.length (n + colon s + 2) with h3 | h3
        · exact absurd (.inl h3) hc
        · exact h3
      have h44 : s[n + colon s + 1]? = some 44 := by
        cases hx : decide (s[n + colon s + 1]? = some 44) with
        | true => exact of_decide_eq_true hx
        | false => exact absurd (.inr (of_decide_eq_false hx)) hc
      have hxl : x.length = n := by rw [← h1, List.length_take, List.length_drop]; omega
      have h58 := colon_at (s := s) (by omega)
      refine ⟨?_, by omega⟩
      have p1 : s = s.take (colon s) ++ s.drop (colon s) := (List.take_append_drop _ _).symm
      have p2 : s.drop (colon s) = 58 :: s.drop (colon s + 1) := by
        rw [List.drop_eq_getElem_cons (by omega)]
        congr 1
        have := List.getElem?_eq_getElem (l := s) (i := colon s) (by omega)
        rw [h58] at this
        exact (Option.some.inj this).symm
      have p3 : s.drop (colon s + 1) = x ++ (s.drop (colon s + 1)).drop n := by rw [← h1]; exact (List.take_append_drop _ _).symm
      have p4 : (s.drop (colon s + 1)).drop n = 44 :: r := by
        rw [List.drop_drop, show colon s + 1 + n = n + colon s + 1 by omega, List.drop_eq_getElem_cons (by omega), ← h2]
        congr 1
        have := List.getElem?_eq_getElem (l := s) (i := n + colon s + 1) (by omega)
        rw [h44] at this
        exact (Option.some.inj this).symm
      rw [p4] at p3
      rw [p3] at p2
      rw [p2, ← hd, ← hxl] at p1
      simpa [one] using p1
theorem decF_some : ∀ (f : Nat) {s : List UInt8} {l : List (List UInt8)}, decF f s = some l → enc l = s ∧ ∀ x ∈ l, x.length < 1000000000
  | 0, s, l, h => by
    unfold decF at h
    split at h
    · injection h with h
      subst h
      rename_i hs
      exact ⟨hs.symm, fun x hx => by simp at hx⟩
    · cases h
  | f + 1, s, l, h => by
    unfold decF at h
    split at h
    · injection h with h
      subst h
      rename_i hs
      exact ⟨hs.symm, fun x hx => by simp at hx⟩
    · cases hc : cut s with
      | none => simp [hc] at h
      | some p =>
        obtain ⟨x, r⟩ := p
        simp only [hc] at h
        obtain ⟨m, hm, rfl⟩ := Option.map_eq_some_iff.1 h
        obtain ⟨e1, e2⟩ := cut_some hc
        obtain ⟨e3, e4⟩ := decF_some f hm
        refine ⟨by rw [enc_cons, e3, e1], fun y hy => ?_⟩
        rcases List.mem_cons.1 hy with rfl | hy
        · exact e2
        · exact e4 y hy
/-- What is read is told as it was. -/
theorem dec_some {s : List UInt8} {l : List (List UInt8)} (h : dec s = some l) : enc l = s := (decF_some _ h).1
theorem enc_inj {l m : List (List UInt8)} (hl : ∀ x ∈ l, x.length < 1000000000) (hm : ∀ x ∈ m, x.length < 1000000000) (h : enc l = enc m) : l = m := by
  have h1 := dec_enc l hl
  rw [h, dec_enc m hm] at h1
  exact (Option.some.inj h1).symm
end Net
end Go.Proofs.YtjmblgahoejoiaaGreatDoor
