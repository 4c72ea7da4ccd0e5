/-
  Lists of texts as one text (netstrings), as plain Lean functions on lists of bytes, and what is true of them. Nothing of the program stands here.
-/
import Derived.Lib.ItoaNum
import Derived.Lib.Atoi
import Derived.Lib.IndexMore
import Derived.Test.YtmkpkmkhnphogaaGreatDoorShelfM
import Derived.Test.YtmkpkmkhnphogaaGreatDoorGcm
import Derived.Lib.LaidTab
import Derived.Lib.AppendIntMem
import Derived.Lib.AtoiErrMem
import Derived.Deep.Draws
import Derived.Deep.DrawnRows
import Derived.LoopTactic
import Derived.Still
import Derived.Lib.AtoiBound
namespace Go.Proofs.YtmkpkmkhnphogaaGreatDoor
namespace Net

/-- A number's digits to the base 10. -/
def dig (n : Nat) : List UInt8 := if n < 10 then [UInt8.ofNat (48 + n)] else dig (n / 10) ++ [UInt8.ofNat (48 + n % 10)]
/-- What digits are worth, onto what was ahead of them. -/
def worth : List UInt8 → Nat → Nat
  | [], n => n
  | b :: r, n => worth r (n * 10 + (b.toNat - 48))
def isDig (b : UInt8) : Bool := 48 ≤ b.toNat && b.toNat ≤ 57
/-- The number of 1 to 9 digits, without noughts ahead of others. -/
def num (l : List UInt8) : Option Nat :=
  if l = [] ∨ 9 < l.length ∨ (l.head? = some 48 ∧ 1 < l.length) then none else if l.all isDig then some (worth l 0) else none
def one (x : List UInt8) : List UInt8 := dig x.length ++ ([58] ++ x ++ [44])
def enc (l : List (List UInt8)) : List UInt8 := l.flatMap one
/-- How far the first colon stands. -/
def colon (s : List UInt8) : Nat := (s.takeWhile (· ≠ 58)).length
/-- One round: the first text, and the rest. -/
def cut (s : List UInt8) : Option (List UInt8 × List UInt8) :=
  match num (s.take (colon s)) with
  | none => none
  | some n => if s.length < n + colon s + 2 ∨ s[n + colon s + 1]? ≠ some 44 then none else some ((s.drop (colon s + 1)).take n, s.drop (n + colon s + 2))
/-- The list of a text; f is no less than its length. -/
def decF : Nat → List UInt8 → Option (List (List UInt8))
  | 0, s => if s = [] then some [] else none
  | f + 1, s => if s = [] then some [] else
    match cut s with
    | none => none
    | some (x, r) => (decF f r).map (x :: ·)
def dec (s : List UInt8) : Option (List (List UInt8)) := decF s.length s

theorem isDig_of (d : Nat) (h : d < 10) : isDig (UInt8.ofNat (48 + d)) = true := by
  unfold isDig
  rw [UInt8.toNat_ofNat']
  simp; omega
theorem dig_all (n : Nat) : (dig n).all isDig = true := by
  induction n using Nat.strongRecOn with
  | _ n ih =>
    unfold dig
    split
    · rename_i h
      show (isDig (UInt8.ofNat (48 + n)) && true) = true
      rw [isDig_of n h]; rfl
    · rw [List.all_append, ih (n / 10) (by omega)]
      show (true && (isDig (UInt8.ofNat (48 + n % 10)) && true)) = true
      rw [isDig_of (n % 10) (by omega)]; rfl
theorem worth_append (a b : List UInt8) : ∀ n, worth (a ++ b) n = worth b (worth a n) := by
  induction a with
  | nil => intro n; rfl
  | cons x a ih => intro n; exact ih _
theorem toNat_dig (d : Nat) (h : d < 10) : (UInt8.ofNat (48 + d)).toNat = 48 + d := by rw [UInt8.toNat_ofNat']; omega
theorem worth_dig (n : Nat) : worth (dig n) 0 = n := by
  induction n using Nat.strongRecOn with
  | _ n ih =>
    unfold dig
    split
    · rename_i h
      simp only [worth, toNat_dig n h]
      omega
    · rw [worth_append, ih (n / 10) (by omega)]
      simp only [worth, toNat_dig (n % 10) (by omega)]
      omega
theorem dig_ne (n : Nat) : dig n ≠ [] := by
  unfold dig
  split <;> simp
theorem dig_length (n k : Nat) (h : n < 10 ^ (k + 1)) : (dig n).length ≤ k + 1 := by
  induction k generalizing n with
  | zero =>
    unfold dig
    rw [if_pos (by simpa using h)]
    simp
  | succ k ih =>
    unfold dig
    split
    · simp
    · have := ih (n / 10) (by rw [Nat.pow_succ] at h; omega)
      simp
      omega
theorem dig_head (n : Nat) (h : 0 < n) : (dig n).head? ≠ some 48 := by
  induction n using Nat.strongRecOn with
  | _ n ih =>
    unfold dig
    split
    · rename_i h10
      intro e
      have e' : UInt8.ofNat (48 + n) = 48 := by simpa using e
      have := congrArg UInt8.toNat e'
      rw [toNat_dig n h10] at this
      simp at this
      omega
    · have := ih (n / 10) (by omega) (by omega)
      rw [List.head?_append]
      cases hd : (dig (n / 10)).head? with
      | none => exact absurd (List.head?_eq_none_iff.1 hd) (dig_ne _)
      | some b => rw [hd] at this; simpa using this
theorem num_dig (n : Nat) (h : n < 1000000000) : num (dig n) = some n := by
  have hl := dig_length n 8 (by omega)
  have hh : ¬ ((dig n).head? = some 48 ∧ 1 < (dig n).length) := by
    rintro ⟨h1, h2⟩
    rcases Nat.eq_zero_or_pos n with h0 | h0
    · subst h0
      have : dig 0 = [48] := by unfold dig; rfl
      rw [this] at h2
      simp at h2
    · exact dig_head n h0 h1
  unfold num
  have hn : ¬ (dig n = [] ∨ 9 < (dig n).length ∨ ((dig n).head? = some 48 ∧ 1 < (dig n).length)) := by
    rintro (h1 | h1 | h1)
    · exact dig_ne _ h1
    · omega
    · exact hh h1
  rw [if_neg hn, if_pos (dig_all n), worth_dig]

/-- Digits without a nought ahead are the digits of what they are worth. -/
theorem worth_lt (l : List UInt8) (hd : l.all isDig = true) : ∀ n, worth l n = n * 10 ^ l.length + worth l 0 := by
  induction l with
  | nil => intro n; simp [worth]
  | cons b l ih =>
    intro n
    simp only [List.all_cons, Bool.and_eq_true] at hd
    rw [worth, ih hd.2, worth, ih hd.2 (0 * 10 + (b.toNat - 48))]
    simp only [List.length_cons, Nat.pow_succ, Nat.zero_mul, Nat.zero_add]
    rw [Nat.add_mul, Nat.mul_assoc, Nat.mul_comm 10 (10 ^ l.length), Nat.add_assoc]
theorem dig_worth (l : List UInt8) : l ≠ [] → l.all isDig = true → ¬ (l.head? = some 48 ∧ 1 < l.length) → dig (worth l 0) = l := by
  induction hk : l.length using Nat.strongRecOn generalizing l with
  | _ k ih =>
    intro hne hd hh
    obtain ⟨a, b, rfl⟩ : ∃ a b, l = a ++ [b] := ⟨l.dropLast, l.getLast hne, (List.dropLast_concat_getLast hne).symm⟩
    rw [List.all_append, Bool.and_eq_true] at hd
    have hb : isDig b = true := by simpa using hd.2
    unfold isDig at hb
    simp only [Bool.and_eq_true, decide_eq_true_eq] at hb
    have hbb : UInt8.ofNat (48 + (b.toNat - 48)) = b := by
      rw [show 48 + (b.toNat - 48) = b.toNat by omega]
      simp
    rw [worth_append]
    simp only [worth]
    by_cases ha : a = []
    · subst ha
      simp only [worth, Nat.zero_mul, Nat.zero_add, List.nil_append]
      unfold dig
      rw [if_pos (by omega), hbb]
    · have hha : a.head? ≠ some 48 := by
        intro e
        refine hh ⟨by rw [List.head?_append, e]; rfl, ?_⟩
        have := List.length_pos_iff.2 ha
        rw [← hk, List.length_append]
        show 1 < a.length + 1
        omega
      have hr := ih a.length (by rw [List.length_append] at hk; have : [b].length = 1 := rfl; omega) a rfl ha hd.1 (fun e => hha e.1)
      have hpos : 0 < worth a 0 := by
        cases a with
        | nil => exact absurd rfl ha
        | cons c a =>
          have hc : isDig c = true := by have := hd.1; simp only [List.all_cons, Bool.and_eq_true] at this; exact this.1
          have had : a.all isDig = true := by have := hd.1; simp only [List.all_cons, Bool.and_eq_true] at this; exact this.2
          unfold isDig at hc
          simp only [Bool.and_eq_true, decide_eq_true_eq] at hc
          have hc0 : c.toNat ≠ 48 := fun e => hha (by simp only [List.head?_cons]; congr 1; exact UInt8.toNat_inj.1 (by simpa using e))
          rw [worth, worth_lt a had]
          have : 0 < 10 ^ a.length := Nat.pow_pos (by omega)
          have h1 : 1 ≤ 0 * 10 + (c.toNat - 48) := by omega
          have := Nat.mul_le_mul h1 this
          omega
      unfold dig
      rw [if_neg (by omega), show (worth a 0 * 10 + (b.toNat - 48)) / 10 = worth a 0 by omega, hr, show (worth a 0 * 10 + (b.toNat - 48)) % 10 = b.toNat - 48 by omega, hbb]
theorem num_some {l : List UInt8} {n : Nat} (h : num l = some n) : dig n = l ∧ n < 1000000000 ∧ l ≠ [] := by
  unfold num at h
  split at h
  · cases h
  · rename_i h1
    split at h
    · rename_i hd
      injection h with h
      subst h
      have hne : l ≠ [] := fun e => h1 (.inl e)
      have hl : l.length ≤ 9 := by
        rcases Nat.lt_or_ge 9 l.length with h2 | h2
        · exact absurd (.inr (.inl h2)) h1
        · exact h2
      refine ⟨dig_worth l hne hd (fun e => h1 (.inr (.inr e))), ?_, hne⟩
      have hb : ∀ l : List UInt8, l.all isDig = true → worth l 0 < 10 ^ l.length := by
        intro l
        induction l with
        | nil => intro _; simp [worth]
        | cons b l ih =>
          intro hd
          simp only [List.all_cons, Bool.and_eq_true] at hd
          have hb := hd.1
          unfold isDig at hb
          simp only [Bool.and_eq_true, decide_eq_true_eq] at hb
          have h2 := ih hd.2
          rw [worth, worth_lt l hd.2]
          simp only [List.length_cons, Nat.pow_succ]
          have h3 : (0 * 10 + (b.toNat - 48)) ≤ 9 := by omega
          have h4 := Nat.mul_le_mul_right (10 ^ l.length) h3
          omega
      have h2 := hb l hd
      have h3 : 10 ^ l.length ≤ 10 ^ 9 := Nat.pow_le_pow_right (by omega) hl
      omega
    · cases h

theorem isDig_colon {b : UInt8} (h : isDig b = true) : b ≠ 58 := by
  rintro rfl
  revert h
  decide
theorem colon_dig (d r : List UInt8) (hd : d.all isDig = true) : colon (d ++ 58 :: r) = d.length := by
  unfold colon
  have : (d ++ 58 :: r).takeWhile (· ≠ 58) = d := by
    induction d with
    | nil => simp
    | cons b d ih =>
      simp only [List.all_cons, Bool.and_eq_true] at hd
      rw [List.cons_append, List.takeWhile_cons, if_pos (by simpa using isDig_colon hd.1), ih hd.2]
  rw [this]
theorem cut_one (x r : List UInt8) (h : x.length < 1000000000) : cut (one x ++ r) = some (x, r) := by
  have e : one x ++ r = dig x.length ++ 58 :: (x ++ 44 :: r) := by simp [one]
  have hc := colon_dig (dig x.length) (x ++ 44 :: r) (dig_all _)
  unfold cut
  rw [e, hc, List.take_left, num_dig _ h]
  simp only []
  have hg : (dig x.length ++ 58 :: (x ++ 44 :: r))[x.length + (dig x.length).length + 1]? = some 44 := by
    rw [List.getElem?_append_right (by omega), show x.length + (dig x.length).length + 1 - (dig x.length).length = x.length + 1 by omega, List.getElem?_cons_succ, List.getElem?_append_right (Nat.le_refl _)]
    simp
  rw [if_neg (by
    rintro (h1 | h1)
    · simp only [List.length_append, List.length_cons] at h1; omega
    · exact h1 hg)]
  have hd1 : (dig x.length ++ 58 :: (x ++ 44 :: r)).drop ((dig x.length).length + 1) = x ++ 44 :: r := by
    rw [← List.drop_drop, List.drop_left]; rfl
  have hd2 : (dig x.length ++ 58 :: (x ++ 44 :: r)).drop (x.length + (dig x.length).length + 2) = r := by
    rw [show x.length + (dig x.length).length + 2 = ((dig x.length).length + 1) + (x.length + 1) by omega, ← List.drop_drop, hd1, ← List.drop_drop, List.drop_left]; rfl
  rw [hd1, hd2, List.take_left]
theorem one_pos (x : List UInt8) : 3 ≤ (one x).length := by
  have := List.length_pos_iff.2 (dig_ne x.length)
  simp [one]
  omega
theorem enc_cons (x : List UInt8) (l : List (List UInt8)) : enc (x :: l) = one x ++ enc l := rfl
theorem enc_append (l m : List (List UInt8)) : enc (l ++ m) = enc l ++ enc m := by simp [enc]
theorem decF_enc (l : List (List UInt8)) (hl : ∀ x ∈ l, x.length < 1000000000) : ∀ f, (enc l).length ≤ f → decF f (enc l) = some l := by
  induction l with
  | nil => intro f _; cases f <;> rfl
  | cons x l ih =>
    intro f hf
    rw [enc_cons] at hf ⊢
    have h1 := one_pos x
    rw [List.length_append] at hf
    cases f with
    | zero => omega
    | succ f =>
      have hne : one x ++ enc l ≠ [] := by
        intro e
        have := congrArg List.length e
        rw [List.length_append, List.length_nil] at this
        omega
      rw [decF, if_neg hne, cut_one x (enc l) (hl x (by simp))]
      simp only []
      rw [ih (fun y hy => hl y (by simp [hy])) f (by omega)]
      rfl
/-- What is told is read. -/
theorem dec_enc (l : List (List UInt8)) (hl : ∀ x ∈ l, x.length < 1000000000) : dec (enc l) = some l := decF_enc l hl _ (Nat.le_refl _)

theorem colon_at {s : List UInt8} (h : colon s < s.length) : s[colon s]? = some 58 := by
  unfold colon at *
  induction s with
  | nil => simp at h
  | cons b s ih =>
    by_cases hb : b = 58
    · subst hb
      simp
    · rw [List.takeWhile_cons, if_pos (by simpa using hb)] at h ⊢
      simp only [List.length_cons, List.getElem?_cons_succ] at h ⊢
      exact ih (by omega)
theorem cut_some {s x r : List UInt8} (h : cut s = some (x, r)) : s = one x ++ r ∧ x.length < 1000000000 := by
  unfold cut at h
  cases hn : num (s.take (colon s)) with
  | none => simp [hn] at h
  | some n =>
    simp only [hn] at h
    split at h
    · cases h
    · rename_i hc
      injection h with h
      injection h with h1 h2
      obtain ⟨hd, hlt, _⟩ := num_some hn
      have hlen : n + colon s + 2 ≤ s.length := by
        rcases Nat.lt_or_ge s.length (n + colon s + 2) with h3 | h3
        · exact absurd (.inl h3) hc
        · exact h3
      have h44 : s[n + colon s + 1]? = some 44 := by
        cases hx : decide (s[n + colon s + 1]? = some 44) with
        | true => exact of_decide_eq_true hx
        | false => exact absurd (.inr (of_decide_eq_false hx)) hc
      have hxl : x.length = n := by rw [← h1, List.length_take, List.length_drop]; omega
      have h58 := colon_at (s := s) (by omega)
      refine ⟨?_, by omega⟩
      have p1 : s = s.take (colon s) ++ s.drop (colon s) := (List.take_append_drop _ _).symm
      have p2 : s.drop (colon s) = 58 :: s.drop (colon s + 1) := by
        rw [List.drop_eq_getElem_cons (by omega)]
        congr 1
        have := List.getElem?_eq_getElem (l := s) (i := colon s) (by omega)
        rw [h58] at this
        exact (Option.some.inj this).symm
      have p3 : s.drop (colon s + 1) = x ++ (s.drop (colon s + 1)).drop n := by rw [← h1]; exact (List.take_append_drop _ _).symm
      have p4 : (s.drop (colon s + 1)).drop n = 44 :: r := by
        rw [List.drop_drop, show colon s + 1 + n = n + colon s + 1 by omega, List.drop_eq_getElem_cons (by omega), ← h2]
        congr 1
        have := List.getElem?_eq_getElem (l := s) (i := n + colon s + 1) (by omega)
        rw [h44] at this
        exact (Option.some.inj this).symm
      rw [p4] at p3
      rw [p3] at p2
      rw [p2, ← hd, ← hxl] at p1
      simpa [one] using p1
theorem decF_some : ∀ (f : Nat) {s : List UInt8} {l : List (List UInt8)}, decF f s = some l → enc l = s ∧ ∀ x ∈ l, x.length < 1000000000
  | 0, s, l, h => by
    unfold decF at h
    split at h
    · injection h with h
      subst h
      rename_i hs
      exact ⟨hs.symm, fun x hx => by simp at hx⟩
    · cases h
  | f + 1, s, l, h => by
    unfold decF at h
    split at h
    · injection h with h
      subst h
      rename_i hs
      exact ⟨hs.symm, fun x hx => by simp at hx⟩
    · cases hc : cut s with
      | none => simp [hc] at h
      | some p =>
        obtain ⟨x, r⟩ := p
        simp only [hc] at h
        obtain ⟨m, hm, rfl⟩ := Option.map_eq_some_iff.1 h
        obtain ⟨e1, e2⟩ := cut_some hc
        obtain ⟨e3, e4⟩ := decF_some f hm
        refine ⟨by rw [enc_cons, e3, e1], fun y hy => ?_⟩
        rcases List.mem_cons.1 hy with rfl | hy
        · exact e2
        · exact e4 y hy
/-- What is read is told as it was. -/
theorem dec_some {s : List UInt8} {l : List (List UInt8)} (h : dec s = some l) : enc l = s := (decF_some _ h).1
theorem enc_inj {l m : List (List UInt8)} (hl : ∀ x ∈ l, x.length < 1000000000) (hm : ∀ x ∈ m, x.length < 1000000000) (h : enc l = enc m) : l = m := by
  have h1 := dec_enc l hl
  rw [h, dec_enc m hm] at h1
  exact (Option.some.inj h1).symm
end Net
end Go.Proofs.YtmkpkmkhnphogaaGreatDoor

/-
  Netstrings, on: what the library's words for digits and cuts (Lib.itoa, Lib.atoi, Lib.cut) have to do with Net's; decoding round by round. Nothing of the program stands here.
-/
namespace Go.Proofs.YtmkpkmkhnphogaaGreatDoor
namespace Net

/-! ### Decoding, round by round -/
theorem cut_short {s x r : List UInt8} (h : cut s = some (x, r)) : r.length + x.length + 3 ≤ s.length := by
  obtain ⟨e, _⟩ := cut_some h
  have h2 : x.length + 3 ≤ (one x).length := by
    have := List.length_pos_iff.2 (dig_ne x.length)
    simp [one]
    omega
  rw [e, List.length_append]
  omega
theorem decF_more : ∀ (f g : Nat) (s : List UInt8), s.length ≤ f → s.length ≤ g → decF f s = decF g s
  | 0, g, s, hf, _ => by
    obtain rfl : s = [] := List.eq_nil_of_length_eq_zero (by omega)
    cases g <;> simp [decF]
  | f + 1, 0, s, _, hg => by
    obtain rfl : s = [] := List.eq_nil_of_length_eq_zero (by omega)
    simp [decF]
  | f + 1, g + 1, s, hf, hg => by
    rw [decF, decF]
    split
    · rfl
    · cases hc : cut s with
      | none => rfl
      | some p =>
        obtain ⟨x, r⟩ := p
        have := cut_short hc
        simp only []
        rw [decF_more f g r (by omega) (by omega)]
theorem dec_nil : dec [] = some [] := rfl
theorem dec_cut_none {s : List UInt8} (hs : s ≠ []) (h : cut s = none) : dec s = none := by
  unfold dec
  cases hl : s.length with
  | zero => exact absurd (List.eq_nil_of_length_eq_zero hl) hs
  | succ n => rw [decF, if_neg hs, h]
theorem dec_cut_some {s x r : List UInt8} (hs : s ≠ []) (h : cut s = some (x, r)) : dec s = (dec r).map (x :: ·) := by
  have h1 := cut_short h
  unfold dec
  cases hl : s.length with
  | zero => exact absurd (List.eq_nil_of_length_eq_zero hl) hs
  | succ n =>
    rw [decF, if_neg hs, h]
    simp only []
    rw [decF_more n r.length r (by omega) (Nat.le_refl _)]
/-- What a loop over the rounds keeps: so far acc, and r is left. -/
def Left (s : List UInt8) (acc : List (List UInt8)) (r : List UInt8) : Prop := dec s = (dec r).map (acc ++ ·) ∧ r.length + (acc.flatMap id).length + 3 * acc.length ≤ s.length
theorem Left.start (s : List UInt8) : Left s [] s := by
  refine ⟨?_, by simp⟩
  cases dec s <;> rfl
theorem Left.go {s r x r' : List UInt8} {acc : List (List UInt8)} (h : Left s acc r) (hr : r ≠ []) (hc : cut r = some (x, r')) : Left s (acc ++ [x]) r' := by
  refine ⟨?_, ?_⟩
  · rw [h.1, dec_cut_some hr hc]
    cases dec r' <;> simp
  · have h1 := cut_short hc
    have h2 := h.2
    simp only [List.flatMap_append, List.length_append, List.length_cons, List.length_nil, List.flatMap_cons, List.flatMap_nil, List.append_nil, id]
    omega
theorem Left.bad {s r : List UInt8} {acc : List (List UInt8)} (h : Left s acc r) (hr : r ≠ []) (hc : cut r = none) : dec s = none := by rw [h.1, dec_cut_none hr hc]; rfl
theorem Left.done {s : List UInt8} {acc : List (List UInt8)} (h : Left s acc []) : dec s = some acc := by rw [h.1, dec_nil]; simp

/-! ### The library's words -/
theorem decDigits_dig (n : Nat) : Lib.decDigits n = dig n := by
  induction n using Nat.strongRecOn with
  | _ n ih =>
    rw [Lib.decDigits, dig]
    split
    · rfl
    · rw [ih (n / 10) (by omega)]
theorem itoa_dig (n : Nat) : Lib.itoa (n : Int) = dig n := by
  unfold Lib.itoa
  rw [if_neg (by omega), decDigits_dig]
  rfl
theorem digitVal_isDig (b : UInt8) : Lib.digitVal b = if isDig b = true then some (b.toNat - 48) else none := by
  unfold Lib.digitVal isDig
  simp only [Bool.and_eq_true, decide_eq_true_eq]
theorem decFrom_worth : ∀ (l : List UInt8) (n : Nat), l.all isDig = true → Lib.decFrom n l = some (worth l n)
  | [], _, _ => rfl
  | b :: l, n, h => by
    simp only [List.all_cons, Bool.and_eq_true] at h
    simp only [Lib.decFrom, digitVal_isDig, h.1, if_true]
    exact decFrom_worth l _ h.2
theorem atoi_dig (n : Nat) : Lib.atoi (dig n) = some (n : Int) := by
  have ha := dig_all n
  have hw := worth_dig n
  cases hd : dig n with
  | nil => exact absurd hd (dig_ne n)
  | cons b r =>
    rw [hd] at ha hw
    have hb : isDig b = true := by simp only [List.all_cons, Bool.and_eq_true] at ha; exact ha.1
    have hb' : 48 ≤ b.toNat := by unfold isDig at hb; simp only [Bool.and_eq_true, decide_eq_true_eq] at hb; exact hb.1
    have h45 : (b == 45) = false := by
      rw [beq_eq_false_iff_ne]
      rintro rfl
      simp at hb'
    have h43 : (b == 43) = false := by
      rw [beq_eq_false_iff_ne]
      rintro rfl
      simp at hb'
    simp only [Lib.atoi, h45, h43, Bool.false_eq_true, if_false, Lib.decNat, List.isEmpty_cons]
    rw [decFrom_worth _ _ ha, hw]
    rfl
/-- A number is what Atoi reads of it .. -/
theorem atoi_num {d : List UInt8} {n : Nat} (h : num d = some n) : Lib.atoi d = some (n : Int) ∧ Lib.itoa (n : Int) = d := by
  obtain ⟨h1, _, _⟩ := num_some h
  rw [itoa_dig, ← h1]
  exact ⟨atoi_dig n, rfl⟩
theorem num_long {d : List UInt8} (h : 9 < d.length) : num d = none := by
  unfold num
  rw [if_pos (.inr (.inl h))]
theorem num_atoi_none {d : List UInt8} (h : Lib.atoi d = none) : num d = none := by
  cases hn : num d with
  | none => rfl
  | some n => rw [(atoi_num hn).1] at h; cases h
theorem num_atoi_other {d : List UInt8} {v : Int} (h : Lib.atoi d = some v) (hv : Lib.itoa v ≠ d ∨ v < 0) : num d = none := by
  cases hn : num d with
  | none => rfl
  | some n =>
    obtain ⟨h1, h2⟩ := atoi_num hn
    rw [h1] at h
    injection h with h
    rcases hv with hv | hv
    · exact absurd (h ▸ h2) hv
    · omega
/-- .. and there is no other. -/
theorem num_atoi {d : List UInt8} {v : Int} (hl : d.length ≤ 9) (h0 : 0 ≤ v) (hv : Lib.itoa v = d) : num d = some v.toNat := by
  obtain ⟨n, rfl⟩ := Int.eq_ofNat_of_zero_le h0
  rw [itoa_dig] at hv
  subst hv
  show num (dig n) = some n
  have hh : ¬ ((dig n).head? = some 48 ∧ 1 < (dig n).length) := by
    rintro ⟨h1, h2⟩
    rcases Nat.eq_zero_or_pos n with h0 | h0
    · subst h0
      have : dig 0 = [48] := by unfold dig; rfl
      rw [this] at h2
      simp at h2
    · exact dig_head n h0 h1
  unfold num
  have hn : ¬ (dig n = [] ∨ 9 < (dig n).length ∨ ((dig n).head? = some 48 ∧ 1 < (dig n).length)) := by
    rintro (h1 | h1 | h1)
    · exact dig_ne _ h1
    · omega
    · exact hh h1
  rw [if_neg hn, if_pos (dig_all n), worth_dig]

theorem colon_le (s : List UInt8) : colon s ≤ s.length := by
  unfold colon
  exact (List.takeWhile_prefix _).length_le
theorem before_colon {s : List UInt8} {j : Nat} (h : j < colon s) : s[j]? ≠ some 58 := by
  unfold colon at h
  have hp := List.takeWhile_prefix (l := s) (fun b : UInt8 => decide (b ≠ 58))
  obtain ⟨t, ht⟩ := hp
  have hj : s[j]? = (s.takeWhile (fun b : UInt8 => decide (b ≠ 58)))[j]? := by
    conv => lhs; rw [← ht]
    rw [List.getElem?_append_left h]
  rw [hj, List.getElem?_eq_getElem h]
  intro e
  injection e with e
  have := List.all_eq_true.1 (List.all_takeWhile (l := s) (p := fun b : UInt8 => decide (b ≠ 58))) _ (List.getElem_mem h)
  rw [e] at this
  simp at this
theorem index_colon (s : List UInt8) : Lib.index s [58] = if colon s < s.length then (colon s : Int) else -1 := by
  have hocc : ∀ j, Lib.occAt s [58] j = true → s[j]? = some 58 := fun j h => Lib.occAt_head rfl h
  split
  · rename_i h
    refine Lib.index_first (by omega) ?_ fun j hj => ?_
    · rw [Lib.occAt_iff_take s [58] (colon s) (by simp; omega)]
      have := colon_at h
      rw [List.drop_eq_getElem_cons h]
      rw [List.getElem?_eq_getElem h] at this
      injection this with this
      simp [this]
    · cases ho : Lib.occAt s [58] j with
      | false => rfl
      | true => exact absurd (hocc j ho) (before_colon hj)
  · rename_i h
    refine Lib.index_none fun j hj => ?_
    cases ho : Lib.occAt s [58] j with
    | false => rfl
    | true =>
      have h1 := hocc j ho
      have hlt : j < s.length := by
        rcases Nat.lt_or_ge j s.length with h2 | h2
        · exact h2
        · rw [List.getElem?_eq_none h2] at h1; cases h1
      exact absurd h1 (before_colon (by have := colon_le s; omega))
theorem cut_colon (s : List UInt8) : Lib.cut s [58] = if colon s < s.length then (s.take (colon s), s.drop (colon s + 1), true) else (s, [], false) := by
  unfold Lib.cut
  rw [index_colon]
  by_cases h : colon s < s.length
  · simp only [if_pos h]
    rw [if_pos (by omega)]
    rfl
  · simp only [if_neg h]
    rw [if_neg (by omega)]

/-- A round, as a program does it that cuts at the colon first. -/
theorem cut_nocolon {s : List UInt8} (h : ¬ colon s < s.length) : cut s = none := by
  have hc := colon_le s
  unfold cut
  cases hn : num (s.take (colon s)) with
  | none => rfl
  | some n =>
    simp only []
    rw [if_pos (.inl (by omega))]
theorem cut_num_none {s : List UInt8} (h : num (s.take (colon s)) = none) : cut s = none := by unfold cut; rw [h]
theorem cut_num_some {s : List UInt8} {n : Nat} (h : num (s.take (colon s)) = some n) (hc : colon s < s.length) :
    cut s = if n < (s.drop (colon s + 1)).length ∧ (s.drop (colon s + 1))[n]? = some 44 then some ((s.drop (colon s + 1)).take n, (s.drop (colon s + 1)).drop (n + 1)) else none := by
  unfold cut
  rw [h]
  simp only []
  rw [List.length_drop, List.getElem?_drop, List.drop_drop, show colon s + 1 + n = n + colon s + 1 by omega, show colon s + 1 + (n + 1) = n + colon s + 2 by omega]
  by_cases h1 : s.length < n + colon s + 2
  · rw [if_pos (.inl h1), if_neg (fun h => by omega)]
  · by_cases h2 : s[n + colon s + 1]? = some 44
    · rw [if_neg (by rintro (h3 | h3); exact h1 h3; exact h3 h2), if_pos ⟨by omega, h2⟩]
    · rw [if_pos (.inr h2), if_neg (fun h => h2 h.2)]

/-! ### How long a text is -/
theorem dig_length_le (n k : Nat) (h : n < 10 ^ (k + 1)) : (dig n).length ≤ k + 1 := dig_length n k h
theorem enc_length (l : List (List UInt8)) (h : ∀ x ∈ l, x.length < 10000) : (enc l).length ≤ (l.map fun x => x.length + 1).sum * 6 := by
  induction l with
  | nil => simp [enc]
  | cons x l ih =>
    have h1 := ih fun y hy => h y (by simp [hy])
    have h2 := dig_length x.length 3 (by have := h x (by simp); omega)
    rw [enc_cons, List.length_append, List.map_cons, List.sum_cons]
    simp only [one, List.length_append, List.length_cons, List.length_nil]
    omega
end Net
end Go.Proofs.YtmkpkmkhnphogaaGreatDoor

/-
  Layer 2's program in memory: what the calls ask of it (Kit), lists of texts that are read (Rd), lengths.
-/
namespace Go.Proofs.YtmkpkmkhnphogaaGreatDoor
open Go.RowKit Net
namespace Tup

/-- A fact that no tactic looks into. -/
structure Kept (p : Prop) : Prop where
  out : p

theorem below_drewN {B : Nat} {a w : World} (h : Below B a w) (n : Nat) : Below B a (w.drewN n) := ⟨h.os, h.tape, h.output, h.size, h.block⟩

/-- The library's variables that calls read. -/
structure Kit (w : World) : Prop where
  tab : Lib.TabIs Tryz.prog w "internal/strconv.uint64pow10" .u64 Lib.pow10Tab
  err : ∃ tp p, w.var? Tryz.prog "strconv.ErrSyntax" = some #[.iface tp p]
  max : ∃ m, w.cell? ⟨5, 0, none⟩ = some (.int .i64 m)

theorem var_below {P : Program} {w w' : World} {n : String} {cs : Array Value} (hb : Below w.heap.size w w') (h : w.var? P n = some cs) : w'.var? P n = some cs := by
  unfold World.var? at h ⊢
  cases hg : P.globalNamed n with
  | none => rw [hg] at h; cases h
  | some g =>
    rw [hg] at h
    simp only [Option.bind_some] at h ⊢
    have hlt : g < w.heap.size := by
      rcases Nat.lt_or_ge g w.heap.size with h1 | h1
      · exact h1
      · rw [Array.getElem?_eq_none h1] at h; cases h
    rw [hb.block g hlt]
    exact h
theorem Kit.below {w w' : World} (h : Kit w) (hb : Below w.heap.size w w') : Kit w' := by
  obtain ⟨h1, ⟨tp, p, h2⟩, m, h3⟩ := h
  refine ⟨var_below hb h1, ⟨tp, p, var_below hb h2⟩, m, ?_⟩
  have hlt := World.block_lt_of_cell? w _ h3
  rw [hb.cell hlt]
  exact h3
/-- Below B all that is asked holds, whatever else is done. -/
def KitB (B : Nat) (w : World) : Prop := ∀ w', Below B w w' → Kit w'
theorem Kit.toB {w : World} (h : Kit w) : KitB w.heap.size w := fun _ hb => h.below hb
theorem KitB.kit {B : Nat} {w : World} (h : KitB B w) : Kit w := h w (Below.refl _ _)
theorem KitB.below {B : Nat} {w w' : World} (h : KitB B w) (hb : Below B w w') : KitB B w' := fun _ h2 => h _ (hb.trans h2)
theorem KitB.tab {B : Nat} {w : World} (h : KitB B w) : Lib.TabBelow Tryz.prog B w "internal/strconv.uint64pow10" .u64 Lib.pow10Tab := fun w' hb => (h w' hb).tab

/-- The slice at A holds the texts l. -/
def Rd (w : World) (A : Option Addr) (l : List ByteArray) : Prop := ∀ j (hj : j < l.length), ∃ g off, A = some ⟨g, off, none⟩ ∧ g < w.heap.size ∧ w.cell? ⟨g, off + j, none⟩ = some (.string l[j])
theorem Rd.below {w w' : World} {A : Option Addr} {l : List ByteArray} (h : Rd w A l) (hb : Below w.heap.size w w') : Rd w' A l := by
  intro j hj
  obtain ⟨g, off, e, hg, hc⟩ := h j hj
  exact ⟨g, off, e, Nat.lt_of_lt_of_le hg hb.size, (hb.cell hg).trans hc⟩
theorem Rd.of_at {w : World} {g off : Nat} {l : List ByteArray} (h : Own.At Value.string w g off l) : Rd w (some ⟨g, off, none⟩) l :=
  fun j hj => ⟨g, off, rfl, h.1, h.cell j hj⟩
theorem Rd.nil (w : World) (A : Option Addr) : Rd w A [] := fun j hj => by simp at hj
theorem Rd.at {w : World} {g off : Nat} {l : List ByteArray} (hg : g < w.heap.size) (h : Rd w (some ⟨g, off, none⟩) l) : Own.At Value.string w g off l := by
  refine ⟨hg, fun j u hu => ?_⟩
  rw [List.getElem?_map, Option.map_eq_some_iff] at hu
  obtain ⟨x, hx, rfl⟩ := hu
  obtain ⟨hj, rfl⟩ := List.getElem?_eq_some_iff.1 hx
  obtain ⟨g', off', e, _, hc⟩ := h j hj
  injection e with e
  injection e with e1 e2
  subst e1 e2
  exact hc
/-- A slice of the call's own, read. -/
theorem Rd.of_es {w : World} {B : Nat} {v : Value} {l : List ByteArray} (h : Own.Es Value.string w B v l) : ∃ A k, v = .slice A l.length k ∧ Rd w A l := by
  rcases h with ⟨rfl, rfl⟩ | ⟨g, cap, rfl, h1, h2, h3, h4, h5, h6⟩
  · exact ⟨none, 0, rfl, Rd.nil _ _⟩
  · refine ⟨_, _, rfl, fun j hj => ⟨g, 0, rfl, h2, ?_⟩⟩
    rw [Nat.zero_add]
    exact h6 j _ (by simp [hj])

/-- The bytes of texts. -/
def toL (s : ByteArray) : List UInt8 := s.data.toList
def bs (l : List UInt8) : ByteArray := ⟨l.toArray⟩
theorem toL_bs (l : List UInt8) : toL (bs l) = l := by simp [toL, bs]
theorem bs_toL (s : ByteArray) : bs (toL s) = s := by cases s; simp [toL, bs]
theorem toL_length (s : ByteArray) : (toL s).length = s.size := by simp [toL]
theorem bs_size (l : List UInt8) : (bs l).size = l.length := by
  show (l.toArray).size = _
  simp
theorem toL_extract (s : ByteArray) (a b : Nat) : toL (s.extract a b) = ((toL s).drop a).take (b - a) := by
  unfold toL
  rw [ByteArray.data_extract, Array.toList_extract]
theorem toL_to (s : ByteArray) (b : Nat) : toL (s.extract 0 b) = (toL s).take b := by rw [toL_extract]; rfl
theorem toL_from (s : ByteArray) (a : Nat) : toL (s.extract a s.size) = (toL s).drop a := by
  rw [toL_extract, List.take_of_length_le (by rw [List.length_drop, toL_length]; omega)]
theorem beq_str (a b : ByteArray) : (a.toList == b.toList) = decide (a = b) := by
  rw [ByteArray.toList_eq, ByteArray.toList_eq]
  by_cases h : a = b
  · subst h; simp
  · rw [decide_eq_false h, beq_eq_false_iff_ne]
    intro e
    apply h
    cases a; cases b
    simpa using e
theorem toL_inj {a b : ByteArray} (h : toL a = toL b) : a = b := by rw [← bs_toL a, h, bs_toL]
theorem map_toL_inj : ∀ {l m : List ByteArray}, l.map toL = m.map toL → l = m
  | [], [], _ => rfl
  | [], _ :: _, h => by simp at h
  | _ :: _, [], h => by simp at h
  | a :: l, b :: m, h => by
    simp only [List.map_cons, List.cons.injEq] at h
    rw [toL_inj h.1, map_toL_inj h.2]
theorem map_bs_toL (l : List (List UInt8)) : (l.map bs).map toL = l := by
  rw [List.map_map]
  have : toL ∘ bs = id := funext toL_bs
  rw [this, List.map_id]
theorem map_toL_bs (l : List ByteArray) : (l.map toL).map bs = l := by
  rw [List.map_map]
  have : bs ∘ toL = id := funext bs_toL
  rw [this, List.map_id]

/-- How much texts are, one more for each. -/
def much (l : List ByteArray) : Nat := (l.map fun s => s.size + 1).sum
theorem much_append (l m : List ByteArray) : much (l ++ m) = much l + much m := by simp [much]
theorem much_take_succ (l : List ByteArray) (k : Nat) (hk : k < l.length) : much (l.take (k + 1)) = much (l.take k) + (l[k].size + 1) := by
  rw [List.take_succ_eq_append_getElem hk, much_append]
  simp [much]
theorem much_take_le (l : List ByteArray) (k : Nat) : much (l.take k) ≤ much l := by
  conv => rhs; rw [← List.take_append_drop k l]
  rw [much_append]
  omega
theorem much_length : ∀ l : List ByteArray, l.length ≤ much l
  | [] => by simp [much]
  | s :: l => by
    have := much_length l
    simp [much] at this ⊢
    omega
theorem much_mem {l : List ByteArray} {s : ByteArray} (h : s ∈ l) : s.size + 1 ≤ much l := by
  obtain ⟨a, b, rfl⟩ := List.append_of_mem h
  rw [much_append]
  simp [much]
  omega
end Tup
end Go.Proofs.YtmkpkmkhnphogaaGreatDoor

/-
  Same: are two lists of texts alike.
-/
namespace Go.Proofs.YtmkpkmkhnphogaaGreatDoor
open Go.RowKit Net
namespace Tup

theorem take_same {l m : List ByteArray} {j : Nat} (h : l.take j = m.take j) (hl : j < l.length) (hm : j < m.length) (he : l[j] = m[j]) : l.take (j + 1) = m.take (j + 1) := by
  rw [List.take_succ_eq_append_getElem hl, List.take_succ_eq_append_getElem hm, h, he]

set_option maxRecDepth 100000 in
theorem same_any (l m : List ByteArray) (A C : Option Addr) (n k p q : Nat) (w : World) (hR : Rd w A l) (hQ : Rd w C m) (hn : l.length = n) (hp : m.length = p) (hn2 : n ≤ 140737488351232) (hp2 : p ≤ 140737488351232) :
    Calls Tryz.prog 12 #[.slice A n k, .slice C p q] w fun e w' => e = .returned (.bool (decide (l = m))) ∧ Below w.heap.size w w' := by
  have HR := Kept.mk hR
  have HQ := Kept.mk hQ
  have HN := Kept.mk hn
  have HP := Kept.mk hp
  clear hR hQ hn hp
  by_cases hnp : n = p
  · subst hnp
    go_enter Tryz.func12, Tryz.ntmps12
    go_wp2
    go_loopw [5] (fun i wr => ∃ j : Nat, j ≤ n ∧ i = .int .i64 j ∧ Below w.heap.size w wr ∧ Kept (l.take j = m.take j)) (fun i _ => n - (intOf i).toNat)
    case atStart => exact ⟨0, by omega, rfl, Below.refl _ _, ⟨rfl⟩⟩
    case round =>
      obtain ⟨j, hj, rfl, hb, ht⟩ := hrel
      by_cases hlt : j < n
      · obtain ⟨g, off, rfl, hg, hc⟩ := (HR.out.below hb) j (by rw [HN.out]; exact hlt)
        obtain ⟨g2, off2, rfl, hg2, hc2⟩ := (HQ.out.below hb) j (by rw [HP.out]; exact hlt)
        have hne : Kept (l[j]'(by rw [HN.out]; exact hlt) ≠ m[j]'(by rw [HP.out]; exact hlt) → l ≠ m) := ⟨fun h e => h (by subst e; rfl)⟩
        have heq : Kept (l[j]'(by rw [HN.out]; exact hlt) = m[j]'(by rw [HP.out]; exact hlt) → l.take (j + 1) = m.take (j + 1)) := ⟨fun h => take_same ht.out _ _ h⟩
        generalize l[j]'(by rw [HN.out]; exact hlt) = s at hc hne heq
        generalize m[j]'(by rw [HP.out]; exact hlt) = u at hc2 hne heq
        have HB := Kept.mk hb
        clear hb ht
        have z0 : (0 : Int) ≤ (j : Int) := by omega
        have z1 : (j : Int) < n := by omega
        by_cases hsu : s = u
        · have hE : (s.toList == u.toList) = true := by rw [beq_str, decide_eq_true hsu]
          have hT := Kept.mk (heq.out hsu)
          clear heq hne hsu
          go_wp2
          refine wp_region_still_lit (by kernel_rfl) (by kernel_rfl) ?_
          repeat (first | still_step)
          refine wpStill_nil ?_
          go_wp2
          go_roundw
          case rel => exact ⟨j + 1, by omega, by go_num, HB.out.drew, hT⟩
          case measure => simp [intOf]; omega
        · have hE : (s.toList == u.toList) = false := by rw [beq_str, decide_eq_false hsu]
          have hF : Kept (decide (l = m) = false) := ⟨decide_eq_false (hne.out hsu)⟩
          clear heq hne hsu
          go_wp2
          refine wp_region_still_lit (by kernel_rfl) (by kernel_rfl) ?_
          repeat (first | still_step)
          refine wpStill_nil ?_
          go_wp2
          go_ret
          exact ⟨by rw [hF.out]; rfl, HB.out.drew⟩
      · have hT : Kept (decide (l = m) = true) := ⟨by
          have := ht.out
          rw [List.take_of_length_le (by rw [HN.out]; omega), List.take_of_length_le (by rw [HP.out]; omega)] at this
          exact decide_eq_true this⟩
        clear ht
        go_wp2
        go_ret
        exact ⟨by rw [hT.out]; rfl, hb⟩
  · have hF : Kept (decide (l = m) = false) := ⟨decide_eq_false (fun e => hnp (by rw [← HN.out, ← HP.out, e]))⟩
    go_enter Tryz.func12, Tryz.ntmps12
    go_wp2
    go_ret
    exact ⟨by rw [hF.out]; rfl, Below.refl _ _⟩
end Tup
end Go.Proofs.YtmkpkmkhnphogaaGreatDoor

/-
  lengthOf: the number that digits tell.
-/
namespace Go.Proofs.YtmkpkmkhnphogaaGreatDoor
open Go.RowKit Net
namespace Tup

theorem kit_bytes {w : World} (h : Kit w) (t : ByteArray) : Kit (Lib.bytesWorld w 5 t) := h.below (Lib.bytesWorld_below w _ t)

set_option maxRecDepth 100000 in
theorem lengthOf_any (d : ByteArray) (w : World) (hd : d.size ≤ 9223372036854775807) (hK : Kit w) :
    Calls Tryz.prog 92 #[.string d] w fun e w' => ∃ (n : Nat) (b : Bool), e = .returned (.tuple #[.int .i64 n, .bool b]) ∧ Below w.heap.size w w' ∧ Kept (num (toL d) = if b then some n else none) := by
  have HK := Kept.mk hK
  clear hK
  by_cases h9 : 9 < d.size
  · have hF : Kept (num (toL d) = none) := ⟨num_long (by rw [toL_length]; exact h9)⟩
    go_enter Tryz.func92, Tryz.ntmps92
    go_wp2
    go_ret2
    exact ⟨0, false, rfl, Below.refl _ _, hF⟩
  · have h18 : d.size ≤ 18 := by omega
    have H9 : Kept (d.size ≤ 9) := ⟨by omega⟩
    cases ha : Lib.atoi d.data.toList with
    | none =>
      have hF : Kept (num (toL d) = none) := ⟨num_atoi_none ha⟩
      have HA := Kept.mk ha
      clear ha
      obtain ⟨tp, p, hv⟩ := HK.out.err
      have HV := Kept.mk hv
      clear hv
      go_enter Tryz.func92, Tryz.ntmps92
      go_wp2_with (go_at_call 61; refine (Tryz.strconv_Atoi_err_var d h18 HA.out tp p _ HV.out).mono ?_; rintro e w1 ⟨N, rfl, _, _, hb⟩)
      go_ret2
      exact ⟨0, false, rfl, hb, hF⟩
    | some v =>
      have HA := Kept.mk ha
      have hv1 := Lib.atoi_bound ha (by rw [← toL_length] at h18; exact h18)
      obtain ⟨hv1, hv2⟩ := hv1
      clear ha
      by_cases h0 : v < 0
      · have hF : Kept (num (toL d) = none) := ⟨num_atoi_other HA.out (.inr h0)⟩
        go_enter Tryz.func92, Tryz.ntmps92
        go_wp2_with (go_at_call 61; refine (Tryz.strconv_Atoi d v h18 HA.out _).mono ?_; rintro e w1 ⟨rfl, t, rfl⟩)
        go_ret2
        exact ⟨0, false, rfl, Lib.bytesWorld_below w _ t, hF⟩
      · have hI : ∀ w2, Kit w2 → Calls Tryz.prog 66 #[.int .i64 v] w2 fun e w' => ∃ x : ByteArray, e = .returned (.string x) ∧ Below w2.heap.size w2 w' ∧ Kept (x = bs (Lib.itoa v)) := by
          intro w2 h2
          refine (Tryz.strconv_Itoa v (by omega) (by omega) w2 h2.tab).mono ?_
          rintro e w' ⟨rfl, k, os, rfl⟩
          exact ⟨_, rfl, Lib.below_grow _ _ (Nat.le_refl _) _ _, ⟨rfl⟩⟩
        have HI := Kept.mk hI
        clear hI
        have h0' : 0 ≤ v := by omega
        by_cases he : Lib.itoa v = toL d
        · have hT : Kept (num (toL d) = some v.toNat) := ⟨num_atoi (by rw [toL_length]; exact H9.out) h0' he⟩
          have hE : Kept (∀ x : ByteArray, Kept (x = bs (Lib.itoa v)) → (x.toList == d.toList) = true) := ⟨fun x hx => by rw [beq_str, decide_eq_true]; rw [hx.out, he, bs_toL]⟩
          clear he
          go_enter Tryz.func92, Tryz.ntmps92
          go_wp2_with (first
            | (go_at_call 61; refine (Tryz.strconv_Atoi d v h18 HA.out _).mono ?_; rintro e w1 ⟨rfl, t, rfl⟩; have hK1 := Kept.mk (kit_bytes HK.out t); have hB1 := Kept.mk (Lib.bytesWorld_below w 5 t); generalize Lib.bytesWorld w 5 t = w1 at *)
            | (go_at_call 66; refine (HI.out _ hK1.out).mono ?_; rintro e w2 ⟨x, rfl, hb2, hx⟩; have hE2 := hE.out x hx; have hB2 := Kept.mk hb2; clear hb2))
          go_ret2
          exact ⟨v.toNat, true, by rw [Int.toNat_of_nonneg h0']; rfl, hB1.out.trans (hB2.out.mono hB1.out.size), hT⟩
        · have hF : Kept (num (toL d) = none) := ⟨num_atoi_other HA.out (.inl he)⟩
          have hE : Kept (∀ x : ByteArray, Kept (x = bs (Lib.itoa v)) → (x.toList == d.toList) = false) := ⟨fun x hx => by rw [beq_str, decide_eq_false]; rw [hx.out]; intro e; exact he (by rw [← e, toL_bs])⟩
          clear he
          go_enter Tryz.func92, Tryz.ntmps92
          go_wp2_with (first
            | (go_at_call 61; refine (Tryz.strconv_Atoi d v h18 HA.out _).mono ?_; rintro e w1 ⟨rfl, t, rfl⟩; have hK1 := Kept.mk (kit_bytes HK.out t); have hB1 := Kept.mk (Lib.bytesWorld_below w 5 t); generalize Lib.bytesWorld w 5 t = w1 at *)
            | (go_at_call 66; refine (HI.out _ hK1.out).mono ?_; rintro e w2 ⟨x, rfl, hb2, hx⟩; have hE2 := hE.out x hx; have hB2 := Kept.mk hb2; clear hb2))
          go_ret2
          exact ⟨0, false, rfl, hB1.out.trans (hB2.out.mono hB1.out.size), hF⟩
end Tup
end Go.Proofs.YtmkpkmkhnphogaaGreatDoor

/-
  cutItem: the first text of netstrings, and what stands behind it.
-/
namespace Go.Proofs.YtmkpkmkhnphogaaGreatDoor
open Go.RowKit Net
namespace Tup

theorem cut_call (s : ByteArray) (w : World) (hs : s.size ≤ 4000000000) (hK : Kit w) :
    Calls Tryz.prog 91 #[.string s, .string ⟨#[58]⟩] w fun e w' => ∃ (a b : ByteArray) (t : Bool), e = .returned (.tuple #[.string a, .string b, .bool t]) ∧ Below w.heap.size w w' ∧
      Kept (if colon (toL s) < (toL s).length then t = true ∧ toL a = (toL s).take (colon (toL s)) ∧ toL b = (toL s).drop (colon (toL s) + 1) else t = false) := by
  obtain ⟨m, hm⟩ := hK.max
  refine (Tryz.strings_Cut s ⟨#[58]⟩ m w (by omega) hm).mono ?_
  rintro e w' ⟨rfl, n, rfl⟩
  refine ⟨_, _, _, rfl, below_drewN (Below.refl _ _) n, ⟨?_⟩⟩
  have hc : Lib.cut s.data.toList (⟨#[58]⟩ : ByteArray).data.toList = _ := cut_colon (toL s)
  split
  · rename_i h
    rw [if_pos h] at hc
    rw [hc]
    exact ⟨rfl, toL_bs _, toL_bs _⟩
  · rename_i h
    rw [if_neg h] at hc
    rw [hc]

/-- What a round leaves. -/
def CutIs (s : ByteArray) (x r : ByteArray) (b : Bool) : Prop := if b = true then cut (toL s) = some (toL x, toL r) else cut (toL s) = none

theorem len_call (a : ByteArray) (w : World) (hs : a.size ≤ 9223372036854775807) (hK : Kit w) (o : Option Nat) (h : num (toL a) = o) :
    Calls Tryz.prog 92 #[.string a] w fun e w' => (∃ n : Nat, e = .returned (.tuple #[.int .i64 n, .bool o.isSome]) ∧ Below w.heap.size w w' ∧ ∀ m, o = some m → n = m) := by
  subst h
  refine (lengthOf_any a w hs hK).mono ?_
  rintro e w' ⟨n, b, rfl, hb, hn⟩
  have := hn.out
  cases b with
  | false => rw [if_neg (by simp)] at this; rw [this]; exact ⟨n, rfl, hb, fun _ h => by cases h⟩
  | true => rw [if_pos rfl] at this; rw [this]; exact ⟨n, rfl, hb, fun m h => Option.some.inj h⟩

set_option maxRecDepth 100000 in
theorem cutItem_any (s : ByteArray) (w : World) (hs : s.size ≤ 4000000000) (hK : Kit w) :
    Calls Tryz.prog 74 #[.string s] w fun e w' => ∃ (x r : ByteArray) (b : Bool), e = .returned (.tuple #[.string x, .string r, .bool b]) ∧ Below w.heap.size w w' ∧ Kept (CutIs s x r b) := by
  have HK := Kept.mk hK
  have HS := Kept.mk hs
  clear hK hs
  by_cases hc : colon (toL s) < (toL s).length
  · have h1 : ∀ w, Kit w → Calls Tryz.prog 91 #[.string s, .string ⟨#[58]⟩] w fun e w' => ∃ (a b : ByteArray), e = .returned (.tuple #[.string a, .string b, .bool true]) ∧ Below w.heap.size w w' ∧ Kept (toL a = (toL s).take (colon (toL s))) ∧ Kept (toL b = (toL s).drop (colon (toL s) + 1)) := by
      intro w hK
      refine (cut_call s w HS.out hK).mono ?_
      rintro e w' ⟨a, b, t, rfl, hb, ht⟩
      have := ht.out
      rw [if_pos hc] at this
      obtain ⟨rfl, ha, hb2⟩ := this
      exact ⟨a, b, rfl, hb, ⟨ha⟩, ⟨hb2⟩⟩
    have H1 := Kept.mk h1
    clear h1
    have h2 : ∀ (o : Option Nat), num ((toL s).take (colon (toL s))) = o → ∀ a w, Kept (toL a = (toL s).take (colon (toL s))) → Kit w → Calls Tryz.prog 92 #[.string a] w fun e w' => (∃ n : Nat, e = .returned (.tuple #[.int .i64 n, .bool o.isSome]) ∧ Below w.heap.size w w' ∧ ∀ m, o = some m → n = m) := by
      intro o ho a w ha hK
      refine len_call a w ?_ hK o (by rw [ha.out]; exact ho)
      have := congrArg List.length ha.out
      rw [toL_length, List.length_take, toL_length] at this
      have := HS.out
      omega
    cases hn : num ((toL s).take (colon (toL s))) with
    | none =>
      have H2 := Kept.mk (h2 none hn)
      have HF : Kept (cut (toL s) = none) := ⟨cut_num_none hn⟩
      clear h2 hn hc
      go_enter Tryz.func74, Tryz.ntmps74
      go_wp2_with (first
        | (go_at_call 91; refine (H1.out w HK.out).mono ?_; rintro e w1 ⟨a, b, rfl, hb1, ha, hb⟩; have HB1 := Kept.mk hb1; clear hb1)
        | (go_at_call 92; refine (H2.out a w1 ha (HK.out.below HB1.out)).mono ?_; rintro e w2 ⟨n, rfl, hb2, _⟩; have HB2 := Kept.mk hb2; clear hb2; simp only [Option.isSome_none]))
      go_ret3
      exact ⟨_, _, false, rfl, HB1.out.trans (HB2.out.mono HB1.out.size), ⟨by unfold CutIs; rw [if_neg (by simp)]; exact HF.out⟩⟩
    | some m =>
      have H2 : Kept (∀ a w, Kept (toL a = (toL s).take (colon (toL s))) → Kit w → Calls Tryz.prog 92 #[.string a] w fun e w' => e = .returned (.tuple #[.int .i64 m, .bool true]) ∧ Below w.heap.size w w') := ⟨fun a w ha hK => (h2 (some m) hn a w ha hK).mono (by
        rintro e w' ⟨n, rfl, hb, he⟩
        rw [he m rfl]
        exact ⟨rfl, hb⟩)⟩
      have HC := Kept.mk (cut_num_some hn hc)
      have hm9 := (num_some hn).2.1
      clear h2 hn hc
      by_cases hlt : m < ((toL s).drop (colon (toL s) + 1)).length
      · by_cases h44 : ((toL s).drop (colon (toL s) + 1))[m]? = some 44
        · have HT : Kept (cut (toL s) = some (((toL s).drop (colon (toL s) + 1)).take m, ((toL s).drop (colon (toL s) + 1)).drop (m + 1))) := ⟨by rw [HC.out, if_pos ⟨hlt, h44⟩]⟩
          have HB : Kept (∀ b : ByteArray, Kept (toL b = (toL s).drop (colon (toL s) + 1)) → m < b.size ∧ ∀ h : m < b.size, ((b[m]'h).toNat : Int) = 44) := ⟨fun b hb => by
            have e : b.size = ((toL s).drop (colon (toL s) + 1)).length := by rw [← hb.out, toL_length]
            refine ⟨by omega, fun h => ?_⟩
            rw [← hb.out] at h44
            have h3 : (toL b)[m]? = some (b[m]'h) := by
              rw [List.getElem?_eq_getElem (by rw [toL_length]; exact h)]
              rfl
            rw [h3] at h44
            injection h44 with h44
            rw [h44]
            rfl⟩
          clear HC hlt h44
          go_enter Tryz.func74, Tryz.ntmps74
          go_wp2_with (first
            | (go_at_call 91; refine (H1.out w HK.out).mono ?_; rintro e w1 ⟨a, b, rfl, hb1, ha, hb⟩; have HB1 := Kept.mk hb1; clear hb1; obtain ⟨hz, h44⟩ := HB.out b hb; have h44 := h44 hz; have z : (m : Int) < b.size := by omega)
            | (go_at_call 92; refine (H2.out a w1 ha (HK.out.below HB1.out)).mono ?_; rintro e w2 ⟨rfl, hb2⟩; have HB2 := Kept.mk hb2; clear hb2))
          have d0 : (0 : Int) ≤ m := by omega
          have d1 : (m : Int) ≤ b.size := by omega
          have e1 : IntKind.i64.wrap ((m : Int) + 1) = (m : Int) + 1 := IntWalk.i64_in _ (by omega)
          have d2 : (0 : Int) ≤ (m : Int) + 1 := by omega
          have d3 : (m : Int) + 1 ≤ b.size := by omega
          have t1 : (m : Int).toNat = m := by omega
          have t2 : ((m : Int) + 1).toNat = m + 1 := by omega
          have hto : ∀ W : World, (Instr.slice 9 (.string b) none (some (.int .i64 (m : Int))) none).run Tryz.prog W = .ok (.string (b.extract 0 m)) W := fun W => by
            rw [run_slice_string_to_if W 9 b .i64 _ Tryz.underlying9, if_pos ⟨d0, d1⟩, t1]
          have hfrom : ∀ W : World, (Instr.slice 9 (.string b) (some (.int .i64 ((m : Int) + 1))) none none).run Tryz.prog W = .ok (.string (b.extract (m + 1) b.size)) W := fun W => by
            rw [run_slice_string_from_if W 9 b .i64 _ Tryz.underlying9, if_pos ⟨d2, d3⟩, t2]
          refine wp_region_still_lit (by kernel_rfl) (by kernel_rfl) ?_
          repeat (first | still_step)
          refine wpStill_nil ?_
          go_wp2
          go_ret3
          exact ⟨_, _, true, rfl, (HB1.out.trans (HB2.out.mono HB1.out.size)).drew, ⟨by unfold CutIs; rw [if_pos rfl, toL_to, toL_from, hb.out, HT.out]⟩⟩
        · have HF : Kept (cut (toL s) = none) := ⟨by rw [HC.out, if_neg (fun h => h44 h.2)]⟩
          have HB : Kept (∀ b : ByteArray, Kept (toL b = (toL s).drop (colon (toL s) + 1)) → m < b.size ∧ ∀ h : m < b.size, (((b[m]'h).toNat : Int) != 44) = true) := ⟨fun b hb => by
            have e : b.size = ((toL s).drop (colon (toL s) + 1)).length := by rw [← hb.out, toL_length]
            refine ⟨by omega, fun h => bne_iff_ne.2 fun he => h44 ?_⟩
            rw [← hb.out, List.getElem?_eq_getElem (by rw [toL_length]; exact h)]
            have : (toL b)[m]'(by rw [toL_length]; exact h) = b[m]'h := rfl
            rw [this]
            congr 1
            exact UInt8.toNat_inj.1 (show _ = 44 by omega)⟩
          clear HC hlt h44
          go_enter Tryz.func74, Tryz.ntmps74
          go_wp2_with (first
            | (go_at_call 91; refine (H1.out w HK.out).mono ?_; rintro e w1 ⟨a, b, rfl, hb1, ha, hb⟩; have HB1 := Kept.mk hb1; clear hb1; obtain ⟨hz, h44⟩ := HB.out b hb; have h44 := h44 hz; have z : (m : Int) < b.size := by omega)
            | (go_at_call 92; refine (H2.out a w1 ha (HK.out.below HB1.out)).mono ?_; rintro e w2 ⟨rfl, hb2⟩; have HB2 := Kept.mk hb2; clear hb2))
          go_ret3
          exact ⟨_, _, false, rfl, HB1.out.trans (HB2.out.mono HB1.out.size), ⟨by unfold CutIs; rw [if_neg (by simp)]; exact HF.out⟩⟩
      · have HF : Kept (cut (toL s) = none) := ⟨by rw [HC.out, if_neg (fun h => hlt h.1)]⟩
        have HB : Kept (∀ b : ByteArray, Kept (toL b = (toL s).drop (colon (toL s) + 1)) → b.size ≤ m) := ⟨fun b hb => by
          have e : b.size = ((toL s).drop (colon (toL s) + 1)).length := by rw [← hb.out, toL_length]
          omega⟩
        clear HC hlt
        go_enter Tryz.func74, Tryz.ntmps74
        go_wp2_with (first
          | (go_at_call 91; refine (H1.out w HK.out).mono ?_; rintro e w1 ⟨a, b, rfl, hb1, ha, hb⟩; have HB1 := Kept.mk hb1; clear hb1; have hz := HB.out b hb; have z : (b.size : Int) ≤ m := by omega)
          | (go_at_call 92; refine (H2.out a w1 ha (HK.out.below HB1.out)).mono ?_; rintro e w2 ⟨rfl, hb2⟩; have HB2 := Kept.mk hb2; clear hb2))
        go_ret3
        exact ⟨_, _, false, rfl, HB1.out.trans (HB2.out.mono HB1.out.size), ⟨by unfold CutIs; rw [if_neg (by simp)]; exact HF.out⟩⟩
  · have h1 : ∀ w, Kit w → Calls Tryz.prog 91 #[.string s, .string ⟨#[58]⟩] w fun e w' => ∃ (a b : ByteArray), e = .returned (.tuple #[.string a, .string b, .bool false]) ∧ Below w.heap.size w w' := by
      intro w hK
      refine (cut_call s w HS.out hK).mono ?_
      rintro e w' ⟨a, b, t, rfl, hb, ht⟩
      have := ht.out
      rw [if_neg hc] at this
      subst this
      exact ⟨a, b, rfl, hb⟩
    have H1 := Kept.mk h1
    have HF : Kept (cut (toL s) = none) := ⟨cut_nocolon hc⟩
    clear h1 hc
    go_enter Tryz.func74, Tryz.ntmps74
    go_wp2_with (go_at_call 91; refine (H1.out w HK.out).mono ?_; rintro e w1 ⟨a, b, rfl, hb1⟩)
    go_ret3
    exact ⟨_, _, false, rfl, hb1, ⟨by unfold CutIs; rw [if_neg (by simp)]; exact HF.out⟩⟩
end Tup
end Go.Proofs.YtmkpkmkhnphogaaGreatDoor

/-
  Decode: the list of a text.
-/
namespace Go.Proofs.YtmkpkmkhnphogaaGreatDoor
open Go.RowKit Net
namespace Tup

theorem strTy : Own.Ty Tryz.prog 32 9 (.string ⟨#[]⟩) 16 := ⟨Tryz.underlying32, by kernel_rfl, rfl⟩
theorem str_one (s : ByteArray) : (Value.string s).oneCell' = true := rfl

/-- What Decode answers. -/
def DecIs (s : ByteArray) (w : World) (w' : World) (v : Value) (k : Int) : Prop :=
  (dec (toL s) = none ∧ v = .slice none 0 0 ∧ k = 20) ∨ ∃ l : List ByteArray, dec (toL s) = some (l.map toL) ∧ Own.Es Value.string w' w.heap.size v l ∧ k = 0

structure DecIn (w wr : World) (s r : ByteArray) (v : Value) (l : List ByteArray) : Prop where
  below : Below w.heap.size w wr
  es : Own.Es Value.string wr w.heap.size v l
  left : Net.Left (toL s) (l.map toL) (toL r)

theorem DecIn.on {w wr w2 : World} {s r : ByteArray} {v : Value} {l : List ByteArray} (h : DecIn w wr s r v l) (hb : Below wr.heap.size wr w2) : DecIn w w2 s r v l :=
  ⟨h.below.trans (hb.mono h.below.size), h.es.below hb, h.left⟩
theorem DecIn.push {w wr w2 : World} {s t x r : ByteArray} {v v2 : Value} {l : List ByteArray} (h : DecIn w wr s t v l) (ht : toL t ≠ []) (hc : cut (toL t) = some (toL x, toL r)) (he : Own.Es Value.string w2 w.heap.size v2 (l ++ [x])) (hg : wr.grownBy w2 v.ownBlock) : DecIn w w2 s r v2 (l ++ [x]) :=
  ⟨h.below.grown hg h.below.size (fun k hk => (h.es.lt k hk).1), he, by rw [List.map_append]; exact h.left.go ht hc⟩
theorem empty_iff (s : ByteArray) : s.toList.isEmpty = decide (toL s = []) := by
  rw [ByteArray.toList_eq]
  unfold toL
  cases s.data.toList <;> rfl
theorem DecIn.few {w wr : World} {s r : ByteArray} {v : Value} {l : List ByteArray} (h : DecIn w wr s r v l) : r.size ≤ s.size ∧ 3 * l.length ≤ s.size := by
  have := h.left.2
  rw [toL_length, toL_length, List.length_map] at this
  omega
theorem cutItem_none (t : ByteArray) (w : World) (hs : t.size ≤ 4000000000) (hK : Kit w) (h : cut (toL t) = none) :
    Calls Tryz.prog 74 #[.string t] w fun e w' => ∃ (x r : ByteArray), e = .returned (.tuple #[.string x, .string r, .bool false]) ∧ Below w.heap.size w w' := by
  refine (cutItem_any t w hs hK).mono ?_
  rintro e w' ⟨x, r, b, rfl, hb, hc⟩
  cases b with
  | false => exact ⟨x, r, rfl, hb⟩
  | true =>
    have := hc.out
    unfold CutIs at this
    rw [if_pos rfl, h] at this
    cases this
theorem cutItem_some (t : ByteArray) (w : World) (hs : t.size ≤ 4000000000) (hK : Kit w) {x0 r0 : List UInt8} (h : cut (toL t) = some (x0, r0)) :
    Calls Tryz.prog 74 #[.string t] w fun e w' => ∃ (x r : ByteArray), e = .returned (.tuple #[.string x, .string r, .bool true]) ∧ Below w.heap.size w w' ∧ Kept (cut (toL t) = some (toL x, toL r)) := by
  refine (cutItem_any t w hs hK).mono ?_
  rintro e w' ⟨x, r, b, rfl, hb, hc⟩
  have := hc.out
  unfold CutIs at this
  cases b with
  | false => rw [if_neg (by simp), h] at this; cases this
  | true => rw [if_pos rfl] at this; exact ⟨x, r, rfl, hb, ⟨this⟩⟩

set_option maxRecDepth 100000 in
theorem decode_any (s : ByteArray) (w : World) (hs : s.size ≤ 4000000000) (hK : Kit w) :
    Calls Tryz.prog 60 #[.string s] w fun e w' => ∃ v k, e = .returned (.tuple #[v, .int .i64 k]) ∧ Below w.heap.size w w' ∧ Kept (DecIs s w w' v k) := by
  have HK := Kept.mk hK
  have HS := Kept.mk hs
  clear hK hs
  go_enter Tryz.func60, Tryz.ntmps60
  go_wp2
  go_loopw [0, 4] (fun r v wr => ∃ (t : ByteArray) (l : List ByteArray), r = .string t ∧ Kept (DecIn w wr s t v l)) (fun r _ _ => match r with | .string t => t.size | _ => 0)
  case atStart => exact ⟨s, [], rfl, ⟨⟨Below.refl _ _, Own.Es.nil _ _ _, Left.start _⟩⟩⟩
  case round =>
    obtain ⟨t, l, rfl, hD⟩ := hrel
    by_cases ht : toL t = []
    · have hE : t.toList.isEmpty = true := by rw [empty_iff, decide_eq_true ht]
      have HT : Kept (dec (toL s) = some (l.map toL)) := ⟨by
        have := hD.out.left
        rw [ht] at this
        exact this.done⟩
      clear ht
      go_wp2
      go_ret2
      exact ⟨_, 0, rfl, hD.out.below, ⟨.inr ⟨l, HT.out, hD.out.es, rfl⟩⟩⟩
    · have hE : t.toList.isEmpty = false := by rw [empty_iff, decide_eq_false ht]
      have HT := Kept.mk ht
      have HF : Kept (t.size ≤ 4000000000) := ⟨by have := hD.out.few.1; have := HS.out; omega⟩
      have HK2 : Kept (Kit wr) := ⟨HK.out.below hD.out.below⟩
      clear ht
      cases hc : cut (toL t) with
      | none =>
        have HC := Kept.mk hc
        clear hc
        go_wp2_with (go_at_call 74; refine (cutItem_none t wr HF.out HK2.out HC.out).mono ?_; rintro e w1 ⟨x, r, rfl, hb1⟩; have HB1 := Kept.mk hb1; clear hb1)
        go_ret2
        exact ⟨_, 20, rfl, hD.out.below.trans (HB1.out.mono hD.out.below.size), ⟨.inl ⟨hD.out.left.bad HT.out HC.out, rfl, rfl⟩⟩⟩
      | some p =>
        obtain ⟨x0, r0⟩ := p
        have HC := Kept.mk hc
        clear hc
        go_wp2_with (first
          | (go_at_call 74; refine (cutItem_some t wr HF.out HK2.out HC.out).mono ?_; rintro e w1 ⟨x, r, rfl, hb1, hcut⟩; have HD := Kept.mk (hD.out.on hb1); clear hb1)
          | (refine Own.wpList_append1 strTy str_one rfl _ _ rfl rfl HD.out.es HD.out.below.size x _ rfl rfl (by have := HD.out.few; have := HS.out; omega) (by have := HD.out.few; have := HS.out; unfold maxLen; omega) ?_; intro v2 w2 hE2 hg2 _))
        have HD2 := Kept.mk (HD.out.push HT.out hcut.out hE2 hg2)
        have HM : Kept (r.size < t.size) := ⟨by have := cut_short hcut.out; rw [toL_length, toL_length, toL_length] at this; omega⟩
        clear hE2 hg2
        go_wp2
        go_roundw
        case rel => exact ⟨r, l ++ [x], rfl, HD2⟩
        case measure => exact HM.out
end Tup
end Go.Proofs.YtmkpkmkhnphogaaGreatDoor

/-
  Encode: the text of a list.
-/
namespace Go.Proofs.YtmkpkmkhnphogaaGreatDoor
open Go.RowKit Net
namespace Tup

theorem byteTy : By.Ty Tryz.prog 51 5 := ⟨Tryz.underlying51, Tryz.underlying5, by kernel_rfl⟩

/-- How long a text's netstring is at most. -/
theorem one_le (s : ByteArray) (h : s.size < 1000000000000) : (one (toL s)).length ≤ s.size + 14 := by
  have := dig_length (toL s).length 11 (by rw [toL_length]; omega)
  simp only [one, List.length_append, List.length_cons, List.length_nil, toL_length] at this ⊢
  omega

/-- AppendInt onto a row of bytes. -/
theorem appendInt_any (B n : Nat) (v : Value) (l : List UInt8) (w : World) (hn : n ≤ 9223372036854775807) (hv : Row.Is 5 w B v l) (hB : B ≤ w.heap.size) (hK : KitB B w) (hl : l.length + 21 ≤ 140737488355328) :
    Calls Tryz.prog 80 #[v, .int .i64 n, .int .i64 10] w fun e w' => ∃ v', e = .returned v' ∧ Row.Is 5 w' B v' (l ++ dig n) ∧ Below B w w' := by
  refine (Tryz.strconv_AppendInt_10 B l.length n (by omega) (by omega) v (By.cells l) w hv hB hl hK.tab).mono ?_
  rintro e w' ⟨v', rfl, ho, hb, _⟩
  refine ⟨v', rfl, ?_, hb⟩
  rw [itoa_dig] at ho
  exact Row.Is.grow (m := dig n) ho rfl

set_option maxRecDepth 100000 in
/-- The step: a text's netstring behind what was gathered. -/
theorem step_any (B : Nat) (v : Value) (l : List UInt8) (s : ByteArray) (w : World) (hv : Row.Is 5 w B v l) (hB : B ≤ w.heap.size) (hK : KitB B w) (hs : s.size ≤ 1000000) (hl : l.length ≤ 1000000000000) :
    Calls Tryz.prog 79 #[v, .string s] w fun e w' => ∃ v', e = .returned v' ∧ Kept (Row.Is 5 w' B v' (l ++ one (toL s))) ∧ Below B w w' := by
  have HV := Kept.mk hv
  have HB := Kept.mk hB
  have HK := Kept.mk hK
  have HL := Kept.mk hl
  have HD : Kept ((dig s.size).length ≤ 12) := ⟨dig_length s.size 11 (by omega)⟩
  clear hv hB hK hl
  go_enter Tryz.func79, Tryz.ntmps79
  go_wp2_with (first
    | (go_at_call 80
       refine (appendInt_any B s.size v l w (by omega) HV.out HB.out HK.out (by have := HL.out; omega)).mono ?_
       rintro e w1 ⟨v1, rfl, hv1, hb1⟩
       have HB1 := Kept.mk hb1
       have HV1 := Kept.mk hv1
       have hw1 : Kept (B ≤ w1.heap.size) := ⟨Nat.le_trans HB.out HB1.out.size⟩
       have hl1 : Kept ((l ++ dig s.size).length ≤ 1000000000012) := ⟨by have := HL.out; have := HD.out; rw [List.length_append]; omega⟩
       clear hb1 hv1)
    | (refine Row.wpList_append1 byteTy rfl _ _ rfl rfl HV1.out hw1.out 58 _ rfl rfl (by have := hl1.out; omega) ?_
       intro v2 w2 hE2 hg2
       have HB2 : Kept (Below B w w2) := ⟨HB1.out.grown hg2 hw1.out (fun k hk => (HV1.out.lt k hk).1)⟩
       have HV2 := Kept.mk hE2
       have hl2 : Kept ((l ++ dig s.size ++ [58]).length ≤ 1000000000013) := ⟨by have := hl1.out; rw [List.length_append, List.length_singleton]; omega⟩
       have hw2 : Kept (B ≤ w2.heap.size) := ⟨Nat.le_trans HB.out HB2.out.size⟩
       clear hE2 hg2 HV1)
    | (refine Row.wpList_append_str byteTy rfl _ _ 9 rfl Tryz.underlying9 rfl HV2.out hw2.out s rfl (by have := hl2.out; omega) ?_
       intro v3 w3 hE3 hg3
       have HB3 : Kept (Below B w w3) := ⟨HB2.out.grown hg3 hw2.out (fun k hk => (HV2.out.lt k hk).1)⟩
       have HV3 := Kept.mk hE3
       have hl3 : Kept ((l ++ dig s.size ++ [58] ++ s.data.toList).length ≤ 1000001000013) := ⟨by have := hl2.out; have e := toL_length s; unfold toL at e; rw [List.length_append, e]; omega⟩
       have hw3 : Kept (B ≤ w3.heap.size) := ⟨Nat.le_trans HB.out HB3.out.size⟩
       clear hE3 hg3 HV2)
    | (refine Row.wpList_append1 byteTy rfl _ _ rfl rfl HV3.out hw3.out 44 _ rfl rfl (by have := hl3.out; omega) ?_
       intro v4 w4 hE4 hg4
       have HB4 : Kept (Below B w w4) := ⟨HB3.out.grown hg4 hw3.out (fun k hk => (HV3.out.lt k hk).1)⟩
       have HV4 : Kept (Row.Is 5 w4 B v4 (l ++ one (toL s))) := ⟨by
         have e : l ++ one (toL s) = l ++ dig s.size ++ [58] ++ s.data.toList ++ [44] := by
           unfold one
           rw [toL_length]
           simp [toL]
         rw [e]
         exact hE4⟩
       clear hE4 hg4 HV3))
  go_ret
  exact ⟨_, rfl, HV4, HB4.out⟩

/-- What was gathered of a list. -/
structure FoldIn (B : Nat) (w wr : World) (v : Value) (l : List ByteArray) : Prop where
  below : Below B w wr
  row : Row.Is 5 wr B v (enc (l.map toL))
theorem enc_snoc (l : List ByteArray) (s : ByteArray) : enc ((l ++ [s]).map toL) = enc (l.map toL) ++ one (toL s) := by
  rw [List.map_append, enc_append]
  show _ ++ (one (toL s) ++ []) = _
  rw [List.append_nil]
theorem enc_take {l : List ByteArray} (hl : ∀ s ∈ l, s.size ≤ 1000000) (n : Nat) (hn : l.length ≤ n) : ∀ j, (enc ((l.take j).map toL)).length ≤ 1000020 * n := by
  intro j
  have h1 : ∀ m : List ByteArray, (∀ s ∈ m, s.size ≤ 1000000) → (enc (m.map toL)).length ≤ 1000020 * m.length := by
    intro m
    induction m with
    | nil => intro _; simp [enc]
    | cons s m ih =>
      intro hm
      have h2 := one_le s (by have := hm s (by simp); omega)
      have h3 := hm s (by simp)
      have h4 := ih fun x hx => hm x (by simp [hx])
      rw [List.map_cons, enc_cons, List.length_append, List.length_cons]
      omega
  have h2 := h1 (l.take j) fun s hs => hl s (List.mem_of_mem_take hs)
  have h3 : (l.take j).length ≤ n := by rw [List.length_take]; omega
  have h4 := Nat.mul_le_mul_left 1000020 h3
  omega

set_option maxRecDepth 100000 in
theorem fold_any (B : Nat) (v : Value) (l : List ByteArray) (A : Option Addr) (n k : Nat) (w : World) (hv : Row.Is 5 w B v []) (hB : B ≤ w.heap.size) (hK : KitB B w) (hR : ∀ w', Below B w w' → Rd w' A l) (hn : l.length = n) (hn2 : n ≤ 100000)
    (hs : ∀ s ∈ l, s.size ≤ 1000000) :
    Calls Tryz.prog 78 #[.slice A n k, v, .func (.func 79) #[] #[]] w fun e w' => ∃ v', e = .returned v' ∧ Kept (Row.Is 5 w' B v' (enc (l.map toL))) ∧ Below B w w' := by
  have HV := Kept.mk hv
  have HB := Kept.mk hB
  have HK := Kept.mk hK
  have HR := Kept.mk hR
  have HN := Kept.mk hn
  have HS := Kept.mk hs
  clear hv hB hK hR hn hs
  go_enter Tryz.func78, Tryz.ntmps78
  go_wp2
  go_loopw [7, 13] (fun v i wr => ∃ j : Nat, j ≤ n ∧ i = .int .i64 j ∧ Kept (FoldIn B w wr v (l.take j))) (fun _ i _ => n - (intOf i).toNat)
  case atStart => exact ⟨0, by omega, rfl, ⟨⟨Below.refl _ _, HV.out⟩⟩⟩
  case round =>
    obtain ⟨j, hj, rfl, hF⟩ := hrel
    by_cases hlt : j < n
    · obtain ⟨g, off, rfl, hg, hc⟩ := (HR.out _ hF.out.below) j (by rw [HN.out]; exact hlt)
      have hsz := HS.out _ (List.getElem_mem (l := l) (n := j) (by rw [HN.out]; exact hlt))
      have HT : Kept (l.take (j + 1) = l.take j ++ [l[j]'(by rw [HN.out]; exact hlt)]) := ⟨List.take_succ_eq_append_getElem _⟩
      have HE : Kept ((enc ((l.take j).map toL)).length ≤ 1000000000000) := ⟨by
        have := enc_take HS.out n (by rw [HN.out]; exact Nat.le_refl _) j
        omega⟩
      generalize l[j]'(by rw [HN.out]; exact hlt) = s at hc hsz HT
      have HW : Kept (B ≤ wr.heap.size) := ⟨Nat.le_trans HB.out hF.out.below.size⟩
      have HKr : Kept (KitB B wr) := ⟨HK.out.below hF.out.below⟩
      go_wp2_with (go_at_call 79; refine (step_any B _ (enc ((l.take j).map toL)) s wr hF.out.row HW.out HKr.out hsz HE.out).mono ?_; rintro e w1 ⟨v1, rfl, hv1, hb1⟩; have HF2 : Kept (FoldIn B w w1 v1 (l.take (j + 1))) := ⟨⟨hF.out.below.trans hb1, by rw [HT.out, enc_snoc]; exact hv1.out⟩⟩; clear hv1 hb1)
      go_roundw
      case rel => exact ⟨j + 1, by omega, by go_num, HF2⟩
      case measure => simp [intOf]; omega
    · have HE : Kept (l.take j = l) := ⟨List.take_of_length_le (by rw [HN.out]; omega)⟩
      go_wp2
      go_ret
      exact ⟨_, rfl, ⟨by have := hF.out.row; rw [HE.out] at this; exact this⟩, hF.out.below⟩

theorem kitB_alloc {B : Nat} {w : World} (h : KitB B w) (hB : B ≤ w.heap.size) (o : Obj) : KitB B (w.alloc o) := h.below ((Below.refl _ _).alloc hB o)

set_option maxRecDepth 100000 in
theorem encode_any (l : List ByteArray) (A : Option Addr) (n k : Nat) (w : World) (hK : Kit w) (hR : Rd w A l) (hn : l.length = n) (hn2 : n ≤ 100000) (hs : ∀ s ∈ l, s.size ≤ 1000000) :
    Calls Tryz.prog 65 #[.slice A n k] w fun e w' => ∃ t : ByteArray, e = .returned (.string t) ∧ Below w.heap.size w w' ∧ Kept (t = bs (enc (l.map toL))) := by
  have HK : Kept (KitB w.heap.size (w.alloc (.cells #[] 5))) := ⟨kitB_alloc hK.toB (Nat.le_refl _) _⟩
  have HR : Kept (∀ w', Below w.heap.size (w.alloc (.cells #[] 5)) w' → Rd w' A l) := ⟨fun w' hb => hR.below (((Below.refl _ _).alloc (Nat.le_refl _) _).trans hb)⟩
  have HN := Kept.mk hn
  have HS := Kept.mk hs
  clear hK hR hn hs
  go_enter Tryz.func65, Tryz.ntmps65
  go_wp2_with (first
    | (go_at_call 78; refine (fold_any w.heap.size _ l A n k _ (Row.Is.fresh w _ _ (Nat.le_refl _)) (by simp) HK.out HR.out HN.out hn2 HS.out).mono ?_; rintro e w1 ⟨v1, rfl, hv1, hb1⟩; have HB : Kept (Below w.heap.size w w1) := ⟨((Below.refl _ _).alloc (Nat.le_refl _) _).trans hb1⟩; clear hb1)
    | (refine By.wpList_string byteTy rfl 9 _ rfl Tryz.underlying9 rfl hv1.out.bs ?_))
  go_ret
  exact ⟨_, rfl, HB.out, ⟨rfl⟩⟩
end Tup
end Go.Proofs.YtmkpkmkhnphogaaGreatDoor
