/-
  Netstrings, on: what the library's words for digits and cuts (Lib.itoa, Lib.atoi, Lib.cut) have to do with Net's; decoding round by round. Nothing of the program stands here.
-/
import Derived.Test.YtjmblgahoejoiaaGreatDoorNet
import Derived.Lib.ItoaNum
import Derived.Lib.Atoi
import Derived.Lib.IndexMore
namespace Go.Proofs.YtjmblgahoejoiaaGreatDoor
namespace Net

/-! ### Decoding, round by round -/
theorem cut_short {s x r : List UInt8} (h : cut s = some (x, r)) : r.length + x.length + 3 ≤ s.length := by
  obtain ⟨e, _⟩ := cut_some h
  have h2 : x.length + 3 ≤ (one x).length := by
    have := List.length_pos_iff.2 (dig_ne x.length)
    simp [one]
    omega
  rw [e, List.length_append]
  omega
theorem decF_more : ∀ (f g : Nat) (s : List UInt8), s.length ≤ f → s.length ≤ g → decF f s = decF g s
  | 0, g, s, hf, _ => by
    obtain rfl : s = [] := List.eq_nil_of_length_eq_zero (by omega)
    cases g <;> simp [decF]
  | f + 1, 0, s, _, hg => by
    obtain rfl : s = [] := List.eq_nil_of_length_eq_zero (by omega)
    simp [decF]
  | f + 1, g + 1, s, hf, hg => by
    rw [decF, decF]
    split
    · rfl
    · cases hc : cut s with
      | none => rfl
      | some p =>
        obtain ⟨x, r⟩ := p
        have := cut_short hc
        simp only []
        rw [decF_more f g r (by omega) (by omega)]
theorem dec_nil : dec [] = some [] := rfl
theorem dec_cut_none {s : List UInt8} (hs : s ≠ []) (h : cut s = none) : dec s = none := by
  unfold dec
  cases hl : s.length with
  | zero => exact absurd (List.eq_nil_of_length_eq_zero hl) hs
  | succ n => rw [decF, if_neg hs, h]
theorem dec_cut_some {s x r : List UInt8} (hs : s ≠ []) (h : cut s = some (x, r)) : dec s = (dec r).map (x :: ·) := by
  have h1 := cut_short h
  unfold dec
  cases hl : s.length with
  | zero => exact absurd (List.eq_nil_of_length_eq_zero hl) hs
  | succ n =>
    rw [decF, if_neg hs, h]
    simp only []
    rw [decF_more n r.length r (by omega) (Nat.le_refl _)]
/-- What a loop over the rounds keeps: so far acc, and r is left. -/
def Left (s : List UInt8) (acc : List (List UInt8)) (r : List UInt8) : Prop := dec s = (dec r).map (acc ++ ·) ∧ r.length + (acc.flatMap id).length + 3 * acc.length ≤ s.length
theorem Left.start (s : List UInt8) : Left s [] s := by
  refine ⟨?_, by simp⟩
  cases dec s <;> rfl
theorem Left.go {s r x r' : List UInt8} {acc : List (List UInt8)} (h : Left s acc r) (hr : r ≠ []) (hc : cut r = some (x, r')) : Left s (acc ++ [x]) r' := by
  refine ⟨?_, ?_⟩
  · rw [h.1, dec_cut_some hr hc]
    cases dec r' <;> simp
  · have h1 := cut_short hc
    have h2 := h.2
    simp only [List.flatMap_append, List.length_append, List.length_cons, List.length_nil, List.flatMap_cons, List.flatMap_nil, List.append_nil, id]
    omega
theorem Left.bad {s r : List UInt8} {acc : List (List UInt8)} (h : Left s acc r) (hr : r ≠ []) (hc : cut r = none) : dec s = none := by rw [h.1, dec_cut_none hr hc]; rfl
theorem Left.done {s : List UInt8} {acc : List (List UInt8)} (h : Left s acc []) : dec s = some acc := by rw [h.1, dec_nil]; simp

/-! ### The library's words -/
theorem decDigits_dig (n : Nat) : Lib.decDigits n = dig n := by
  induction n using Nat.strongRecOn with
  | _ n ih =>
    rw [Lib.decDigits, dig]
    split
    · rfl
    · rw [ih (n / 10) (by omega)]
theorem itoa_dig (n : Nat) : Lib.itoa (n : Int) = dig n := by
  unfold Lib.itoa
  rw [if_neg (by omega), decDigits_dig]
  rfl
theorem digitVal_isDig (b : UInt8) : Lib.digitVal b = if isDig b = true then some (b.toNat - 48) else none := by
  unfold Lib.digitVal isDig
  simp only [Bool.and_eq_true, decide_eq_true_eq]
theorem decFrom_worth : ∀ (l : List UInt8) (n : Nat), l.all isDig = true → Lib.decFrom n l = some (worth l n)
  | [], _, _ => rfl
  | b :: l, n, h => by
    simp only [List.all_cons, Bool.and_eq_true] at h
    simp only [Lib.decFrom, digitVal_isDig, h.1, if_true]
    exact decFrom_worth l _ h.2
theorem atoi_dig (n : Nat) : Lib.atoi (dig n) = some (n : Int) := by
  have ha := dig_all n
  have hw := worth_dig n
  cases hd : dig n with
  | nil => exact absurd hd (dig_ne n)
  | cons b r =>
    rw [hd] at ha hw
    have hb : isDig b = true := by simp only [List.all_cons, Bool.and_eq_true] at ha; exact ha.1
    have hb' : 48 ≤ b.toNat := by unfold isDig at hb; simp only [Bool.and_eq_true, decide_eq_true_eq] at hb; exact hb.1
    have h45 : (b == 45) = false := by
      rw [beq_eq_false_iff_ne]
      rintro rfl
      simp at hb'
    have h43 : (b == 43) = false := by
      rw [beq_eq_false_iff_ne]
      rintro rfl
      simp at hb'
    simp only [Lib.atoi, h45, h43, Bool.false_eq_true, if_false, Lib.decNat, List.isEmpty_cons]
    rw [decFrom_worth _ _ ha, hw]
    rfl
/-- A number is what Atoi reads of it .. -/
theorem atoi_num {d : List UInt8} {n : Nat} (h : num d = some n) : Lib.atoi d = some (n : Int) ∧ Lib.itoa (n : Int) = d := by
  obtain ⟨h1, _, _⟩ := num_some h
  rw [itoa_dig, ← h1]
  exact ⟨atoi_dig n, rfl⟩
theorem num_long {d : List UInt8} (h : 9 < d.length) : num d = none := by
  unfold num
  rw [if_pos (.inr (.inl h))]
theorem num_atoi_none {d : List UInt8} (h : Lib.atoi d = none) : num d = none := by
  cases hn : num d with
  | none => rfl
  | some n => rw [(atoi_num hn).1] at h; cases h
theorem num_atoi_other {d : List UInt8} {v : Int} (h : Lib.atoi d = some v) (hv : Lib.itoa v ≠ d ∨ v < 0) : num d = none := by
  cases hn : num d with
  | none => rfl
  | some n =>
    obtain ⟨h1, h2⟩ := atoi_num hn
    rw [h1] at h
    injection h with h
    rcases hv with hv | hv
    · exact absurd (h ▸ h2) hv
    · omega
/-- .. and there is no other. -/
theorem num_atoi {d : List UInt8} {v : Int} (hl : d.length ≤ 9) (h0 : 0 ≤ v) (hv : Lib.itoa v = d) : num d = some v.toNat := by
  obtain ⟨n, rfl⟩ := Int.eq_ofNat_of_zero_le h0
  rw [itoa_dig] at hv
  subst hv
  show num (dig n) = some n
  have hh : ¬ ((dig n).head? = some 48 ∧ 1 < (dig n).length) := by
    rintro ⟨h1, h2⟩
    rcases Nat.eq_zero_or_pos n with h0 | h0
    · subst h0
      have : dig 0 = [48] := by unfold dig; rfl
      rw [this] at h2
      simp at h2
    · exact dig_head n h0 h1
  unfold num
  have hn : ¬ (dig n = [] ∨ 9 < (dig n).length ∨ ((dig n).head? = some 48 ∧ 1 < (dig n).length)) := by
    rintro (h1 | h1 | h1)
    · exact dig_ne _ h1
    · omega
    · exact hh h1
  rw [if_neg hn, if_pos (dig_all n), worth_dig]

theorem colon_le (s : List UInt8) : colon s ≤ s.length := by
  unfold colon
  exact (List.takeWhile_prefix _).length_le
theorem before_colon {s : List UInt8} {j : Nat} (h : j < colon s) : s[j]? ≠ some 58 := by
  unfold colon at h
  have hp := List.takeWhile_prefix (l := s) (fun b : UInt8 => decide (b ≠ 58))
  obtain ⟨t, ht⟩ := hp
  have hj : s[j]? = (s.takeWhile (fun b : UInt8 => decide (b ≠ 58)))[j]? := by
    conv => lhs; rw [← ht]
    rw [List.getElem?_append_left h]
  rw [hj, List.getElem?_eq_getElem h]
  intro e
  injection e with e
  have := List.all_eq_true.1 (List.all_takeWhile (l := s) (p := fun b : UInt8 => decide (b ≠ 58))) _ (List.getElem_mem h)
  rw [e] at this
  simp at this
theorem index_colon (s : List UInt8) : Lib.index s [58] = if colon s < s.length then (colon s : Int) else -1 := by
  have hocc : ∀ j, Lib.occAt s [58] j = true → s[j]? = some 58 := fun j h => Lib.occAt_head rfl h
  split
  · rename_i h
    refine Lib.index_first (by omega) ?_ fun j hj => ?_
    · rw [Lib.occAt_iff_take s [58] (colon s) (by simp; omega)]
      have := colon_at h
      rw [List.drop_eq_getElem_cons h]
      rw [List.getElem?_eq_getElem h] at this
      injection this with this
      simp [this]
    · cases ho : Lib.occAt s [58] j with
      | false => rfl
      | true => exact absurd (hocc j ho) (before_colon hj)
  · rename_i h
    refine Lib.index_none fun j hj => ?_
    cases ho : Lib.occAt s [58] j with
    | false => rfl
    | true =>
      have h1 := hocc j ho
      have hlt : j < s.length := by
        rcases Nat.lt_or_ge j s.length with h2 | h2
        · exact h2
        · rw [List.getElem?_eq_none h2] at h1; cases h1
      exact absurd h1 (before_colon (by have := colon_le s; omega))
theorem cut_colon (s : List UInt8) : Lib.cut s [58] = if colon s < s.length then (s.take (colon s), s.drop (colon s + 1), true) else (s, [], false) := by
  unfold Lib.cut
  rw [index_colon]
  by_cases h : colon s < s.length
  · simp only [if_pos h]
    rw [if_pos (by omega)]
    rfl
  · simp only [if_neg h]
    rw [if_neg (by omega)]

/-- A round, as a program does it that cuts at the colon first. -/
theorem cut_nocolon {s : List UInt8} (h : ¬ colon s < s.length) : cut s = none := by
  have hc := colon_le s
  unfold cut
  cases hn : num (s.take (colon s)) with
  | none => rfl
  | some n =>
    simp only []
    rw [if_pos (.inl (by omega))]
theorem cut_num_none {s : List UInt8} (h : num (s.take (colon s)) = none) : cut s = none := by unfold cut; rw [h]
theorem cut_num_some {s : List UInt8} {n : Nat} (h : num (s.take (colon s)) = some n) (hc : colon s < s.length) :
    cut s = if n < (s.drop (colon s + 1)).length ∧ (s.drop (colon s + 1))[n]? = some 44 then some ((s.drop (colon s + 1)).take n, (s.drop (colon s + 1)).drop (n + 1)) else none := by
  unfold cut
  rw [h]
  simp only []
  rw [List.length_drop, List.getElem?_drop, List.drop_drop, show colon s + 1 + n = n + colon s + 1 by omega, show colon s + 1 + (n + 1) = n + colon s + 2 by omega]
  by_cases h1 : s.length < n + colon s + 2
  · rw [if_pos (.inl h1), if_neg (fun h => by omega)]
  · by_cases h2 : s[n + colon s + 1]? = some 44
    · rw [if_neg (by rintro (h3 | h3); exact h1 h3; exact h3 h2), if_pos ⟨by omega, h2⟩]
    · rw [if_pos (.inr h2), if_neg (fun h => h2 h.2)]

/-! ### How long a text is -/
theorem dig_length_le (n k : Nat) (h : n < 10 ^ (k + 1)) : (dig n).length ≤ k + 1 := dig_length n k h
theorem enc_length (l : List (List UInt8)) (h : ∀ x ∈ l, x.length < 10000) : (enc l).length ≤ (l.map fun x => x.length + 1).sum * 6 := by
  induction l with
  | nil => simp [enc]
  | cons x l ih =>
    have h1 := ih fun y hy => h y (by simp [hy])
    have h2 := dig_length x.length 3 (by have := h x (by simp); omega)
    rw [enc_cons, List.length_append, List.map_cons, List.sum_cons]
    simp only [one, List.length_append, List.length_cons, List.length_nil]
    omega
end Net
end Go.Proofs.YtjmblgahoejoiaaGreatDoor
