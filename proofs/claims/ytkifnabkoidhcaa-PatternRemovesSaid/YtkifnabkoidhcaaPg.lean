/-
  Elements, matched by going on and going back with one mark: which beginnings of a text they match, one behind the other. Nothing of the program stands here.
-/
import Derived.Test.YtkifnabkoidhcaaPe
namespace Go.Proofs.Ytkifnabkoidhcaa
namespace Pm

abbrev El := Option (UInt8 → Bool)
inductive ME : List El → List UInt8 → Prop
  | nil : ME [] []
  | star {l : List El} {s : List UInt8} (t : List UInt8) (h : ME l s) : ME (none :: l) (t ++ s)
  | one {f : UInt8 → Bool} {l : List El} {c : UInt8} {s : List UInt8} (hc : f c = true) (h : ME l s) : ME (some f :: l) (c :: s)
theorem matE_iff : ∀ (l : List El) (s : List UInt8), matE l s = true ↔ ME l s
  | [], s => by
    constructor
    · intro h
      cases s with
      | nil => exact .nil
      | cons c t => cases h
    · intro h; cases h; rfl
  | none :: l, s => by
    rw [matE_none, List.any_eq_true]
    constructor
    · rintro ⟨i, _, h⟩
      have := ME.star (s.take i) ((matE_iff l _).1 h)
      rwa [List.take_append_drop] at this
    · intro h
      cases h with
      | @star _ s2 t h => exact ⟨t.length, by rw [List.mem_range, List.length_append]; omega, by rw [List.drop_left]; exact (matE_iff l _).2 h⟩
  | some f :: l, s => by
    rw [matE_some]
    cases s with
    | nil => exact ⟨fun h => (by cases h), fun h => (by cases h)⟩
    | cons c t =>
      show (f c && matE l t) = true ↔ _
      rw [Bool.and_eq_true, matE_iff l t]
      exact ⟨fun h => .one h.1 h.2, fun h => by cases h with | one h1 h2 => exact ⟨h1, h2⟩⟩
theorem ME.append {l m : List El} {s t : List UInt8} (h : ME l s) (k : ME m t) : ME (l ++ m) (s ++ t) := by
  induction h with
  | nil => exact k
  | star u h ih => rw [List.append_assoc]; exact .star u ih
  | one hc h ih => exact .one hc ih
theorem ME.reverse {l : List El} {s : List UInt8} (h : ME l s) : ME l.reverse s.reverse := by
  induction h with
  | nil => exact .nil
  | star u h ih =>
    rw [List.reverse_append, List.reverse_cons]
    have := ME.star u.reverse ME.nil
    rw [List.append_nil] at this
    exact ih.append this
  | one hc h ih =>
    rw [List.reverse_cons, List.reverse_cons]
    exact ih.append (.one hc .nil)
theorem matE_reverse (l : List El) (s : List UInt8) : matE l.reverse s.reverse = matE l s := by
  rw [Bool.eq_iff_iff, matE_iff, matE_iff]
  exact ⟨fun h => by have := h.reverse; rwa [List.reverse_reverse, List.reverse_reverse] at this, ME.reverse⟩

/-- The elements from i on match the text from a to n. -/
def M (l : List El) (s : List UInt8) (i a n : Nat) : Prop := a ≤ n ∧ n ≤ s.length ∧ matE (l.drop i) ((s.take n).drop a) = true
section
variable {l : List El} {s : List UInt8} {i a m k n : Nat}
theorem M_end : M l s l.length a n ↔ a = n ∧ n ≤ s.length := by
  unfold M
  rw [List.drop_length]
  show a ≤ n ∧ n ≤ s.length ∧ ((s.take n).drop a).isEmpty = true ↔ _
  rw [List.isEmpty_iff]
  constructor
  · rintro ⟨h1, h2, h3⟩
    have := congrArg List.length h3
    rw [List.length_drop, List.length_take, List.length_nil] at this
    exact ⟨by omega, h2⟩
  · rintro ⟨rfl, h⟩
    exact ⟨Nat.le_refl _, h, List.eq_nil_of_length_eq_zero (by rw [List.length_drop, List.length_take]; omega)⟩
theorem drop_el {x : El} (hi : l[i]? = some x) : l.drop i = x :: l.drop (i + 1) := by
  obtain ⟨h, rfl⟩ := List.getElem?_eq_some_iff.1 hi
  exact List.drop_eq_getElem_cons h
theorem M_star (hi : l[i]? = some none) : M l s i a n ↔ ∃ j, a ≤ j ∧ M l s (i + 1) j n := by
  unfold M
  rw [drop_el hi, matE_none, List.any_eq_true]
  constructor
  · rintro ⟨h1, h2, t, ht, h3⟩
    rw [List.mem_range, List.length_drop, List.length_take] at ht
    rw [List.drop_drop] at h3
    exact ⟨a + t, by omega, by omega, h2, h3⟩
  · rintro ⟨j, h0, h1, h2, h3⟩
    refine ⟨by omega, h2, j - a, ?_, ?_⟩
    · rw [List.mem_range, List.length_drop, List.length_take]; omega
    · rw [List.drop_drop, show a + (j - a) = j by omega]; exact h3
theorem M_one {f : UInt8 → Bool} (hi : l[i]? = some (some f)) : M l s i a n ↔ ∃ c, s[a]? = some c ∧ f c = true ∧ M l s (i + 1) (a + 1) n := by
  unfold M
  rw [drop_el hi, matE_some]
  rcases Nat.lt_or_ge a n with h | h
  · rcases Nat.lt_or_ge s.length n with h2 | h2
    · exact ⟨fun h3 => absurd h3.2.1 (by omega), fun ⟨c, _, _, _, h3, _⟩ => absurd h3 (by omega)⟩
    · have e1 : (s.take n).drop a = s[a]'(by omega) :: (s.take n).drop (a + 1) := by
        rw [List.drop_eq_getElem_cons (by rw [List.length_take]; omega), List.getElem_take]
      have e2 : s[a]? = some (s[a]'(by omega)) := List.getElem?_eq_getElem (by omega)
      rw [e1]
      show _ ∧ _ ∧ (f _ && _) = true ↔ _
      rw [Bool.and_eq_true, e2]
      exact ⟨fun ⟨_, h3, h4, h5⟩ => ⟨_, rfl, h4, h, h3, h5⟩, fun ⟨c, h3, h4, _, h6, h7⟩ => by cases h3; exact ⟨by omega, h6, h4, h7⟩⟩
  · have e1 : (s.take n).drop a = [] := List.eq_nil_of_length_eq_zero (by rw [List.length_drop, List.length_take]; omega)
    rw [e1]
    exact ⟨fun h3 => (by cases h3.2.2), fun ⟨c, _, _, h3, _⟩ => absurd h3 (by omega)⟩
/-- What is no star, from m to i. -/
def Ones (l : List El) (m i : Nat) : Prop := ∀ j, m ≤ j → j < i → ∃ f, l[j]? = some (some f)
theorem M_ones (d : Nat) (h : Ones l m (m + d)) (hM : M l s m a n) : M l s (m + d) (a + d) n := by
  induction d with
  | zero => exact hM
  | succ d ih =>
    have := ih (fun j h1 h2 => h j h1 (by omega))
    obtain ⟨f, hf⟩ := h (m + d) (by omega) (by omega)
    obtain ⟨c, _, _, h3⟩ := (M_one hf).1 this
    exact h3
/-- A state: the element i comes next, at a; the mark: m, k (m is 0 where there is none). -/
structure Ok (l : List El) (s : List UInt8) (i a m k : Nat) : Prop where
  hi : i ≤ l.length
  ha : a ≤ s.length
  mark : m ≠ 0 → m ≤ i ∧ a = k + (i - m) ∧ Ones l m i
  free : m = 0 → k = 0
/-- What is behind the mark. -/
def Rest (l : List El) (s : List UInt8) (m k n : Nat) : Prop := m ≠ 0 ∧ ∃ j, k < j ∧ M l s m j n
def Left (l : List El) (s : List UInt8) (i a m k n : Nat) : Prop := M l s i a n ∨ Rest l s m k n
theorem Ok.rest (h : Ok l s i a m k) (hR : Rest l s m k n) : ∃ j, a < j ∧ M l s i j n := by
  obtain ⟨h0, j, hj, hM⟩ := hR
  obtain ⟨h1, h2, h3⟩ := h.mark h0
  have := M_ones (i - m) (by rw [show m + (i - m) = i by omega]; exact h3) hM
  rw [show m + (i - m) = i by omega] at this
  exact ⟨_, by omega, this⟩
theorem start_ok (l : List El) (s : List UInt8) : Ok l s 0 0 0 0 := ⟨Nat.zero_le _, Nat.zero_le _, fun h => absurd rfl h, fun _ => rfl⟩
theorem start_left : Left l s 0 0 0 0 n ↔ M l s 0 0 n := ⟨fun h => h.elim id (fun h => absurd rfl h.1), .inl⟩
theorem star_ok (h : Ok l s i a m k) (hi : l[i]? = some none) : Ok l s (i + 1) a (i + 1) a := by
  have := (List.getElem?_eq_some_iff.1 hi).1
  exact ⟨this, h.ha, fun _ => ⟨Nat.le_refl _, by omega, fun j h1 h2 => by omega⟩, fun h => by omega⟩
theorem star_left (h : Ok l s i a m k) (hi : l[i]? = some none) : Left l s (i + 1) a (i + 1) a n ↔ Left l s i a m k n := by
  constructor
  · rintro (h1 | ⟨_, j, hj, h1⟩)
    · exact .inl ((M_star hi).2 ⟨a, Nat.le_refl _, h1⟩)
    · exact .inl ((M_star hi).2 ⟨j, by omega, h1⟩)
  · have key : M l s i a n → Left l s (i + 1) a (i + 1) a n := fun h1 => by
      obtain ⟨j, hj, h2⟩ := (M_star hi).1 h1
      rcases Nat.eq_or_lt_of_le hj with rfl | hlt
      · exact .inl h2
      · exact .inr ⟨by omega, j, hlt, h2⟩
    rintro (h1 | h1)
    · exact key h1
    · obtain ⟨j, hj, h2⟩ := h.rest h1
      obtain ⟨j2, hj2, h3⟩ := (M_star hi).1 h2
      exact key ((M_star hi).2 ⟨j2, by omega, h3⟩)
theorem one_ok {f : UInt8 → Bool} {c : UInt8} (h : Ok l s i a m k) (hi : l[i]? = some (some f)) (hc : s[a]? = some c) : Ok l s (i + 1) (a + 1) m k := by
  have h1 := (List.getElem?_eq_some_iff.1 hi).1
  have h2 := (List.getElem?_eq_some_iff.1 hc).1
  refine ⟨h1, h2, fun h0 => ?_, h.free⟩
  obtain ⟨h3, h4, h5⟩ := h.mark h0
  refine ⟨by omega, by omega, fun j h6 h7 => ?_⟩
  rcases Nat.eq_or_lt_of_le (Nat.le_of_lt_succ h7) with rfl | h8
  · exact ⟨f, hi⟩
  · exact h5 j h6 h8
theorem one_left {f : UInt8 → Bool} {c : UInt8} (hi : l[i]? = some (some f)) (hc : s[a]? = some c) (hf : f c = true) : Left l s (i + 1) (a + 1) m k n ↔ Left l s i a m k n := by
  unfold Left
  rw [M_one hi (a := a)]
  constructor
  · rintro (h | h)
    · exact .inl ⟨c, hc, hf, h⟩
    · exact .inr h
  · rintro (⟨_, _, _, h⟩ | h)
    · exact .inl h
    · exact .inr h
/-- It does not go on. -/
def Stuck (l : List El) (s : List UInt8) (i a : Nat) : Prop := i = l.length ∨ ∃ f, l[i]? = some (some f) ∧ ∀ c, s[a]? = some c → f c = false
theorem stuck_left (h : Ok l s i a m k) (hs : Stuck l s i a) : Left l s i a m k n ↔ (i = l.length ∧ n = a) ∨ Rest l s m k n := by
  unfold Left
  rcases hs with rfl | ⟨f, hf, hc⟩
  · rw [M_end]
    constructor
    · rintro (⟨h1, h2⟩ | h1)
      · exact .inl ⟨rfl, h1.symm⟩
      · exact .inr h1
    · rintro (⟨_, h1⟩ | h1)
      · exact .inl ⟨h1.symm, h1 ▸ h.ha⟩
      · exact .inr h1
  · have hlt := (List.getElem?_eq_some_iff.1 hf).1
    constructor
    · rintro (h1 | h1)
      · obtain ⟨c, h2, h3, _⟩ := (M_one hf).1 h1
        rw [hc c h2] at h3; cases h3
      · exact .inr h1
    · rintro (⟨h1, _⟩ | h1)
      · omega
      · exact .inr h1
theorem rest_more (h : Ok l s i a m k) (hi : i = l.length) (hR : Rest l s m k n) : a < n := by
  obtain ⟨j, hj, hM⟩ := h.rest hR
  rw [hi, M_end] at hM
  omega
theorem rest_none (h : Ok l s i a m k) (he : m = 0 ∨ a = s.length) : ¬ Rest l s m k n := by
  intro hR
  rcases he with h0 | h0
  · exact hR.1 h0
  · obtain ⟨j, hj, h1, h2, _⟩ := h.rest hR
    omega
theorem back_ok (h : Ok l s i a m k) (h0 : m ≠ 0) (ha : a ≠ s.length) : Ok l s m (k + 1) m (k + 1) := by
  obtain ⟨h1, h2, h3⟩ := h.mark h0
  have := h.hi
  have := h.ha
  exact ⟨by omega, by omega, fun _ => ⟨Nat.le_refl _, by omega, fun j h1 h2 => by omega⟩, fun h => absurd h h0⟩
theorem back_left (h0 : m ≠ 0) : Left l s m (k + 1) m (k + 1) n ↔ Rest l s m k n := by
  constructor
  · rintro (h | ⟨_, j, hj, h⟩)
    · exact ⟨h0, k + 1, by omega, h⟩
    · exact ⟨h0, j, by omega, h⟩
  · rintro ⟨_, j, hj, h⟩
    rcases Nat.eq_or_lt_of_le (show k + 1 ≤ j from hj) with rfl | hlt
    · exact .inl h
    · exact .inr ⟨h0, j, hlt, h⟩
end
/-- What has come so far, and what is left. -/
structure Came (l : List El) (s : List UInt8) (ys : List Nat) (L : Nat → Prop) : Prop where
  up : ys.Pairwise (· < ·)
  all : ∀ n, M l s 0 0 n ↔ n ∈ ys ∨ L n
  more : ∀ y ∈ ys, ∀ n, L n → y < n
theorem Came.iff {l : List El} {s : List UInt8} {ys : List Nat} {L L2 : Nat → Prop} (h : Came l s ys L) (k : ∀ n, L2 n ↔ L n) : Came l s ys L2 :=
  ⟨h.up, fun n => by rw [h.all, k], fun y hy n hn => h.more y hy n ((k n).1 hn)⟩
theorem Came.start (l : List El) (s : List UInt8) : Came l s [] (Left l s 0 0 0 0) := ⟨.nil, fun n => by rw [start_left]; simp, fun _ h => by cases h⟩
/-- One comes. -/
theorem Came.next {l : List El} {s : List UInt8} {ys : List Nat} {i a m k : Nat} (h : Came l s ys (Left l s i a m k)) (ho : Ok l s i a m k) (hi : i = l.length) : Came l s (ys ++ [a]) (Rest l s m k) := by
  have hl := fun n => stuck_left (n := n) ho (.inl hi)
  refine ⟨?_, fun n => ?_, fun y hy n hn => ?_⟩
  · rw [List.pairwise_append]
    refine ⟨h.up, List.pairwise_singleton _ _, fun y hy z hz => ?_⟩
    rw [List.mem_singleton] at hz
    subst hz
    exact h.more y hy _ ((hl _).2 (.inl ⟨hi, rfl⟩))
  · rw [h.all, hl, List.mem_append, List.mem_singleton]
    constructor
    · rintro (h1 | ⟨_, h1⟩ | h1)
      · exact .inl (.inl h1)
      · exact .inl (.inr h1)
      · exact .inr h1
    · rintro ((h1 | h1) | h1)
      · exact .inl h1
      · exact .inr (.inl ⟨hi, h1⟩)
      · exact .inr (.inr h1)
  · rw [List.mem_append, List.mem_singleton] at hy
    rcases hy with hy | rfl
    · exact h.more y hy n ((hl n).2 (.inr hn))
    · exact rest_more ho hi hn
/-- None comes. -/
theorem Came.none {l : List El} {s : List UInt8} {ys : List Nat} {i a m k : Nat} (h : Came l s ys (Left l s i a m k)) (ho : Ok l s i a m k) (hs : Stuck l s i a) (hi : i ≠ l.length) : Came l s ys (Rest l s m k) :=
  h.iff fun n => by rw [stuck_left ho hs]; exact ⟨.inr, fun h1 => h1.elim (fun k => absurd k.1 hi) id⟩
/-- All have come. -/
def Whole (l : List El) (s : List UInt8) (ys : List Nat) : Prop := ys.Pairwise (· < ·) ∧ ∀ n, n ∈ ys ↔ n ≤ s.length ∧ matE l (s.take n) = true
/-- Some have come, the least ones. -/
def Part (l : List El) (s : List UInt8) (ys : List Nat) : Prop := ys.Pairwise (· < ·) ∧ (∀ n ∈ ys, n ≤ s.length ∧ matE l (s.take n) = true) ∧ ∀ n, n ≤ s.length → matE l (s.take n) = true → n ∈ ys ∨ ∀ y ∈ ys, y < n
theorem M_all (l : List El) (s : List UInt8) (n : Nat) : M l s 0 0 n ↔ n ≤ s.length ∧ matE l (s.take n) = true := by
  unfold M
  rw [List.drop_zero, List.drop_zero]
  exact ⟨fun h => h.2, fun h => ⟨Nat.zero_le _, h⟩⟩
theorem Came.part {l : List El} {s : List UInt8} {ys : List Nat} {L : Nat → Prop} (h : Came l s ys L) : Part l s ys :=
  ⟨h.up, fun n hn => (M_all l s n).1 ((h.all n).2 (.inl hn)), fun n h1 h2 => ((h.all n).1 ((M_all l s n).2 ⟨h1, h2⟩)).elim .inl fun k => .inr fun y hy => h.more y hy n k⟩
theorem Came.whole {l : List El} {s : List UInt8} {ys : List Nat} {L : Nat → Prop} (h : Came l s ys L) (h0 : ∀ n, ¬ L n) : Whole l s ys :=
  ⟨h.up, fun n => by rw [← M_all, h.all]; exact ⟨.inl, fun k => k.elim id fun k => absurd k (h0 n)⟩⟩
theorem up_len {s : Nat} : ∀ {ys : List Nat} (b : Nat), ys.Pairwise (· < ·) → (∀ n ∈ ys, b ≤ n ∧ n < s) → ys.length + b ≤ max s b
  | [], b, _, _ => by simp; omega
  | y :: ys, b, h, k => by
    rw [List.pairwise_cons] at h
    have h1 := k y (List.mem_cons_self ..)
    have := up_len (y + 1) h.2 (fun n hn => ⟨h.1 n hn, (k n (List.mem_cons_of_mem _ hn)).2⟩)
    rw [List.length_cons]
    omega
theorem Came.few {l : List El} {s : List UInt8} {ys : List Nat} {L : Nat → Prop} (h : Came l s ys L) : ys.length ≤ s.length + 1 := by
  have := up_len (s := s.length + 1) 0 h.up (fun n hn => ⟨Nat.zero_le _, Nat.lt_succ_of_le (h.part.2.1 n hn).1⟩)
  omega

/-- Match. -/
theorem mat_whole {p : List UInt8} {l : List El} {s : List UInt8} {ys : List Nat} (hm : ∀ t, mat p t = matE l t) (h : Whole l s ys) : mat p s = decide (s.length ∈ ys) := by
  rw [hm, Bool.eq_iff_iff, decide_eq_true_iff, h.2, List.take_length]
  simp
theorem mat_part {p : List UInt8} {l : List El} {s : List UInt8} {ys : List Nat} (hm : ∀ t, mat p t = matE l t) (h : Part l s ys) (hn : s.length ∈ ys) : mat p s = true := by
  have := (h.2.1 _ hn).2
  rw [List.take_length] at this
  rw [hm]; exact this
/-- Remove: what it looks at, by the elements in their order, or turned. -/
theorem part_el {p : List UInt8} {l : List El} {s : List UInt8} {e : Bool} {l2 : List El} {s2 : List UInt8} (hm : ∀ t, mat p t = matE l t) (hl : l2 = if e then l.reverse else l) (hs : s2 = if e then s.reverse else s) {n : Nat} (hn : n ≤ s.length) : mat p (partAt s e n) = matE l2 (s2.take n) := by
  rw [hm]
  cases e with
  | false =>
    simp only [Bool.false_eq_true, if_false] at hl hs
    subst hl hs
    rfl
  | true =>
    simp only [if_true] at hl hs
    subst hl hs
    unfold partAt
    rw [if_pos rfl, ← matE_reverse, List.reverse_drop]
    congr 2
    rw [show s.length - (s.length - n) = n by omega]
theorem find_first {q : Nat → Bool} : ∀ (l : List Nat) (k : Nat), l.Pairwise (· < ·) → k ∈ l → q k = true → (∀ j ∈ l, q j = true → k ≤ j) → l.find? q = some k
  | [], _, _, h, _, _ => by cases h
  | x :: l, k, hp, hk, hq, hmin => by
    rw [List.pairwise_cons] at hp
    rcases List.mem_cons.1 hk with rfl | hk
    · rw [List.find?_cons_of_pos hq]
    · have hx : q x = false := by
        rw [Bool.eq_false_iff]
        intro h
        have := hmin x (List.mem_cons_self ..) h
        have := hp.1 k hk
        omega
      rw [List.find?_cons_of_neg (by rw [hx]; decide)]
      exact find_first l k hp.2 hk hq (fun j hj => hmin j (List.mem_cons_of_mem _ hj))
theorem range_up (n : Nat) : (List.range n).Pairwise (· < ·) := List.pairwise_lt_range
section
variable {p : List UInt8} {l l2 : List El} {s s2 : List UInt8} {e : Bool}
theorem wrem_none (hm : ∀ t, mat p t = matE l t) (hl : l2 = if e then l.reverse else l) (hs : s2 = if e then s.reverse else s) (most : Bool) (h : Whole l2 s2 []) : rem s p e most = cutAt s e 0 := by
  have hlen : s2.length = s.length := by rw [hs]; split <;> simp
  have : (List.range (s.length + 1)).find? (fun k => mat p (partAt s e (howFar s most k))) = none := by
    rw [List.find?_eq_none]
    intro k hk hc
    rw [List.mem_range] at hk
    have hh : howFar s most k ≤ s.length := by unfold howFar; split <;> omega
    rw [part_el hm hl hs hh] at hc
    exact absurd ((h.2 _).2 ⟨by omega, hc⟩) (by simp)
  unfold rem
  rw [this]
  show s = cutAt s e 0
  unfold cutAt
  split <;> simp
theorem rem_least (hm : ∀ t, mat p t = matE l t) (hl : l2 = if e then l.reverse else l) (hs : s2 = if e then s.reverse else s) {n : Nat} (h : Part l2 s2 [n]) : rem s p e false = cutAt s e n := by
  have hlen : s2.length = s.length := by rw [hs]; split <;> simp
  obtain ⟨h1, h2⟩ := h.2.1 n (List.mem_singleton.2 rfl)
  have : (List.range (s.length + 1)).find? (fun k => mat p (partAt s e (howFar s false k))) = some n := by
    refine find_first _ _ (range_up _) (by rw [List.mem_range]; omega) ?_ fun j hj hq => ?_
    · show mat p (partAt s e n) = true
      rw [part_el hm hl hs (by omega)]; exact h2
    · rw [List.mem_range] at hj
      have hq : mat p (partAt s e j) = true := hq
      rw [part_el hm hl hs (by omega)] at hq
      rcases h.2.2 j (by omega) hq with k | k
      · rw [List.mem_singleton] at k; omega
      · exact Nat.le_of_lt (k n (List.mem_singleton.2 rfl))
  unfold rem
  rw [this]
  rfl
theorem rem_most (hm : ∀ t, mat p t = matE l t) (hl : l2 = if e then l.reverse else l) (hs : s2 = if e then s.reverse else s) {ys : List Nat} {n : Nat} (h : Whole l2 s2 (ys ++ [n])) : rem s p e true = cutAt s e n := by
  have hlen : s2.length = s.length := by rw [hs]; split <;> simp
  obtain ⟨h1, h2⟩ := (h.2 n).1 (by simp)
  have : (List.range (s.length + 1)).find? (fun k => mat p (partAt s e (howFar s true k))) = some (s.length - n) := by
    refine find_first _ _ (range_up _) (by rw [List.mem_range]; omega) ?_ fun j hj hq => ?_
    · show mat p (partAt s e (s.length - (s.length - n))) = true
      rw [show s.length - (s.length - n) = n by omega, part_el hm hl hs (by omega)]; exact h2
    · rw [List.mem_range] at hj
      have hq : mat p (partAt s e (s.length - j)) = true := hq
      rw [part_el hm hl hs (by omega)] at hq
      have := (h.2 (s.length - j)).2 ⟨by omega, hq⟩
      rw [List.mem_append, List.mem_singleton] at this
      have hu := (List.pairwise_append.1 h.1).2.2
      rcases this with k | k
      · have := hu _ k n (List.mem_singleton.2 rfl); omega
      · omega
  unfold rem
  rw [this]
  show cutAt s e (s.length - (s.length - n)) = _
  rw [show s.length - (s.length - n) = n by omega]
end
end Pm
end Go.Proofs.Ytkifnabkoidhcaa
