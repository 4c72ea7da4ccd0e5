/-
  Patterns, as plain Lean functions on lists of bytes. Nothing of the program stands here.
-/
namespace Go.Proofs.Ytkifnabkoidhcaa
namespace Pm

/-- A byte that may have a backslash before it, and what is behind it. -/
def byteOf (x : UInt8) (r : List UInt8) : UInt8 × List UInt8 :=
  if x = 92 ∧ r ≠ [] then (r.headD 0, r.tail) else (x, r)
/-- A byte, or a range, of a bracket expression, and what is behind it. -/
def rangeOf (x : UInt8) (r : List UInt8) : (UInt8 × UInt8) × List UInt8 :=
  if 1 < (byteOf x r).2.length ∧ (byteOf x r).2.headD 0 = 45 ∧ (byteOf x r).2.tail.headD 0 ≠ 93 then
    (((byteOf x r).1, (byteOf ((byteOf x r).2.tail.headD 0) (byteOf x r).2.tail.tail).1), (byteOf ((byteOf x r).2.tail.headD 0) (byteOf x r).2.tail.tail).2)
  else (((byteOf x r).1, (byteOf x r).1), (byteOf x r).2)
/-- What stands in a bracket expression up to its end, and what is behind that. -/
def itemsF : Nat → Bool → List UInt8 → Option (List (UInt8 × UInt8) × List UInt8)
  | 0, _, _ => none
  | _ + 1, _, [] => none
  | n + 1, first, x :: r =>
    if first = false ∧ x = 93 then some ([], r)
    else (itemsF n false (rangeOf x r).2).map fun z => ((rangeOf x r).1 :: z.1, z.2)
def items (first : Bool) (l : List UInt8) : Option (List (UInt8 × UInt8) × List UInt8) := itemsF l.length first l
def inR (c : UInt8) (z : UInt8 × UInt8) : Bool := decide (z.1 ≤ c) && decide (c ≤ z.2)
/-- The bracket expression behind a bracket: is it turned, what is in it, what is behind it. -/
def bracket (r : List UInt8) : Option (Bool × List (UInt8 × UInt8) × List UInt8) :=
  if r.head? = some 33 then (items true r.tail).map fun z => (true, z) else (items true r).map fun z => (false, z)
/-- An element that is no star: what it matches, and what is behind it. -/
def elem (x : UInt8) (r : List UInt8) : (UInt8 → Bool) × List UInt8 :=
  if x = 63 then (fun _ => true, r)
  else if x = 92 ∧ r ≠ [] then (fun c => r.headD 0 == c, r.tail)
  else if x = 91 then
    match bracket r with
    | some z => (fun c => z.2.1.any (inR c) != z.1, z.2.2)
    | none => (fun c => x == c, r)
  else (fun c => x == c, r)
/-- A byte, and the rest. -/
def first (b : UInt8 → Bool) (g : List UInt8 → Bool) : List UInt8 → Bool
  | [] => false
  | c :: t => b c && g t
def matF : Nat → List UInt8 → List UInt8 → Bool
  | 0, p, s => p.isEmpty && s.isEmpty
  | n + 1, p, s =>
    match p with
    | [] => s.isEmpty
    | x :: r => if x = 42 then (List.range (s.length + 1)).any fun i => matF n r (s.drop i) else first (elem x r).1 (matF n (elem x r).2) s
/-- Does a pattern match a text? -/
def mat (p s : List UInt8) : Bool := matF p.length p s
def esc (s : List UInt8) : List UInt8 := s.flatMap fun c => [92, c]
def plain : List UInt8 → List UInt8
  | [] => []
  | [x] => [x]
  | x :: y :: r => if x = 92 then y :: plain r else x :: plain (y :: r)
def sign (x : UInt8) : Bool := x == 42 || x == 63 || x == 91
def special : List UInt8 → Bool
  | [] => false
  | [x] => sign x
  | x :: y :: r => if x = 92 then special r else sign x || special (y :: r)
/-- So many bytes at the beginning, or at the end; and the others. -/
def partAt (s : List UInt8) (e : Bool) (n : Nat) : List UInt8 := if e then s.drop (s.length - n) else s.take n
def cutAt (s : List UInt8) (e : Bool) (n : Nat) : List UInt8 := if e then s.take (s.length - n) else s.drop n
def howFar (s : List UInt8) (most : Bool) (k : Nat) : Nat := if most then s.length - k else k
def rem (s p : List UInt8) (e most : Bool) : List UInt8 :=
  match (List.range (s.length + 1)).find? fun k => mat p (partAt s e (howFar s most k)) with
  | some k => cutAt s e (howFar s most k)
  | none => s

/-! ### How far -/
theorem byteOf_suf (x : UInt8) (r : List UInt8) : (byteOf x r).2 <:+ r := by
  unfold byteOf
  split
  · exact List.tail_suffix r
  · exact List.suffix_refl r
theorem rangeOf_suf (x : UInt8) (r : List UInt8) : (rangeOf x r).2 <:+ r := by
  unfold rangeOf
  split
  · exact (byteOf_suf _ _).trans ((List.tail_suffix _).trans ((List.tail_suffix _).trans (byteOf_suf x r)))
  · exact byteOf_suf x r
theorem itemsF_suf : ∀ (n : Nat) (first : Bool) (l : List UInt8) (z : List (UInt8 × UInt8) × List UInt8), itemsF n first l = some z → z.2 <:+ l
  | 0, _, _, _, h => by cases h
  | _ + 1, _, [], _, h => by cases h
  | n + 1, first, x :: r, z, h => by
    rw [itemsF] at h
    split at h
    · cases h; exact List.suffix_cons x r
    · obtain ⟨y, hy, rfl⟩ := Option.map_eq_some_iff.1 h
      exact (itemsF_suf n false _ y hy).trans ((rangeOf_suf x r).trans (List.suffix_cons x r))
theorem itemsF_more : ∀ (n m : Nat) (first : Bool) (l : List UInt8), l.length ≤ n → l.length ≤ m → itemsF n first l = itemsF m first l
  | 0, 0, _, _, _, _ => rfl
  | 0, m + 1, _, [], _, _ => rfl
  | n + 1, 0, _, [], _, _ => rfl
  | 0, _, _, _ :: _, h, _ => by simp at h
  | _, 0, _, _ :: _, _, h => by simp at h
  | n + 1, m + 1, _, [], _, _ => rfl
  | n + 1, m + 1, first, x :: r, h, h2 => by
    have := (rangeOf_suf x r).length_le
    rw [List.length_cons] at h h2
    rw [itemsF, itemsF, itemsF_more n m false _ (by omega) (by omega)]
theorem items_nil (first : Bool) : items first [] = none := rfl
theorem items_end (r : List UInt8) : items false (93 :: r) = some ([], r) := by
  unfold items
  rw [List.length_cons, itemsF, if_pos ⟨rfl, rfl⟩]
theorem items_on {first : Bool} {x : UInt8} {r : List UInt8} (h : ¬ (first = false ∧ x = 93)) : items first (x :: r) = (items false (rangeOf x r).2).map fun z => ((rangeOf x r).1 :: z.1, z.2) := by
  have := (rangeOf_suf x r).length_le
  unfold items
  rw [List.length_cons, itemsF, if_neg h, itemsF_more r.length (rangeOf x r).2.length false _ this (Nat.le_refl _)]
theorem bracket_suf {r : List UInt8} {z : Bool × List (UInt8 × UInt8) × List UInt8} (h : bracket r = some z) : z.2.2 <:+ r := by
  unfold bracket at h
  split at h
  · obtain ⟨y, hy, rfl⟩ := Option.map_eq_some_iff.1 h
    exact (itemsF_suf _ _ _ y hy).trans (List.tail_suffix r)
  · obtain ⟨y, hy, rfl⟩ := Option.map_eq_some_iff.1 h
    exact itemsF_suf _ _ _ y hy
theorem elem_suf (x : UInt8) (r : List UInt8) : (elem x r).2 <:+ r := by
  unfold elem
  split
  · exact List.suffix_refl r
  · split
    · exact List.tail_suffix r
    · split
      · split
        · rename_i z hz; exact bracket_suf hz
        · exact List.suffix_refl r
      · exact List.suffix_refl r
theorem suf_drop {l m : List UInt8} (h : m <:+ l) : m = l.drop (l.length - m.length) := by
  obtain ⟨t, rfl⟩ := h
  rw [List.length_append, Nat.add_sub_cancel, List.drop_left]
theorem matF_nil (n : Nat) (s : List UInt8) : matF n [] s = s.isEmpty := by cases n <;> rfl
theorem matF_cons (n : Nat) (x : UInt8) (r s : List UInt8) : matF (n + 1) (x :: r) s = if x = 42 then (List.range (s.length + 1)).any fun i => matF n r (s.drop i) else first (elem x r).1 (matF n (elem x r).2) s := rfl
theorem matF_more : ∀ (n m : Nat) (p s : List UInt8), p.length ≤ n → p.length ≤ m → matF n p s = matF m p s
  | n, m, [], s, _, _ => by rw [matF_nil, matF_nil]
  | 0, _, _ :: _, _, h, _ => by simp at h
  | _, 0, _ :: _, _, _, h => by simp at h
  | n + 1, m + 1, x :: r, s, h, h2 => by
    have := (elem_suf x r).length_le
    rw [List.length_cons] at h h2
    rw [matF_cons, matF_cons]
    have e1 : (fun i => matF n r (s.drop i)) = fun i => matF m r (s.drop i) := funext fun i => matF_more n m r _ (by omega) (by omega)
    have e2 : matF n (elem x r).2 = matF m (elem x r).2 := funext fun t => matF_more n m (elem x r).2 t (by omega) (by omega)
    rw [e1, e2]
theorem mat_nil (s : List UInt8) : mat [] s = s.isEmpty := rfl
theorem mat_star (r s : List UInt8) : mat (42 :: r) s = (List.range (s.length + 1)).any fun i => mat r (s.drop i) := by
  unfold mat
  rw [List.length_cons, matF_cons, if_pos rfl]
theorem mat_none {x : UInt8} (h : x ≠ 42) (r : List UInt8) : mat (x :: r) [] = false := by
  unfold mat
  rw [List.length_cons, matF_cons, if_neg h]
  rfl
theorem mat_one {x : UInt8} (h : x ≠ 42) (r : List UInt8) (c : UInt8) (t : List UInt8) : mat (x :: r) (c :: t) = ((elem x r).1 c && mat (elem x r).2 t) := by
  have := (elem_suf x r).length_le
  unfold mat
  rw [List.length_cons, matF_cons, if_neg h]
  show ((elem x r).1 c && matF r.length (elem x r).2 t) = _
  rw [matF_more r.length (elem x r).2.length _ t this (Nat.le_refl _)]
/-! ### What is escaped -/
theorem esc_cons (c : UInt8) (s : List UInt8) : esc (c :: s) = 92 :: c :: esc s := rfl
theorem esc_length (s : List UInt8) : (esc s).length = 2 * s.length := by
  induction s with
  | nil => rfl
  | cons c s ih => rw [esc_cons, List.length_cons, List.length_cons, ih, List.length_cons]; omega
theorem elem_esc (c : UInt8) (r : List UInt8) : elem 92 (c :: r) = (fun d => c == d, r) := by
  unfold elem
  rw [if_neg (by decide), if_pos ⟨rfl, by simp⟩]
  rfl
theorem mat_esc (s : List UInt8) : ∀ t, mat (esc s) t = decide (t = s) := by
  induction s with
  | nil => intro t; cases t <;> rfl
  | cons c s ih =>
    intro t
    rw [esc_cons]
    cases t with
    | nil => rw [mat_none (by decide)]; simp
    | cons d t =>
      rw [mat_one (by decide), elem_esc]
      simp only []
      rw [ih t]
      by_cases h : c = d
      · subst h; simp
      · have : (c == d) = false := by simpa using h
        rw [this, Bool.false_and, decide_eq_false]
        intro e
        injection e with e _
        exact h e.symm
theorem plain_esc : ∀ (s : List UInt8), plain (esc s) = s
  | [] => rfl
  | c :: s => by rw [esc_cons, plain, if_pos rfl, plain_esc s]
theorem special_esc : ∀ (s : List UInt8), special (esc s) = false
  | [] => rfl
  | c :: s => by rw [esc_cons, special, if_pos rfl, special_esc s]
/-! ### Stars -/
theorem mat_ahead {p s : List UInt8} (t : List UInt8) (h : mat p s = true) : mat (42 :: p) (t ++ s) = true := by
  rw [mat_star, List.any_eq_true]
  exact ⟨t.length, by rw [List.mem_range, List.length_append]; omega, by rw [List.drop_left]; exact h⟩
theorem mat_all (s : List UInt8) : mat [42] s = true := by
  have := mat_ahead (p := []) (s := []) s rfl
  rwa [List.append_nil] at this
theorem elem_plain {x : UInt8} {r : List UInt8} (h : sign x = false) (h2 : x ≠ 92 ∨ r = []) : elem x r = (fun c => x == c, r) := by
  simp only [sign, Bool.or_eq_false_iff, beq_eq_false_iff_ne] at h
  unfold elem
  rw [if_neg h.1.2, if_neg (fun e => h2.elim (fun k => k e.1) (fun k => e.2 k)), if_neg h.2]
theorem sign_star {x : UInt8} (h : sign x = false) : x ≠ 42 := by
  simp only [sign, Bool.or_eq_false_iff, beq_eq_false_iff_ne] at h
  exact h.1.1
theorem one_byte {x : UInt8} {r q : List UInt8} (he : elem x r = (fun c => x == c, r)) (hx : x ≠ 42) (h : ∀ s, mat r s = decide (s = q)) : ∀ s, mat (x :: r) s = decide (s = x :: q) := by
  intro s
  cases s with
  | nil => rw [mat_none hx]; simp
  | cons c t =>
    rw [mat_one hx, he]
    simp only []
    rw [h t]
    by_cases hc : x = c
    · subst hc; simp
    · have : (x == c) = false := by simpa using hc
      rw [this, Bool.false_and, decide_eq_false]
      intro e
      injection e with e _
      exact hc e.symm
theorem mat_plain : ∀ (p : List UInt8), special p = false → ∀ s, mat p s = decide (s = plain p)
  | [], _, s => by cases s <;> rfl
  | [x], h, s => one_byte (elem_plain h (.inr rfl)) (sign_star h) (q := []) (fun s => by cases s <;> rfl) s
  | x :: y :: r, h, s => by
    rw [special] at h
    by_cases hx : x = 92
    · subst hx
      rw [if_pos rfl] at h
      have ih := mat_plain r h
      rw [plain, if_pos rfl]
      cases s with
      | nil => rw [mat_none (by decide)]; simp
      | cons c t =>
        rw [mat_one (by decide), elem_esc]
        simp only []
        rw [ih t]
        by_cases hc : y = c
        · subst hc; simp
        · have : (y == c) = false := by simpa using hc
          rw [this, Bool.false_and, decide_eq_false]
          intro e
          injection e with e _
          exact hc e.symm
    · rw [if_neg hx, Bool.or_eq_false_iff] at h
      rw [plain, if_neg hx]
      exact one_byte (elem_plain h.1 (.inl hx)) (sign_star h.1) (fun s => mat_plain (y :: r) h.2 s) s
/-! ### What is removed -/
theorem rem_cases (s p : List UInt8) (e most : Bool) : (∃ n, n ≤ s.length ∧ rem s p e most = cutAt s e n ∧ mat p (partAt s e n) = true) ∨ rem s p e most = s := by
  unfold rem
  split
  · rename_i k hk
    have h1 := List.find?_some hk
    have h2 := List.mem_of_find?_eq_some hk
    rw [List.mem_range] at h2
    refine .inl ⟨howFar s most k, ?_, rfl, h1⟩
    unfold howFar
    split <;> omega
  · exact .inr rfl
theorem rem_length (s p : List UInt8) (e most : Bool) : (rem s p e most).length ≤ s.length := by
  rcases rem_cases s p e most with ⟨n, hn, h, _⟩ | h
  · rw [h]
    unfold cutAt
    split
    · rw [List.length_take]; omega
    · rw [List.length_drop]; omega
  · rw [h]; exact Nat.le_refl _
/-- The law on what is cut. -/
theorem rem_law (s p : List UInt8) (e most : Bool) :
    (e = true → s.take (rem s p e most).length = rem s p e most ∧ (s.length - (rem s p e most).length = 0 ∨ mat p (s.drop (rem s p e most).length) = true)) ∧
    (e = false → s.drop (s.length - (rem s p e most).length) = rem s p e most ∧ (s.length - (rem s p e most).length = 0 ∨ mat p (s.take (s.length - (rem s p e most).length)) = true)) := by
  rcases rem_cases s p e most with ⟨n, hn, h, hm⟩ | h
  · rw [h]
    refine ⟨fun he => ?_, fun he => ?_⟩
    · subst he
      simp only [cutAt, partAt, if_true] at hm ⊢
      have hl : (s.take (s.length - n)).length = s.length - n := by rw [List.length_take]; omega
      rw [hl]
      exact ⟨rfl, .inr hm⟩
    · subst he
      simp only [cutAt, partAt, Bool.false_eq_true, if_false] at hm ⊢
      have hl : s.length - (s.drop n).length = n := by rw [List.length_drop]; omega
      rw [hl]
      exact ⟨rfl, .inr hm⟩
  · rw [h]
    exact ⟨fun _ => ⟨List.take_length, .inl (by omega)⟩, fun _ => ⟨by rw [Nat.sub_self, List.drop_zero], .inl (by omega)⟩⟩
end Pm
end Go.Proofs.Ytkifnabkoidhcaa
