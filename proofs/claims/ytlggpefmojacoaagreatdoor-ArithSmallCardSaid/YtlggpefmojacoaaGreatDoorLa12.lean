/-
  Parts of the proof, merged.
-/
namespace Go.Proofs.YtlggpefmojacoaaGreatDoor
section
namespace Lx
def quoted : List UInt8 → Option Nat
 | [] => none
 | c :: r => if c = 39 then some 1 else (quoted r).map (· + 1)
def til (u : List UInt8 → Option Nat) (e : UInt8) : Nat → List UInt8 → Option Nat
 | 0, _ => none
 | _ + 1, [] => none
 | n + 1, c :: r => if c = e then some 1 else
   match u (c :: r) with
   | none => none
   | some k => (til u e n ((c :: r).drop k)).map (k + ·)
def unit : Nat → UInt8 → List UInt8 → Option Nat
 | 0, _, _ => none
 | _ + 1, _, [] => none
 | d + 1, e, c :: r =>
   if c = 92 then (if r = [] then none else some 2)
   else if c = 39 ∧ e ≠ 34 then (quoted r).map (1 + ·)
   else if c = 34 then (til (unit d 34) 34 (r.length + 1) r).map (1 + ·)
   else if c = 36 ∧ r.head? = some 40 then (til (unit d 41) 41 r.length r.tail).map (2 + ·)
   else if c = 36 ∧ r.head? = some 123 then (til (unit d 125) 125 r.length r.tail).map (2 + ·)
   else if c = 40 ∧ e = 41 then (til (unit d 41) 41 (r.length + 1) r).map (1 + ·)
   else some 1
def nest (d : Nat) (e : UInt8) (l : List UInt8) : Option Nat := til (unit d e) e (l.length + 1) l
def stops (c : UInt8) : Bool := c == 32 || c == 9 || c == 10 || c == 59 || c == 124 || c == 38 || c == 40 || c == 41 || c == 60 || c == 62
def wordF : Nat → List UInt8 → Option Nat
 | 0, _ => some 0
 | _ + 1, [] => some 0
 | n + 1, c :: r => if stops c then some 0 else
   match unit 30 0 (c :: r) with
   | none => none
   | some k => (wordF n ((c :: r).drop k)).map (k + ·)
def word (l : List UInt8) : Option Nat := wordF l.length l
def opers : List (List UInt8) := [[38, 38], [124, 124], [59, 59], [62, 62], [59], [124], [38], [40], [41], [60], [62]]
def lead (l : List UInt8) : Option (List UInt8) := opers.find? fun o => o.isPrefixOf l
structure Tok where
 kind : Int
 text : List UInt8
 deriving DecidableEq
def toksF : Nat → List UInt8 → Option (List Tok)
 | _, [] => some []
 | 0, _ :: _ => none
 | n + 1, c :: r =>
   if c = 32 ∨ c = 9 then toksF n r
   else if c = 35 then toksF n ((c :: r).dropWhile (· ≠ 10))
   else if c = 10 then (toksF n r).map (⟨2, [10]⟩ :: ·)
   else match lead (c :: r) with
     | some o => (toksF n ((c :: r).drop o.length)).map (⟨1, o⟩ :: ·)
     | none =>
       match word (c :: r) with
       | none => none
       | some k => (toksF n ((c :: r).drop k)).map (⟨0, (c :: r).take k⟩ :: ·)
def toks (l : List UInt8) : Option (List Tok) := toksF l.length l
theorem quoted_le {l : List UInt8} {k : Nat} (h : quoted l = some k) : 1 ≤ k ∧ k ≤ l.length := by
 induction l generalizing k with
 | nil => cases h
 | cons c r ih =>
   unfold quoted at h
   split at h
   · obtain rfl := Option.some.inj h; simp
   · obtain ⟨j, hj, rfl⟩ := Option.map_eq_some_iff.1 h
     have := ih hj
     simp; omega
theorem til_le {u : List UInt8 → Option Nat} {e : UInt8} (hu : ∀ l k, u l = some k → 1 ≤ k ∧ k ≤ l.length) {n : Nat} {l : List UInt8} {k : Nat} (h : til u e n l = some k) : 1 ≤ k ∧ k ≤ l.length := by
 induction n generalizing l k with
 | zero => cases h
 | succ n ih =>
   cases l with
   | nil => cases h
   | cons c r =>
     unfold til at h
     split at h
     · obtain rfl := Option.some.inj h; simp
     · split at h
       · cases h
       · rename_i j hj
         obtain ⟨i, hi, rfl⟩ := Option.map_eq_some_iff.1 h
         have h1 := hu _ _ hj
         have h2 := ih hi
         rw [List.length_drop] at h2
         omega
theorem til_more {u : List UInt8 → Option Nat} {e : UInt8} (hu : ∀ l k, u l = some k → 1 ≤ k ∧ k ≤ l.length) : ∀ (n m : Nat) (l : List UInt8), l.length < n → l.length < m → til u e n l = til u e m l
 | 0, _, l, h, _ => by omega
 | _, 0, l, _, h => by omega
 | n + 1, m + 1, [], _, _ => rfl
 | n + 1, m + 1, c :: r, h, h2 => by
   rw [til, til]
   split
   · rfl
   · split
     · rfl
     · rename_i j hj
       have := hu _ _ hj
       rw [til_more hu n m _ (by rw [List.length_drop]; omega) (by rw [List.length_drop]; omega)]
theorem unit_le : ∀ (d : Nat) {e : UInt8} {l : List UInt8} {k : Nat}, unit d e l = some k → 1 ≤ k ∧ k ≤ l.length
 | 0, _, _, _, h => by cases h
 | d + 1, e, [], _, h => by cases h
 | d + 1, e, c :: r, k, h => by
   have ht : ∀ (x : UInt8) (n j : Nat) (l : List UInt8), til (unit d x) x n l = some j → 1 ≤ j ∧ j ≤ l.length := fun x n j l => til_le (fun _ _ => unit_le d)
   unfold unit at h
   split at h
   · split at h
     · cases h
     · rename_i h2
       obtain rfl := Option.some.inj h
       have := List.length_pos_iff.2 h2
       simp; omega
   · split at h
     · obtain ⟨j, hj, rfl⟩ := Option.map_eq_some_iff.1 h
       have := quoted_le hj
       simp; omega
     · split at h
       · obtain ⟨j, hj, rfl⟩ := Option.map_eq_some_iff.1 h
         have := ht _ _ _ _ hj
         simp; omega
       · split at h
         · rename_i h2
           obtain ⟨j, hj, rfl⟩ := Option.map_eq_some_iff.1 h
           have := ht _ _ _ _ hj
           have : r ≠ [] := fun e => by rw [e] at h2; simp at h2
           have := List.length_pos_iff.2 this
           rw [List.length_tail] at *
           simp; omega
         · split at h
           · rename_i h2
             obtain ⟨j, hj, rfl⟩ := Option.map_eq_some_iff.1 h
             have := ht _ _ _ _ hj
             have : r ≠ [] := fun e => by rw [e] at h2; simp at h2
             have := List.length_pos_iff.2 this
             rw [List.length_tail] at *
             simp; omega
           · split at h
             · obtain ⟨j, hj, rfl⟩ := Option.map_eq_some_iff.1 h
               have := ht _ _ _ _ hj
               simp; omega
             · obtain rfl := Option.some.inj h; simp
theorem nest_le {d : Nat} {e : UInt8} {l : List UInt8} {k : Nat} (h : nest d e l = some k) : 1 ≤ k ∧ k ≤ l.length := til_le (fun _ _ => unit_le d) h
theorem nest_nil (d : Nat) (e : UInt8) : nest d e [] = none := rfl
theorem nest_end (d : Nat) (e : UInt8) (r : List UInt8) : nest d e (e :: r) = some 1 := by
 unfold nest til
 rw [if_pos rfl]
theorem nest_bad {d : Nat} {e c : UInt8} {r : List UInt8} (hc : c ≠ e) (h : unit d e (c :: r) = none) : nest d e (c :: r) = none := by
 unfold nest til
 rw [if_neg hc, h]
theorem nest_on {d : Nat} {e c : UInt8} {r : List UInt8} {k : Nat} (hc : c ≠ e) (h : unit d e (c :: r) = some k) : nest d e (c :: r) = (nest d e ((c :: r).drop k)).map (k + ·) := by
 have := unit_le d h
 unfold nest
 conv => lhs; unfold til
 rw [if_neg hc, h]
 simp only []
 rw [til_more (fun _ _ => unit_le d) (c :: r).length (((c :: r).drop k).length + 1) _ (by rw [List.length_drop]; omega) (by omega)]
theorem unit_step (d : Nat) (e c : UInt8) (r : List UInt8) : unit (d + 1) e (c :: r) =
   if c = 92 then (if r = [] then none else some 2)
   else if c = 39 ∧ e ≠ 34 then (quoted r).map (1 + ·)
   else if c = 34 then (nest d 34 r).map (1 + ·)
   else if c = 36 ∧ r.head? = some 40 then (nest d 41 r.tail).map (2 + ·)
   else if c = 36 ∧ r.head? = some 123 then (nest d 125 r.tail).map (2 + ·)
   else if c = 40 ∧ e = 41 then (nest d 41 r).map (1 + ·)
   else some 1 := by
 have ht : ∀ (x : UInt8), c = 36 ∧ r.head? = some x → r.length = r.tail.length + 1 := fun x h => by
   cases r with
   | nil => cases h.2
   | cons y r => rfl
 conv => lhs; unfold unit
 unfold nest
 split
 · rfl
 · split
   · rfl
   · split
     · rfl
     · split
       · rename_i h; rw [ht _ h]
       · split
         · rename_i h; rw [ht _ h]
         · rfl
theorem wordF_more : ∀ (n m : Nat) (l : List UInt8), l.length ≤ n → l.length ≤ m → wordF n l = wordF m l
 | 0, 0, _, _, _ => rfl
 | 0, m + 1, [], _, _ => rfl
 | n + 1, 0, [], _, _ => rfl
 | 0, _, c :: r, h, _ => by simp at h
 | _, 0, c :: r, _, h => by simp at h
 | n + 1, m + 1, [], _, _ => rfl
 | n + 1, m + 1, c :: r, h, h2 => by
   rw [wordF, wordF]
   split
   · rfl
   · split
     · rfl
     · rename_i j hj
       have := unit_le _ hj
       rw [List.length_cons] at *
       rw [wordF_more n m _ (by rw [List.length_drop, List.length_cons]; omega) (by rw [List.length_drop, List.length_cons]; omega)]
theorem word_bad {c : UInt8} {r : List UInt8} (h : stops c = false) (hu : unit 30 0 (c :: r) = none) : word (c :: r) = none := by
 unfold word
 rw [List.length_cons, wordF, if_neg (by simp [h]), hu]
theorem word_on {c : UInt8} {r : List UInt8} {k : Nat} (h : stops c = false) (hu : unit 30 0 (c :: r) = some k) : word (c :: r) = (word ((c :: r).drop k)).map (k + ·) := by
 have := unit_le _ hu
 unfold word
 conv => lhs; rw [List.length_cons, wordF, if_neg (by simp [h]), hu]
 simp only []
 rw [wordF_more r.length ((c :: r).drop k).length _ (by rw [List.length_drop, List.length_cons] at *; omega) (by omega)]
theorem word_pos {c : UInt8} {r : List UInt8} {k : Nat} (h : stops c = false) (hw : word (c :: r) = some k) : 1 ≤ k := by
 cases hu : unit 30 0 (c :: r) with
 | none => rw [word_bad h hu] at hw; cases hw
 | some j =>
   rw [word_on h hu] at hw
   obtain ⟨i, _, rfl⟩ := Option.map_eq_some_iff.1 hw
   have := unit_le _ hu
   omega
theorem lead_one (c : UInt8) : lead [c] = if c = 59 ∨ c = 124 ∨ c = 38 ∨ c = 40 ∨ c = 41 ∨ c = 60 ∨ c = 62 then some [c] else none := by
 have : ∀ i : Fin 256, lead [UInt8.ofNat i.val] = if UInt8.ofNat i.val = 59 ∨ UInt8.ofNat i.val = 124 ∨ UInt8.ofNat i.val = 38 ∨ UInt8.ofNat i.val = 40 ∨ UInt8.ofNat i.val = 41 ∨ UInt8.ofNat i.val = 60 ∨ UInt8.ofNat i.val = 62 then some [UInt8.ofNat i.val] else none := by decide +kernel
 have h := this ⟨c.toNat, c.toNat_lt⟩
 simpa using h
def isOp (c : UInt8) : Bool := c == 59 || c == 124 || c == 38 || c == 40 || c == 41 || c == 60 || c == 62
def twin (c : UInt8) : Bool := c == 59 || c == 124 || c == 38 || c == 62
theorem lead_more (c d : UInt8) (r : List UInt8) : lead (c :: d :: r) = if d = c ∧ twin c = true then some [c, d] else lead [c] := by
 unfold lead opers
 simp only [List.find?_cons, List.isPrefixOf, Bool.and_true, List.find?_nil]
 by_cases h1 : c = 38
 · subst h1
   by_cases h2 : d = 38
   · subst h2; rfl
   · have : ((38 : UInt8) == d) = false := by simpa using fun e => h2 e.symm
     simp [this, h2, twin]
 · by_cases h2 : c = 124
   · subst h2
     by_cases h2 : d = 124
     · subst h2; rfl
     · have : ((124 : UInt8) == d) = false := by simpa using fun e => h2 e.symm
       simp [this, h2, twin]
   · by_cases h3 : c = 59
     · subst h3
       by_cases h2 : d = 59
       · subst h2; rfl
       · have : ((59 : UInt8) == d) = false := by simpa using fun e => h2 e.symm
         simp [this, h2, twin]
     · by_cases h4 : c = 62
       · subst h4
         by_cases h2 : d = 62
         · subst h2; rfl
         · have : ((62 : UInt8) == d) = false := by simpa using fun e => h2 e.symm
           simp [this, h2, twin]
       · have g1 : ((38 : UInt8) == c) = false := by simpa using fun e => h1 e.symm
         have g2 : ((124 : UInt8) == c) = false := by simpa using fun e => h2 e.symm
         have g3 : ((59 : UInt8) == c) = false := by simpa using fun e => h3 e.symm
         have g4 : ((62 : UInt8) == c) = false := by simpa using fun e => h4 e.symm
         have g5 : twin c = false := by simp [twin, h1, h2, h3, h4]
         simp [g1, g2, g3, g4, g5]
theorem lead_is {c : UInt8} {r : List UInt8} : lead (c :: r) = if isOp c = true then (if r.head? = some c ∧ twin c = true then some [c, c] else some [c]) else none := by
 cases r with
 | nil =>
   rw [lead_one]
   unfold isOp
   by_cases h : c = 59 ∨ c = 124 ∨ c = 38 ∨ c = 40 ∨ c = 41 ∨ c = 60 ∨ c = 62
   · rw [if_pos h, if_pos (by simp; simpa [or_assoc] using h), if_neg (by simp)]
   · rw [if_neg h, if_neg (by simp; simpa [and_assoc, not_or] using h)]
 | cons d r =>
   rw [lead_more, lead_one]
   by_cases h2 : d = c ∧ twin c = true
   · obtain ⟨rfl, h2⟩ := h2
     have : isOp d = true := by unfold twin at h2; unfold isOp; simp at h2 ⊢; rcases h2 with ((h | h) | h) | h <;> simp [h]
     simp [h2, this]
   · rw [if_neg h2]
     have h3 : ¬ ((d :: r).head? = some c ∧ twin c = true) := by simpa using h2
     rw [if_neg h3]
     unfold isOp
     by_cases h : c = 59 ∨ c = 124 ∨ c = 38 ∨ c = 40 ∨ c = 41 ∨ c = 60 ∨ c = 62
     · rw [if_pos h, if_pos (by simp; simpa [or_assoc] using h)]
     · rw [if_neg h, if_neg (by simp; simpa [and_assoc, not_or] using h)]
theorem stops_is (c : UInt8) : stops c = (c == 32 || c == 9 || c == 10 || isOp c) := by
 unfold stops isOp
 simp [Bool.or_assoc]
theorem lead_none {c : UInt8} {r : List UInt8} (h : lead (c :: r) = none) (h1 : c ≠ 32) (h2 : c ≠ 9) (h3 : c ≠ 10) : stops c = false := by
 rw [lead_is] at h
 rw [stops_is]
 by_cases ho : isOp c = true
 · rw [if_pos ho] at h
   split at h <;> cases h
 · simp [h1, h2, h3, ho]
theorem lead_some {l o : List UInt8} (h : lead l = some o) : 1 ≤ o.length ∧ o.length ≤ l.length ∧ o.length ≤ 2 ∧ o = l.take o.length := by
 cases l with
 | nil => simp [lead, opers] at h
 | cons c r =>
   rw [lead_is] at h
   split at h
   · split at h
     · obtain rfl := Option.some.inj h
       rename_i h2
       cases r with
       | nil => simp at h2
       | cons d r => obtain ⟨h2, _⟩ := h2; simp at h2; subst h2; simp
     · obtain rfl := Option.some.inj h; simp
   · cases h
end Lx
end
section
namespace Lx
def opn (l : List UInt8) : Prop := l.head? = some 40 ∨ l.head? = some 123
theorem quoted_sim : ∀ (a x y : List UInt8), quoted (a ++ x) = some a.length → quoted (a ++ y) = some a.length
 | [], x, y, h => by have := quoted_le h; simp at this
 | c :: a, x, y, h => by
   rw [List.cons_append, quoted] at h ⊢
   split at h
   · rename_i hc
     rw [if_pos hc]; exact h
   · rename_i hc
     rw [if_neg hc]
     obtain ⟨j, hj, he⟩ := Option.map_eq_some_iff.1 h
     obtain rfl : j = a.length := by simpa using he
     rw [quoted_sim a x y hj]; rfl
theorem split_at {a : List UInt8} {k : Nat} (h : k ≤ a.length) : ∃ a1 a2, a = a1 ++ a2 ∧ a1.length = k := ⟨a.take k, a.drop k, (List.take_append_drop k a).symm, by rw [List.length_take]; omega⟩
theorem opn_app {a x y : List UInt8} (h : a = [] → opn y → opn x) : opn (a ++ y) → opn (a ++ x) := by
 cases a with
 | nil => exact h rfl
 | cons c a => exact id
theorem nest_sim {d : Nat} {e : UInt8} (hu : ∀ a x y, unit d e (a ++ x) = some a.length → (opn y → opn x) → unit d e (a ++ y) = some a.length) :
   ∀ (n : Nat) (a x y : List UInt8), a.length ≤ n → nest d e (a ++ x) = some a.length → nest d e (a ++ y) = some a.length
 | n, [], x, y, _, h => by have := nest_le h; simp at this
 | 0, c :: a, x, y, hn, _ => by simp at hn
 | n + 1, c :: a, x, y, hn, h => by
   by_cases hc : c = e
   · subst hc
     rw [List.cons_append, nest_end] at h ⊢
     exact h
   · cases hk : unit d e (c :: a ++ x) with
     | none => rw [List.cons_append] at hk h; rw [nest_bad hc hk] at h; cases h
     | some k =>
       have h0 := h
       rw [List.cons_append] at hk h
       rw [nest_on hc hk] at h
       obtain ⟨j, hj, he⟩ := Option.map_eq_some_iff.1 h
       have h1 := unit_le _ hk
       have h2 := nest_le hj
       obtain ⟨a1, a2, ha, hl⟩ := split_at (a := c :: a) (k := k) (by omega)
       have ha2 : a2 ≠ [] := fun e2 => by have := congrArg List.length ha; rw [e2, List.append_nil] at this; omega
       rw [← List.cons_append, ha, List.append_assoc] at hk hj
       rw [← hl, List.drop_left] at hj
       have e2 : j = a2.length := by have := congrArg List.length ha; rw [List.length_append] at this; omega
       subst e2
       have u1 := hu a1 (a2 ++ x) (a2 ++ y) (by rw [hk, hl]) (opn_app fun e3 => absurd e3 ha2)
       have hj2 := nest_sim hu n a2 x y (by have := congrArg List.length ha; rw [List.length_append, List.length_cons] at this; rw [List.length_cons] at hn; omega) hj
       have u2 : unit d e (c :: (a ++ y)) = some a1.length := by rw [← List.cons_append, ha, List.append_assoc]; exact u1
       rw [List.cons_append, nest_on hc u2, ← List.cons_append, ha, List.append_assoc, List.drop_left, hj2]
       simp
theorem unit_sim : ∀ (d : Nat) (e : UInt8) (a x y : List UInt8), unit d e (a ++ x) = some a.length → (opn y → opn x) → unit d e (a ++ y) = some a.length
 | 0, _, _, _, _, h, _ => by cases h
 | d + 1, e, [], x, y, h, _ => by have := unit_le _ h; simp at this
 | d + 1, e, c :: a, x, y, h, ho => by
   have hN := fun (z : UInt8) => nest_sim (unit_sim d z)
   rw [List.cons_append, unit_step] at h ⊢
   split at h
   · rename_i hc
     rw [if_pos hc]
     split at h
     · cases h
     · have h3 := Option.some.inj h
       cases a with
       | nil => simp at h3
       | cons z a => rw [if_neg (by simp)]; exact h
   · rename_i hc
     rw [if_neg hc]
     split at h
     · rename_i hc
       rw [if_pos hc]
       obtain ⟨j, hj, he⟩ := Option.map_eq_some_iff.1 h
       obtain rfl : j = a.length := by simp at he; omega
       rw [quoted_sim a x y hj]; exact congrArg some he
     · rename_i hc
       rw [if_neg hc]
       split at h
       · rename_i hc
         rw [if_pos hc]
         obtain ⟨j, hj, he⟩ := Option.map_eq_some_iff.1 h
         obtain rfl : j = a.length := by simp at he; omega
         rw [hN 34 _ a x y (Nat.le_refl _) hj]; exact congrArg some he
       · rename_i hc
         rw [if_neg hc]
         split at h
         · rename_i hc
           obtain ⟨j, hj, he⟩ := Option.map_eq_some_iff.1 h
           have h1 := nest_le hj
           cases a with
           | nil => simp at he; omega
           | cons z b =>
             obtain rfl : j = b.length := by simp at he; omega
             rw [if_pos (by simpa using hc)]
             rw [List.cons_append, List.tail_cons] at hj ⊢
             rw [hN 41 _ b x y (Nat.le_refl _) hj]; exact congrArg some he
         · rename_i hc4
           split at h
           · rename_i hc
             obtain ⟨j, hj, he⟩ := Option.map_eq_some_iff.1 h
             have h1 := nest_le hj
             cases a with
             | nil => simp at he; omega
             | cons z b =>
               obtain rfl : j = b.length := by simp at he; omega
               rw [if_neg (by simpa using hc4), if_pos (by simpa using hc)]
               rw [List.cons_append, List.tail_cons] at hj ⊢
               rw [hN 125 _ b x y (Nat.le_refl _) hj]; exact congrArg some he
           · rename_i hc5
             have key : ¬ (c = 36 ∧ (a ++ y).head? = some 40) ∧ ¬ (c = 36 ∧ (a ++ y).head? = some 123) := by
               cases a with
               | nil =>
                 refine ⟨fun hk => ?_, fun hk => ?_⟩
                 · rcases ho (.inl hk.2) with h2 | h2
                   · exact hc4 ⟨hk.1, h2⟩
                   · exact hc5 ⟨hk.1, h2⟩
                 · rcases ho (.inr hk.2) with h2 | h2
                   · exact hc4 ⟨hk.1, h2⟩
                   · exact hc5 ⟨hk.1, h2⟩
               | cons z b => exact ⟨hc4, hc5⟩
             rw [if_neg key.1, if_neg key.2]
             split at h
             · rename_i hc
               rw [if_pos hc]
               obtain ⟨j, hj, he⟩ := Option.map_eq_some_iff.1 h
               obtain rfl : j = a.length := by simp at he; omega
               rw [hN 41 _ a x y (Nat.le_refl _) hj]; exact congrArg some he
             · rename_i hc
               rw [if_neg hc]; exact h
theorem dropW_le (l : List UInt8) : (l.dropWhile (· ≠ 10)).length ≤ l.length := by
 exact (List.dropWhile_sublist _).length_le
theorem toksF_more : ∀ (n m : Nat) (l : List UInt8), l.length ≤ n → l.length ≤ m → toksF n l = toksF m l
 | 0, 0, _, _, _ => rfl
 | 0, m + 1, [], _, _ => rfl
 | n + 1, 0, [], _, _ => rfl
 | 0, _, c :: r, h, _ => by simp at h
 | _, 0, c :: r, _, h => by simp at h
 | n + 1, m + 1, [], _, _ => rfl
 | n + 1, m + 1, c :: r, h, h2 => by
   have hd : ∀ k, 1 ≤ k → ((c :: r).drop k).length ≤ r.length := fun k hk => by rw [List.length_drop, List.length_cons]; omega
   rw [List.length_cons] at h h2
   rw [toksF, toksF]
   split
   · exact toksF_more n m r (by omega) (by omega)
   · split
     · rename_i h35
       have : ((c :: r).dropWhile (· ≠ 10)).length ≤ r.length := by
         subst h35
         have := dropW_le r
         simpa [List.dropWhile] using this
       exact toksF_more n m _ (by omega) (by omega)
     · split
       · rw [toksF_more n m r (by omega) (by omega)]
       · split
         · rename_i o ho
           have := hd _ (lead_some ho).1
           rw [toksF_more n m _ (by omega) (by omega)]
         · rename_i h1 h2 h3 _ hl
           split
           · rfl
           · rename_i k hk
             have := hd _ (word_pos (lead_none hl (fun e => h1 (.inl e)) (fun e => h1 (.inr e)) h3) hk)
             rw [toksF_more n m _ (by omega) (by omega)]
theorem toksF_is {n : Nat} {l : List UInt8} (h : l.length ≤ n) : toksF n l = toks l := toksF_more n _ l h (Nat.le_refl _)
theorem toks_nil : toks [] = some [] := rfl
theorem toks_blank {c : UInt8} {r : List UInt8} (h : c = 32 ∨ c = 9) : toks (c :: r) = toks r := by
 unfold toks
 rw [List.length_cons, toksF, if_pos h]
theorem toks_comment {r : List UInt8} : toks (35 :: r) = toks (r.dropWhile (· ≠ 10)) := by
 have := dropW_le r
 rw [← toksF_is (n := r.length) this]
 unfold toks
 rw [List.length_cons, toksF, if_neg (by simp), if_pos rfl]
 simp [List.dropWhile]
theorem toks_line {r : List UInt8} : toks (10 :: r) = (toks r).map (⟨2, [10]⟩ :: ·) := by
 unfold toks
 rw [List.length_cons, toksF, if_neg (by simp), if_neg (by simp), if_pos rfl]
def plain (c : UInt8) : Prop := c ≠ 32 ∧ c ≠ 9 ∧ c ≠ 35 ∧ c ≠ 10
theorem toks_op {c : UInt8} {r o : List UInt8} (hc : plain c) (h : lead (c :: r) = some o) : toks (c :: r) = (toks ((c :: r).drop o.length)).map (⟨1, o⟩ :: ·) := by
 have h1 := lead_some h
 rw [← toksF_is (n := r.length) (l := (c :: r).drop o.length) (by rw [List.length_drop, List.length_cons]; omega)]
 conv => lhs; unfold toks
 rw [List.length_cons, toksF, if_neg (by simp [hc.1, hc.2.1]), if_neg hc.2.2.1, if_neg hc.2.2.2, h]
theorem toks_word {c : UInt8} {r : List UInt8} {k : Nat} (hc : plain c) (h : lead (c :: r) = none) (hw : word (c :: r) = some k) : toks (c :: r) = (toks ((c :: r).drop k)).map (⟨0, (c :: r).take k⟩ :: ·) := by
 have h1 := word_pos (lead_none h hc.1 hc.2.1 hc.2.2.2) hw
 rw [← toksF_is (n := r.length) (l := (c :: r).drop k) (by rw [List.length_drop, List.length_cons]; omega)]
 conv => lhs; unfold toks
 rw [List.length_cons, toksF, if_neg (by simp [hc.1, hc.2.1]), if_neg hc.2.2.1, if_neg hc.2.2.2, h]
 simp only []
 rw [hw]
inductive Goes : List UInt8 → List Tok → Prop
 | nil : Goes [] []
 | blank {c : UInt8} {r ts} (h : c = 32 ∨ c = 9) (hr : Goes r ts) : Goes (c :: r) ts
 | comment {r ts} (hr : Goes (r.dropWhile (· ≠ 10)) ts) : Goes (35 :: r) ts
 | line {r ts} (hr : Goes r ts) : Goes (10 :: r) (⟨2, [10]⟩ :: ts)
 | op {c : UInt8} {r o x ts} (hc : plain c) (h : lead (c :: r) = some o) (he : c :: r = o ++ x) (hr : Goes x ts) : Goes (c :: r) (⟨1, o⟩ :: ts)
 | word {c : UInt8} {r a x ts} (hc : plain c) (h : lead (c :: r) = none) (he : c :: r = a ++ x) (hw : word (a ++ x) = some a.length) (hr : Goes x ts) : Goes (c :: r) (⟨0, a⟩ :: ts)
theorem Goes.toks {l : List UInt8} {ts : List Tok} (h : Goes l ts) : toks l = some ts := by
 induction h with
 | nil => rfl
 | blank h _ ih => rw [toks_blank h, ih]
 | comment _ ih => rw [toks_comment, ih]
 | line _ ih => rw [toks_line, ih]; rfl
 | op hc h he _ ih => rw [toks_op hc h, he, List.drop_left, ih]; rfl
 | word hc h he hw _ ih => rw [toks_word hc h (by rw [he]; exact hw), he, List.drop_left, List.take_left, ih]; rfl
structure Sep (y t : List UInt8) : Prop where
 head : y.head? = some 10 ∨ y.head? = some 32
 all : ∀ u, Goes t u → Goes y (⟨2, [10]⟩ :: u)
 drop : y.dropWhile (· ≠ 10) = 10 :: t
theorem Sep.line (t : List UInt8) : Sep (10 :: t) t := ⟨.inl rfl, fun _ h => .line h, rfl⟩
theorem Sep.comment (t : List UInt8) : Sep ([32, 35, 32, 39, 32, 40, 32] ++ 10 :: t) t := ⟨.inr rfl, fun _ h => .blank (.inl rfl) (.comment (.line h)), rfl⟩
theorem Sep.stop {y t : List UInt8} (h : Sep y t) : (∀ c, y.head? = some c → stops c = true) ∧ ¬ opn y := by
 refine ⟨fun c hc => ?_, fun ho => ?_⟩
 · rcases h.head with h2 | h2 <;> (rw [h2] at hc; obtain rfl := Option.some.inj hc; rfl)
 · rcases h.head with h2 | h2 <;> rcases ho with ho | ho <;> (rw [h2] at ho; cases ho)
structure Left (s : List UInt8) (acc : List Tok) (r : List UInt8) : Prop where
 eq : toks s = (toks r).map (acc ++ ·)
 len : acc.length + r.length ≤ s.length
theorem Left.start (s : List UInt8) : Left s [] s := ⟨by cases toks s <;> rfl, by simp⟩
theorem Left.blank {s : List UInt8} {acc : List Tok} {c : UInt8} {r : List UInt8} (h : Left s acc (c :: r)) (hc : c = 32 ∨ c = 9) : Left s acc r :=
 ⟨by rw [h.eq, toks_blank hc], by have := h.len; rw [List.length_cons] at this; omega⟩
theorem Left.comment {s : List UInt8} {acc : List Tok} {r : List UInt8} (h : Left s acc (35 :: r)) : Left s acc (r.dropWhile (· ≠ 10)) :=
 ⟨by rw [h.eq, toks_comment], by have := h.len; have := dropW_le r; rw [List.length_cons] at *; omega⟩
theorem Left.line {s : List UInt8} {acc : List Tok} {r : List UInt8} (h : Left s acc (10 :: r)) : Left s (acc ++ [⟨2, [10]⟩]) r :=
 ⟨by rw [h.eq, toks_line]; cases toks r <;> simp, by have := h.len; simp at *; omega⟩
theorem Left.op {s : List UInt8} {acc : List Tok} {c : UInt8} {r o : List UInt8} (h : Left s acc (c :: r)) (hc : plain c) (hl : lead (c :: r) = some o) : Left s (acc ++ [⟨1, o⟩]) ((c :: r).drop o.length) := by
 refine ⟨by rw [h.eq, toks_op hc hl]; cases toks ((c :: r).drop o.length) <;> simp, ?_⟩
 have := h.len; have := (lead_some hl).1; rw [List.length_append, List.length_drop]; simp at *; omega
theorem Left.word {s : List UInt8} {acc : List Tok} {c : UInt8} {r : List UInt8} {k : Nat} (h : Left s acc (c :: r)) (hc : plain c) (hl : lead (c :: r) = none) (hw : word (c :: r) = some k) : Left s (acc ++ [⟨0, (c :: r).take k⟩]) ((c :: r).drop k) := by
 refine ⟨by rw [h.eq, toks_word hc hl hw]; cases toks ((c :: r).drop k) <;> simp, ?_⟩
 have := h.len; have := word_pos (lead_none hl hc.1 hc.2.1 hc.2.2.2) hw; rw [List.length_append, List.length_drop]; simp at *; omega
theorem Left.done {s : List UInt8} {acc : List Tok} (h : Left s acc []) : toks s = some acc := by rw [h.eq, toks_nil]; simp
end Lx
end
end Go.Proofs.YtlggpefmojacoaaGreatDoor
