/-
  A list that is turned around by swaps. Nothing of the program stands here.
-/
namespace Go.Proofs.Ytkifnabkoidhcaa
namespace Rv
variable {α : Type}
/-- So many elements at each end have changed places. -/
structure R (c : Nat) (l m : List α) : Prop where
  len : m.length = l.length
  at' : ∀ i, i < l.length → m[i]? = if i < c ∨ l.length ≤ i + c then l[l.length - 1 - i]? else l[i]?
theorem R.start (l : List α) : R 0 l l := ⟨rfl, fun i hi => by rw [if_neg (by omega)]⟩
theorem R.step {c : Nat} {l m : List α} (h : R c l m) (hc : c + c + 1 < l.length) (x y : α) (hx : m[l.length - 1 - c]? = some x) (hy : m[c]? = some y) : R (c + 1) l ((m.set c x).set (l.length - 1 - c) y) := by
  refine ⟨by rw [List.length_set, List.length_set, h.len], fun i hi => ?_⟩
  have hlen := h.len
  rw [List.getElem?_set, List.getElem?_set]
  have h1 := h.at' c (by omega)
  rw [if_neg (by omega), hy] at h1
  have h2 := h.at' (l.length - 1 - c) (by omega)
  rw [if_neg (by omega), hx] at h2
  by_cases e1 : l.length - 1 - c = i
  · rw [if_pos e1, if_pos (by rw [List.length_set]; omega), if_pos (by omega), h1]
    congr 1
    omega
  · rw [if_neg e1]
    by_cases e2 : c = i
    · rw [if_pos e2, if_pos (by omega), if_pos (by omega), h2]
      congr 1
      omega
    · rw [if_neg e2, h.at' i hi]
      by_cases e3 : i < c ∨ l.length ≤ i + c
      · rw [if_pos e3, if_pos (by omega)]
      · rw [if_neg e3, if_neg (by omega)]
theorem R.done {c : Nat} {l m : List α} (h : R c l m) (hc : l.length ≤ c + c + 1) : m = l.reverse := by
  apply List.ext_getElem?
  intro i
  rcases Nat.lt_or_ge i l.length with hi | hi
  · rw [h.at' i hi, List.getElem?_reverse hi]
    by_cases e3 : i < c ∨ l.length ≤ i + c
    · rw [if_pos e3]
    · rw [if_neg e3]
      congr 1
      omega
  · rw [List.getElem?_eq_none (by rw [h.len]; exact hi), List.getElem?_eq_none (by rw [List.length_reverse]; exact hi)]
end Rv
end Go.Proofs.Ytkifnabkoidhcaa
