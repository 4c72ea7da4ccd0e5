/-
  How much there is in what is read of a text: at most twice the text.
-/
import Derived.Test.YtphgnjjblpmijaaDoorWr4M
namespace Go.Proofs.YtphgnjjblpmijaaDoor
open Go.RowKit Tx
namespace Wx
open Lx

/-- What a reader of words gives weighs at most twice what it read. -/
def Wb (w : List UInt8 → Except Int (List Pt)) : Prop := ∀ s l, w s = .ok l → wt l ≤ 2 * s.length
theorem wt_quotes (l : List Pt) : wt (quotes l) ≤ wt l := by
  have := wt_quotesOn l []
  rw [show wt [] = 0 by rw [wt]] at this
  show wt (quotesOn [] l) ≤ _
  omega
theorem opL_le {s o : List UInt8} (h : opL s = some o) : 1 ≤ o.length ∧ o.length ≤ 2 ∧ o.length ≤ s.length ∧ o ∈ wops ∧ o.isPrefixOf s = true := by
  have hm := List.mem_of_find?_eq_some h
  have hp := List.find?_some h
  have hl := (List.isPrefixOf_iff_prefix.1 hp).length_le
  refine ⟨?_, ?_, hl, hm, hp⟩ <;> (unfold wops at hm; simp only [List.mem_cons, List.not_mem_nil, or_false] at hm; rcases hm with rfl | rfl | rfl | rfl | rfl | rfl | rfl | rfl | rfl | rfl | rfl | rfl <;> decide)
theorem wtP_mk (k : Int) (q : Bool) (t n o : List UInt8) (w : List Pt) : wtP (.mk k q t n o w) = 1 + t.length + n.length + o.length + wt w := by rw [wtP]
theorem wt_nil : wt [] = 0 := by rw [wt]
theorem braces_wt {w : List UInt8 → Except Int (List Pt)} (hw : Wb w) {q : Bool} {s : List UInt8} {p : Pt} (h : braces w q s = .ok p) : wtP p ≤ 2 * s.length + 4 := by
  have hn := paramL_le s
  unfold braces at h
  split at h
  · cases h
    rw [wtP_mk, wt_nil, List.length_drop]
    show 1 + 0 + _ + 3 + 0 ≤ _
    omega
  split at h
  · cases h
  split at h
  · cases h
    rw [wtP_mk, wt_nil, List.length_take]
    show 1 + 0 + _ + 0 + 0 ≤ _
    omega
  split at h
  · cases h
  · rename_i o ho
    have h1 := opL_le ho
    split at h
    · cases h
    split at h
    · cases h
    · rename_i l hl
      split at h
      · cases h
      · cases h
        have h2 := hw _ _ hl
        have h3 := wt_quotes l
        rw [List.length_drop] at h1 h2
        have h4 : wt (if q = true then quotes l else l) ≤ wt l := by split <;> omega
        rw [wtP_mk, List.length_take]
        show 1 + 0 + _ + _ + _ ≤ _
        omega
theorem dollar_wt {w : List UInt8 → Except Int (List Pt)} (hw : Wb w) {q : Bool} {s : List UInt8} {p : Pt} {k : Nat} (hs : s ≠ []) (h : dollar w q s = .ok (p, k)) : wtP p ≤ 2 * k := by
  have hk := dollar_le hs h
  by_cases hu : (s.drop 1).head? = some 40 ∨ (s.drop 1).head? = some 123
  · rw [dollar_unit hu] at h
    cases hj : unit 30 0 s with
    | none => rw [hj] at h; cases h
    | some j =>
      have hjl := unit_le _ hj
      rw [hj] at h
      simp only [] at h
      split at h
      · rename_i h123
        cases hb : braces w q ((s.take (j - 1)).drop 2) with
        | error e => rw [hb] at h; cases h
        | ok x =>
          rw [hb] at h
          cases h
          have h1 := braces_wt hw hb
          have hl : ((s.take (k - 1)).drop 2).length = k - 1 - 2 := by rw [List.length_drop, List.length_take]; omega
          rw [hl] at h1
          by_cases hk3 : 3 ≤ k
          · omega
          · have e2 : (s.take (k - 1)).drop 2 = [] := List.eq_nil_of_length_eq_zero (by omega)
            rw [e2] at hb
            have : braces w q [] = .error 90 := by
              unfold braces
              rfl
            rw [this] at hb
            cases hb
      · split at h
        · cases h
          rw [wtP_mk, wt_nil, List.length_drop, List.length_take]
          show 1 + _ + 0 + 0 + 0 ≤ _
          omega
        · cases h
          rw [wtP_mk, wt_nil, List.length_drop, List.length_take]
          show 1 + _ + 0 + 0 + 0 ≤ _
          omega
  · rw [dollar_name hu] at h
    split at h
    · cases h
      show wtP (.mk 0 q [36] [] [] []) ≤ 2 * 1
      rw [wtP_mk, wt_nil]
      decide
    · cases h
      rw [wtP_mk, wt_nil, List.length_take]
      show 1 + 0 + _ + 0 + 0 ≤ _
      omega
theorem step2_wt {w : List UInt8 → Except Int (List Pt)} (hw : Wb w) {s : List UInt8} {p : Pt} {k : Nat} (h : step2 w s = .ok (p, k)) : wtP p ≤ 2 * k := by
  cases s with
  | nil => cases h
  | cons c r =>
    rw [step2] at h
    split at h
    · exact dollar_wt hw (by simp) h
    · split at h
      · cases h
        show wtP (.mk 0 true (r.take 1) [] [] []) ≤ _
        rw [wtP_mk, wt_nil, List.length_take]
        show 1 + _ + 0 + 0 + 0 ≤ _
        omega
      · cases h
        show wtP (.mk 0 true [c] [] [] []) ≤ _
        rw [wtP_mk, wt_nil]
        show 1 + 1 + 0 + 0 + 0 ≤ 2 * 1
        omega
theorem doubleF_wt {w : List UInt8 → Except Int (List Pt)} (hw : Wb w) : ∀ (n : Nat) (s : List UInt8) (acc l : List Pt), doubleF w n s acc = .ok l → wt l ≤ wt acc + 2 * s.length
  | _, [], acc, l, h => by rw [doubleF] at h; cases h; omega
  | 0, c :: r, acc, l, h => by rw [doubleF] at h; cases h
  | n + 1, c :: r, acc, l, h => by
    rw [doubleF] at h
    cases hs : step2 w (c :: r) with
    | error e => rw [hs] at h; cases h
    | ok x =>
      obtain ⟨p, k⟩ := x
      rw [hs] at h
      have h1 := step2_le hs
      have h2 := step2_wt hw hs
      have h3 := doubleF_wt hw n _ _ _ h
      have h4 := wt_add acc p
      rw [List.length_drop] at h3
      omega
theorem double_wt {w : List UInt8 → Except Int (List Pt)} (hw : Wb w) {s : List UInt8} {l : List Pt} (h : double w s = .ok l) : wt l ≤ 2 * s.length + 1 := by
  unfold double at h
  split at h
  · cases h
    rw [wt_one]
    show wtP (.mk 0 true [] [] [] []) ≤ _
    rw [wtP_mk, wt_nil]
    show 1 + 0 + 0 + 0 + 0 ≤ _
    omega
  · have := doubleF_wt hw _ _ _ _ h
    rw [wt_nil] at this
    omega
theorem step1_wt {w : List UInt8 → Except Int (List Pt)} (hw : Wb w) {s : List UInt8} {l : List Pt} {k : Nat} (h : step1 w s = .ok (l, k)) : wt l ≤ 2 * k := by
  cases s with
  | nil => cases h
  | cons c r =>
    have hk := step1_le h
    rw [step1] at h
    split at h
    · cases hj : unit 30 0 (c :: r) with
      | none => rw [hj] at h; cases h
      | some j =>
        rw [hj] at h
        simp only [] at h
        split at h
        · cases h
          rw [wt_one]
          show wtP (.mk 0 true (r.take 1) [] [] []) ≤ _
          rw [wtP_mk, wt_nil, List.length_take]
          show 1 + _ + 0 + 0 + 0 ≤ _
          omega
        · split at h
          · cases h
            rw [wt_one]
            show wtP (.mk 0 true (r.take (k - 2)) [] [] []) ≤ _
            rw [wtP_mk, wt_nil, List.length_take]
            show 1 + _ + 0 + 0 + 0 ≤ _
            omega
          · cases hd : double w (r.take (j - 2)) with
            | error e => rw [hd] at h; cases h
            | ok x =>
              rw [hd] at h
              cases h
              have := double_wt hw hd
              rw [List.length_take] at this
              omega
    · split at h
      · cases hd : dollar w false (c :: r) with
        | error e => rw [hd] at h; cases h
        | ok x =>
          rw [hd] at h
          cases h
          rw [wt_one]
          exact dollar_wt (p := x.1) (k := x.2) hw (by simp) hd
      · cases h
        rw [wt_one]
        show wtP (.mk 0 false [c] [] [] []) ≤ _
        rw [wtP_mk, wt_nil]
        show 1 + 1 + 0 + 0 + 0 ≤ 2 * 1
        omega
theorem wt_foldl (l : List Pt) : ∀ acc, wt (l.foldl add acc) ≤ wt acc + wt l := by
  induction l with
  | nil => intro acc; rw [List.foldl_nil, wt_nil]; omega
  | cons p l ih =>
    intro acc
    rw [List.foldl_cons, wt]
    have h1 := ih (add acc p)
    have h2 := wt_add acc p
    omega
theorem partsF_wt {w : List UInt8 → Except Int (List Pt)} (hw : Wb w) : ∀ (n : Nat) (s : List UInt8) (acc l : List Pt), partsF w n s acc = .ok l → wt l ≤ wt acc + 2 * s.length
  | _, [], acc, l, h => by rw [partsF] at h; cases h; omega
  | 0, c :: r, acc, l, h => by rw [partsF] at h; cases h
  | n + 1, c :: r, acc, l, h => by
    rw [partsF] at h
    cases hs : step1 w (c :: r) with
    | error e => rw [hs] at h; cases h
    | ok x =>
      obtain ⟨p, k⟩ := x
      rw [hs] at h
      have h1 := step1_le hs
      have h2 := step1_wt hw hs
      have h3 := partsF_wt hw n _ _ _ h
      have h4 := wt_foldl p acc
      rw [List.length_drop] at h3
      omega
theorem parts_wt : ∀ d, Wb (parts d)
  | 0, s, l, h => by rw [parts] at h; cases h
  | d + 1, s, l, h => by
    rw [parts] at h
    have := partsF_wt (parts_wt d) _ _ _ _ h
    rw [wt_nil] at this
    omega
end Wx
end Go.Proofs.YtphgnjjblpmijaaDoor
