/-
  Lists of texts, read; the document's Same of two lists of texts; segments in memory.
-/
import Derived.Test.YtjnhhkiabdbenaaDoorFm
import Derived.Test.YtjnhhkiabdbenaaDoorTxt
import Derived.Test.YtjnhhkiabdbenaaDoorPr1
import Derived.Test.YtjnhhkiabdbenaaDoorFb
import Derived.StillTailTactics
namespace Go.Proofs.YtjnhhkiabdbenaaDoor
open Go.RowKit Tx
namespace Fd

/-- The slice at A holds the texts l. -/
def Rd (w : World) (A : Option Addr) (l : List ByteArray) : Prop := ∀ j (hj : j < l.length), ∃ g off, A = some ⟨g, off, none⟩ ∧ g < w.heap.size ∧ w.cell? ⟨g, off + j, none⟩ = some (.string l[j])
theorem Rd.below {w w' : World} {A : Option Addr} {l : List ByteArray} (h : Rd w A l) (hb : Below w.heap.size w w') : Rd w' A l := by
  intro j hj
  obtain ⟨g, off, e, hg, hc⟩ := h j hj
  exact ⟨g, off, e, Nat.lt_of_lt_of_le hg hb.size, (hb.cell hg).trans hc⟩
theorem Rd.of_at {w : World} {g off : Nat} {l : List ByteArray} (h : Own.At Value.string w g off l) : Rd w (some ⟨g, off, none⟩) l :=
  fun j hj => ⟨g, off, rfl, h.1, h.cell j hj⟩
theorem Rd.nil (w : World) (A : Option Addr) : Rd w A [] := fun j hj => by simp at hj
theorem Rd.at {w : World} {g off : Nat} {l : List ByteArray} (hg : g < w.heap.size) (h : Rd w (some ⟨g, off, none⟩) l) : Own.At Value.string w g off l := by
  refine ⟨hg, fun j u hu => ?_⟩
  rw [List.getElem?_map, Option.map_eq_some_iff] at hu
  obtain ⟨x, hx, rfl⟩ := hu
  obtain ⟨hj, rfl⟩ := List.getElem?_eq_some_iff.1 hx
  obtain ⟨g', off', e, _, hc⟩ := h j hj
  injection e with e
  injection e with e1 e2
  subst e1 e2
  exact hc
/-- A slice of the call's own, read. -/
theorem Rd.of_es {w : World} {B : Nat} {v : Value} {l : List ByteArray} (h : Own.Es Value.string w B v l) : ∃ A k, v = .slice A l.length k ∧ Rd w A l := by
  rcases h with ⟨rfl, rfl⟩ | ⟨g, cap, rfl, h1, h2, h3, h4, h5, h6⟩
  · exact ⟨none, 0, rfl, Rd.nil _ _⟩
  · refine ⟨_, _, rfl, fun j hj => ⟨g, 0, rfl, h2, ?_⟩⟩
    rw [Nat.zero_add]
    exact h6 j _ (by simp [hj])

theorem take_same {l m : List ByteArray} {j : Nat} (h : l.take j = m.take j) (hl : j < l.length) (hm : j < m.length) (he : l[j] = m[j]) : l.take (j + 1) = m.take (j + 1) := by
  rw [List.take_succ_eq_append_getElem hl, List.take_succ_eq_append_getElem hm, h, he]

set_option maxRecDepth 100000 in
theorem same_any (l m : List ByteArray) (A C : Option Addr) (n k p q : Nat) (w : World) (hR : Rd w A l) (hQ : Rd w C m) (hn : l.length = n) (hp : m.length = p) (hn2 : n ≤ 140737488351232) (hp2 : p ≤ 140737488351232) :
    Calls Tryd.prog 9 #[.slice A n k, .slice C p q] w fun e w' => e = .returned (.bool (decide (l = m))) ∧ Below w.heap.size w w' := by
  have HR := Kept.mk hR
  have HQ := Kept.mk hQ
  have HN := Kept.mk hn
  have HP := Kept.mk hp
  clear hR hQ hn hp
  by_cases hnp : n = p
  · subst hnp
    go_enter Tryd.func9, Tryd.ntmps9
    go_wp2
    go_loopw [5] (fun i wr => ∃ j : Nat, j ≤ n ∧ i = .int .i64 j ∧ Below w.heap.size w wr ∧ Kept (l.take j = m.take j)) (fun i _ => n - (intOf i).toNat)
    case atStart => exact ⟨0, by omega, rfl, Below.refl _ _, ⟨rfl⟩⟩
    case round =>
      obtain ⟨j, hj, rfl, hb, ht⟩ := hrel
      by_cases hlt : j < n
      · obtain ⟨g, off, rfl, hg, hc⟩ := (HR.out.below hb) j (by rw [HN.out]; exact hlt)
        obtain ⟨g2, off2, rfl, hg2, hc2⟩ := (HQ.out.below hb) j (by rw [HP.out]; exact hlt)
        have hne : Kept (l[j]'(by rw [HN.out]; exact hlt) ≠ m[j]'(by rw [HP.out]; exact hlt) → l ≠ m) := ⟨fun h e => h (by subst e; rfl)⟩
        have heq : Kept (l[j]'(by rw [HN.out]; exact hlt) = m[j]'(by rw [HP.out]; exact hlt) → l.take (j + 1) = m.take (j + 1)) := ⟨fun h => take_same ht.out _ _ h⟩
        generalize l[j]'(by rw [HN.out]; exact hlt) = s at hc hne heq
        generalize m[j]'(by rw [HP.out]; exact hlt) = u at hc2 hne heq
        have HB := Kept.mk hb
        clear hb ht
        have z0 : (0 : Int) ≤ (j : Int) := by omega
        have z1 : (j : Int) < n := by omega
        by_cases hsu : s = u
        · have hE : (s.toList == u.toList) = true := by rw [beq_str, decide_eq_true hsu]
          have hT := Kept.mk (heq.out hsu)
          clear heq hne hsu
          go_wp2
          refine wp_region_still_lit (by kernel_rfl) (by kernel_rfl) ?_
          repeat (first | still_step)
          refine wpStill_nil ?_
          go_wp2
          go_roundw
          case rel => exact ⟨j + 1, by omega, by go_num, HB.out.drew, hT⟩
          case measure => simp [intOf]; omega
        · have hE : (s.toList == u.toList) = false := by rw [beq_str, decide_eq_false hsu]
          have hF : Kept (decide (l = m) = false) := ⟨decide_eq_false (hne.out hsu)⟩
          clear heq hne hsu
          go_wp2
          refine wp_region_still_lit (by kernel_rfl) (by kernel_rfl) ?_
          repeat (first | still_step)
          refine wpStill_nil ?_
          go_wp2
          go_ret
          exact ⟨by rw [hF.out]; rfl, HB.out.drew⟩
      · have hT : Kept (decide (l = m) = true) := ⟨by
          have := ht.out
          rw [List.take_of_length_le (by rw [HN.out]; omega), List.take_of_length_le (by rw [HP.out]; omega)] at this
          exact decide_eq_true this⟩
        clear ht
        go_wp2
        go_ret
        exact ⟨by rw [hT.out]; rfl, hb⟩
  · have hF : Kept (decide (l = m) = false) := ⟨decide_eq_false (fun e => hnp (by rw [← HN.out, ← HP.out, e]))⟩
    go_enter Tryd.func9, Tryd.ntmps9
    go_wp2
    go_ret
    exact ⟨by rw [hF.out]; rfl, Below.refl _ _⟩

def svs (l : List Sg) : List Value := l.flatMap fun g => [.int .i64 (g.kind : Int), .string (bs g.text)]
theorem svs_cons (g : Sg) (l : List Sg) : svs (g :: l) = [.int .i64 (g.kind : Int), .string (bs g.text)] ++ svs l := rfl
theorem svs_snoc (l : List Sg) (g : Sg) : svs (l ++ [g]) = svs l ++ [.int .i64 (g.kind : Int), .string (bs g.text)] := by simp [svs]
theorem svs_length (l : List Sg) : (svs l).length = l.length * 2 := by
  induction l with
  | nil => rfl
  | cons p t ih => rw [svs_cons, List.length_append, ih]; simp; omega
theorem svs_at {l : List Sg} {j : Nat} (hj : j < l.length) : (svs l)[j * 2]? = some (.int .i64 (l[j].kind : Int)) ∧ (svs l)[j * 2 + 1]? = some (.string (bs l[j].text)) := by
  induction l generalizing j with
  | nil => simp at hj
  | cons p t ih =>
    cases j with
    | zero => exact ⟨rfl, rfl⟩
    | succ j =>
      rw [svs_cons]
      have h2 : ([.int .i64 (p.kind : Int), .string (bs p.text)] : List Value).length = 2 := rfl
      have := ih (j := j) (by simpa using hj)
      rw [List.getElem?_append_right (by omega), List.getElem?_append_right (by omega), h2]
      rw [show (j + 1) * 2 - 2 = j * 2 by omega, show (j + 1) * 2 + 1 - 2 = j * 2 + 1 by omega]
      exact this
/-- The slice at A holds the segments l. -/
def Rg (w : World) (A : Option Addr) (l : List Sg) : Prop := ∀ j (hj : j < l.length), ∃ g, A = some ⟨g, 0, none⟩ ∧ g < w.heap.size ∧ w.cell? ⟨g, j * 2, none⟩ = some (.int .i64 (l[j].kind : Int)) ∧ w.cell? ⟨g, j * 2 + 1, none⟩ = some (.string (bs l[j].text))
theorem Rg.far {B : Nat} {w w' : World} {A : Option Addr} {l : List Sg} (h : Rg w A l) (hB : ∀ g, A = some ⟨g, 0, none⟩ → g < B) (hb : Below B w w') : Rg w' A l := by
  intro j hj
  obtain ⟨g, e, hg, h0, h1⟩ := h j hj
  exact ⟨g, e, Nat.lt_of_lt_of_le hg hb.size, (hb.cell (p := ⟨g, j * 2, none⟩) (hB g e)).trans h0, (hb.cell (p := ⟨g, j * 2 + 1, none⟩) (hB g e)).trans h1⟩
theorem Rg.below {w w' : World} {A : Option Addr} {l : List Sg} (h : Rg w A l) (hb : Below w.heap.size w w') : Rg w' A l := by
  intro j hj
  obtain ⟨g, e, hg, h0, h1⟩ := h j hj
  exact ⟨g, e, Nat.lt_of_lt_of_le hg hb.size, (hb.cell (p := ⟨g, j * 2, none⟩) hg).trans h0, (hb.cell (p := ⟨g, j * 2 + 1, none⟩) hg).trans h1⟩
/-- Below a mark that is no smaller than the heap was. -/
theorem Rg.up {B : Nat} {w w' : World} {A : Option Addr} {l : List Sg} (h : Rg w A l) (hB : w.heap.size ≤ B) (hb : Below B w w') : Rg w' A l := h.below (hb.mono hB)
theorem Rg.nil (w : World) (A : Option Addr) : Rg w A [] := fun j hj => by simp at hj
theorem Rg.fresh (w : World) (t : TypeId) (l : List Sg) : Rg (w.alloc (.cells (svs l).toArray t)) (some ⟨w.heap.size, 0, none⟩) l := fun j hj => by
  have h := svs_at hj
  refine ⟨w.heap.size, rfl, by simp, ?_, ?_⟩
  · rw [cell_of_row _ _ _ _ _ (0, 0) (heap_alloc_new w _)]; simpa using h.1
  · rw [cell_of_row _ _ _ _ _ (0, 0) (heap_alloc_new w _)]; simpa using h.2
/-- Texts of the call's own, read. -/
theorem own_rd {w : World} {B : Nat} {u : Value} {l : List (List UInt8)} (h : w.ownsRow B 9 1 u l.length (l.map fun x => Value.string (bs x))) : ∃ A k, u = .slice A l.length k ∧ Rd w A (l.map bs) := by
  rcases h.2 with ⟨rfl, h0⟩ | ⟨g, cap, cur, rfl, hB, hg, hnc, hcm, hcs, htake⟩
  · have := List.eq_nil_of_length_eq_zero h0
    subst this
    exact ⟨_, _, rfl, Rd.nil _ _⟩
  · refine ⟨_, _, rfl, fun j hj => ⟨g, 0, rfl, (Array.getElem?_eq_some_iff.1 hg).1, ?_⟩⟩
    rw [List.length_map] at hj
    rw [Nat.zero_add, cell_of_row w g j cur _ (0, 0) hg]
    have h2 : (l.map fun x => Value.string (bs x))[j]? = some (.string (bs l[j])) := by rw [List.getElem?_map, List.getElem?_eq_getElem hj]; rfl
    rw [← htake, List.getElem?_take] at h2
    split at h2
    · rw [List.getElem_map]; simpa using h2
    · cases h2
end Fd
end Go.Proofs.YtjnhhkiabdbenaaDoor
