/-
  The laws' own small functions: what any right program answers; texts of pieces.
-/
import Derived.Test.YtnafecdionhnfaaDoorRl2
namespace Go.Proofs.YtnafecdionhnfaaDoor
open Go.RowKit Tx
namespace Lx

/-- A list of bytes that came in. -/
def By8 (w : World) (A : Option Addr) (n : Nat) : Prop := ∀ j, j < n → ∃ g off z, A = some ⟨g, off, none⟩ ∧ g < w.heap.size ∧ w.cell? ⟨g, off + j, none⟩ = some (.int .u8 z) ∧ 0 ≤ z ∧ z ≤ 255
theorem By8.below {w w' : World} {A : Option Addr} {n : Nat} (h : By8 w A n) (hb : Below w.heap.size w w') : By8 w' A n := by
  intro j hj
  obtain ⟨g, off, z, e, hg, hc, h1, h2⟩ := h j hj
  exact ⟨g, off, z, e, Nat.lt_of_lt_of_le hg hb.size, (hb.cell (p := ⟨g, off + j, none⟩) hg).trans hc, h1, h2⟩
/-- A row of few short texts. -/
def Few (w : World) (g n : Nat) : Prop := ∀ j, j < n → ∃ x : ByteArray, w.cell? ⟨g, j, none⟩ = some (.string x) ∧ x.size ≤ 5
theorem Few.below {w w' : World} {g n : Nat} (h : Few w g n) (hg : g < w.heap.size) (hb : Below w.heap.size w w') : Few w' g n := fun j hj => by
  obtain ⟨x, hc, hs⟩ := h j hj
  exact ⟨x, (hb.cell (p := ⟨g, j, none⟩) hg).trans hc, hs⟩
def signVals : Array Value := #[.string ⟨#[97]⟩, .string ⟨#[32]⟩, .string ⟨#[10]⟩, .string ⟨#[39]⟩, .string ⟨#[34]⟩, .string ⟨#[92]⟩, .string ⟨#[36, 40]⟩, .string ⟨#[41]⟩, .string ⟨#[40]⟩, .string ⟨#[36, 123]⟩, .string ⟨#[125]⟩, .string ⟨#[38, 38]⟩, .string ⟨#[124, 124]⟩, .string ⟨#[124]⟩, .string ⟨#[59]⟩, .string ⟨#[59, 59]⟩, .string ⟨#[60]⟩, .string ⟨#[62]⟩, .string ⟨#[62, 62]⟩, .string ⟨#[35]⟩, .string ⟨#[36]⟩, .string ⟨#[98]⟩, .string ⟨#[38]⟩, .string ⟨#[9]⟩]
/-- A value that is a text of few bytes. -/
def short : Value → Bool
  | .string x => decide (x.size ≤ 5)
  | _ => false
theorem few_of {w : World} {g : Nat} {cs : Array Value} {t : TypeId} (h : w.heap[g]? = some (.cells cs t (0, 0))) (hs : cs.all short = true) : Few w g cs.size := fun j hj => by
  have h1 := cell_of_row w g j cs t (0, 0) h
  have h2 : short cs[j] = true := Array.all_eq_true.1 hs j hj
  rw [Array.getElem?_eq_getElem hj] at h1
  cases hc : cs[j] with
  | string x => rw [hc] at h1 h2; exact ⟨x, h1, of_decide_eq_true h2⟩
  | _ => rw [hc] at h2; cases h2
set_option maxRecDepth 100000 in
theorem signs_any (w : World) : Calls Tryd.prog 8 #[] w fun e w' => ∃ g, e = .returned (.slice (some ⟨g, 0, none⟩) 24 24) ∧ g < w'.heap.size ∧ Kept (Few w' g 24) ∧ Below w.heap.size w w' := by
  go_enter Tryd.func8, Tryd.ntmps8
  go_wp2_with fail
  go_ret
  refine ⟨w.heap.size, rfl, by simp, ⟨few_of (cs := signVals) (heap_alloc_new w _) (by decide +kernel)⟩, (Below.refl _ _).alloc (Nat.le_refl _) _⟩
set_option maxHeartbeats 1000000 in
set_option maxRecDepth 100000 in
theorem pieces_any (A : Option Addr) (n k g m q : Nat) (w : World) (hl : By8 w A n) (hn : n ≤ 9223372036854775807) (hp : Few w g m) (hm : 0 < m) (hm2 : m ≤ 100) :
    Calls Tryd.prog 7 #[.slice A n k, .slice (some ⟨g, 0, none⟩) m q] w fun e w' => ∃ x : ByteArray, e = .returned (.string x) ∧ x.size ≤ 70 ∧ w' = w := by
  have HL := Kept.mk hl
  have HP := Kept.mk hp
  clear hl hp
  go_enter Tryd.func7, Tryd.ntmps7
  go_wp2_with fail
  go_loop [5, 6] (fun v i => ∃ (j : Nat) (x : ByteArray), j ≤ n ∧ j ≤ 14 ∧ i = .int .i64 (j : Int) ∧ v = .string x ∧ x.size ≤ 5 * j) (fun _ i => n - (intOf i).toNat)
  case atStart => exact ⟨0, ⟨#[]⟩, by omega, by omega, rfl, rfl, by decide⟩
  case round =>
    obtain ⟨j, x, hj, hj14, rfl, rfl, hx⟩ := hrel
    have j0 : (0 : Int) ≤ j := by omega
    by_cases hlt : j < n
    · have j1 : (j : Int) < (n : Int) := by omega
      by_cases h14 : j < 14
      · have j2 : (j : Int) < 14 := by omega
        obtain ⟨ga, off, z, e, hg, hc, hz0, hz1⟩ := HL.out j hlt
        subst e
        have hm1 : (0 : Int) < (m : Int) := by omega
        have e1 : z.tmod (m : Int) = z % (m : Int) := Int.tmod_eq_emod_of_nonneg hz0
        have r0 : 0 ≤ z % (m : Int) := Int.emod_nonneg _ (by omega)
        have r1 : z % (m : Int) < (m : Int) := Int.emod_lt_of_pos _ hm1
        obtain ⟨y, hy, hys⟩ := HP.out (z % (m : Int)).toNat (by omega)
        have hsum : ¬ 9223372036854775807 < x.size + y.size := by omega
        have HC : Kept (x.size + y.size ≤ 5 * (j + 1)) := ⟨by omega⟩
        go_wp2_with fail
        go_round
        case rel => exact ⟨j + 1, x ++ y, by omega, by omega, by go_num, rfl, by rw [ByteArray.size_append]; exact HC.out⟩
        case measure => simp [intOf]; omega
      · have j2 : ¬ (j : Int) < 14 := by omega
        clear h14
        go_wp2_with fail
        go_ret
        exact ⟨x, rfl, by omega, rfl⟩
    · have j1 : ¬ (j : Int) < (n : Int) := by omega
      have j1b : decide ((j : Int) < (n : Int)) = false := decide_eq_false j1
      clear hlt
      go_wp2_with fail
      go_ret
      exact ⟨x, rfl, by omega, rfl⟩
end Lx
end Go.Proofs.YtnafecdionhnfaaDoor
