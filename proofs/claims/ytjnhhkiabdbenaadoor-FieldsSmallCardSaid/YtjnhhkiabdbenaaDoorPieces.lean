/-
  Texts of few pieces (the law's function Pieces), and a list of bytes that comes in.
-/
import Derived.Test.YtjnhhkiabdbenaaDoorTxt
import Derived.Test.YtjnhhkiabdbenaaDoorChecked
import Derived.WalkKit
import Derived.BigCall
import Derived.Laws.Strings
import Derived.Laws.Concat
import Derived.Laws.DeepStrings4
import Derived.LoopTactic
namespace Go.Proofs.YtjnhhkiabdbenaaDoor
open Go.RowKit Tx
namespace Pc

/-- A list of bytes that came in. -/
def By8 (w : World) (A : Option Addr) (n : Nat) : Prop := ∀ j, j < n → ∃ g off z, A = some ⟨g, off, none⟩ ∧ g < w.heap.size ∧ w.cell? ⟨g, off + j, none⟩ = some (.int .u8 z) ∧ 0 ≤ z ∧ z ≤ 255
theorem By8.below {w w' : World} {A : Option Addr} {n : Nat} (h : By8 w A n) (hb : Below w.heap.size w w') : By8 w' A n := by
  intro j hj
  obtain ⟨g, off, z, e, hg, hc, h1, h2⟩ := h j hj
  exact ⟨g, off, z, e, Nat.lt_of_lt_of_le hg hb.size, (hb.cell (p := ⟨g, off + j, none⟩) hg).trans hc, h1, h2⟩
/-- A row of few short texts. -/
def Few (M : Nat) (w : World) (g n : Nat) : Prop := ∀ j, j < n → ∃ x : ByteArray, w.cell? ⟨g, j, none⟩ = some (.string x) ∧ x.size ≤ M
theorem Few.below {M : Nat} {w w' : World} {g n : Nat} (h : Few M w g n) (hg : g < w.heap.size) (hb : Below w.heap.size w w') : Few M w' g n := fun j hj => by
  obtain ⟨x, hc, hs⟩ := h j hj
  exact ⟨x, (hb.cell (p := ⟨g, j, none⟩) hg).trans hc, hs⟩
/-- A value that is a text of few bytes. -/
def short (M : Nat) : Value → Bool
  | .string x => decide (x.size ≤ M)
  | _ => false
theorem few_of {M : Nat} {w : World} {g : Nat} {cs : Array Value} {t : TypeId} (h : w.heap[g]? = some (.cells cs t (0, 0))) (hs : cs.all (short M) = true) : Few M w g cs.size := fun j hj => by
  have h1 := cell_of_row w g j cs t (0, 0) h
  have h2 : short M cs[j] = true := Array.all_eq_true.1 hs j hj
  rw [Array.getElem?_eq_getElem hj] at h1
  cases hc : cs[j] with
  | string x => rw [hc] at h1 h2; exact ⟨x, h1, of_decide_eq_true h2⟩
  | _ => rw [hc] at h2; cases h2
set_option maxHeartbeats 1000000 in
set_option maxRecDepth 100000 in
theorem pieces_any (M : Nat) (hM : M ≤ 100) (A : Option Addr) (n k g m q : Nat) (w : World) (hl : By8 w A n) (hn : n ≤ 9223372036854775807) (hp : Few M w g m) (hm : 0 < m) (hm2 : m ≤ 100) :
    Calls Tryd.prog 14 #[.slice A n k, .slice (some ⟨g, 0, none⟩) m q] w fun e w' => ∃ x : ByteArray, e = .returned (.string x) ∧ x.size ≤ M * 14 ∧ w = w' := by
  have HL := Kept.mk hl
  have HP := Kept.mk hp
  clear hl hp
  go_enter Tryd.func14, Tryd.ntmps14
  go_wp2_with fail
  go_loop [5, 6] (fun v i => ∃ (j : Nat) (x : ByteArray), j ≤ n ∧ j ≤ 14 ∧ i = .int .i64 (j : Int) ∧ v = .string x ∧ x.size ≤ M * j) (fun _ i => n - (intOf i).toNat)
  case atStart => exact ⟨0, ⟨#[]⟩, by omega, by omega, rfl, rfl, Nat.zero_le _⟩
  case round =>
    obtain ⟨j, x, hj, hj14, rfl, rfl, hx⟩ := hrel
    have hMj : M * j ≤ M * 14 := Nat.mul_le_mul_left M hj14
    have j0 : (0 : Int) ≤ j := by omega
    by_cases hlt : j < n
    · have j1 : (j : Int) < (n : Int) := by omega
      by_cases h14 : j < 14
      · have j2 : (j : Int) < 14 := by omega
        obtain ⟨ga, off, z, e, hg, hc, hz0, hz1⟩ := HL.out j hlt
        subst e
        have hm1 : (0 : Int) < (m : Int) := by omega
        have e1 : z.tmod (m : Int) = z % (m : Int) := Int.tmod_eq_emod_of_nonneg hz0
        have r0 : 0 ≤ z % (m : Int) := Int.emod_nonneg _ (by omega)
        have r1 : z % (m : Int) < (m : Int) := Int.emod_lt_of_pos _ hm1
        obtain ⟨y, hy, hys⟩ := HP.out (z % (m : Int)).toNat (by omega)
        have hsum : ¬ 9223372036854775807 < x.size + y.size := by omega
        have HC : Kept (x.size + y.size ≤ M * (j + 1)) := ⟨by rw [Nat.mul_add, Nat.mul_one]; omega⟩
        clear hMj
        go_wp2_with fail
        go_round
        case rel => exact ⟨j + 1, x ++ y, by omega, by omega, by go_num, rfl, by rw [ByteArray.size_append]; exact HC.out⟩
        case measure => simp [intOf]; omega
      · have j2 : ¬ (j : Int) < 14 := by omega
        clear h14
        go_wp2_with fail
        go_ret
        exact ⟨x, rfl, by omega, rfl⟩
    · have j1 : ¬ (j : Int) < (n : Int) := by omega
      have j1b : decide ((j : Int) < (n : Int)) = false := decide_eq_false j1
      clear hlt
      go_wp2_with fail
      go_ret
      exact ⟨x, rfl, by omega, rfl⟩
end Pc
end Go.Proofs.YtjnhhkiabdbenaaDoor
