/-
  The program's device: a sector is torn.
-/
import Derived.Test.YticgecbgeahijaaPdev
import Derived.IntWalk
import Derived.Laws.BitsAllLaws
import Derived.Laws.Shifts
import Derived.Deep.QuietTactic
import Derived.BigQuiet
namespace Go.Proofs.Yticgecbgeahijaa
open Go.RowKit Tx Dv
namespace Pd

theorem mask_bit (m q : Nat) (hm : m < 18446744073709551616) : bits .and .u64 ((m : Int) / 2 ^ q) 1 = ((m / 2 ^ q % 2 : Nat) : Int) := by
  have h := u64_and_nat (m / 2 ^ q) 1 (Nat.lt_of_le_of_lt (Nat.div_le_self _ _) hm) (by decide)
  rw [Nat.and_one_is_mod] at h
  rw [← h]
  congr 1

/-- An array of 64 bytes at offset o of block r. -/
def Row64 (w : World) (r o : Nat) (l : List UInt8) : Prop := ∀ i, i < 64 → w.cell? ⟨r, o + i, none⟩ = some (By.cell (l.getD i 0))

/-- Of block r the 64 cells from o on became l's bytes; nothing else was written. -/
structure Tore (w w' : World) (r o : Nat) (l : List UInt8) : Prop where
  only : Only (fun k => k = r) w w'
  row : Row64 w' r o l
  out : ∀ j, (j < o ∨ o + 64 ≤ j) → w'.cell? ⟨r, j, none⟩ = w.cell? ⟨r, j, none⟩
  soft : ∀ j, w'.frozen? ⟨r, j, none⟩ = w.frozen? ⟨r, j, none⟩

/-- .. up to byte q. -/
structure TearIn (w w' : World) (r o q : Nat) (l : List UInt8) : Prop where
  only : Only (fun k => k = r) w w'
  lo : ∀ i, i < q → w'.cell? ⟨r, o + i, none⟩ = some (By.cell (l.getD i 0))
  hi : ∀ j, (j < o ∨ o + q ≤ j) → w'.cell? ⟨r, j, none⟩ = w.cell? ⟨r, j, none⟩
  soft : ∀ j, w'.frozen? ⟨r, j, none⟩ = w.frozen? ⟨r, j, none⟩

section
variable {w w' : World} {r o q : Nat} {l : List UInt8}
theorem TearIn.start (w : World) (r o : Nat) (l : List UInt8) : TearIn w w r o 0 l := ⟨Only.refl _ _, fun i hi => by omega, fun _ _ => rfl, fun _ => rfl⟩
theorem TearIn.drewN (h : TearIn w w' r o q l) (n : Nat) : TearIn w (w'.drewN n) r o q l := ⟨h.only.drewN n, h.lo, h.hi, h.soft⟩
theorem TearIn.put {v0 : Value} (h : TearIn w w' r o q l) (n : Nat) (hn : w.cell? ⟨r, o + q, none⟩ = some v0) (b : UInt8) (hb : l.getD q 0 = b) (x : Value) (hx : x = By.cell b) : TearIn w ((w'.drewN n).setCell ⟨r, o + q, none⟩ x) r o (q + 1) l := by
  subst hx
  have hq : (w'.drewN n).cell? ⟨r, o + q, none⟩ = some v0 := (h.hi (o + q) (by omega)).trans hn
  refine ⟨(h.only.drewN n).setCell _ _ (fun _ => rfl), fun i hi => ?_, fun j hj => ?_, fun j => by rw [World.frozen?_setCell]; exact h.soft j⟩
  · by_cases e : i = q
    · subst e
      rw [World.cell?_setCell_same _ _ _ hq, hb]
    · exact (World.cell?_setCell_other _ _ _ _ (fun e2 => e (by injection e2 with e3 e4; omega))).trans (h.lo i (by omega))
  · exact (World.cell?_setCell_other _ _ _ _ (fun e2 => by injection e2 with e3 e4; omega)).trans (h.hi j (by omega))
theorem TearIn.skip (h : TearIn w w' r o q l) (n : Nat) (hn : w.cell? ⟨r, o + q, none⟩ = some (By.cell (l.getD q 0))) : TearIn w (w'.drewN n) r o (q + 1) l := by
  refine ⟨h.only.drewN n, fun i hi => ?_, fun j hj => h.hi j (by omega), h.soft⟩
  by_cases e : i = q
  · subst e
    exact (h.hi (o + i) (by omega)).trans hn
  · exact h.lo i (by omega)
theorem TearIn.all (h : TearIn w w' r o 64 l) : Tore w w' r o l := ⟨h.only, fun i hi => h.lo i hi, h.hi, h.soft⟩
end

set_option maxHeartbeats 1000000 in
set_option maxRecDepth 100000 in
theorem tear_any (w : World) (r o f : Nat) (x t : List UInt8) (m : Nat) (hm : m < 18446744073709551616) (hf : f ≠ r) (hfl : f < w.heap.size)
    (hx : Row64 w r o x) (ht : Row64 w f 0 t) (hz : ∀ i, i < 64 → w.frozen? ⟨r, o + i, none⟩ = false) :
    Calls Try.prog 24 #[.pointer (some ⟨r, o, none⟩), .pointer (some ⟨f, 0, none⟩), .int .u64 m] w fun e w' => e = .returned (.tuple #[]) ∧ Tore w w' r o (torn m t x) := by
  have HX := Kept.mk hx
  have HT := Kept.mk ht
  have HZ := Kept.mk hz
  clear hx ht hz
  go_enter Try.func24, Try.ntmps24
  go_wp2
  go_loopw [9] (fun i wr => ∃ q : Nat, q ≤ 64 ∧ i = .int .i64 q ∧ Kept (TearIn w wr r o q (torn m t x))) (fun i _ => 64 - (intOf i).toNat)
  case atStart => exact ⟨0, by omega, rfl, ⟨TearIn.start _ _ _ _⟩⟩
  case round =>
    obtain ⟨q, hq, rfl, hI⟩ := hrel
    by_cases hlt : q < 64
    · have cf : wr.cell? ⟨f, q, none⟩ = some (By.cell (t.getD q 0)) := by
        have := HT.out q hlt
        rw [Nat.zero_add] at this
        exact (World.cell?_of_block (w := w) (a := ⟨f, q, none⟩) (hI.out.only.block f hfl hf)).trans this
      have cr : wr.cell? ⟨r, o + q, none⟩ = some (By.cell (x.getD q 0)) := (hI.out.hi (o + q) (by omega)).trans (HX.out q hlt)
      have fr : wr.frozen? ⟨r, o + q, none⟩ = false := (hI.out.soft (o + q)).trans (HZ.out q hlt)
      have y3 : (0 : Int) ≤ q := by omega
      have y5 : (q : Int) < 64 := by omega
      have y4 : (q : Int) ≤ 64 := by omega
      have hbit := mask_bit m q hm
      have HA := Kept.mk (torn_at m t x q hlt)
      have HC := Kept.mk (HX.out q hlt)
      unfold By.cell at cf cr
      by_cases hb : m / 2 ^ q % 2 = 1
      · have HB := Kept.mk hb
        rw [hb] at hbit
        clear hb
        go_wp2
        go_quiet (fail)
        go_wp2
        go_roundw
        case rel => exact ⟨q + 1, by omega, by go_num, ⟨hI.out.put nq HC.out (t.getD q 0) (by rw [HA.out, if_pos HB.out]) _ rfl⟩⟩
        case measure => simp [intOf]; omega
      · have hb0 : m / 2 ^ q % 2 = 0 := by omega
        have HB := Kept.mk hb
        rw [hb0] at hbit
        clear hb hb0
        go_wp2
        go_quiet (fail)
        go_wp2
        go_roundw
        case rel => exact ⟨q + 1, by omega, by go_num, ⟨hI.out.skip nq (by rw [HA.out, if_neg HB.out]; exact HC.out)⟩⟩
        case measure => simp [intOf]; omega
    · have hq64 : q = 64 := by omega
      subst hq64
      go_wp2
      go_end0
      exact ⟨rfl, hI.out.all⟩
end Pd
end Go.Proofs.Yticgecbgeahijaa
