/-
  Devices as plain data: sectors, power, a mask; what is done with them. Nothing of the program stands here.
-/
import Derived.Test.YtmkpkmkhnphogaaGreatDoorGcm
namespace Go.Proofs.YtmkpkmkhnphogaaGreatDoor
namespace Dv

/-- Sectors; for how many writes there is power (-1: endless); which bytes of a torn write come through. -/
structure Disk where
  S : List (List UInt8)
  power : Int
  mask : Nat
def blank : List UInt8 := List.replicate 64 0
def fresh (n : Nat) : Disk := ⟨List.replicate n blank, -1, 0⟩
def pad (s : List UInt8) : List UInt8 := s ++ List.replicate (64 - s.length) 0
/-- The bytes that the mask names are t's, the others are old. -/
def torn (m : Nat) (t old : List UInt8) : List UInt8 := (List.range 64).map fun i => if m / 2 ^ i % 2 = 1 then t.getD i 0 else old.getD i 0
section
variable (D : Disk)
def Disk.has (k : Int) : Prop := 0 ≤ k ∧ k < D.S.length
instance (k : Int) : Decidable (D.has k) := by unfold Disk.has; exact inferInstance
def Disk.at (k : Int) : List UInt8 := D.S.getD k.toNat []
def Disk.put (k : Int) (s : List UInt8) : List (List UInt8) := D.S.set k.toNat s
def Disk.read (k : Int) : List UInt8 × Int := if D.has k then (D.at k, 0) else ([], 1)
def Disk.write (k : Int) (s : List UInt8) : Int × Disk :=
  if D.has k ∧ s.length ≤ 64 then
    if D.power = 0 then (13, ⟨D.put k (torn D.mask (pad s) (D.at k)), 0, 0⟩) else (0, ⟨D.put k (pad s), if 0 < D.power then D.power - 1 else D.power, D.mask⟩)
  else (1, D)
def Disk.limit (n : Int) (m : Nat) : Disk := ⟨D.S, max n 0, m⟩
def Disk.restart : Disk := ⟨D.S, -1, 0⟩
structure Disk.Ok : Prop where
  each : ∀ s ∈ D.S, s.length = 64
  few : D.S.length ≤ 4096
  low : -1 ≤ D.power
  high : D.power ≤ 9223372036854775807
  mask : D.mask < 18446744073709551616
end
section
variable {D : Disk}
theorem pad_length (s : List UInt8) (h : s.length ≤ 64) : (pad s).length = 64 := by unfold pad; rw [List.length_append, List.length_replicate]; omega
theorem torn_length (m : Nat) (t old : List UInt8) : (torn m t old).length = 64 := by simp [torn]
theorem torn_at (m : Nat) (t old : List UInt8) (i : Nat) (hi : i < 64) : (torn m t old).getD i 0 = if m / 2 ^ i % 2 = 1 then t.getD i 0 else old.getD i 0 := by
  unfold torn
  rw [List.getD_eq_getElem?_getD, List.getElem?_map, List.getElem?_range hi]
  rfl
/-- Nothing comes through. -/
theorem torn_none (t old : List UInt8) (h : old.length = 64) : torn 0 t old = old := by
  apply List.ext_getElem?
  intro i
  by_cases hi : i < 64
  · have h1 := torn_at 0 t old i hi
    rw [if_neg (by simp)] at h1
    rw [List.getD_eq_getElem?_getD, List.getD_eq_getElem?_getD, List.getElem?_eq_getElem (by rw [torn_length]; exact hi), List.getElem?_eq_getElem (by omega)] at h1
    simp only [Option.getD_some] at h1
    rw [List.getElem?_eq_getElem (by rw [torn_length]; exact hi), List.getElem?_eq_getElem (by omega), h1]
  · rw [List.getElem?_eq_none (by rw [torn_length]; omega), List.getElem?_eq_none (by omega)]
theorem fresh_ok (n : Nat) (h : n ≤ 4096) : (fresh n).Ok :=
  ⟨fun s hs => by rw [(List.mem_replicate.1 hs).2]; simp [blank], by simpa [fresh] using h, by simp [fresh], by simp [fresh], by simp [fresh]⟩
theorem Disk.Ok.at (h : D.Ok) {k : Int} (hk : D.has k) : (D.at k).length = 64 := by
  obtain ⟨h0, h1⟩ := hk
  have hl : k.toNat < D.S.length := by omega
  unfold Disk.at
  rw [List.getD_eq_getElem?_getD, List.getElem?_eq_getElem hl]
  exact h.each _ (List.getElem_mem hl)
theorem put_each {k : Int} {s : List UInt8} (h : ∀ x ∈ D.S, x.length = 64) (hs : s.length = 64) : ∀ x ∈ D.put k s, x.length = 64 := by
  intro x hx
  rcases List.mem_or_eq_of_mem_set hx with h1 | h1
  · exact h x h1
  · rw [h1]; exact hs
theorem put_length (k : Int) (s : List UInt8) : (D.put k s).length = D.S.length := by simp [Disk.put]
theorem Disk.Ok.write (h : D.Ok) (k : Int) (s : List UInt8) : (D.write k s).2.Ok := by
  unfold Disk.write
  split
  · rename_i hc
    split
    · exact ⟨put_each h.each (torn_length _ _ _), by rw [put_length]; exact h.few, (show (-1 : Int) ≤ 0 by decide), (show (0 : Int) ≤ 9223372036854775807 by decide), (show 0 < 18446744073709551616 by decide)⟩
    · refine ⟨put_each h.each (pad_length s hc.2), by rw [put_length]; exact h.few, ?_, ?_, h.mask⟩
      · have := h.low; split <;> simp only <;> omega
      · have := h.high; split <;> simp only <;> omega
  · exact h
theorem Disk.Ok.limit (h : D.Ok) {n : Int} {m : Nat} (hn : n ≤ 9223372036854775807) (hm : m < 18446744073709551616) : (D.limit n m).Ok :=
  ⟨h.each, h.few, by simp only [Disk.limit]; omega, by simp only [Disk.limit]; omega, hm⟩
theorem Disk.Ok.restart (h : D.Ok) : D.restart.Ok := ⟨h.each, h.few, (show (-1 : Int) ≤ -1 by decide), (show (-1 : Int) ≤ 9223372036854775807 by decide), (show 0 < 18446744073709551616 by decide)⟩
theorem write_length (k : Int) (s : List UInt8) : (D.write k s).2.S.length = D.S.length := by
  unfold Disk.write
  split
  · split <;> exact put_length _ _
  · rfl
end
end Dv
end Go.Proofs.YtmkpkmkhnphogaaGreatDoor

/-
  What a write does to a disk, case by case. Nothing of the program stands here.
-/
namespace Go.Proofs.YtmkpkmkhnphogaaGreatDoor
open Go.RowKit Tx
namespace Dv
theorem Disk.write_out {D : Disk} {k : Int} {s : List UInt8} (h : ¬ (D.has k ∧ s.length ≤ 64)) : D.write k s = (1, D) := by unfold Disk.write; rw [if_neg h]
theorem Disk.write_dead {D : Disk} {k : Int} {s : List UInt8} (h : D.has k ∧ s.length ≤ 64) (hp : D.power = 0) : D.write k s = (13, ⟨D.put k (torn D.mask (pad s) (D.at k)), 0, 0⟩) := by
  unfold Disk.write; rw [if_pos h, if_pos hp]
theorem Disk.write_none {D : Disk} {k : Int} {s : List UInt8} (ho : D.Ok) (h : D.has k ∧ s.length ≤ 64) (hp : D.power = 0) (hm : D.mask = 0) : D.write k s = (13, D) := by
  rw [Disk.write_dead h hp, hm, torn_none _ _ (ho.at h.1)]
  have e : D.put k (D.at k) = D.S := by
    unfold Disk.put Disk.at
    rw [List.getD_eq_getElem?_getD, List.getElem?_eq_getElem (by have := h.1; unfold Disk.has at this; omega)]
    exact List.set_getElem_self _
  rw [e]
  obtain ⟨S, p, m⟩ := D
  simp only at hp hm
  subst hp hm
  rfl
theorem Disk.write_on {D : Disk} {k : Int} {s : List UInt8} (h : D.has k ∧ s.length ≤ 64) (hp : D.power ≠ 0) : D.write k s = (0, ⟨D.put k (pad s), if 0 < D.power then D.power - 1 else D.power, D.mask⟩) := by
  unfold Disk.write; rw [if_pos h, if_neg hp]
theorem pad_bs (s z : ByteArray) (hz : z = bs (List.replicate (64 - s.size) 0)) : s ++ z = bs (pad (toL s)) := by
  subst hz
  unfold pad
  rw [toL_length, ← bs_append, bs_toL]
end Dv
end Go.Proofs.YtmkpkmkhnphogaaGreatDoor
