/-
  The document's device: Write.
-/
import Derived.Test.YticgecbgeahijaaRdev
namespace Go.Proofs.Yticgecbgeahijaa
open Go.RowKit Tx
namespace Dv

theorem RefAt.setSector {w : World} {b g r n cap : Nat} {D : Disk} (h : RefAt w b g (.slice (some ⟨r, 0, none⟩) n cap) D) (j : Nat) (hj : j < D.S.length) (x : List UInt8) (hx : x.length = 64) :
    RefAt (w.setCell ⟨r, j, none⟩ (.string (bs x))) b g (.slice (some ⟨r, 0, none⟩) n cap) ⟨D.S.set j x, D.power, D.mask⟩ := by
  have hne : r ≠ g := fun e => h.apart (by rw [e]; rfl)
  have far : ∀ i, (⟨r, j, none⟩ : Addr) ≠ ⟨g, i, none⟩ := fun i e => hne (by injection e)
  refine ⟨by simpa [World.setCell] using h.lt, h.low, (World.cell?_setCell_other w _ _ _ (far 0)).trans h.c0, (World.cell?_setCell_other w _ _ _ (far 1)).trans h.c1, (World.cell?_setCell_other w _ _ _ (far 2)).trans h.c2,
    fun i hi => by rw [World.frozen?_setCell]; exact h.free i hi, ?_, h.apart, ?_⟩
  · have := h.es.put j (by rw [List.length_map]; exact hj) (bs x)
    rw [← List.map_set] at this
    exact this
  · refine ⟨fun s hs => ?_, by rw [List.length_set]; exact h.ok.few, h.ok.low, h.ok.high, h.ok.mask⟩
    rcases List.mem_or_eq_of_mem_set hs with h1 | h1
    · exact h.ok.each s h1
    · rw [h1]; exact hx
theorem RefAt.row {w : World} {b g r n cap : Nat} {D : Disk} (h : RefAt w b g (.slice (some ⟨r, 0, none⟩) n cap) D) (j : Nat) (hj : j < D.S.length) : w.frozen? ⟨r, j, none⟩ = false := by
  obtain ⟨r', cap', e, _, _, h3, _, h5, _⟩ := h.es.resolve_left (fun e => by cases e.1)
  injection e with e1 e2 e3
  injection e1 with e1
  injection e1 with e1
  subst e1
  exact (h5 j (by rw [List.length_map] at h3; omega)).2
theorem RefAt.some {w : World} {b g r n cap : Nat} {D : Disk} (h : RefAt w b g (.slice (some ⟨r, 0, none⟩) n cap) D) (j : Nat) (hj : j < D.S.length) : ∃ u, w.cell? ⟨r, j, none⟩ = some (.string u) := by
  obtain ⟨r', cap', e, _, _, hc⟩ := h.form (by omega)
  injection e with e1
  injection e1 with e1
  injection e1 with e1
  subst e1
  exact ⟨_, hc j hj⟩
theorem Disk.write_out {D : Disk} {k : Int} {s : List UInt8} (h : ¬ (D.has k ∧ s.length ≤ 64)) : D.write k s = (1, D) := by unfold Disk.write; rw [if_neg h]
theorem Disk.write_dead {D : Disk} {k : Int} {s : List UInt8} (h : D.has k ∧ s.length ≤ 64) (hp : D.power = 0) : D.write k s = (13, ⟨D.put k (torn D.mask (pad s) (D.at k)), 0, 0⟩) := by
  unfold Disk.write; rw [if_pos h, if_pos hp]
theorem Disk.write_none {D : Disk} {k : Int} {s : List UInt8} (ho : D.Ok) (h : D.has k ∧ s.length ≤ 64) (hp : D.power = 0) (hm : D.mask = 0) : D.write k s = (13, D) := by
  rw [Disk.write_dead h hp, hm, torn_none _ _ (ho.at h.1)]
  have e : D.put k (D.at k) = D.S := by
    unfold Disk.put Disk.at
    rw [List.getD_eq_getElem?_getD, List.getElem?_eq_getElem (by have := h.1; unfold Disk.has at this; omega)]
    exact List.set_getElem_self _
  rw [e]
  obtain ⟨S, p, m⟩ := D
  simp only at hp hm
  subst hp hm
  rfl
theorem Disk.write_on {D : Disk} {k : Int} {s : List UInt8} (h : D.has k ∧ s.length ≤ 64) (hp : D.power ≠ 0) : D.write k s = (0, ⟨D.put k (pad s), if 0 < D.power then D.power - 1 else D.power, D.mask⟩) := by
  unfold Disk.write; rw [if_pos h, if_neg hp]
theorem pad_bs (s z : ByteArray) (hz : z = bs (List.replicate (64 - s.size) 0)) : s ++ z = bs (pad (toL s)) := by
  subst hz
  unfold pad
  rw [toL_length, ← bs_append, bs_toL]

/-- What a write leaves. -/
structure Written (b g : Nat) (v : Value) (w w' : World) (D : Disk) : Prop where
  is : RefAt w' b g v D
  only : Only (blocks g v) w w'

set_option maxHeartbeats 1000000 in
set_option maxRecDepth 100000 in
theorem write_out (w : World) (b g : Nat) (v : Value) (D : Disk) (h : RefAt w b g v D) (hp : 0 < D.S.length) (k : Int) (hk0 : -9223372036854775808 ≤ k) (hk1 : k ≤ 9223372036854775807) (s : ByteArray) (hs : s.size ≤ 1000000) (hh : ¬ (D.has k ∧ (toL s).length ≤ 64)) :
    Calls Try.prog 20 #[.pointer (some ⟨g, 0, none⟩), .int .i64 k, .string s] w fun e w' => e = .returned (.int .i64 1) ∧ w' = w := by
  obtain ⟨r, cap, e, hr, hrl, hc⟩ := h.form hp
  have c0 := h.c0
  rw [e] at c0
  rw [toL_length] at hh
  unfold Disk.has at hh
  have hmx := h.ok.few
  clear hc h e
  generalize D.S.length = n at *
  by_cases h0 : k < 0
  · go_enter Try.func20, Try.ntmps20
    go_wp2
    go_ret
    exact ⟨rfl, rfl⟩
  · by_cases h1 : (n : Int) ≤ k
    · go_enter Try.func20, Try.ntmps20
      go_wp2
      go_ret
      exact ⟨rfl, rfl⟩
    · have h64 : (64 : Int) < s.size := by omega
      clear hh
      go_enter Try.func20, Try.ntmps20
      go_wp2
      go_ret
      exact ⟨rfl, rfl⟩

set_option maxHeartbeats 1000000 in
set_option maxRecDepth 100000 in
theorem write_none (w : World) (b g : Nat) (v : Value) (D : Disk) (h : RefAt w b g v D) (j : Nat) (hj : j < D.S.length) (s : ByteArray) (hs : s.size ≤ 64) (h0 : D.power = 0) (hm : D.mask = 0) :
    Calls Try.prog 20 #[.pointer (some ⟨g, 0, none⟩), .int .i64 j, .string s] w fun e w' => e = .returned (.int .i64 13) ∧ w' = w := by
  obtain ⟨r, cap, e, hr, hrl, hc⟩ := h.form (by omega)
  have c0 := h.c0
  have c1 := h.c1
  have c2 := h.c2
  rw [e] at c0
  rw [h0] at c1
  rw [hm] at c2
  have hmx := h.ok.few
  have z0 : ¬ (j : Int) < 0 := by omega
  clear hc h e h0 hm
  generalize D.S.length = n at *
  have z1 : ¬ (n : Int) ≤ j := by omega
  have z2 : ¬ (64 : Int) < s.size := by omega
  go_enter Try.func20, Try.ntmps20
  go_wp2
  go_ret
  exact ⟨rfl, rfl⟩
end Dv
end Go.Proofs.Yticgecbgeahijaa
