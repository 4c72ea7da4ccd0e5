/-
  The document's device in memory: a struct of three cells, a row of texts behind it; its methods.
-/
import Derived.Test.YtmkpkmkhnphogaaGreatDoorProg
import Derived.Test.YtmkpkmkhnphogaaGreatDoorGdk
import Derived.Test.YtmkpkmkhnphogaaGreatDoorGcm
import Derived.Deep.RegionHeld3
import Derived.Laws.Small
import Derived.IntWalk
import Derived.WalkKit
import Derived.BigCall
import Derived.StillTailTactics
import Derived.Laws.BitsAllLaws
import Derived.Deep.RegionLaw
import Derived.Deep.AppendLies
namespace Go.Proofs.YtmkpkmkhnphogaaGreatDoor
open Go.RowKit Tx
namespace Dv

theorem byteTy : By.Ty Tryz.prog 51 5 := ⟨Tryz.underlying51, Tryz.underlying5, by kernel_rfl⟩
theorem strTy : Own.Ty Tryz.prog 32 9 (.string ⟨#[]⟩) 16 := ⟨Tryz.underlying32, by kernel_rfl, rfl⟩
theorem str_one (s : ByteArray) : (Value.string s).oneCell' = true := rfl

/-- The device at block g: its sectors are the slice v's texts. -/
structure RefAt (w : World) (b g : Nat) (v : Value) (D : Disk) : Prop where
  lt : g < w.heap.size
  low : b ≤ g
  c0 : w.cell? ⟨g, 0, none⟩ = some v
  c1 : w.cell? ⟨g, 1, none⟩ = some (.int .i64 D.power)
  c2 : w.cell? ⟨g, 2, none⟩ = some (.int .u64 D.mask)
  free : ∀ j, j < 3 → w.frozen? ⟨g, j, none⟩ = false
  es : Own.Es Value.string w b v (D.S.map bs)
  apart : v.ownBlock ≠ some g
  ok : D.Ok

section
variable {w w' : World} {b g : Nat} {v : Value} {D : Disk}
theorem RefAt.keep (h : RefAt w b g v D) (h1 : w'.heap[g]? = w.heap[g]?) (h2 : ∀ k, v.ownBlock = some k → w'.heap[k]? = w.heap[k]?) (hs : w.heap.size ≤ w'.heap.size) : RefAt w' b g v D :=
  ⟨Nat.lt_of_lt_of_le h.lt hs, h.low, (World.cell?_of_block (w := w) (a := ⟨g, 0, none⟩) h1).trans h.c0, (World.cell?_of_block (w := w) (a := ⟨g, 1, none⟩) h1).trans h.c1, (World.cell?_of_block (w := w) (a := ⟨g, 2, none⟩) h1).trans h.c2,
    fun j hj => (World.frozen?_of_block (w := w) (a := ⟨g, j, none⟩) h1).trans (h.free j hj), h.es.keep h2 hs, h.apart, h.ok⟩
theorem RefAt.below (h : RefAt w b g v D) (hb : Below w.heap.size w w') : RefAt w' b g v D := h.keep (hb.block g h.lt) (fun k hk => hb.block k (h.es.lt k hk).2) hb.size
/-- The slice's form. -/
theorem RefAt.form (h : RefAt w b g v D) (hp : 0 < D.S.length) : ∃ r cap, v = .slice (some ⟨r, 0, none⟩) D.S.length cap ∧ r ≠ g ∧ r < w.heap.size ∧ ∀ j (hj : j < D.S.length), w.cell? ⟨r, j, none⟩ = some (.string (bs (D.S[j]))) := by
  obtain ⟨r, cap, e, h1, hat, _⟩ := h.es.form (by rw [List.length_map]; exact hp)
  rw [List.length_map] at e
  refine ⟨r, cap, e, fun e2 => h.apart (by rw [e, e2]; rfl), hat.1, fun j hj => ?_⟩
  have := hat.cell j (by rw [List.length_map]; exact hj)
  rw [Nat.zero_add] at this
  rw [this, List.getElem_map]

theorem RefAt.setPower (h : RefAt w b g v D) (p : Int) (h0 : -1 ≤ p) (h1 : p ≤ 9223372036854775807) : RefAt (w.setCell ⟨g, 1, none⟩ (.int .i64 p)) b g v ⟨D.S, p, D.mask⟩ :=
  ⟨by simpa [World.setCell] using h.lt, h.low, (World.cell?_setCell_other w _ _ _ (by simp)).trans h.c0, World.cell?_setCell_same w _ _ h.c1, (World.cell?_setCell_other w _ _ _ (by simp)).trans h.c2,
    fun j hj => by rw [World.frozen?_setCell]; exact h.free j hj, h.es.far h.apart _, h.apart, ⟨h.ok.each, h.ok.few, h0, h1, h.ok.mask⟩⟩
theorem RefAt.setMask (h : RefAt w b g v D) (m : Nat) (h1 : m < 18446744073709551616) : RefAt (w.setCell ⟨g, 2, none⟩ (.int .u64 m)) b g v ⟨D.S, D.power, m⟩ :=
  ⟨by simpa [World.setCell] using h.lt, h.low, (World.cell?_setCell_other w _ _ _ (by simp)).trans h.c0, (World.cell?_setCell_other w _ _ _ (by simp)).trans h.c1, World.cell?_setCell_same w _ _ h.c2,
    fun j hj => by rw [World.frozen?_setCell]; exact h.free j hj, h.es.far h.apart _, h.apart, ⟨h.ok.each, h.ok.few, h.ok.low, h.ok.high, h1⟩⟩
end

set_option maxRecDepth 100000 in
theorem zeros_any (n : Nat) (w : World) (hn : n ≤ 1000000) :
    Calls Tryz.prog 37 #[.int .i64 n] w fun e w' => ∃ t : ByteArray, e = .returned (.string t) ∧ Below w.heap.size w w' ∧ Kept (t = bs (List.replicate n 0)) := by
  go_enter Tryz.func37, Tryz.ntmps37
  go_wp2_with (first
    | (refine Row.wpList_make (B := w.heap.size) byteTy rfl _ _ rfl n rfl rfl (Nat.le_refl _) (by omega) ?_; intro v1 w1 hr hg; have HR := Kept.mk hr; have HG := Kept.mk hg; clear hr hg)
    | (refine By.wpList_string byteTy rfl 9 _ rfl Tryz.underlying9 rfl HR.out.bs ?_))
  go_ret
  exact ⟨_, rfl, ⟨HG.out.os, HG.out.tape, HG.out.output, HG.out.size, fun k hk => HG.out.block k hk (by simp)⟩, ⟨rfl⟩⟩

/-- The blocks of a device. -/
def blocks (g : Nat) (v : Value) (k : Nat) : Prop := k = g ∨ v.ownBlock = some k

set_option maxRecDepth 100000 in
theorem size_any (w : World) (b g : Nat) (v : Value) (D : Disk) (h : RefAt w b g v D) (hp : 0 < D.S.length) :
    Calls Tryz.prog 33 #[.pointer (some ⟨g, 0, none⟩)] w fun e w' => e = .returned (.int .i64 D.S.length) ∧ w' = w := by
  obtain ⟨r, cap, e, hr, hrl, hc⟩ := h.form hp
  have c0 := h.c0
  rw [e] at c0
  clear hc h e
  generalize D.S.length = n at *
  go_enter Tryz.func33, Tryz.ntmps33
  go_wp2
  go_ret
  exact ⟨rfl, rfl⟩

set_option maxRecDepth 100000 in
theorem restart_any (w : World) (b g : Nat) (v : Value) (D : Disk) (h : RefAt w b g v D) :
    Calls Tryz.prog 31 #[.pointer (some ⟨g, 0, none⟩)] w fun e w' => e = .returned (.tuple #[]) ∧ RefAt w' b g v D.restart ∧ Only (blocks g v) w w' := by
  have c1 := h.c1
  have c2 := h.c2
  have f1 := h.free 1 (by omega)
  have f2 := h.free 2 (by omega)
  have H := Kept.mk h
  clear h
  go_enter Tryz.func31, Tryz.ntmps31
  go_wp2
  go_end0
  exact ⟨rfl, (H.out.setPower (-1) (by decide) (by decide)).setMask 0 (by decide), ((Only.refl _ w).setCell _ _ (fun _ => .inl rfl)).setCell _ _ (fun _ => .inl rfl)⟩

set_option maxRecDepth 100000 in
theorem limit_any (w : World) (b g : Nat) (v : Value) (D : Disk) (h : RefAt w b g v D) (n : Int) (m : Nat) (hn : n ≤ 9223372036854775807) (hm : m < 18446744073709551616) :
    Calls Tryz.prog 30 #[.pointer (some ⟨g, 0, none⟩), .int .i64 n, .int .u64 m] w fun e w' => e = .returned (.tuple #[]) ∧ RefAt w' b g v (D.limit n m) ∧ Only (blocks g v) w w' := by
  have c1 := h.c1
  have c2 := h.c2
  have f1 := h.free 1 (by omega)
  have f2 := h.free 2 (by omega)
  have H := Kept.mk h
  clear h
  by_cases h0 : n < 0
  · have e : max n 0 = 0 := by omega
    go_enter Tryz.func30, Tryz.ntmps30
    go_wp2
    go_end0
    refine ⟨rfl, ?_, ((Only.refl _ w).setCell _ _ (fun _ => .inl rfl)).setCell _ _ (fun _ => .inl rfl)⟩
    unfold Disk.limit
    rw [e]
    exact (H.out.setPower 0 (by decide) (by decide)).setMask m hm
  · have e : max n 0 = n := by omega
    go_enter Tryz.func30, Tryz.ntmps30
    go_wp2
    go_end0
    refine ⟨rfl, ?_, ((Only.refl _ w).setCell _ _ (fun _ => .inl rfl)).setCell _ _ (fun _ => .inl rfl)⟩
    unfold Disk.limit
    rw [e]
    exact (H.out.setPower n (by omega) hn).setMask m hm

set_option maxRecDepth 100000 in
theorem read_any (w : World) (b g : Nat) (v : Value) (D : Disk) (h : RefAt w b g v D) (hp : 0 < D.S.length) (k : Int) (hk0 : -9223372036854775808 ≤ k) (hk1 : k ≤ 9223372036854775807) :
    Calls Tryz.prog 22 #[.pointer (some ⟨g, 0, none⟩), .int .i64 k] w fun e w' => ∃ t : ByteArray, e = .returned (.tuple #[.string t, .int .i64 (D.read k).2]) ∧ Kept (t = bs (D.read k).1) ∧ w' = w := by
  obtain ⟨r, cap, e, hr, hrl, hc⟩ := h.form hp
  have c0 := h.c0
  rw [e] at c0
  by_cases hh : D.has k
  · obtain ⟨h0, h1⟩ := id hh
    obtain ⟨j, rfl⟩ := Int.eq_ofNat_of_zero_le h0
    have hj : j < D.S.length := by omega
    have hcj := hc j hj
    have hR : Kept (bs D.S[j] = bs (D.read j).1 ∧ (D.read j).2 = 0) := ⟨by unfold Disk.read; rw [if_pos hh]; unfold Disk.at; simp [hj]⟩
    have hmx := h.ok.few
    generalize bs D.S[j] = t at hcj hR
    clear hc h e hh
    generalize hn : D.S.length = n at *
    have HN := Kept.mk hn
    clear hn
    go_enter Tryz.func22, Tryz.ntmps22
    go_wp2
    go_ret2
    exact ⟨_, by rw [hR.out.2]; rfl, ⟨hR.out.1⟩, rfl⟩
  · have hR : Kept ((D.read k).1 = [] ∧ (D.read k).2 = 1) := ⟨by unfold Disk.read; rw [if_neg hh]; exact ⟨rfl, rfl⟩⟩
    by_cases h0 : k < 0
    · clear hc h e hh
      generalize D.S.length = n at *
      go_enter Tryz.func22, Tryz.ntmps22
      go_wp2
      go_ret2
      exact ⟨_, by rw [hR.out.2]; rfl, ⟨by rw [hR.out.1]; rfl⟩, rfl⟩
    · have h1 : (D.S.length : Int) ≤ k := by unfold Disk.has at hh; omega
      clear hc h e hh
      generalize D.S.length = n at *
      go_enter Tryz.func22, Tryz.ntmps22
      go_wp2
      go_ret2
      exact ⟨_, by rw [hR.out.2]; rfl, ⟨by rw [hR.out.1]; rfl⟩, rfl⟩
end Dv
end Go.Proofs.YtmkpkmkhnphogaaGreatDoor

/-
  The document's device: Write.
-/
namespace Go.Proofs.YtmkpkmkhnphogaaGreatDoor
open Go.RowKit Tx
namespace Dv

theorem RefAt.setSector {w : World} {b g r n cap : Nat} {D : Disk} (h : RefAt w b g (.slice (some ⟨r, 0, none⟩) n cap) D) (j : Nat) (hj : j < D.S.length) (x : List UInt8) (hx : x.length = 64) :
    RefAt (w.setCell ⟨r, j, none⟩ (.string (bs x))) b g (.slice (some ⟨r, 0, none⟩) n cap) ⟨D.S.set j x, D.power, D.mask⟩ := by
  have hne : r ≠ g := fun e => h.apart (by rw [e]; rfl)
  have far : ∀ i, (⟨r, j, none⟩ : Addr) ≠ ⟨g, i, none⟩ := fun i e => hne (by injection e)
  refine ⟨by simpa [World.setCell] using h.lt, h.low, (World.cell?_setCell_other w _ _ _ (far 0)).trans h.c0, (World.cell?_setCell_other w _ _ _ (far 1)).trans h.c1, (World.cell?_setCell_other w _ _ _ (far 2)).trans h.c2,
    fun i hi => by rw [World.frozen?_setCell]; exact h.free i hi, ?_, h.apart, ?_⟩
  · have := h.es.put j (by rw [List.length_map]; exact hj) (bs x)
    rw [← List.map_set] at this
    exact this
  · refine ⟨fun s hs => ?_, by rw [List.length_set]; exact h.ok.few, h.ok.low, h.ok.high, h.ok.mask⟩
    rcases List.mem_or_eq_of_mem_set hs with h1 | h1
    · exact h.ok.each s h1
    · rw [h1]; exact hx
theorem RefAt.row {w : World} {b g r n cap : Nat} {D : Disk} (h : RefAt w b g (.slice (some ⟨r, 0, none⟩) n cap) D) (j : Nat) (hj : j < D.S.length) : w.frozen? ⟨r, j, none⟩ = false := by
  obtain ⟨r', cap', e, _, _, h3, _, h5, _⟩ := h.es.resolve_left (fun e => by cases e.1)
  injection e with e1 e2 e3
  injection e1 with e1
  injection e1 with e1
  subst e1
  exact (h5 j (by rw [List.length_map] at h3; omega)).2
theorem RefAt.some {w : World} {b g r n cap : Nat} {D : Disk} (h : RefAt w b g (.slice (some ⟨r, 0, none⟩) n cap) D) (j : Nat) (hj : j < D.S.length) : ∃ u, w.cell? ⟨r, j, none⟩ = some (.string u) := by
  obtain ⟨r', cap', e, _, _, hc⟩ := h.form (by omega)
  injection e with e1
  injection e1 with e1
  injection e1 with e1
  subst e1
  exact ⟨_, hc j hj⟩
/-- What a write leaves. -/
structure Written (b g : Nat) (v : Value) (w w' : World) (D : Disk) : Prop where
  is : RefAt w' b g v D
  only : Only (blocks g v) w w'

set_option maxHeartbeats 1000000 in
set_option maxRecDepth 100000 in
theorem write_out (w : World) (b g : Nat) (v : Value) (D : Disk) (h : RefAt w b g v D) (hp : 0 < D.S.length) (k : Int) (hk0 : -9223372036854775808 ≤ k) (hk1 : k ≤ 9223372036854775807) (s : ByteArray) (hs : s.size ≤ 9223372036854775807) (hh : ¬ (D.has k ∧ (toL s).length ≤ 64)) :
    Calls Tryz.prog 17 #[.pointer (some ⟨g, 0, none⟩), .int .i64 k, .string s] w fun e w' => e = .returned (.int .i64 1) ∧ w' = w := by
  obtain ⟨r, cap, e, hr, hrl, hc⟩ := h.form hp
  have c0 := h.c0
  rw [e] at c0
  rw [toL_length] at hh
  unfold Disk.has at hh
  have hmx := h.ok.few
  clear hc h e
  generalize D.S.length = n at *
  by_cases h0 : k < 0
  · go_enter Tryz.func17, Tryz.ntmps17
    go_wp2
    go_ret
    exact ⟨rfl, rfl⟩
  · by_cases h1 : (n : Int) ≤ k
    · go_enter Tryz.func17, Tryz.ntmps17
      go_wp2
      go_ret
      exact ⟨rfl, rfl⟩
    · have h64 : (64 : Int) < s.size := by omega
      clear hh
      go_enter Tryz.func17, Tryz.ntmps17
      go_wp2
      go_ret
      exact ⟨rfl, rfl⟩

set_option maxHeartbeats 1000000 in
set_option maxRecDepth 100000 in
theorem write_none (w : World) (b g : Nat) (v : Value) (D : Disk) (h : RefAt w b g v D) (j : Nat) (hj : j < D.S.length) (s : ByteArray) (hs : s.size ≤ 64) (h0 : D.power = 0) (hm : D.mask = 0) :
    Calls Tryz.prog 17 #[.pointer (some ⟨g, 0, none⟩), .int .i64 j, .string s] w fun e w' => e = .returned (.int .i64 13) ∧ w' = w := by
  obtain ⟨r, cap, e, hr, hrl, hc⟩ := h.form (by omega)
  have c0 := h.c0
  have c1 := h.c1
  have c2 := h.c2
  rw [e] at c0
  rw [h0] at c1
  rw [hm] at c2
  have hmx := h.ok.few
  have z0 : ¬ (j : Int) < 0 := by omega
  clear hc h e h0 hm
  generalize D.S.length = n at *
  have z1 : ¬ (n : Int) ≤ j := by omega
  have z2 : ¬ (64 : Int) < s.size := by omega
  go_enter Tryz.func17, Tryz.ntmps17
  go_wp2
  go_ret
  exact ⟨rfl, rfl⟩
end Dv
end Go.Proofs.YtmkpkmkhnphogaaGreatDoor

/-
  The document's device: a write for which there is power.
-/
namespace Go.Proofs.YtmkpkmkhnphogaaGreatDoor
open Go.RowKit Tx
namespace Dv

set_option maxHeartbeats 1000000 in
set_option maxRecDepth 100000 in
theorem write_on (w : World) (b g r n cap : Nat) (D : Disk) (h : RefAt w b g (.slice (some ⟨r, 0, none⟩) n cap) D) (hn : D.S.length = n) (j : Nat) (hj : j < n) (s : ByteArray) (hs : s.size ≤ 64) (hpw : D.power ≠ 0) :
    Calls Tryz.prog 17 #[.pointer (some ⟨g, 0, none⟩), .int .i64 j, .string s] w fun e w' => e = .returned (.int .i64 0) ∧ Written b g (.slice (some ⟨r, 0, none⟩) n cap) w w' (D.write j (toL s)).2 := by
  have hW : Kept ((D.write j (toL s)).2 = ⟨D.S.set j (pad (toL s)), if 0 < D.power then D.power - 1 else D.power, D.mask⟩) := ⟨by
    rw [Disk.write_on ⟨⟨by omega, by omega⟩, by rw [toL_length]; exact hs⟩ hpw]
    rfl⟩
  have hr : r ≠ g := fun e => h.apart (by rw [e]; rfl)
  have hr2 : g ≠ r := fun e => hr e.symm
  have c0 := h.c0
  have c1 := h.c1
  have c2 := h.c2
  have hmx := h.ok.few
  rw [hn] at hmx
  have HN := Kept.mk hn
  clear hn
  have hlow := h.ok.low
  have hhigh := h.ok.high
  have H := Kept.mk h
  clear h
  have z0 : ¬ (j : Int) < 0 := by omega
  have z1 : ¬ (n : Int) ≤ j := by omega
  have z2 : ¬ (64 : Int) < s.size := by omega
  have z3 : (j : Int) < n := by omega
  have z4 : (0 : Int) ≤ j := by omega
  have hz : ∀ w, Calls Tryz.prog 37 #[.int .i64 (64 - (s.size : Int))] w fun e w' => ∃ t : ByteArray, e = .returned (.string t) ∧ Below w.heap.size w w' ∧ Kept (t = bs (List.replicate (64 - s.size) 0)) := fun w => by
    rw [show (64 - (s.size : Int)) = ((64 - s.size : Nat) : Int) by omega]
    exact zeros_any _ w (by omega)
  have HZ := Kept.mk hz
  clear hz
  obtain ⟨p, hp⟩ : ∃ p, D.power = p := ⟨_, rfl⟩
  rw [hp] at c1 hpw hlow hhigh
  have HP := Kept.mk hp
  clear hp
  have y1 : IntKind.i64.wrap (64 - (s.size : Int)) = 64 - (s.size : Int) := IntWalk.i64_in _ (by omega)
  have y2 : (64 - (s.size : Int) + 9223372036854775808) % 18446744073709551616 - 9223372036854775808 = 64 - (s.size : Int) := by omega
  by_cases hp0 : 0 < p
  · have hpe : (p == 0) = false := by simpa using hpw
    have hpn : (p != 0) = true := by simpa using hpw
    have y3 : (p - 1 + 9223372036854775808) % 18446744073709551616 - 9223372036854775808 = p - 1 := by omega
    go_enter Tryz.func17, Tryz.ntmps17
    go_wp2_with (go_at_call 37
                 refine (HZ.out _).mono ?_
                 rintro e w1 ⟨t, rfl, hb1, ht⟩
                 have HB1 := Kept.mk hb1
                 have H1 := Kept.mk (H.out.below hb1)
                 have d0 := H1.out.c0
                 have d1 : w1.cell? ⟨g, 1, none⟩ = some (.int .i64 p) := by rw [← HP.out]; exact H1.out.c1
                 have f1 := H1.out.free 1 (by omega)
                 have fr := H1.out.row j (by rw [HN.out]; exact hj)
                 obtain ⟨u, cr⟩ := H1.out.some j (by rw [HN.out]; exact hj)
                 have HT := Kept.mk (pad_bs s t ht.out)
                 have hts : t.size ≤ 64 := by rw [ht.out, bs_size, List.length_replicate]; omega
                 have hSm : ¬ 9223372036854775807 < s.size + t.size := by omega
                 have cr2 : (w1.setCell ⟨g, 1, none⟩ (.int .i64 (p - 1))).cell? ⟨r, j, none⟩ = some (.string u) := (World.cell?_setCell_other w1 _ _ _ (fun e => hr2 (by injection e))).trans cr
                 clear hb1 ht)
    go_ret
    refine ⟨rfl, ?_, ?_⟩
    · rw [hW.out, HP.out, if_pos hp0, HT.out]
      exact (H1.out.setPower (p - 1) (by omega) (by omega)).setSector j (by rw [HN.out]; exact hj) _ (pad_length _ (by rw [toL_length]; exact hs))
    · exact (((Only.refl _ w).below HB1.out).setCell _ _ (fun _ => .inl rfl)).setCell _ _ (fun _ => .inr rfl)
  · have hp1 : p = -1 := by omega
    subst hp1
    clear hp0 hpw hlow hhigh
    go_enter Tryz.func17, Tryz.ntmps17
    go_wp2_with (go_at_call 37
                 refine (HZ.out _).mono ?_
                 rintro e w1 ⟨t, rfl, hb1, ht⟩
                 have HB1 := Kept.mk hb1
                 have H1 := Kept.mk (H.out.below hb1)
                 have d0 := H1.out.c0
                 have d1 : w1.cell? ⟨g, 1, none⟩ = some (.int .i64 (-1)) := by rw [← HP.out]; exact H1.out.c1
                 have f1 := H1.out.free 1 (by omega)
                 have fr := H1.out.row j (by rw [HN.out]; exact hj)
                 obtain ⟨u, cr⟩ := H1.out.some j (by rw [HN.out]; exact hj)
                 have HT := Kept.mk (pad_bs s t ht.out)
                 have hts : t.size ≤ 64 := by rw [ht.out, bs_size, List.length_replicate]; omega
                 have hSm : ¬ 9223372036854775807 < s.size + t.size := by omega
                 clear hb1 ht)
    go_ret
    refine ⟨rfl, ?_, ?_⟩
    · rw [hW.out, HP.out, if_neg (by decide), HT.out]
      have := H1.out.setSector j (by rw [HN.out]; exact hj) _ (pad_length (toL s) (by rw [toL_length]; exact hs))
      rw [HP.out] at this
      exact this
    · exact ((Only.refl _ w).below HB1.out).setCell _ _ (fun _ => .inr rfl)
end Dv
end Go.Proofs.YtmkpkmkhnphogaaGreatDoor

/-
  The document's device: a write that is torn.
-/
namespace Go.Proofs.YtmkpkmkhnphogaaGreatDoor
open Go.RowKit Tx
namespace Dv

/-- A mask's bit. -/
theorem mask_bit (m q : Nat) (hm : m < 18446744073709551616) : bits .and .u64 ((m : Int) / 2 ^ q) 1 = ((m / 2 ^ q % 2 : Nat) : Int) := by
  have h := u64_and_nat (m / 2 ^ q) 1 (Nat.lt_of_le_of_lt (Nat.div_le_self _ _) hm) (by decide)
  rw [Nat.and_one_is_mod] at h
  rw [← h]
  congr 1
theorem torn_next (m : Nat) (t old : List UInt8) (q : Nat) (hq : q < 64) (b : UInt8) (hb : (torn m t old).getD q 0 = b) : (torn m t old).take q ++ [b] = (torn m t old).take (q + 1) := by
  have hl : q < (torn m t old).length := by rw [torn_length]; exact hq
  rw [List.take_succ_eq_append_getElem hl, ← hb, List.getD_eq_getElem?_getD, List.getElem?_eq_getElem hl]
  rfl
theorem getD_at (s : ByteArray) (q : Nat) (h : q < s.size) : (toL s).getD q 0 = s[q]'h := by
  rw [List.getD_eq_getElem?_getD, List.getElem?_eq_getElem (by rw [toL_length]; exact h)]
  rfl
structure TornIn (w wr : World) (v : Value) (l : List UInt8) : Prop where
  below : Below w.heap.size w wr
  row : By.Bs wr w.heap.size v l

theorem TornIn.push {w wr w2 : World} {v v2 : Value} {m q : Nat} {t old : List UInt8} (h : TornIn w wr v ((torn m t old).take q)) (hq : q < 64) {b : UInt8} (he : By.Bs w2 w.heap.size v2 ((torn m t old).take q ++ [b])) (hg : wr.grownBy w2 v.ownBlock) (hb : (torn m t old).getD q 0 = b) : TornIn w w2 v2 ((torn m t old).take (q + 1)) :=
  ⟨h.below.grown hg h.below.size (fun k hk => (h.row.lt k hk).1), by rw [← torn_next m t old q hq b hb]; exact he⟩

set_option maxHeartbeats 2000000 in
set_option maxRecDepth 100000 in
theorem write_torn (w : World) (b g r n cap : Nat) (D : Disk) (h : RefAt w b g (.slice (some ⟨r, 0, none⟩) n cap) D) (hn : D.S.length = n) (j : Nat) (hj : j < n) (s : ByteArray) (hs : s.size ≤ 64) (hpw : D.power = 0) (m : Nat) (hm : D.mask = m) (hm0 : m ≠ 0) :
    Calls Tryz.prog 17 #[.pointer (some ⟨g, 0, none⟩), .int .i64 j, .string s] w fun e w' => e = .returned (.int .i64 13) ∧ Written b g (.slice (some ⟨r, 0, none⟩) n cap) w w' (D.write j (toL s)).2 := by
  have hr : r ≠ g := fun e => h.apart (by rw [e]; rfl)
  have hr2 : g ≠ r := fun e => hr e.symm
  have c0 := h.c0
  have c1 := h.c1
  have c2 := h.c2
  rw [hpw] at c1
  rw [hm] at c2
  have hmx := h.ok.few
  rw [hn] at hmx
  have hmm := h.ok.mask
  rw [hm] at hmm
  have HN := Kept.mk hn
  have H := Kept.mk h
  clear h hn
  have z0 : ¬ (j : Int) < 0 := by omega
  have z1 : ¬ (n : Int) ≤ j := by omega
  have z2 : ¬ (64 : Int) < s.size := by omega
  have z3 : (j : Int) < n := by omega
  have z4 : (0 : Int) ≤ j := by omega
  have z5 : ((m : Int) == 0) = false := by simpa using hm0
  have y2 : (64 - (s.size : Int) + 9223372036854775808) % 18446744073709551616 - 9223372036854775808 = 64 - (s.size : Int) := by omega
  have hz : ∀ w, Calls Tryz.prog 37 #[.int .i64 (64 - (s.size : Int))] w fun e w' => ∃ t : ByteArray, e = .returned (.string t) ∧ Below w.heap.size w w' ∧ Kept (t = bs (List.replicate (64 - s.size) 0)) := fun w => by
    rw [show (64 - (s.size : Int)) = ((64 - s.size : Nat) : Int) by omega]
    exact zeros_any _ w (by omega)
  have HZ := Kept.mk hz
  have HP := Kept.mk hpw
  have HM := Kept.mk hm
  clear hz hpw hm
  go_enter Tryz.func17, Tryz.ntmps17
  go_wp2_with (go_at_call 37
               refine (HZ.out _).mono ?_
               rintro e w1 ⟨t, rfl, hb1, ht⟩
               have HB1 := Kept.mk hb1
               have H1 := Kept.mk (H.out.below hb1)
               have d0 := H1.out.c0
               have d1 : w1.cell? ⟨g, 1, none⟩ = some (.int .i64 0) := by rw [← HP.out]; exact H1.out.c1
               have hts : t.size ≤ 64 := by rw [ht.out, bs_size, List.length_replicate]; omega
               have hSm : ¬ 9223372036854775807 < s.size + t.size := by omega
               have HT := Kept.mk (pad_bs s t ht.out)
               clear hb1 ht)
  obtain ⟨u, hu⟩ := H1.out.some j (by rw [HN.out]; exact hj)
  have hux : Kept (u = bs (D.at j) ∧ u.size = 64) := ⟨by
    obtain ⟨r', cap', e, _, _, hc⟩ := H1.out.form (by rw [HN.out]; omega)
    injection e with e1
    injection e1 with e1
    injection e1 with e1
    subst e1
    have h1 := hc j (by rw [HN.out]; exact hj)
    rw [hu] at h1
    injection h1 with h1
    injection h1 with h1
    have h2 : D.at j = D.S[j]'(by rw [HN.out]; exact hj) := by unfold Disk.at; simp [show j < D.S.length by rw [HN.out]; exact hj]
    refine ⟨by rw [h1, h2], ?_⟩
    rw [h1, bs_size, ← h2]
    exact H.out.ok.at ⟨by omega, by rw [HN.out]; omega⟩⟩
  have HU := Kept.mk hu
  have hus := hux.out.2
  obtain ⟨x, hx⟩ : ∃ x, s ++ t = x := ⟨_, rfl⟩
  have hxs : x.size = 64 := by rw [← hx, HT.out, bs_size, pad_length _ (by rw [toL_length]; exact hs)]
  have HX : Kept (x = bs (pad (toL s))) := ⟨by rw [← hx]; exact HT.out⟩
  simp only [hx]
  clear hu hx hSm HT d0 d1
  go_loopw [8, 9] (fun v i wr => ∃ q : Nat, q ≤ 64 ∧ i = .int .i64 q ∧ Kept (TornIn w1 wr v ((torn m (toL x) (toL u)).take q))) (fun _ i _ => 64 - (intOf i).toNat)
  case atStart => exact ⟨0, by omega, rfl, ⟨⟨Below.refl _ _, By.Bs.nil _ _⟩⟩⟩
  case round =>
    obtain ⟨q, hq, rfl, hI⟩ := hrel
    have H2 := Kept.mk (H1.out.below hI.out.below)
    have d0 := H2.out.c0
    have d2 : wr.cell? ⟨g, 2, none⟩ = some (.int .u64 m) := by rw [← HM.out]; exact H2.out.c2
    have hu : wr.cell? ⟨r, j, none⟩ = some (.string u) := (hI.out.below.cell (World.block_lt_of_cell? w1 _ HU.out)).trans HU.out
    by_cases hlt : q < 64
    · have hqx : q < x.size := by omega
      have hqu : q < u.size := by omega
      have y3 : (0 : Int) ≤ q := by omega
      have y4 : (q : Int) ≤ 64 := by omega
      have hbit := mask_bit m q hmm
      have hat := torn_at m (toL x) (toL u) q hlt
      have hlen : ((torn m (toL x) (toL u)).take q).length + 1 ≤ 140737488355328 := by rw [List.length_take, torn_length]; omega
      have HLn := Kept.mk hlen
      by_cases hb : m / 2 ^ q % 2 = 1
      · rw [if_pos hb, getD_at x q hqx] at hat
        have HA := Kept.mk hat
        rw [hb] at hbit
        clear hat hb hlen
        go_wp2_with (at_builtin; refine By.wpList_append1 byteTy rfl _ _ rfl rfl hI.out.row hI.out.below.size (x[q]'hqx) _ rfl rfl HLn.out ?_; intro v2 w2 hE2 hg2)
        have HI2 := Kept.mk (hI.out.push hlt hE2 hg2 HA.out)
        clear hE2 hg2
        go_wp2
        go_roundw
        case rel => exact ⟨q + 1, by omega, by go_num, HI2⟩
        case measure => simp [intOf]; omega
      · have hb0 : m / 2 ^ q % 2 = 0 := by omega
        rw [if_neg hb, getD_at u q hqu] at hat
        have HA := Kept.mk hat
        rw [hb0] at hbit
        clear hat hb hb0 hlen
        go_wp2_with (at_builtin; refine By.wpList_append1 byteTy rfl _ _ rfl rfl hI.out.row hI.out.below.size (u[q]'hqu) _ rfl rfl HLn.out ?_; intro v2 w2 hE2 hg2)
        have HI2 := Kept.mk (hI.out.push hlt hE2 hg2 HA.out)
        clear hE2 hg2
        go_wp2
        go_roundw
        case rel => exact ⟨q + 1, by omega, by go_num, HI2⟩
        case measure => simp [intOf]; omega
    · have hq64 : q = 64 := by omega
      subst hq64
      have hall : Kept (By.Bs wr w1.heap.size u8 (torn m (toL x) (toL u))) := ⟨by have := hI.out.row; rw [List.take_of_length_le (by rw [torn_length]; exact Nat.le_refl _)] at this; exact this⟩
      have hstr : (convert 51 9 u8).run Tryz.prog wr.drew = .ok (.string (bs (torn m (toL x) (toL u)))) wr.drew := By.run_string byteTy 9 Tryz.underlying9 hall.out.drew
      have fr := H2.out.row j (by rw [HN.out]; exact hj)
      have f2 := H2.out.free 2 (by omega)
      have hud : wr.drew.cell? ⟨r, j, none⟩ = some (.string u) := hu
      have frd : wr.drew.frozen? ⟨r, j, none⟩ = false := fr
      have cm : (wr.drew.setCell ⟨r, j, none⟩ (.string (bs (torn m (toL x) (toL u))))).cell? ⟨g, 2, none⟩ = some (.int .u64 m) := (World.cell?_setCell_other wr.drew _ _ _ (fun e => hr (by injection e))).trans d2
      have HR : Kept ((D.write j (toL s)).2 = ⟨D.S.set j (torn m (toL x) (toL u)), 0, 0⟩) := ⟨by
        rw [Disk.write_dead ⟨⟨by omega, by rw [HN.out]; omega⟩, by rw [toL_length]; exact hs⟩ HP.out, HM.out, HX.out, hux.out.1, toL_bs, toL_bs]
        rfl⟩
      have HB : Kept (Only (blocks g (.slice (some ⟨r, 0, none⟩) n cap)) w wr) := ⟨((Only.refl _ w).below HB1.out).below hI.out.below⟩
      generalize hy : bs (torn m (toL x) (toL u)) = y at hstr cm
      have HY := Kept.mk hy
      clear hy
      go_wp2
      refine wp_region_still_tail 8 (by kernel_rfl) (by kernel_rfl) ?_
      simp only [List.take_succ_cons, List.take_zero, List.drop_succ_cons, List.drop_zero]
      repeat still_step
      refine wpStill_nil ?_
      go_wp2
      go_ret
      refine ⟨rfl, ?_, ((HB.out.setCell ⟨r, j, none⟩ (.string y) (fun _ => .inr rfl)).setCell ⟨g, 2, none⟩ (.int .u64 0) (fun _ => .inl rfl)).drew⟩
      rw [HR.out, ← HY.out]
      have h4 := (H2.out.setSector j (by rw [HN.out]; exact hj) _ (torn_length m (toL x) (toL u))).setMask 0 (by decide)
      rw [HP.out] at h4
      exact h4.below ((Below.refl _ _).drew)
end Dv
end Go.Proofs.YtmkpkmkhnphogaaGreatDoor

/-
  The document's device: New.
-/
namespace Go.Proofs.YtmkpkmkhnphogaaGreatDoor
open Go.RowKit Tx
namespace Dv

theorem new_bad (n : Int) (w : World) (h0 : -9223372036854775808 ≤ n) (h1 : n ≤ 9223372036854775807) (h : n < 1 ∨ 4096 < n) :
    Calls Tryz.prog 29 #[.int .i64 n] w fun e w' => e = .returned (.tuple #[.pointer none, .int .i64 1]) ∧ w' = w := by
  by_cases hn : n < 1
  · go_enter Tryz.func29, Tryz.ntmps29
    go_wp2
    go_ret2
    exact ⟨rfl, rfl⟩
  · have hn2 : 4096 < n := by omega
    clear h
    go_enter Tryz.func29, Tryz.ntmps29
    go_wp2
    go_ret2
    exact ⟨rfl, rfl⟩

theorem fresh_succ (i : Nat) : (fresh i).S.map bs ++ [bs blank] = (fresh (i + 1)).S.map bs := by
  simp [fresh, List.replicate_succ']
/-- A device, one sector more. -/
theorem RefAt.push {w w2 w3 : World} {b g i : Nat} {v v2 : Value} (h : RefAt w b g v (fresh i)) (hi : i + 1 ≤ 4096) (hb : Below w.heap.size w w2) (he : Own.Es Value.string w3 b v2 ((fresh (i + 1)).S.map bs)) (hg : w2.grownBy w3 v.ownBlock) : RefAt (w3.setCell ⟨g, 0, none⟩ v2) b g v2 (fresh (i + 1)) := by
  have h2 := h.below hb
  have hgb : w3.heap[g]? = w2.heap[g]? := hg.block g h2.lt (fun e => h2.apart e.symm)
  have c : ∀ j, w3.cell? ⟨g, j, none⟩ = w2.cell? ⟨g, j, none⟩ := fun j => World.cell?_of_block (w := w2) (a := ⟨g, j, none⟩) hgb
  have hap : v2.ownBlock ≠ Option.some g := by
    intro e
    obtain ⟨r, cap, e2, _, hat, _⟩ := he.form (by simp [fresh])
    rw [e2] at e
    injection e with e
    subst e
    have h0 := hat.cell 0 (by simp [fresh])
    rw [Nat.zero_add, c 0, h2.c0] at h0
    obtain ⟨A, k, e3⟩ := h2.es.len
    rw [e3] at h0
    injection h0 with h0
    cases h0
  refine ⟨by have := hg.size; have := h2.lt; simp only [World.setCell, Array.size_modify]; omega, h.low, World.cell?_setCell_same w3 _ _ ((c 0).trans h2.c0), (World.cell?_setCell_other w3 _ _ _ (by simp)).trans ((c 1).trans h2.c1), (World.cell?_setCell_other w3 _ _ _ (by simp)).trans ((c 2).trans h2.c2),
    fun j hj => ?_, he.far hap _, hap, fresh_ok _ hi⟩
  rw [World.frozen?_setCell, World.frozen?_of_block (w := w2) (a := ⟨g, j, none⟩) hgb]
  exact h2.free j hj

theorem RefAt.still {w w2 w3 : World} {b g : Nat} {D : Disk} {v : Value} (h : RefAt w b g v D) (hb : Below w.heap.size w w2) (hg : w2.grownBy w3 v.ownBlock) : w3.cell? ⟨g, 0, none⟩ = Option.some v ∧ w3.frozen? ⟨g, 0, none⟩ = false := by
  have h2 := h.below hb
  have hgb : w3.heap[g]? = w2.heap[g]? := hg.block g h2.lt (fun e => h2.apart e.symm)
  exact ⟨(World.cell?_of_block (w := w2) (a := ⟨g, 0, none⟩) hgb).trans h2.c0, (World.frozen?_of_block (w := w2) (a := ⟨g, 0, none⟩) hgb).trans (h2.free 0 (by omega))⟩
/-- New's loop. -/
structure NewIn (w wr : World) (i : Nat) (v : Value) : Prop where
  is : RefAt wr w.heap.size w.heap.size v (fresh i)
  below : Below w.heap.size w wr
theorem new_start (w : World) : NewIn w (w.alloc (.cells #[.slice none 0 0, .int .i64 (-1), .int .u64 0] 76)) 0 (.slice none 0 0) := by
  have hc : ∀ j, (w.alloc (.cells #[.slice none 0 0, .int .i64 (-1), .int .u64 0] 76)).cell? ⟨w.heap.size, j, none⟩ = (#[Value.slice none 0 0, .int .i64 (-1), .int .u64 0] : Array Value)[j]? := fun j => cell_of_row _ _ j _ _ (0, 0) (heap_alloc_new w _)
  exact ⟨⟨by simp, Nat.le_refl _, hc 0, hc 1, hc 2, fun j _ => frozen_of_row _ _ j _ _ (heap_alloc_new w _), Own.Es.nil _ _ _, (fun e => by cases e), fresh_ok 0 (by omega)⟩, (Below.refl _ _).alloc (Nat.le_refl _) _⟩

set_option maxHeartbeats 1000000 in
set_option maxRecDepth 100000 in
theorem new_any (n : Nat) (w : World) (h1 : 1 ≤ n) (h2 : n ≤ 4096) :
    Calls Tryz.prog 29 #[.int .i64 n] w fun e w' => e = .returned (.tuple #[.pointer (some ⟨w.heap.size, 0, none⟩), .int .i64 0]) ∧ (∃ v, RefAt w' w.heap.size w.heap.size v (fresh n)) ∧ Below w.heap.size w w' := by
  have H0 := Kept.mk (new_start w)
  have hbd : ∀ W : World, (Instr.build 76 #[(1, .int .i64 (-1))]).run Tryz.prog W = .ok (.agg #[.slice none 0 0, .int .i64 (-1), .int .u64 0]) W := fun W => by kernel_rfl
  have z1 : ¬ (n : Int) < 1 := by omega
  have z2 : ¬ (4096 : Int) < n := by omega
  go_enter Tryz.func29, Tryz.ntmps29
  go_wp2
  generalize w.alloc (.cells #[.slice none 0 0, .int .i64 (-1), .int .u64 0] 76) = w0 at H0 ⊢
  go_loopw [5] (fun x wr => ∃ (i : Nat) (v : Value), i ≤ n ∧ x = .int .i64 i ∧ Kept (NewIn w wr i v)) (fun x _ => n - (intOf x).toNat)
  case atStart => exact ⟨0, _, by omega, rfl, H0⟩
  case round =>
    obtain ⟨i, v, hi, rfl, HI⟩ := hrel
    by_cases hlt : i < n
    · have d0 := HI.out.is.c0
      have f0 := HI.out.is.free 0 (by omega)
      have hd0 : wr.drew.cell? ⟨w.heap.size, 0, none⟩ = some v := d0
      go_wp2
      go_region_law (first
        | (refine Own.step_append1 strTy str_one rfl _ _ rfl rfl HE2.out HL2.out (bs blank) _ (by rw [HT.out]) rfl HN1.out HN2.out ?_
           intro v3 w3 hE3 hg3 _
           obtain ⟨A3, n3, k3, rfl⟩ : ∃ A n k, v3 = Value.slice A n k := by
             obtain ⟨A, k, e⟩ := hE3.len
             exact ⟨A, _, k, e⟩
           have HE3 : Kept (NewIn w (w3.setCell ⟨w.heap.size, 0, none⟩ (.slice A3 n3 k3)) (i + 1) (.slice A3 n3 k3)) := ⟨⟨HI.out.is.push (by omega) HB2.out (by rw [← fresh_succ]; exact hE3) hg3, ((HI.out.below.trans (HB2.out.mono HI.out.below.size)).grown hg3 HL2.out (fun k hk => (HI.out.is.es.lt k hk).1)).setCell (Nat.le_refl _) _⟩⟩
           obtain ⟨c3, f3⟩ := HI.out.is.still HB2.out hg3
           clear hE3 hg3)
        | (go_simp
           go_at_call 37
           refine (zeros_any 64 _ (by omega)).mono ?_
           rintro e w2 ⟨t, rfl, hb2, ht⟩
           have HT : Kept (t = bs blank) := ⟨ht.out⟩
           have HB2 : Kept (Below wr.heap.size wr w2) := ⟨((Below.refl _ _).drew).trans hb2⟩
           have HE2 : Kept (Own.Es Value.string w2 w.heap.size v ((fresh i).S.map bs)) := ⟨(HI.out.is.below HB2.out).es⟩
           have HL2 : Kept (w.heap.size ≤ w2.heap.size) := ⟨Nat.le_trans HI.out.below.size HB2.out.size⟩
           have HN1 : Kept ((((fresh i).S.map bs).length + 1) * 16 ≤ 140737488355328) := ⟨by simp only [List.length_map, fresh, List.length_replicate]; omega⟩
           have HN2 : Kept (((fresh i).S.map bs).length + 1 ≤ maxLen) := ⟨by simp only [List.length_map, fresh, List.length_replicate]; unfold maxLen; omega⟩
           have d2 : w2.cell? ⟨w.heap.size, 0, none⟩ = some v := (HI.out.is.below HB2.out).c0
           have d2a : (w2.alloc (.cells #[.string t] 9)).cell? ⟨w.heap.size, 0, none⟩ = some v := (World.cell?_alloc_lt _ _ _ (Nat.lt_of_lt_of_le HI.out.is.lt HB2.out.size)).trans d2
           clear hb2 ht))
      all_goals
        go_wp2
        go_roundw
        case rel => exact ⟨i + 1, _, by omega, by go_num, HE3⟩
        case measure => simp [intOf]; omega
    · have he : i = n := by omega
      subst he
      go_wp2
      go_ret2
      exact ⟨rfl, ⟨v, HI.out.is⟩, HI.out.below⟩
end Dv
end Go.Proofs.YtmkpkmkhnphogaaGreatDoor
