/-
  The document's device in memory: a struct of three cells, a row of texts behind it; its methods.
-/
import Derived.Test.YticgecbgeahijaaProg
import Derived.Test.YticgecbgeahijaaDisk
import Derived.Test.YticgecbgeahijaaTxt
import Derived.Test.YticgecbgeahijaaRow
import Derived.Deep.RegionHeld3
import Derived.Laws.Small
namespace Go.Proofs.Yticgecbgeahijaa
open Go.RowKit Tx
namespace Dv

theorem byteTy : By.Ty Try.prog 54 5 := ⟨Try.underlying54, Try.underlying5, by kernel_rfl⟩
theorem strTy : Own.Ty Try.prog 46 9 (.string ⟨#[]⟩) 16 := ⟨Try.underlying46, by kernel_rfl, rfl⟩
theorem str_one (s : ByteArray) : (Value.string s).oneCell' = true := rfl

/-- The device at block g: its sectors are the slice v's texts. -/
structure RefAt (w : World) (b g : Nat) (v : Value) (D : Disk) : Prop where
  lt : g < w.heap.size
  low : b ≤ g
  c0 : w.cell? ⟨g, 0, none⟩ = some v
  c1 : w.cell? ⟨g, 1, none⟩ = some (.int .i64 D.power)
  c2 : w.cell? ⟨g, 2, none⟩ = some (.int .u64 D.mask)
  free : ∀ j, j < 3 → w.frozen? ⟨g, j, none⟩ = false
  es : Own.Es Value.string w b v (D.S.map bs)
  apart : v.ownBlock ≠ some g
  ok : D.Ok

section
variable {w w' : World} {b g : Nat} {v : Value} {D : Disk}
theorem RefAt.keep (h : RefAt w b g v D) (h1 : w'.heap[g]? = w.heap[g]?) (h2 : ∀ k, v.ownBlock = some k → w'.heap[k]? = w.heap[k]?) (hs : w.heap.size ≤ w'.heap.size) : RefAt w' b g v D :=
  ⟨Nat.lt_of_lt_of_le h.lt hs, h.low, (World.cell?_of_block (w := w) (a := ⟨g, 0, none⟩) h1).trans h.c0, (World.cell?_of_block (w := w) (a := ⟨g, 1, none⟩) h1).trans h.c1, (World.cell?_of_block (w := w) (a := ⟨g, 2, none⟩) h1).trans h.c2,
    fun j hj => (World.frozen?_of_block (w := w) (a := ⟨g, j, none⟩) h1).trans (h.free j hj), h.es.keep h2 hs, h.apart, h.ok⟩
theorem RefAt.below (h : RefAt w b g v D) (hb : Below w.heap.size w w') : RefAt w' b g v D := h.keep (hb.block g h.lt) (fun k hk => hb.block k (h.es.lt k hk).2) hb.size
/-- The slice's form. -/
theorem RefAt.form (h : RefAt w b g v D) (hp : 0 < D.S.length) : ∃ r cap, v = .slice (some ⟨r, 0, none⟩) D.S.length cap ∧ r ≠ g ∧ r < w.heap.size ∧ ∀ j (hj : j < D.S.length), w.cell? ⟨r, j, none⟩ = some (.string (bs (D.S[j]))) := by
  obtain ⟨r, cap, e, h1, hat, _⟩ := h.es.form (by rw [List.length_map]; exact hp)
  rw [List.length_map] at e
  refine ⟨r, cap, e, fun e2 => h.apart (by rw [e, e2]; rfl), hat.1, fun j hj => ?_⟩
  have := hat.cell j (by rw [List.length_map]; exact hj)
  rw [Nat.zero_add] at this
  rw [this, List.getElem_map]

theorem RefAt.setPower (h : RefAt w b g v D) (p : Int) (h0 : -1 ≤ p) (h1 : p ≤ 9223372036854775807) : RefAt (w.setCell ⟨g, 1, none⟩ (.int .i64 p)) b g v ⟨D.S, p, D.mask⟩ :=
  ⟨by simpa [World.setCell] using h.lt, h.low, (World.cell?_setCell_other w _ _ _ (by simp)).trans h.c0, World.cell?_setCell_same w _ _ h.c1, (World.cell?_setCell_other w _ _ _ (by simp)).trans h.c2,
    fun j hj => by rw [World.frozen?_setCell]; exact h.free j hj, h.es.far h.apart _, h.apart, ⟨h.ok.each, h.ok.few, h0, h1, h.ok.mask⟩⟩
theorem RefAt.setMask (h : RefAt w b g v D) (m : Nat) (h1 : m < 18446744073709551616) : RefAt (w.setCell ⟨g, 2, none⟩ (.int .u64 m)) b g v ⟨D.S, D.power, m⟩ :=
  ⟨by simpa [World.setCell] using h.lt, h.low, (World.cell?_setCell_other w _ _ _ (by simp)).trans h.c0, (World.cell?_setCell_other w _ _ _ (by simp)).trans h.c1, World.cell?_setCell_same w _ _ h.c2,
    fun j hj => by rw [World.frozen?_setCell]; exact h.free j hj, h.es.far h.apart _, h.apart, ⟨h.ok.each, h.ok.few, h.ok.low, h.ok.high, h1⟩⟩
end

set_option maxRecDepth 100000 in
theorem zeros_any (n : Nat) (w : World) (hn : n ≤ 1000000) :
    Calls Try.prog 15 #[.int .i64 n] w fun e w' => ∃ t : ByteArray, e = .returned (.string t) ∧ Below w.heap.size w w' ∧ Kept (t = bs (List.replicate n 0)) := by
  go_enter Try.func15, Try.ntmps15
  go_wp2_with (first
    | (refine Row.wpList_make (B := w.heap.size) byteTy rfl _ _ rfl n rfl rfl (Nat.le_refl _) (by omega) ?_; intro v1 w1 hr hg; have HR := Kept.mk hr; have HG := Kept.mk hg; clear hr hg)
    | (refine By.wpList_string byteTy rfl 9 _ rfl Try.underlying9 rfl HR.out.bs ?_))
  go_ret
  exact ⟨_, rfl, ⟨HG.out.os, HG.out.tape, HG.out.output, HG.out.size, fun k hk => HG.out.block k hk (by simp)⟩, ⟨rfl⟩⟩

/-- The blocks of a device. -/
def blocks (g : Nat) (v : Value) (k : Nat) : Prop := k = g ∨ v.ownBlock = some k

set_option maxRecDepth 100000 in
theorem size_any (w : World) (b g : Nat) (v : Value) (D : Disk) (h : RefAt w b g v D) (hp : 0 < D.S.length) :
    Calls Try.prog 21 #[.pointer (some ⟨g, 0, none⟩)] w fun e w' => e = .returned (.int .i64 D.S.length) ∧ w' = w := by
  obtain ⟨r, cap, e, hr, hrl, hc⟩ := h.form hp
  have c0 := h.c0
  rw [e] at c0
  clear hc h e
  generalize D.S.length = n at *
  go_enter Try.func21, Try.ntmps21
  go_wp2
  go_ret
  exact ⟨rfl, rfl⟩

set_option maxRecDepth 100000 in
theorem restart_any (w : World) (b g : Nat) (v : Value) (D : Disk) (h : RefAt w b g v D) :
    Calls Try.prog 18 #[.pointer (some ⟨g, 0, none⟩)] w fun e w' => e = .returned (.tuple #[]) ∧ RefAt w' b g v D.restart ∧ Only (blocks g v) w w' := by
  have c1 := h.c1
  have c2 := h.c2
  have f1 := h.free 1 (by omega)
  have f2 := h.free 2 (by omega)
  have H := Kept.mk h
  clear h
  go_enter Try.func18, Try.ntmps18
  go_wp2
  go_end0
  exact ⟨rfl, (H.out.setPower (-1) (by decide) (by decide)).setMask 0 (by decide), ((Only.refl _ w).setCell _ _ (fun _ => .inl rfl)).setCell _ _ (fun _ => .inl rfl)⟩

set_option maxRecDepth 100000 in
theorem limit_any (w : World) (b g : Nat) (v : Value) (D : Disk) (h : RefAt w b g v D) (n : Int) (m : Nat) (hn : n ≤ 9223372036854775807) (hm : m < 18446744073709551616) :
    Calls Try.prog 17 #[.pointer (some ⟨g, 0, none⟩), .int .i64 n, .int .u64 m] w fun e w' => e = .returned (.tuple #[]) ∧ RefAt w' b g v (D.limit n m) ∧ Only (blocks g v) w w' := by
  have c1 := h.c1
  have c2 := h.c2
  have f1 := h.free 1 (by omega)
  have f2 := h.free 2 (by omega)
  have H := Kept.mk h
  clear h
  by_cases h0 : n < 0
  · have e : max n 0 = 0 := by omega
    go_enter Try.func17, Try.ntmps17
    go_wp2
    go_end0
    refine ⟨rfl, ?_, ((Only.refl _ w).setCell _ _ (fun _ => .inl rfl)).setCell _ _ (fun _ => .inl rfl)⟩
    unfold Disk.limit
    rw [e]
    exact (H.out.setPower 0 (by decide) (by decide)).setMask m hm
  · have e : max n 0 = n := by omega
    go_enter Try.func17, Try.ntmps17
    go_wp2
    go_end0
    refine ⟨rfl, ?_, ((Only.refl _ w).setCell _ _ (fun _ => .inl rfl)).setCell _ _ (fun _ => .inl rfl)⟩
    unfold Disk.limit
    rw [e]
    exact (H.out.setPower n (by omega) hn).setMask m hm

set_option maxRecDepth 100000 in
theorem read_any (w : World) (b g : Nat) (v : Value) (D : Disk) (h : RefAt w b g v D) (hp : 0 < D.S.length) (k : Int) (hk0 : -9223372036854775808 ≤ k) (hk1 : k ≤ 9223372036854775807) :
    Calls Try.prog 19 #[.pointer (some ⟨g, 0, none⟩), .int .i64 k] w fun e w' => ∃ t : ByteArray, e = .returned (.tuple #[.string t, .int .i64 (D.read k).2]) ∧ Kept (t = bs (D.read k).1) ∧ w' = w := by
  obtain ⟨r, cap, e, hr, hrl, hc⟩ := h.form hp
  have c0 := h.c0
  rw [e] at c0
  by_cases hh : D.has k
  · obtain ⟨h0, h1⟩ := id hh
    obtain ⟨j, rfl⟩ := Int.eq_ofNat_of_zero_le h0
    have hj : j < D.S.length := by omega
    have hcj := hc j hj
    have hR : Kept (bs D.S[j] = bs (D.read j).1 ∧ (D.read j).2 = 0) := ⟨by unfold Disk.read; rw [if_pos hh]; unfold Disk.at; simp [hj]⟩
    have hmx := h.ok.few
    generalize bs D.S[j] = t at hcj hR
    clear hc h e hh
    generalize hn : D.S.length = n at *
    have HN := Kept.mk hn
    clear hn
    go_enter Try.func19, Try.ntmps19
    go_wp2
    go_ret2
    exact ⟨_, by rw [hR.out.2]; rfl, ⟨hR.out.1⟩, rfl⟩
  · have hR : Kept ((D.read k).1 = [] ∧ (D.read k).2 = 1) := ⟨by unfold Disk.read; rw [if_neg hh]; exact ⟨rfl, rfl⟩⟩
    by_cases h0 : k < 0
    · clear hc h e hh
      generalize D.S.length = n at *
      go_enter Try.func19, Try.ntmps19
      go_wp2
      go_ret2
      exact ⟨_, by rw [hR.out.2]; rfl, ⟨by rw [hR.out.1]; rfl⟩, rfl⟩
    · have h1 : (D.S.length : Int) ≤ k := by unfold Disk.has at hh; omega
      clear hc h e hh
      generalize D.S.length = n at *
      go_enter Try.func19, Try.ntmps19
      go_wp2
      go_ret2
      exact ⟨_, by rw [hR.out.2]; rfl, ⟨by rw [hR.out.1]; rfl⟩, rfl⟩
end Dv
end Go.Proofs.Yticgecbgeahijaa
