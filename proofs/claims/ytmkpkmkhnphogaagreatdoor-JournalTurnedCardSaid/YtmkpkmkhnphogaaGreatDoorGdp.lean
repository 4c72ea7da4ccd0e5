/-
  The program's device in memory: a struct of four cells, the sectors' bytes in one row behind it; its small methods.
-/
import Derived.Test.YtmkpkmkhnphogaaGreatDoorProg
import Derived.Test.YtmkpkmkhnphogaaGreatDoorGdk
import Derived.Test.YtmkpkmkhnphogaaGreatDoorGcm
import Derived.WalkKit
import Derived.BigCall
import Derived.Laws.Small
import Derived.Laws.Unary
import Derived.Laws.Slices
import Derived.Laws.Strings3
import Derived.Laws.Pointers
import Derived.Deep.MidRow
import Derived.IntWalk
import Derived.Laws.BitsAllLaws
import Derived.Laws.Shifts
import Derived.Deep.QuietTactic
import Derived.BigQuiet
import Derived.Lib.LazyBuf
import Derived.StillTailTactics
import Derived.Test.YtmkpkmkhnphogaaGreatDoorMeanM
namespace Go.Proofs.YtmkpkmkhnphogaaGreatDoor
open Go.RowKit Tx Dv
namespace Pd

theorem byteTy : By.Ty Tryz.prog 51 5 := ⟨Tryz.underlying51, Tryz.underlying5, by kernel_rfl⟩

/-- Byte i of sector k. -/
def byteAt (D : Disk) (k i : Nat) : UInt8 := (D.S.getD k []).getD i 0

/-- The device at block g, its sectors in block r. -/
structure DevAt (w : World) (g r : Nat) (D : Disk) (lim : Bool) (pw : Int) : Prop where
  lt : g < w.heap.size
  rlt : r < w.heap.size
  apart : r ≠ g
  c0 : w.cell? ⟨g, 0, none⟩ = some (.slice (some ⟨r, 0, none⟩) D.S.length D.S.length)
  c1 : w.cell? ⟨g, 1, none⟩ = some (.bool lim)
  c2 : w.cell? ⟨g, 2, none⟩ = some (.int .i64 pw)
  c3 : w.cell? ⟨g, 3, none⟩ = some (.int .u64 D.mask)
  free : ∀ j, j < 4 → w.frozen? ⟨g, j, none⟩ = false
  cells : ∀ k i, k < D.S.length → i < 64 → w.cell? ⟨r, k * 64 + i, none⟩ = some (By.cell (byteAt D k i))
  soft : ∀ k i, k < D.S.length → i < 64 → w.frozen? ⟨r, k * 64 + i, none⟩ = false
  power : D.power = if lim then pw else -1
  pw0 : 0 ≤ pw
  pw1 : pw ≤ 9223372036854775807
  ok : D.Ok

section
variable {w w' : World} {g r : Nat} {D : Disk} {lim : Bool} {pw : Int}
theorem DevAt.keep (h : DevAt w g r D lim pw) (h1 : w'.heap[g]? = w.heap[g]?) (h2 : w'.heap[r]? = w.heap[r]?) (hs : w.heap.size ≤ w'.heap.size) : DevAt w' g r D lim pw :=
  ⟨Nat.lt_of_lt_of_le h.lt hs, Nat.lt_of_lt_of_le h.rlt hs, h.apart, (World.cell?_of_block (w := w) (a := ⟨g, 0, none⟩) h1).trans h.c0, (World.cell?_of_block (w := w) (a := ⟨g, 1, none⟩) h1).trans h.c1, (World.cell?_of_block (w := w) (a := ⟨g, 2, none⟩) h1).trans h.c2,
    (World.cell?_of_block (w := w) (a := ⟨g, 3, none⟩) h1).trans h.c3, fun j hj => (World.frozen?_of_block (w := w) (a := ⟨g, j, none⟩) h1).trans (h.free j hj),
    fun k i hk hi => (World.cell?_of_block (w := w) (a := ⟨r, k * 64 + i, none⟩) h2).trans (h.cells k i hk hi), fun k i hk hi => (World.frozen?_of_block (w := w) (a := ⟨r, k * 64 + i, none⟩) h2).trans (h.soft k i hk hi), h.power, h.pw0, h.pw1, h.ok⟩
theorem DevAt.below (h : DevAt w g r D lim pw) (hb : Below w.heap.size w w') : DevAt w' g r D lim pw := h.keep (hb.block g h.lt) (hb.block r h.rlt) hb.size
/-- A cell of the struct is written. -/
theorem DevAt.struct (h : DevAt w g r D lim pw) (j : Nat) (v : Value) : (∀ k i, k < D.S.length → i < 64 → (w.setCell ⟨g, j, none⟩ v).cell? ⟨r, k * 64 + i, none⟩ = some (By.cell (byteAt D k i))) ∧ (∀ i, i ≠ j → (w.setCell ⟨g, j, none⟩ v).cell? ⟨g, i, none⟩ = w.cell? ⟨g, i, none⟩) ∧ (w.setCell ⟨g, j, none⟩ v).heap.size = w.heap.size :=
  ⟨fun k i hk hi => (World.cell?_setCell_other w _ _ _ (fun e => h.apart (by injection e with e1 e2; exact e1.symm))).trans (h.cells k i hk hi),
    fun i hi => World.cell?_setCell_other w _ _ _ (fun e => hi (by injection e with e1 e2; exact e2.symm)), by simp [World.setCell]⟩
theorem DevAt.setLim (h : DevAt w g r D lim pw) (b : Bool) (p : Int) (hp : p = if b then pw else -1) : DevAt (w.setCell ⟨g, 1, none⟩ (.bool b)) g r ⟨D.S, p, D.mask⟩ b pw := by
  obtain ⟨hc, ho, hz⟩ := h.struct 1 (.bool b)
  refine ⟨by rw [hz]; exact h.lt, by rw [hz]; exact h.rlt, h.apart, (ho 0 (by decide)).trans h.c0, World.cell?_setCell_same w _ _ h.c1, (ho 2 (by decide)).trans h.c2, (ho 3 (by decide)).trans h.c3,
    fun j hj => by rw [World.frozen?_setCell]; exact h.free j hj, hc, fun k i hk hi => by rw [World.frozen?_setCell]; exact h.soft k i hk hi, hp, h.pw0, h.pw1, ⟨h.ok.each, h.ok.few, ?_, ?_, h.ok.mask⟩⟩
  · have := h.pw0
    simp only
    rw [hp]
    split <;> omega
  · have := h.pw1
    simp only
    rw [hp]
    split <;> omega
theorem DevAt.setPow (h : DevAt w g r D lim pw) (q p : Int) (h0 : 0 ≤ q) (h1 : q ≤ 9223372036854775807) (hp : p = if lim then q else -1) : DevAt (w.setCell ⟨g, 2, none⟩ (.int .i64 q)) g r ⟨D.S, p, D.mask⟩ lim q := by
  obtain ⟨hc, ho, hz⟩ := h.struct 2 (.int .i64 q)
  refine ⟨by rw [hz]; exact h.lt, by rw [hz]; exact h.rlt, h.apart, (ho 0 (by decide)).trans h.c0, (ho 1 (by decide)).trans h.c1, World.cell?_setCell_same w _ _ h.c2, (ho 3 (by decide)).trans h.c3,
    fun j hj => by rw [World.frozen?_setCell]; exact h.free j hj, hc, fun k i hk hi => by rw [World.frozen?_setCell]; exact h.soft k i hk hi, hp, h0, h1, ⟨h.ok.each, h.ok.few, ?_, ?_, h.ok.mask⟩⟩
  · simp only
    rw [hp]
    split <;> omega
  · simp only
    rw [hp]
    split <;> omega
theorem DevAt.setMask (h : DevAt w g r D lim pw) (m : Nat) (h1 : m < 18446744073709551616) : DevAt (w.setCell ⟨g, 3, none⟩ (.int .u64 m)) g r ⟨D.S, D.power, m⟩ lim pw := by
  obtain ⟨hc, ho, hz⟩ := h.struct 3 (.int .u64 m)
  exact ⟨by rw [hz]; exact h.lt, by rw [hz]; exact h.rlt, h.apart, (ho 0 (by decide)).trans h.c0, (ho 1 (by decide)).trans h.c1, (ho 2 (by decide)).trans h.c2, World.cell?_setCell_same w _ _ h.c3,
    fun j hj => by rw [World.frozen?_setCell]; exact h.free j hj, hc, fun k i hk hi => by rw [World.frozen?_setCell]; exact h.soft k i hk hi, h.power, h.pw0, h.pw1, ⟨h.ok.each, h.ok.few, h.ok.low, h.ok.high, h1⟩⟩
end

/-- The blocks of a device. -/
def blocks (g r k : Nat) : Prop := k = g ∨ k = r

set_option maxRecDepth 100000 in
theorem size_any (w : World) (g r : Nat) (D : Disk) (lim : Bool) (pw : Int) (h : DevAt w g r D lim pw) :
    Calls Tryz.prog 32 #[.pointer (some ⟨g, 0, none⟩)] w fun e w' => e = .returned (.int .i64 D.S.length) ∧ w' = w := by
  have c0 := h.c0
  clear h
  generalize D.S.length = n at *
  go_enter Tryz.func32, Tryz.ntmps32
  go_wp2
  go_ret
  exact ⟨rfl, rfl⟩

set_option maxRecDepth 100000 in
theorem has_yes (w : World) (g r n : Nat) (c0 : w.cell? ⟨g, 0, none⟩ = some (.slice (some ⟨r, 0, none⟩) n n)) (j : Nat) (hj : j < n) :
    Calls Tryz.prog 34 #[.pointer (some ⟨g, 0, none⟩), .int .i64 j] w fun e w' => e = .returned (.bool true) ∧ w' = w := by
  have z0 : (0 : Int) ≤ j := by omega
  have z1 : (j : Int) < n := by omega
  go_enter Tryz.func34, Tryz.ntmps34
  go_wp2
  go_ret
  exact ⟨rfl, rfl⟩
set_option maxRecDepth 100000 in
theorem has_no (w : World) (g r n : Nat) (c0 : w.cell? ⟨g, 0, none⟩ = some (.slice (some ⟨r, 0, none⟩) n n)) (k : Int) (hk : ¬ (0 ≤ k ∧ k < n)) :
    Calls Tryz.prog 34 #[.pointer (some ⟨g, 0, none⟩), .int .i64 k] w fun e w' => e = .returned (.bool false) ∧ w' = w := by
  by_cases h0 : 0 ≤ k
  · have z1 : ¬ k < n := by omega
    clear hk
    go_enter Tryz.func34, Tryz.ntmps34
    go_wp2
    go_ret
    exact ⟨rfl, rfl⟩
  · clear hk
    go_enter Tryz.func34, Tryz.ntmps34
    go_wp2
    go_ret
    exact ⟨rfl, rfl⟩

set_option maxRecDepth 100000 in
theorem spend_free (w : World) (g : Nat) (c1 : w.cell? ⟨g, 1, none⟩ = some (.bool false)) :
    Calls Tryz.prog 35 #[.pointer (some ⟨g, 0, none⟩)] w fun e w' => e = .returned (.bool true) ∧ w' = w := by
  go_enter Tryz.func35, Tryz.ntmps35
  go_wp2
  go_ret
  exact ⟨rfl, rfl⟩
set_option maxRecDepth 100000 in
theorem spend_none (w : World) (g : Nat) (c1 : w.cell? ⟨g, 1, none⟩ = some (.bool true)) (c2 : w.cell? ⟨g, 2, none⟩ = some (.int .i64 0)) :
    Calls Tryz.prog 35 #[.pointer (some ⟨g, 0, none⟩)] w fun e w' => e = .returned (.bool false) ∧ w' = w := by
  go_enter Tryz.func35, Tryz.ntmps35
  go_wp2
  go_ret
  exact ⟨rfl, rfl⟩
set_option maxRecDepth 100000 in
theorem spend_one (w : World) (g : Nat) (p : Int) (c1 : w.cell? ⟨g, 1, none⟩ = some (.bool true)) (c2 : w.cell? ⟨g, 2, none⟩ = some (.int .i64 p)) (f2 : w.frozen? ⟨g, 2, none⟩ = false) (h0 : 0 < p) (h1 : p ≤ 9223372036854775807) :
    Calls Tryz.prog 35 #[.pointer (some ⟨g, 0, none⟩)] w fun e w' => e = .returned (.bool true) ∧ w' = w.setCell ⟨g, 2, none⟩ (.int .i64 (p - 1)) := by
  have hpe : (p == 0) = false := by rw [beq_eq_false_iff_ne]; omega
  have y3 : (p - 1 + 9223372036854775808) % 18446744073709551616 - 9223372036854775808 = p - 1 := by omega
  go_enter Tryz.func35, Tryz.ntmps35
  go_wp2
  go_ret
  exact ⟨rfl, rfl⟩

set_option maxRecDepth 100000 in
theorem restart_any (w : World) (g r : Nat) (D : Disk) (lim : Bool) (pw : Int) (h : DevAt w g r D lim pw) :
    Calls Tryz.prog 25 #[.pointer (some ⟨g, 0, none⟩)] w fun e w' => e = .returned (.tuple #[]) ∧ DevAt w' g r D.restart false 0 ∧ Only (blocks g r) w w' := by
  have c1 := h.c1
  have c2 := h.c2
  have c3 := h.c3
  have f1 := h.free 1 (by omega)
  have f2 := h.free 2 (by omega)
  have f3 := h.free 3 (by omega)
  have H := Kept.mk h
  clear h
  go_enter Tryz.func25, Tryz.ntmps25
  go_wp2
  go_end0
  exact ⟨rfl, ((H.out.setLim false (-1) rfl).setPow 0 (-1) (by decide) (by decide) rfl).setMask 0 (by decide), (((Only.refl _ w).setCell _ _ (fun _ => .inl rfl)).setCell _ _ (fun _ => .inl rfl)).setCell _ _ (fun _ => .inl rfl)⟩

set_option maxRecDepth 100000 in
theorem limit_any (w : World) (g r : Nat) (D : Disk) (lim : Bool) (pw : Int) (h : DevAt w g r D lim pw) (n : Int) (m : Nat) (hn : n ≤ 9223372036854775807) (hm : m < 18446744073709551616) :
    Calls Tryz.prog 24 #[.pointer (some ⟨g, 0, none⟩), .int .i64 n, .int .u64 m] w fun e w' => e = .returned (.tuple #[]) ∧ (∃ p, DevAt w' g r (D.limit n m) true p) ∧ Only (blocks g r) w w' := by
  have c1 := h.c1
  have c2 := h.c2
  have c3 := h.c3
  have f1 := h.free 1 (by omega)
  have f2 := h.free 2 (by omega)
  have f3 := h.free 3 (by omega)
  have H := Kept.mk h
  clear h
  by_cases h0 : n < 0
  · have e : max n 0 = 0 := by omega
    go_enter Tryz.func24, Tryz.ntmps24
    go_wp2
    go_end0
    refine ⟨rfl, ⟨0, ?_⟩, (((Only.refl _ w).setCell _ _ (fun _ => .inl rfl)).setCell _ _ (fun _ => .inl rfl)).setCell _ _ (fun _ => .inl rfl)⟩
    unfold Disk.limit
    rw [e]
    exact ((H.out.setLim true pw rfl).setPow 0 0 (by decide) (by decide) rfl).setMask m hm
  · have e : max n 0 = n := by omega
    go_enter Tryz.func24, Tryz.ntmps24
    go_wp2
    go_end0
    refine ⟨rfl, ⟨n, ?_⟩, (((Only.refl _ w).setCell _ _ (fun _ => .inl rfl)).setCell _ _ (fun _ => .inl rfl)).setCell _ _ (fun _ => .inl rfl)⟩
    unfold Disk.limit
    rw [e]
    exact ((H.out.setLim true pw rfl).setPow n n (by omega) hn rfl).setMask m hm

/-- string(x), x a slice of bytes that lie where it says. -/
theorem wpList_string_at {P : Program} {w : World} {T E : TypeId} {ops : Array Oper} {rest : List Oper} {o : Oper} {a : Act} {Q : Exit → Act → World → Prop} (k : By.Ty P T E) (hgd : o.guard = none) (dst : TypeId) (x : Operand) (ho : o.op = .convert T dst x)
    (hd : P.underlying dst = some .string) (l : List UInt8) (ad : Addr) (n cap : Nat) (hn : l.length = n) (hx : a.eval x = .slice (some ad) n cap) (hc : ∀ j, j < n → w.cell? (ad.add j) = some (By.cell (l.getD j 0)))
    (h : wpList P ops Q rest (a.put o.dst (.string (bs l))) w) : wpList P ops Q (o :: rest) a w := by
  subst hn
  have hr : (convert T dst (.slice (some ad) l.length cap)).run P w = .ok (.string ⟨l.toArray⟩) w := run_convert_bytes_back w T dst E ad cap l k.und k.elem hd fun j hj => by
    rw [hc j hj, List.getD_eq_getElem?_getD, List.getElem?_eq_getElem hj]
    rfl
  refine wpList_plain hgd fun K hK => ?_
  unfold Oper.wp execOp
  simp only [ho, hx, Sem.run_bind, hr, Result.andThen_ok, Sem.run_pure]
  exact hK _ _ h

set_option maxRecDepth 100000 in
theorem read_any (w : World) (g r : Nat) (D : Disk) (lim : Bool) (pw : Int) (h : DevAt w g r D lim pw) (k : Int) (hk0 : -9223372036854775808 ≤ k) (hk1 : k ≤ 9223372036854775807) :
    Calls Tryz.prog 28 #[.pointer (some ⟨g, 0, none⟩), .int .i64 k] w fun e w' => ∃ t : ByteArray, e = .returned (.tuple #[.string t, .int .i64 (D.read k).2]) ∧ Kept (t = bs (D.read k).1) ∧ w' = w := by
  have c0 := h.c0
  by_cases hh : D.has k
  · obtain ⟨h0, h1⟩ := id hh
    obtain ⟨j, rfl⟩ := Int.eq_ofNat_of_zero_le h0
    have hj : j < D.S.length := by omega
    have hR : Kept (D.at j = (D.read j).1 ∧ (D.read j).2 = 0) := ⟨by unfold Disk.read; rw [if_pos hh]; exact ⟨rfl, rfl⟩⟩
    have hl : Kept ((D.at j).length = 64) := ⟨h.ok.at hh⟩
    have hc : Kept (∀ i, i < 64 → w.cell? ⟨r, j * 64 + i, none⟩ = some (By.cell ((D.at j).getD i 0))) := ⟨fun i hi => h.cells j i hj hi⟩
    have hmx := h.ok.few
    generalize D.at j = l at hR hl hc
    clear h hh h0
    generalize hn : D.S.length = n at *
    have HN := Kept.mk hn
    clear hn
    have z0 : (0 : Int) ≤ j := by omega
    go_enter Tryz.func28, Tryz.ntmps28
    go_wp2_with (first
      | (go_at_call 34; refine (has_yes _ g r n (by assumption) j hj).mono ?_; rintro e w' ⟨rfl, rfl⟩)
      | (refine wpList_string_at byteTy rfl 9 _ rfl Tryz.underlying9 l ⟨r, j * 64, none⟩ 64 64 hl.out rfl (fun i hi => ?_) ?_; · rw [Addr.add_mid]; exact hc.out i hi))
    go_ret2
    exact ⟨_, by rw [hR.out.2]; rfl, ⟨by rw [hR.out.1]⟩, rfl⟩
  · have hR : Kept ((D.read k).1 = [] ∧ (D.read k).2 = 1) := ⟨by unfold Disk.read; rw [if_neg hh]; exact ⟨rfl, rfl⟩⟩
    have HH := Kept.mk hh
    clear h hh
    go_enter Tryz.func28, Tryz.ntmps28
    go_wp2_with (go_at_call 34; refine (has_no _ g r _ (by assumption) k HH.out).mono ?_; rintro e w' ⟨rfl, rfl⟩)
    go_ret2
    exact ⟨_, by rw [hR.out.2]; rfl, ⟨by rw [hR.out.1]; rfl⟩, rfl⟩
end Pd
end Go.Proofs.YtmkpkmkhnphogaaGreatDoor

/-
  The program's device: a sector is torn.
-/
namespace Go.Proofs.YtmkpkmkhnphogaaGreatDoor
open Go.RowKit Tx Dv
namespace Pd

theorem mask_bit (m q : Nat) (hm : m < 18446744073709551616) : bits .and .u64 ((m : Int) / 2 ^ q) 1 = ((m / 2 ^ q % 2 : Nat) : Int) := by
  have h := u64_and_nat (m / 2 ^ q) 1 (Nat.lt_of_le_of_lt (Nat.div_le_self _ _) hm) (by decide)
  rw [Nat.and_one_is_mod] at h
  rw [← h]
  congr 1

/-- An array of 64 bytes at offset o of block r. -/
def Row64 (w : World) (r o : Nat) (l : List UInt8) : Prop := ∀ i, i < 64 → w.cell? ⟨r, o + i, none⟩ = some (By.cell (l.getD i 0))

/-- Of block r the 64 cells from o on became l's bytes; nothing else was written. -/
structure Tore (w w' : World) (r o : Nat) (l : List UInt8) : Prop where
  only : Only (fun k => k = r) w w'
  row : Row64 w' r o l
  out : ∀ j, (j < o ∨ o + 64 ≤ j) → w'.cell? ⟨r, j, none⟩ = w.cell? ⟨r, j, none⟩
  soft : ∀ j, w'.frozen? ⟨r, j, none⟩ = w.frozen? ⟨r, j, none⟩

/-- .. up to byte q. -/
structure TearIn (w w' : World) (r o q : Nat) (l : List UInt8) : Prop where
  only : Only (fun k => k = r) w w'
  lo : ∀ i, i < q → w'.cell? ⟨r, o + i, none⟩ = some (By.cell (l.getD i 0))
  hi : ∀ j, (j < o ∨ o + q ≤ j) → w'.cell? ⟨r, j, none⟩ = w.cell? ⟨r, j, none⟩
  soft : ∀ j, w'.frozen? ⟨r, j, none⟩ = w.frozen? ⟨r, j, none⟩

section
variable {w w' : World} {r o q : Nat} {l : List UInt8}
theorem TearIn.start (w : World) (r o : Nat) (l : List UInt8) : TearIn w w r o 0 l := ⟨Only.refl _ _, fun i hi => by omega, fun _ _ => rfl, fun _ => rfl⟩
theorem TearIn.drewN (h : TearIn w w' r o q l) (n : Nat) : TearIn w (w'.drewN n) r o q l := ⟨h.only.drewN n, h.lo, h.hi, h.soft⟩
theorem TearIn.put {v0 : Value} (h : TearIn w w' r o q l) (n : Nat) (hn : w.cell? ⟨r, o + q, none⟩ = some v0) (b : UInt8) (hb : l.getD q 0 = b) (x : Value) (hx : x = By.cell b) : TearIn w ((w'.drewN n).setCell ⟨r, o + q, none⟩ x) r o (q + 1) l := by
  subst hx
  have hq : (w'.drewN n).cell? ⟨r, o + q, none⟩ = some v0 := (h.hi (o + q) (by omega)).trans hn
  refine ⟨(h.only.drewN n).setCell _ _ (fun _ => rfl), fun i hi => ?_, fun j hj => ?_, fun j => by rw [World.frozen?_setCell]; exact h.soft j⟩
  · by_cases e : i = q
    · subst e
      rw [World.cell?_setCell_same _ _ _ hq, hb]
    · exact (World.cell?_setCell_other _ _ _ _ (fun e2 => e (by injection e2 with e3 e4; omega))).trans (h.lo i (by omega))
  · exact (World.cell?_setCell_other _ _ _ _ (fun e2 => by injection e2 with e3 e4; omega)).trans (h.hi j (by omega))
theorem TearIn.skip (h : TearIn w w' r o q l) (n : Nat) (hn : w.cell? ⟨r, o + q, none⟩ = some (By.cell (l.getD q 0))) : TearIn w (w'.drewN n) r o (q + 1) l := by
  refine ⟨h.only.drewN n, fun i hi => ?_, fun j hj => h.hi j (by omega), h.soft⟩
  by_cases e : i = q
  · subst e
    exact (h.hi (o + i) (by omega)).trans hn
  · exact h.lo i (by omega)
theorem TearIn.all (h : TearIn w w' r o 64 l) : Tore w w' r o l := ⟨h.only, fun i hi => h.lo i hi, h.hi, h.soft⟩
end

set_option maxHeartbeats 1000000 in
set_option maxRecDepth 100000 in
theorem tear_any (w : World) (r o f : Nat) (x t : List UInt8) (m : Nat) (hm : m < 18446744073709551616) (hf : f ≠ r) (hfl : f < w.heap.size)
    (hx : Row64 w r o x) (ht : Row64 w f 0 t) (hz : ∀ i, i < 64 → w.frozen? ⟨r, o + i, none⟩ = false) :
    Calls Tryz.prog 36 #[.pointer (some ⟨r, o, none⟩), .pointer (some ⟨f, 0, none⟩), .int .u64 m] w fun e w' => e = .returned (.tuple #[]) ∧ Tore w w' r o (torn m t x) := by
  have HX := Kept.mk hx
  have HT := Kept.mk ht
  have HZ := Kept.mk hz
  clear hx ht hz
  go_enter Tryz.func36, Tryz.ntmps36
  go_wp2
  go_loopw [9] (fun i wr => ∃ q : Nat, q ≤ 64 ∧ i = .int .i64 q ∧ Kept (TearIn w wr r o q (torn m t x))) (fun i _ => 64 - (intOf i).toNat)
  case atStart => exact ⟨0, by omega, rfl, ⟨TearIn.start _ _ _ _⟩⟩
  case round =>
    obtain ⟨q, hq, rfl, hI⟩ := hrel
    by_cases hlt : q < 64
    · have cf : wr.cell? ⟨f, q, none⟩ = some (By.cell (t.getD q 0)) := by
        have := HT.out q hlt
        rw [Nat.zero_add] at this
        exact (World.cell?_of_block (w := w) (a := ⟨f, q, none⟩) (hI.out.only.block f hfl hf)).trans this
      have cr : wr.cell? ⟨r, o + q, none⟩ = some (By.cell (x.getD q 0)) := (hI.out.hi (o + q) (by omega)).trans (HX.out q hlt)
      have fr : wr.frozen? ⟨r, o + q, none⟩ = false := (hI.out.soft (o + q)).trans (HZ.out q hlt)
      have y3 : (0 : Int) ≤ q := by omega
      have y5 : (q : Int) < 64 := by omega
      have y4 : (q : Int) ≤ 64 := by omega
      have hbit := mask_bit m q hm
      have HA := Kept.mk (torn_at m t x q hlt)
      have HC := Kept.mk (HX.out q hlt)
      unfold By.cell at cf cr
      by_cases hb : m / 2 ^ q % 2 = 1
      · have HB := Kept.mk hb
        rw [hb] at hbit
        clear hb
        go_wp2
        go_quiet (fail)
        go_wp2
        go_roundw
        case rel => exact ⟨q + 1, by omega, by go_num, ⟨hI.out.put nq HC.out (t.getD q 0) (by rw [HA.out, if_pos HB.out]) _ rfl⟩⟩
        case measure => simp [intOf]; omega
      · have hb0 : m / 2 ^ q % 2 = 0 := by omega
        have HB := Kept.mk hb
        rw [hb0] at hbit
        clear hb hb0
        go_wp2
        go_quiet (fail)
        go_wp2
        go_roundw
        case rel => exact ⟨q + 1, by omega, by go_num, ⟨hI.out.skip nq (by rw [HA.out, if_neg HB.out]; exact HC.out)⟩⟩
        case measure => simp [intOf]; omega
    · have hq64 : q = 64 := by omega
      subst hq64
      go_wp2
      go_end0
      exact ⟨rfl, hI.out.all⟩
end Pd
end Go.Proofs.YtmkpkmkhnphogaaGreatDoor

/-
  The program's device: Write.
-/
namespace Go.Proofs.YtmkpkmkhnphogaaGreatDoor
open Go.RowKit Tx Dv
namespace Pd

theorem byteTy1 : (Tryz.prog.info? 5).map (·.size) = some 1 := by kernel_rfl
theorem byteSize (w : World) : (Go.sizeOf 5).run Tryz.prog w = .ok 1 w := by kernel_rfl

theorem sector64 {n : Nat} (h : n = 64) : (Tryz.prog.info? 69).map (·.size) = some n := by
  subst h
  kernel_rfl

/-- A new array of 64 bytes. -/
structure Fresh (w : World) (f : Nat) (l : List UInt8) : Prop where
  lt : f < w.heap.size
  row : Row64 w f 0 l
theorem Fresh.below {w w' : World} {f : Nat} {l : List UInt8} (h : Fresh w f l) (hb : w'.heap[f]? = w.heap[f]?) (hs : w.heap.size ≤ w'.heap.size) : Fresh w' f l :=
  ⟨Nat.lt_of_lt_of_le h.lt hs, fun i hi => (World.cell?_of_block (w := w) (a := ⟨f, 0 + i, none⟩) hb).trans (h.row i hi)⟩

theorem pad_getD (t : ByteArray) (i : Nat) : (pad (toL t)).getD i 0 = (toL t).getD i 0 := by
  unfold pad
  simp only [List.getD_eq_getElem?_getD]
  rw [List.getElem?_append]
  split
  · rfl
  · rename_i h
    rw [List.getElem?_eq_none (l := toL t) (by omega)]
    by_cases h2 : i - (toL t).length < 64 - (toL t).length
    · rw [List.getElem?_replicate, if_pos h2]; rfl
    · rw [List.getElem?_replicate, if_neg h2]

/-- copy(x[:], s), x an array that was just made. -/
theorem wpList_copy_pad {w : World} {T sT : TypeId} {ops : Array Oper} {rest : List Oper} {o : Oper} {a : Act} {Q : Exit → Act → World → Prop} (hgd : o.guard = none) (d s : Operand)
    (ho : o.op = .call { callee := .builtin .copy, args := #[d, s], argTypes := #[51, sT] }) (t : ByteArray) (ht : t.size ≤ 64)
    (hd : a.eval d = .slice (some ⟨w.heap.size, 0, none⟩) 64 64) (hs : a.eval s = .string t) (cs : Array Value) (hcs : cs = (By.cells (List.replicate 64 0)).toArray)
    (h : ∀ n w', Below w.heap.size w w' → Fresh w' w.heap.size (pad (toL t)) → wpList Tryz.prog ops Q rest (a.put o.dst n) w') : wpList Tryz.prog ops Q (o :: rest) a (w.alloc (.cells cs T)) := by
  subst hcs
  have hat : ∀ i, i < 64 → (w.alloc (.cells (By.cells (List.replicate 64 0)).toArray T)).cell? ⟨w.heap.size, i, none⟩ = some (By.cell 0) := fun i hi => by
    rw [cell_of_row _ _ i _ _ (0, 0) (heap_alloc_new w _)]
    rw [List.getElem?_toArray]
    unfold By.cells
    rw [List.map_replicate, List.getElem?_replicate, if_pos hi]
  have hr := Go.run_copy_string (P := Tryz.prog) (w.alloc (.cells (By.cells (List.replicate 64 0)).toArray T)) 51 sT o.type 5 w.heap.size 0 64 64 t Tryz.underlying51 byteSize ht
    (fun j hj => by rw [Nat.zero_add, hat j (by omega)]; rfl) (fun j hj => frozen_of_row _ _ _ _ _ (heap_alloc_new w _))
  refine wpList_plain hgd fun K hK => ?_
  unfold Oper.wp execOp
  simp only [ho, resolve, invoke, builtin, Sem.run_bind, Sem.run_pure, Result.andThen_ok, List.map_toArray, List.map_cons, List.map_nil, hd, hs, hr]
  refine hK _ _ (h _ _ ?_ ⟨?_, ?_⟩)
  · exact Go.below_setCells (Nat.le_refl _) _ _ _ ((Below.refl _ _).alloc (Nat.le_refl _) _)
  · have := (By.grown_setCells w.heap.size (t.data.toList.map fun x => Value.int .u8 (x.toNat : Int)) 0 (w.alloc (.cells (By.cells (List.replicate 64 0)).toArray T))).size
    have hz := World.size_alloc w (.cells (By.cells (List.replicate 64 0)).toArray T)
    omega
  · intro i hi
    rw [pad_getD]
    have hl : (t.data.toList.map fun x => Value.int .u8 (x.toNat : Int)).length = t.size := by simp
    by_cases h1 : i < t.size
    · rw [World.cell?_setCells_in w.heap.size _ 0 _ (fun j hj => by rw [Nat.zero_add, hat j (by omega)]; rfl) i (by omega)]
      have h2 : i < (toL t).length := by rw [toL_length]; exact h1
      rw [List.getElem_map, List.getD_eq_getElem?_getD, List.getElem?_eq_getElem h2]
      rfl
    · rw [World.cell?_setCells_out w.heap.size _ 0 _ _ (fun _ _ => .inr (by show 0 + _ ≤ 0 + i; omega)), Nat.zero_add, hat i hi]
      rw [List.getD_eq_getElem?_getD, List.getElem?_eq_none (by rw [toL_length]; omega)]
      rfl

theorem Fresh.range {w : World} {f : Nat} {l : List UInt8} (h : Fresh w f l) (hl : l.length = 64) : w.rangeAt f 0 (By.cells l) := by
  intro j v hv
  have hj : j < 64 := by
    have := (List.getElem?_eq_some_iff.1 hv).1
    rw [By.length_cells] at this
    omega
  rw [h.row j hj, ← hv]
  unfold By.cells
  rw [List.getElem?_map, List.getD_eq_getElem?_getD, List.getElem?_eq_getElem (by omega)]
  rfl
theorem load_sector {w : World} {f : Nat} {l : List UInt8} (h : Fresh w f l) (hl : l.length = 64) : (Instr.loadAt 69 (.pointer (some ⟨f, 0, none⟩))).run Tryz.prog w = .ok (.agg (By.cells l).toArray) w :=
  run_loadAt_mid w f 0 69 (By.cells l) _ (h.range hl) Tryz.underlying69 rfl (sector64 (by rw [By.length_cells, hl]))
/-- A whole array is loaded, in a region walked still. -/
theorem still_load_row {P : Program} {ops : Array Oper} {w : World} {Q : Act → Prop} {a : Act} {o : Oper} {rest : List Oper} (hg : o.guard = none) (ty : TypeId) (x : Operand) (ho : o.op = .load ty x)
    (v : Value) (hrun : (Instr.loadAt ty (a.eval x)).run P w = .ok v w) (h : wpStill P ops w Q rest (a.put o.dst v)) : wpStill P ops w Q (o :: rest) a := by
  refine wpStill_step fun K hK => ?_
  have hw : Region.wanted o (yielded ops a.tmps) = true := by simp [Region.wanted, hg]
  rw [if_pos hw]
  unfold Oper.still execOp
  simp only [ho, Sem.run_bind, hrun, Result.andThen_ok, Sem.run_pure, Oper.stillUpon]
  exact ⟨trivial, hK _ h⟩
theorem tore_setCells (w : World) (r o : Nat) (l : List UInt8) (hl : l.length = 64) (hc : ∀ i, i < 64 → (w.cell? ⟨r, o + i, none⟩).isSome = true) : Tore w (w.setCells r o (By.cells l)) r o l := by
  have hlc : (By.cells l).length = 64 := by rw [By.length_cells, hl]
  have hg := By.grown_setCells r (By.cells l) o w
  refine ⟨⟨hg.os, hg.tape, hg.output, hg.size, fun k hk hn => hg.block k hk (fun e => hn (by injection e))⟩, fun i hi => ?_, fun j hj => ?_, fun j => World.frozen?_setCells _ _ _ _ _⟩
  · rw [World.cell?_setCells_in r _ o w (fun j hj => hc j (by omega)) i (by omega)]
    unfold By.cells
    rw [List.getElem_map, List.getD_eq_getElem?_getD, List.getElem?_eq_getElem (by omega)]
    rfl
  · exact World.cell?_setCells_out r _ o w _ (fun _ _ => by show j < o ∨ o + _ ≤ j; omega)
/-- A whole sector is stored. -/
theorem wpList_store_sector {w : World} {ops : Array Oper} {rest : List Oper} {op : Oper} {a : Act} {Q : Exit → Act → World → Prop} (hgd : op.guard = none) (x y : Operand) (ho : op.op = .store 69 x y)
    (r o : Nat) (l : List UInt8) (hl : l.length = 64) (hx : a.eval x = .pointer (some ⟨r, o, none⟩)) (hy : a.eval y = .agg (By.cells l).toArray)
    (hc : ∀ i, i < 64 → (w.cell? ⟨r, o + i, none⟩).isSome = true ∧ w.frozen? ⟨r, o + i, none⟩ = false)
    (h : ∀ w', Tore w w' r o l → wpList Tryz.prog ops Q rest (a.put op.dst undef) w') : wpList Tryz.prog ops Q (op :: rest) a w := by
  have hs : (By.cells l).toArray.size = 64 := by simp [By.length_cells, hl]
  refine wpList_store_mid hgd 69 x y ho r o (By.cells l).toArray hx hy (fun j hj => hc j (by omega)) (sector64 hs) (all_oneCell_toArray (By.one_cells l)) (h _ ?_)
  exact tore_setCells w r o l hl (fun i hi => (hc i hi).1)

/-- The device, a sector of which was written. -/
theorem DevAt.tore {w w' : World} {g r : Nat} {D : Disk} {lim : Bool} {pw : Int} (h : DevAt w g r D lim pw) {j : Nat} (hj : j < D.S.length) {l : List UInt8} (hl : l.length = 64) (ht : Tore w w' r (j * 64) l) : DevAt w' g r ⟨D.S.set j l, D.power, D.mask⟩ lim pw := by
  have hg : w'.heap[g]? = w.heap[g]? := ht.only.block g h.lt (fun e => h.apart e.symm)
  refine ⟨Nat.lt_of_lt_of_le h.lt ht.only.size, Nat.lt_of_lt_of_le h.rlt ht.only.size, h.apart, by rw [List.length_set]; exact (World.cell?_of_block (w := w) (a := ⟨g, 0, none⟩) hg).trans h.c0, (World.cell?_of_block (w := w) (a := ⟨g, 1, none⟩) hg).trans h.c1, (World.cell?_of_block (w := w) (a := ⟨g, 2, none⟩) hg).trans h.c2,
    (World.cell?_of_block (w := w) (a := ⟨g, 3, none⟩) hg).trans h.c3, fun i hi => (World.frozen?_of_block (w := w) (a := ⟨g, i, none⟩) hg).trans (h.free i hi), fun k i hk hi => ?_, fun k i hk hi => (ht.soft _).trans (h.soft k i (by rw [List.length_set] at hk; exact hk) hi), h.power, h.pw0, h.pw1,
    ⟨fun s hs => ?_, by rw [List.length_set]; exact h.ok.few, h.ok.low, h.ok.high, h.ok.mask⟩⟩
  · rw [List.length_set] at hk
    by_cases e : k = j
    · subst e
      rw [ht.row i hi]
      unfold byteAt
      simp [hk]
    · rw [ht.out _ (by omega), h.cells k i hk hi]
      unfold byteAt
      simp [List.getElem?_set_ne (show j ≠ k from fun e2 => e e2.symm)]
  · rcases List.mem_or_eq_of_mem_set hs with h1 | h1
    · exact h.ok.each s h1
    · rw [h1]; exact hl
theorem DevAt.spot {w : World} {g r : Nat} {D : Disk} {lim : Bool} {pw : Int} (h : DevAt w g r D lim pw) {j : Nat} (hj : j < D.S.length) : Row64 w r (j * 64) (D.at j) := fun i hi => h.cells j i hj hi
theorem DevAt.place {w : World} {g r : Nat} {D : Disk} {lim : Bool} {pw : Int} (h : DevAt w g r D lim pw) {j : Nat} (hj : j < D.S.length) : ∀ i, i < 64 → (w.cell? ⟨r, j * 64 + i, none⟩).isSome = true ∧ w.frozen? ⟨r, j * 64 + i, none⟩ = false :=
  fun i hi => ⟨by rw [h.cells j i hj hi]; rfl, h.soft j i hj hi⟩
end Pd
end Go.Proofs.YtmkpkmkhnphogaaGreatDoor

/-
  The program's device: Write, each way.
-/
namespace Go.Proofs.YtmkpkmkhnphogaaGreatDoor
open Go.RowKit Tx Dv
namespace Pd

set_option maxRecDepth 100000 in
theorem write_out (w : World) (g r : Nat) (D : Disk) (lim : Bool) (pw : Int) (h : DevAt w g r D lim pw) (k : Int) (s : ByteArray) (hs : s.size ≤ 9223372036854775807) (hh : ¬ (D.has k ∧ (toL s).length ≤ 64)) :
    Calls Tryz.prog 16 #[.pointer (some ⟨g, 0, none⟩), .int .i64 k, .string s] w fun e w' => e = .returned (.int .i64 1) ∧ w' = w := by
  have c0 := h.c0
  clear h
  by_cases hk : D.has k
  · have h64 : ¬ (s.size : Int) ≤ 64 := fun e => hh ⟨hk, by rw [toL_length]; omega⟩
    have z2 : (64 : Int) < s.size := by omega
    obtain ⟨h0, h1⟩ := hk
    obtain ⟨j, rfl⟩ := Int.eq_ofNat_of_zero_le h0
    have hj : j < D.S.length := by omega
    clear hh h64 h0 h1
    generalize D.S.length = n at *
    go_enter Tryz.func16, Tryz.ntmps16
    go_wp2_with (go_at_call 34; refine (has_yes _ g r n (by assumption) j hj).mono ?_; rintro e w' ⟨rfl, rfl⟩)
    go_ret
    exact ⟨rfl, rfl⟩
  · have HK := Kept.mk hk
    clear hh hk
    go_enter Tryz.func16, Tryz.ntmps16
    go_wp2_with (go_at_call 34; refine (has_no _ g r _ (by assumption) k HK.out).mono ?_; rintro e w' ⟨rfl, rfl⟩)
    go_ret
    exact ⟨rfl, rfl⟩

/-- What Write leaves. -/
structure Wrote (w w' : World) (g r : Nat) (D : Disk) : Prop where
  is : ∃ lim p, DevAt w' g r D lim p
  only : Only (blocks g r) w w'

theorem Wrote.mk' {w w1 w2 : World} {g r : Nat} {D E : Disk} {lim : Bool} {p : Int} (h : DevAt w2 g r D lim p) (hb : Below w.heap.size w w1) (ho : Only (blocks g r) w1 w2) (e : E = D) : Wrote w w2 g r E := by
  subst e
  exact ⟨⟨lim, p, h⟩, ((Only.refl _ w).below hb).trans ho (fun _ _ h => h)⟩
theorem Tore.blocks {w w' : World} {r o : Nat} {l : List UInt8} (h : Tore w w' r o l) (g : Nat) : Only (blocks g r) w w' := h.only.mono fun _ _ e => .inr e

set_option maxHeartbeats 1000000 in
set_option maxRecDepth 100000 in
theorem write_torn (w : World) (g r : Nat) (D : Disk) (lim : Bool) (pw : Int) (h : DevAt w g r D lim pw) (j : Nat) (hj : j < D.S.length) (s : ByteArray) (hs : s.size ≤ 64) (hpw : D.power = 0) :
    Calls Tryz.prog 16 #[.pointer (some ⟨g, 0, none⟩), .int .i64 j, .string s] w fun e w' => e = .returned (.int .i64 13) ∧ Wrote w w' g r (D.write j (toL s)).2 := by
  have hl : lim = true := by
    have := h.power
    cases lim
    · simp at this; omega
    · rfl
  subst hl
  have hp0 : pw = 0 := by have := h.power; simp at this; omega
  subst hp0
  have c0 := h.c0
  have hmx := h.ok.few
  have HR : Kept ((D.write j (toL s)).2 = ⟨D.S.set j (torn D.mask (pad (toL s)) (D.at j)), D.power, 0⟩) := ⟨by
    rw [Disk.write_dead ⟨⟨by omega, by omega⟩, by rw [toL_length]; exact hs⟩ hpw, hpw]
    rfl⟩
  have H := Kept.mk h
  have HJ := Kept.mk hj
  clear h hpw
  obtain ⟨m, hm⟩ : ∃ m, D.mask = m := ⟨_, rfl⟩
  have HM := Kept.mk hm
  have hmm := H.out.ok.mask
  rw [hm] at hmm
  have HMM := Kept.mk hmm
  obtain ⟨n, hn⟩ : ∃ n, D.S.length = n := ⟨_, rfl⟩
  rw [hn] at c0 hmx hj
  have HN := Kept.mk hn
  clear hm hn hmm
  have z0 : (0 : Int) ≤ j := by omega
  have z1 : (j : Int) < n := by omega
  have z2 : ¬ (64 : Int) < s.size := by omega
  go_enter Tryz.func16, Tryz.ntmps16
  go_wp2_with (first
    | (go_at_call 34; refine (has_yes _ g r n (by assumption) j hj).mono ?_; rintro e w' ⟨rfl, hw⟩; obtain rfl := hw.symm)
    | (go_at_call 35; refine (spend_none _ g (by assumption) (by assumption)).mono ?_; rintro e w' ⟨rfl, hw⟩; obtain rfl := hw.symm)
    | (refine wpList_copy_pad rfl _ _ rfl s hs rfl rfl _ (by kernel_rfl) ?_
       intro n1 w1 hb1 hf1
       have HB1 := Kept.mk hb1
       have HF1 := Kept.mk hf1
       have H1 := Kept.mk (H.out.below hb1)
       have d0 : w1.cell? ⟨g, 0, none⟩ = some (.slice (some ⟨r, 0, none⟩) n n) := by rw [← HN.out]; exact H1.out.c0
       have d1 := H1.out.c1
       have d2 := H1.out.c2
       have d3 : w1.cell? ⟨g, 3, none⟩ = some (.int .u64 m) := by rw [← HM.out]; exact H1.out.c3
       clear hb1 hf1))
  have hfr : w.heap.size ≠ r := by have := H.out.rlt; omega
  have HFR := Kept.mk hfr
  have HPL := Kept.mk (pad_length (toL s) (by rw [toL_length]; exact hs))
  have HD1 : Kept (DevAt w1.drew g r D true 0) := ⟨H1.out.below ((Below.refl _ _).drew)⟩
  have HE1 : Kept (Fresh w1.drew w.heap.size (pad (toL s))) := ⟨HF1.out.below rfl (Nat.le_refl _)⟩
  clear hfr
  refine wp_region_still_tail 10 (by kernel_rfl) (by kernel_rfl) ?_
  simp only [List.take_succ_cons, List.take_zero, List.drop_succ_cons, List.drop_zero]
  repeat still_step
  refine wpStill_nil ?_
  go_wp2_with (go_at_call 36
               refine (tear_any w1.drew r (j * 64) w.heap.size (D.at j) (pad (toL s)) m HMM.out HFR.out HE1.out.lt (HD1.out.spot HJ.out) HE1.out.row (fun i hi => HD1.out.soft j i HJ.out hi)).mono ?_
               rintro e w2 ⟨rfl, ht⟩
               rw [← HM.out] at ht
               have HT := Kept.mk ht
               have H2 := Kept.mk (HD1.out.tore HJ.out (torn_length _ _ _) ht)
               have e0 : w2.cell? ⟨g, 3, none⟩ = some (.int .u64 m) := by rw [← HM.out]; exact H2.out.c3
               have e1 := H2.out.free 3 (by omega)
               clear ht)
  go_ret
  exact ⟨rfl, Wrote.mk' (H2.out.setMask 0 (by decide)) HB1.out ((((Only.refl _ w1).drew).trans (HT.out.blocks g) (fun _ _ h => h)).setCell _ _ (fun _ => .inl rfl)) HR.out⟩

set_option maxHeartbeats 1000000 in
set_option maxRecDepth 100000 in
theorem write_free (w : World) (g r : Nat) (D : Disk) (pw : Int) (h : DevAt w g r D false pw) (j : Nat) (hj : j < D.S.length) (s : ByteArray) (hs : s.size ≤ 64) :
    Calls Tryz.prog 16 #[.pointer (some ⟨g, 0, none⟩), .int .i64 j, .string s] w fun e w' => e = .returned (.int .i64 0) ∧ Wrote w w' g r (D.write j (toL s)).2 := by
  have c0 := h.c0
  have hmx := h.ok.few
  have HR : Kept ((D.write j (toL s)).2 = ⟨D.S.set j (pad (toL s)), D.power, D.mask⟩) := ⟨by
    have hp : D.power = -1 := h.power
    rw [Disk.write_on ⟨⟨by omega, by omega⟩, by rw [toL_length]; exact hs⟩ (by rw [hp]; decide), hp]
    rfl⟩
  have H := Kept.mk h
  have HJ := Kept.mk hj
  clear h
  obtain ⟨n, hn⟩ : ∃ n, D.S.length = n := ⟨_, rfl⟩
  rw [hn] at c0 hmx hj
  have HN := Kept.mk hn
  clear hn
  have z0 : (0 : Int) ≤ j := by omega
  have z1 : (j : Int) < n := by omega
  have z2 : ¬ (64 : Int) < s.size := by omega
  go_enter Tryz.func16, Tryz.ntmps16
  go_wp2_with (first
    | (go_at_call 34; refine (has_yes _ g r n (by assumption) j hj).mono ?_; rintro e w' ⟨rfl, hw⟩; obtain rfl := hw.symm)
    | (go_at_call 35; refine (spend_free _ g (by assumption)).mono ?_; rintro e w' ⟨rfl, hw⟩; obtain rfl := hw.symm)
    | (refine wpList_copy_pad rfl _ _ rfl s hs rfl rfl _ (by kernel_rfl) ?_
       intro n1 w1 hb1 hf1
       have HB1 := Kept.mk hb1
       have HF1 := Kept.mk hf1
       have H1 := Kept.mk (H.out.below hb1)
       have d0 : w1.cell? ⟨g, 0, none⟩ = some (.slice (some ⟨r, 0, none⟩) n n) := by rw [← HN.out]; exact H1.out.c0
       have d1 := H1.out.c1
       clear hb1 hf1))
  have HPL := Kept.mk (pad_length (toL s) (by rw [toL_length]; exact hs))
  have HD1 : Kept (DevAt w1.drew g r D false pw) := ⟨H1.out.below ((Below.refl _ _).drew)⟩
  have HE1 : Kept (Fresh w1.drew w.heap.size (pad (toL s))) := ⟨HF1.out.below rfl (Nat.le_refl _)⟩
  refine wp_region_still_tail 7 (by kernel_rfl) (by kernel_rfl) ?_
  simp only [List.take_succ_cons, List.take_zero, List.drop_succ_cons, List.drop_zero]
  repeat (first | (refine still_load_row rfl 69 _ rfl _ (load_sector HE1.out HPL.out) ?_) | still_step)
  refine wpStill_nil ?_
  refine wpList_store_sector rfl _ _ rfl r (j * 64) (pad (toL s)) HPL.out rfl rfl (HD1.out.place HJ.out) ?_
  intro w2 ht
  have HT := Kept.mk ht
  have H2 := Kept.mk (HD1.out.tore HJ.out HPL.out ht)
  clear ht
  go_wp2
  go_ret
  exact ⟨rfl, Wrote.mk' H2.out HB1.out (((Only.refl _ w1).drew).trans (HT.out.blocks g) (fun _ _ h => h)) HR.out⟩

set_option maxHeartbeats 1000000 in
set_option maxRecDepth 100000 in
theorem write_some (w : World) (g r : Nat) (D : Disk) (pw : Int) (h : DevAt w g r D true pw) (h0 : 0 < pw) (j : Nat) (hj : j < D.S.length) (s : ByteArray) (hs : s.size ≤ 64) :
    Calls Tryz.prog 16 #[.pointer (some ⟨g, 0, none⟩), .int .i64 j, .string s] w fun e w' => e = .returned (.int .i64 0) ∧ Wrote w w' g r (D.write j (toL s)).2 := by
  have c0 := h.c0
  have hmx := h.ok.few
  have HR : Kept ((D.write j (toL s)).2 = ⟨D.S.set j (pad (toL s)), pw - 1, D.mask⟩) := ⟨by
    have hp : D.power = pw := h.power
    rw [Disk.write_on ⟨⟨by omega, by omega⟩, by rw [toL_length]; exact hs⟩ (by rw [hp]; omega), hp, if_pos h0]
    rfl⟩
  have hp1 := h.pw1
  have H := Kept.mk h
  have HJ := Kept.mk hj
  have H00 := Kept.mk h0
  have H01 := Kept.mk hp1
  clear h h0 hp1
  obtain ⟨n, hn⟩ : ∃ n, D.S.length = n := ⟨_, rfl⟩
  rw [hn] at c0 hmx hj
  have HN := Kept.mk hn
  clear hn
  have z0 : (0 : Int) ≤ j := by omega
  have z1 : (j : Int) < n := by omega
  have z2 : ¬ (64 : Int) < s.size := by omega
  go_enter Tryz.func16, Tryz.ntmps16
  go_wp2_with (first
    | (go_at_call 34; refine (has_yes _ g r n (by assumption) j hj).mono ?_; rintro e w' ⟨rfl, hw⟩; obtain rfl := hw.symm)
    | (go_at_call 35
       refine (spend_one _ g pw (by assumption) (by assumption) (by assumption) H00.out H01.out).mono ?_
       rintro e w2 ⟨rfl, hw⟩
       have H2 : Kept (DevAt w2 g r ⟨D.S, pw - 1, D.mask⟩ true (pw - 1)) := ⟨by rw [hw]; exact H1.out.setPow (pw - 1) (pw - 1) (by have := H00.out; omega) (by have := H01.out; omega) rfl⟩
       have HO2 : Kept (Only (blocks g r) w1 w2) := ⟨by rw [hw]; exact (Only.refl _ _).setCell _ _ (fun _ => .inl rfl)⟩
       have HF2 : Kept (Fresh w2 w.heap.size (pad (toL s))) := ⟨HF1.out.below (by rw [hw]; exact heap_setCell_other _ _ _ _ (by have := H.out.lt; simp only; omega)) HO2.out.size⟩
       have e0 : w2.cell? ⟨g, 0, none⟩ = some (.slice (some ⟨r, 0, none⟩) n n) := by rw [← HN.out]; exact H2.out.c0
       clear hw)
    | (refine wpList_copy_pad rfl _ _ rfl s hs rfl rfl _ (by kernel_rfl) ?_
       intro n1 w1 hb1 hf1
       have HB1 := Kept.mk hb1
       have HF1 := Kept.mk hf1
       have H1 := Kept.mk (H.out.below hb1)
       have d0 : w1.cell? ⟨g, 0, none⟩ = some (.slice (some ⟨r, 0, none⟩) n n) := by rw [← HN.out]; exact H1.out.c0
       have d1 := H1.out.c1
       have d2 := H1.out.c2
       have f2 := H1.out.free 2 (by omega)
       clear hb1 hf1))
  have HPL := Kept.mk (pad_length (toL s) (by rw [toL_length]; exact hs))
  have HD2 : Kept (DevAt w2.drew g r ⟨D.S, pw - 1, D.mask⟩ true (pw - 1)) := ⟨H2.out.below ((Below.refl _ _).drew)⟩
  have HE2 : Kept (Fresh w2.drew w.heap.size (pad (toL s))) := ⟨HF2.out.below rfl (Nat.le_refl _)⟩
  refine wp_region_still_tail 7 (by kernel_rfl) (by kernel_rfl) ?_
  simp only [List.take_succ_cons, List.take_zero, List.drop_succ_cons, List.drop_zero]
  repeat (first | (refine still_load_row rfl 69 _ rfl _ (load_sector HE2.out HPL.out) ?_) | still_step)
  refine wpStill_nil ?_
  refine wpList_store_sector rfl _ _ rfl r (j * 64) (pad (toL s)) HPL.out rfl rfl (HD2.out.place HJ.out) ?_
  intro w3 ht
  have HT := Kept.mk ht
  have H3 := Kept.mk (HD2.out.tore HJ.out HPL.out ht)
  clear ht
  go_wp2
  go_ret
  exact ⟨rfl, Wrote.mk' H3.out HB1.out ((HO2.out.drew).trans (HT.out.blocks g) (fun _ _ h => h)) HR.out⟩
end Pd
end Go.Proofs.YtmkpkmkhnphogaaGreatDoor

/-
  The program's device: New; and the device as the laws ask it (Means).
-/
namespace Go.Proofs.YtmkpkmkhnphogaaGreatDoor
open Go.RowKit Tx Dv
namespace Pd

theorem sectorInfo : (Tryz.prog.info? 69).map (fun i => (i.zero, i.size, i.bytes)) = some (some (.agg (By.cells (List.replicate 64 0)).toArray), 64, 64) := by kernel_rfl

/-- n new sectors. -/
structure Rows (w : World) (r n : Nat) : Prop where
  lt : r < w.heap.size
  cells : ∀ k i, k < n → i < 64 → w.cell? ⟨r, k * 64 + i, none⟩ = some (By.cell 0)
  soft : ∀ k i, k < n → i < 64 → w.frozen? ⟨r, k * 64 + i, none⟩ = false

set_option maxRecDepth 100000 in
/-- make([]sector, n). -/
theorem wpList_make_sectors {w : World} {ops : Array Oper} {rest : List Oper} {o : Oper} {a : Act} {Q : Exit → Act → World → Prop} (hgd : o.guard = none) (x y : Operand) (ho : o.op = .makeSlice 72 x y)
    (n : Nat) (hn : n ≤ 4096) (hx : a.eval x = .int .i64 n) (hy : a.eval y = .int .i64 n)
    (h : ∀ w', Below w.heap.size w w' → Rows w' w.heap.size n → wpList Tryz.prog ops Q rest (a.put o.dst (.slice (some ⟨w.heap.size, 0, none⟩) n n)) w') : wpList Tryz.prog ops Q (o :: rest) a w := by
  obtain ⟨i, hi, hz, hs, hb⟩ := info_parts sectorInfo
  have hr := run_make (P := Tryz.prog) w 72 69 i _ Tryz.underlying72 hi hz .i64 .i64 n n (by omega) (Int.le_refl _) (by rw [hb]; omega) (by omega)
  rw [hs] at hr
  simp only [Int.toNat_natCast] at hr
  refine wpList_plain hgd fun K hK => ?_
  unfold Oper.wp execOp
  simp only [ho, hx, hy, Sem.run_bind, hr, Result.andThen_ok, Sem.run_pure]
  refine hK _ _ (h _ ((Below.refl _ _).alloc (Nat.le_refl _) _) ⟨by rw [World.size_alloc]; omega, fun k i hk hi => ?_, fun k i hk hi => frozen_of_row _ _ _ _ _ (heap_alloc_new w _)⟩)
  rw [cell_of_row _ _ _ _ _ (0, 0) (heap_alloc_new w _)]
  have hlt : k * 64 + i < n * 64 := by omega
  have hm : (k * 64 + i) % 64 < 64 := Nat.mod_lt _ (by decide)
  have hc : (Value.agg (By.cells (List.replicate 64 0)).toArray).cells = (By.cells (List.replicate 64 0)).toArray := rfl
  have hsz : (By.cells (List.replicate 64 0)).toArray.size = 64 := by rw [List.size_toArray, By.length_cells, List.length_replicate]
  unfold madeCells
  rw [Array.getElem?_map, Array.getElem?_range, if_pos hlt, hc, hsz]
  rw [Option.map_some]
  congr 1
  rw [getElem!_pos _ _ (by rw [hsz]; exact hm), List.getElem_toArray]
  unfold By.cells
  rw [List.getElem_map, List.getElem_replicate]

theorem fresh_byte (n k i : Nat) : byteAt (fresh n) k i = 0 := by
  unfold byteAt fresh Dv.blank
  simp only [List.getD_eq_getElem?_getD]
  by_cases hk : k < n
  · rw [List.getElem?_replicate, if_pos hk, Option.getD_some]
    by_cases hi : i < 64
    · rw [List.getElem?_replicate, if_pos hi]; rfl
    · rw [List.getElem?_replicate, if_neg hi]; rfl
  · rw [List.getElem?_replicate, if_neg hk]; rfl
theorem dev_new {w1 : World} {r n : Nat} (hr : Rows w1 r n) (hn : n ≤ 4096) : DevAt (w1.alloc (.cells #[.slice (some ⟨r, 0, none⟩) n n, .bool false, .int .i64 0, .int .u64 0] 74)) w1.heap.size r (fresh n) false 0 := by
  have hc : ∀ j, (w1.alloc (.cells #[.slice (some ⟨r, 0, none⟩) n n, .bool false, .int .i64 0, .int .u64 0] 74)).cell? ⟨w1.heap.size, j, none⟩ = (#[Value.slice (some ⟨r, 0, none⟩) n n, .bool false, .int .i64 0, .int .u64 0] : Array Value)[j]? := fun j => cell_of_row _ _ j _ _ (0, 0) (heap_alloc_new w1 _)
  have hl : (fresh n).S.length = n := by simp [fresh]
  have hlt := hr.lt
  refine ⟨by rw [World.size_alloc]; omega, by rw [World.size_alloc]; omega, by omega, by rw [hl]; exact hc 0, hc 1, hc 2, hc 3, fun j _ => frozen_of_row _ _ j _ _ (heap_alloc_new w1 _), fun k i hk hi => ?_, fun k i hk hi => ?_, rfl, by decide, by decide, fresh_ok n hn⟩
  · rw [hl] at hk
    rw [fresh_byte]
    exact (World.cell?_of_block (w := w1) (a := ⟨r, k * 64 + i, none⟩) (_root_.Go.heap_alloc_old w1 _ hr.lt)).trans (hr.cells k i hk hi)
  · rw [hl] at hk
    exact (World.frozen?_of_block (w := w1) (a := ⟨r, k * 64 + i, none⟩) (_root_.Go.heap_alloc_old w1 _ hr.lt)).trans (hr.soft k i hk hi)

theorem new_bad (n : Int) (w : World) (h0 : -9223372036854775808 ≤ n) (h1 : n ≤ 9223372036854775807) (h : n < 1 ∨ 4096 < n) :
    Calls Tryz.prog 23 #[.int .i64 n] w fun e w' => e = .returned (.tuple #[.pointer none, .int .i64 1]) ∧ w' = w := by
  by_cases hn : n < 1
  · go_enter Tryz.func23, Tryz.ntmps23
    go_wp2
    go_ret2
    exact ⟨rfl, rfl⟩
  · have hn2 : 4096 < n := by omega
    clear h
    go_enter Tryz.func23, Tryz.ntmps23
    go_wp2
    go_ret2
    exact ⟨rfl, rfl⟩

set_option maxHeartbeats 1000000 in
set_option maxRecDepth 100000 in
theorem new_any (n : Nat) (w : World) (h1 : 1 ≤ n) (h2 : n ≤ 4096) :
    Calls Tryz.prog 23 #[.int .i64 n] w fun e w' => ∃ g r, e = .returned (.tuple #[.pointer (some ⟨g, 0, none⟩), .int .i64 0]) ∧ DevAt w' g r (fresh n) false 0 ∧ w.heap.size ≤ g ∧ w.heap.size ≤ r ∧ Below w.heap.size w w' := by
  have hbd : ∀ (r : Nat) (W : World), (Instr.build 74 #[(0, .slice (some ⟨r, 0, none⟩) n n)]).run Tryz.prog W = .ok (.agg #[.slice (some ⟨r, 0, none⟩) n n, .bool false, .int .i64 0, .int .u64 0]) W := fun r W => by kernel_rfl
  have z1 : ¬ (n : Int) < 1 := by omega
  have z2 : ¬ (4096 : Int) < n := by omega
  go_enter Tryz.func23, Tryz.ntmps23
  go_wp2_with (refine wpList_make_sectors rfl _ _ rfl n h2 rfl rfl ?_
               intro w1 hb hr
               have HB := Kept.mk hb
               have HR := Kept.mk hr
               clear hb hr)
  go_ret2
  exact ⟨w1.heap.size, rfl, w.heap.size, dev_new HR.out h2, HB.out.size, Nat.le_refl _, HB.out.trans ((Below.refl _ _).alloc HB.out.size _)⟩
/-- The program's device, as the laws ask it. -/
def Dev (w : World) (B : Nat → Prop) (p : Value) (D : Disk) : Prop := ∃ g r lim pw, p = .pointer (some ⟨g, 0, none⟩) ∧ (∀ k, B k ↔ blocks g r k) ∧ DevAt w g r D lim pw ∧ 0 < D.S.length
theorem write_one (w : World) (g r : Nat) (D : Disk) (lim : Bool) (pw : Int) (h : DevAt w g r D lim pw) (k : Int) (s : ByteArray) (hs : s.size ≤ 9223372036854775807) :
    Calls Tryz.prog 16 #[.pointer (some ⟨g, 0, none⟩), .int .i64 k, .string s] w fun e w' => e = .returned (.int .i64 (D.write k (toL s)).1) ∧ Wrote w w' g r (D.write k (toL s)).2 := by
  by_cases hh : D.has k ∧ (toL s).length ≤ 64
  · have hh0 := hh
    obtain ⟨⟨h0, h1⟩, h64⟩ := hh
    rw [toL_length] at h64
    obtain ⟨j, rfl⟩ := Int.eq_ofNat_of_zero_le h0
    have hj : j < D.S.length := by omega
    by_cases hp : D.power = 0
    · rw [Disk.write_dead hh0 hp]
      refine (write_torn w g r D lim pw h j hj s h64 hp).mono ?_
      rw [Disk.write_dead hh0 hp]
      exact fun e w' h => h
    · have hpw := h.power
      rw [Disk.write_on hh0 hp]
      cases lim
      · refine (write_free w g r D pw h j hj s h64).mono ?_
        rw [Disk.write_on hh0 hp]
        exact fun e w' h => h
      · have h2 : D.power = pw := hpw
        refine (write_some w g r D pw h (by have := h.pw0; omega) j hj s h64).mono ?_
        rw [Disk.write_on hh0 hp]
        exact fun e w' h => h
  · rw [Disk.write_out hh]
    refine (write_out w g r D lim pw h k s hs hh).mono ?_
    rintro e w' ⟨rfl, rfl⟩
    exact ⟨rfl, ⟨⟨lim, pw, h⟩, Only.refl _ _⟩⟩

theorem means : Means Dev where
  lt := by
    rintro w B p D ⟨g, r, lim, pw, rfl, hB, h, hp⟩ k hk
    rcases (hB k).1 hk with rfl | rfl
    · exact h.lt
    · exact h.rlt
  keep := by
    rintro w w' B p D ⟨g, r, lim, pw, rfl, hB, h, hp⟩ hk hs
    exact ⟨g, r, lim, pw, rfl, hB, h.keep (hk g ((hB g).2 (.inl rfl))) (hk r ((hB r).2 (.inr rfl))) hs, hp⟩
  ptr := by
    rintro w B p D ⟨g, r, lim, pw, rfl, _⟩
    exact ⟨_, rfl⟩
  ok := by
    rintro w B p D ⟨g, r, lim, pw, rfl, hB, h, hp⟩
    exact ⟨h.ok, hp⟩
  newBad := by
    intro n w h0 h1 h
    refine (new_bad n w h0 h1 h).mono ?_
    rintro e w' ⟨rfl, rfl⟩
    exact ⟨rfl, Below.refl _ _⟩
  newOk := by
    intro n w h1 h2
    refine (new_any n w h1 h2).mono ?_
    rintro e w' ⟨g, r, rfl, h, hg, hr, hb⟩
    refine ⟨blocks g r, _, rfl, ⟨g, r, false, 0, rfl, fun _ => Iff.rfl, h, by simp [fresh]; omega⟩, fun k hk => ?_, hb⟩
    rcases hk with rfl | rfl
    · exact hg
    · exact hr
  size := by
    rintro w B p D ⟨g, r, lim, pw, rfl, hB, h, hp⟩
    refine (size_any w g r D lim pw h).mono ?_
    rintro e w' ⟨rfl, rfl⟩
    exact ⟨rfl, Below.refl _ _⟩
  read := by
    rintro w B p D ⟨g, r, lim, pw, rfl, hB, h, hp⟩ k h0 h1
    refine (read_any w g r D lim pw h k h0 h1).mono ?_
    rintro e w' ⟨t, rfl, ht, rfl⟩
    exact ⟨t, rfl, ht, Below.refl _ _⟩
  write := by
    rintro w B p D ⟨g, r, lim, pw, rfl, hB, h, hp⟩ k s h0 h1 hs
    refine (write_one w g r D lim pw h k s hs).mono ?_
    rintro e w' ⟨rfl, ⟨l2, p2, h2⟩, ho⟩
    exact ⟨B, rfl, ⟨g, r, l2, p2, rfl, hB, h2, by rw [write_length]; exact hp⟩, ho.mono fun i _ hi => (hB i).2 hi, fun i hi => .inl hi⟩
  limit := by
    rintro w B p D ⟨g, r, lim, pw, rfl, hB, h, hp⟩ n m h0 h1 hm
    refine (limit_any w g r D lim pw h n m h1 hm).mono ?_
    rintro e w' ⟨rfl, ⟨p2, h2⟩, ho⟩
    exact ⟨B, rfl, ⟨g, r, true, p2, rfl, hB, h2, hp⟩, ho.mono fun i _ hi => (hB i).2 hi, fun i hi => .inl hi⟩
  restart := by
    rintro w B p D ⟨g, r, lim, pw, rfl, hB, h, hp⟩
    refine (restart_any w g r D lim pw h).mono ?_
    rintro e w' ⟨rfl, h2, ho⟩
    exact ⟨B, rfl, ⟨g, r, false, 0, rfl, hB, h2, hp⟩, ho.mono fun i _ hi => (hB i).2 hi, fun i hi => .inl hi⟩
end Pd
end Go.Proofs.YtmkpkmkhnphogaaGreatDoor
