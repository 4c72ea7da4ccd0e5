/-
  The program's device in memory: a struct of four cells, the sectors' bytes in one row behind it; its small methods.
-/
import Derived.Test.YticgecbgeahijaaProg
import Derived.Test.YticgecbgeahijaaDisk
import Derived.Test.YticgecbgeahijaaTxt
import Derived.Test.YticgecbgeahijaaRow
import Derived.WalkKit
import Derived.BigCall
import Derived.Laws.Small
import Derived.Laws.Unary
import Derived.Laws.Slices
import Derived.Laws.Strings3
import Derived.Laws.Pointers
import Derived.Deep.MidRow
namespace Go.Proofs.Yticgecbgeahijaa
open Go.RowKit Tx Dv
namespace Pd

theorem byteTy : By.Ty Try.prog 54 5 := ⟨Try.underlying54, Try.underlying5, by kernel_rfl⟩

/-- Byte i of sector k. -/
def byteAt (D : Disk) (k i : Nat) : UInt8 := (D.S.getD k []).getD i 0

/-- The device at block g, its sectors in block r. -/
structure DevAt (w : World) (g r : Nat) (D : Disk) (lim : Bool) (pw : Int) : Prop where
  lt : g < w.heap.size
  rlt : r < w.heap.size
  apart : r ≠ g
  c0 : w.cell? ⟨g, 0, none⟩ = some (.slice (some ⟨r, 0, none⟩) D.S.length D.S.length)
  c1 : w.cell? ⟨g, 1, none⟩ = some (.bool lim)
  c2 : w.cell? ⟨g, 2, none⟩ = some (.int .i64 pw)
  c3 : w.cell? ⟨g, 3, none⟩ = some (.int .u64 D.mask)
  free : ∀ j, j < 4 → w.frozen? ⟨g, j, none⟩ = false
  cells : ∀ k i, k < D.S.length → i < 64 → w.cell? ⟨r, k * 64 + i, none⟩ = some (By.cell (byteAt D k i))
  soft : ∀ k i, k < D.S.length → i < 64 → w.frozen? ⟨r, k * 64 + i, none⟩ = false
  power : D.power = if lim then pw else -1
  pw0 : 0 ≤ pw
  pw1 : pw ≤ 9223372036854775807
  ok : D.Ok

section
variable {w w' : World} {g r : Nat} {D : Disk} {lim : Bool} {pw : Int}
theorem DevAt.keep (h : DevAt w g r D lim pw) (h1 : w'.heap[g]? = w.heap[g]?) (h2 : w'.heap[r]? = w.heap[r]?) (hs : w.heap.size ≤ w'.heap.size) : DevAt w' g r D lim pw :=
  ⟨Nat.lt_of_lt_of_le h.lt hs, Nat.lt_of_lt_of_le h.rlt hs, h.apart, (World.cell?_of_block (w := w) (a := ⟨g, 0, none⟩) h1).trans h.c0, (World.cell?_of_block (w := w) (a := ⟨g, 1, none⟩) h1).trans h.c1, (World.cell?_of_block (w := w) (a := ⟨g, 2, none⟩) h1).trans h.c2,
    (World.cell?_of_block (w := w) (a := ⟨g, 3, none⟩) h1).trans h.c3, fun j hj => (World.frozen?_of_block (w := w) (a := ⟨g, j, none⟩) h1).trans (h.free j hj),
    fun k i hk hi => (World.cell?_of_block (w := w) (a := ⟨r, k * 64 + i, none⟩) h2).trans (h.cells k i hk hi), fun k i hk hi => (World.frozen?_of_block (w := w) (a := ⟨r, k * 64 + i, none⟩) h2).trans (h.soft k i hk hi), h.power, h.pw0, h.pw1, h.ok⟩
theorem DevAt.below (h : DevAt w g r D lim pw) (hb : Below w.heap.size w w') : DevAt w' g r D lim pw := h.keep (hb.block g h.lt) (hb.block r h.rlt) hb.size
/-- A cell of the struct is written. -/
theorem DevAt.struct (h : DevAt w g r D lim pw) (j : Nat) (v : Value) : (∀ k i, k < D.S.length → i < 64 → (w.setCell ⟨g, j, none⟩ v).cell? ⟨r, k * 64 + i, none⟩ = some (By.cell (byteAt D k i))) ∧ (∀ i, i ≠ j → (w.setCell ⟨g, j, none⟩ v).cell? ⟨g, i, none⟩ = w.cell? ⟨g, i, none⟩) ∧ (w.setCell ⟨g, j, none⟩ v).heap.size = w.heap.size :=
  ⟨fun k i hk hi => (World.cell?_setCell_other w _ _ _ (fun e => h.apart (by injection e with e1 e2; exact e1.symm))).trans (h.cells k i hk hi),
    fun i hi => World.cell?_setCell_other w _ _ _ (fun e => hi (by injection e with e1 e2; exact e2.symm)), by simp [World.setCell]⟩
theorem DevAt.setLim (h : DevAt w g r D lim pw) (b : Bool) (p : Int) (hp : p = if b then pw else -1) : DevAt (w.setCell ⟨g, 1, none⟩ (.bool b)) g r ⟨D.S, p, D.mask⟩ b pw := by
  obtain ⟨hc, ho, hz⟩ := h.struct 1 (.bool b)
  refine ⟨by rw [hz]; exact h.lt, by rw [hz]; exact h.rlt, h.apart, (ho 0 (by decide)).trans h.c0, World.cell?_setCell_same w _ _ h.c1, (ho 2 (by decide)).trans h.c2, (ho 3 (by decide)).trans h.c3,
    fun j hj => by rw [World.frozen?_setCell]; exact h.free j hj, hc, fun k i hk hi => by rw [World.frozen?_setCell]; exact h.soft k i hk hi, hp, h.pw0, h.pw1, ⟨h.ok.each, h.ok.few, ?_, ?_, h.ok.mask⟩⟩
  · have := h.pw0
    simp only
    rw [hp]
    split <;> omega
  · have := h.pw1
    simp only
    rw [hp]
    split <;> omega
theorem DevAt.setPow (h : DevAt w g r D lim pw) (q p : Int) (h0 : 0 ≤ q) (h1 : q ≤ 9223372036854775807) (hp : p = if lim then q else -1) : DevAt (w.setCell ⟨g, 2, none⟩ (.int .i64 q)) g r ⟨D.S, p, D.mask⟩ lim q := by
  obtain ⟨hc, ho, hz⟩ := h.struct 2 (.int .i64 q)
  refine ⟨by rw [hz]; exact h.lt, by rw [hz]; exact h.rlt, h.apart, (ho 0 (by decide)).trans h.c0, (ho 1 (by decide)).trans h.c1, World.cell?_setCell_same w _ _ h.c2, (ho 3 (by decide)).trans h.c3,
    fun j hj => by rw [World.frozen?_setCell]; exact h.free j hj, hc, fun k i hk hi => by rw [World.frozen?_setCell]; exact h.soft k i hk hi, hp, h0, h1, ⟨h.ok.each, h.ok.few, ?_, ?_, h.ok.mask⟩⟩
  · simp only
    rw [hp]
    split <;> omega
  · simp only
    rw [hp]
    split <;> omega
theorem DevAt.setMask (h : DevAt w g r D lim pw) (m : Nat) (h1 : m < 18446744073709551616) : DevAt (w.setCell ⟨g, 3, none⟩ (.int .u64 m)) g r ⟨D.S, D.power, m⟩ lim pw := by
  obtain ⟨hc, ho, hz⟩ := h.struct 3 (.int .u64 m)
  exact ⟨by rw [hz]; exact h.lt, by rw [hz]; exact h.rlt, h.apart, (ho 0 (by decide)).trans h.c0, (ho 1 (by decide)).trans h.c1, (ho 2 (by decide)).trans h.c2, World.cell?_setCell_same w _ _ h.c3,
    fun j hj => by rw [World.frozen?_setCell]; exact h.free j hj, hc, fun k i hk hi => by rw [World.frozen?_setCell]; exact h.soft k i hk hi, h.power, h.pw0, h.pw1, ⟨h.ok.each, h.ok.few, h.ok.low, h.ok.high, h1⟩⟩
end

/-- The blocks of a device. -/
def blocks (g r k : Nat) : Prop := k = g ∨ k = r

set_option maxRecDepth 100000 in
theorem size_any (w : World) (g r : Nat) (D : Disk) (lim : Bool) (pw : Int) (h : DevAt w g r D lim pw) :
    Calls Try.prog 16 #[.pointer (some ⟨g, 0, none⟩)] w fun e w' => e = .returned (.int .i64 D.S.length) ∧ w' = w := by
  have c0 := h.c0
  clear h
  generalize D.S.length = n at *
  go_enter Try.func16, Try.ntmps16
  go_wp2
  go_ret
  exact ⟨rfl, rfl⟩

set_option maxRecDepth 100000 in
theorem has_yes (w : World) (g r n : Nat) (c0 : w.cell? ⟨g, 0, none⟩ = some (.slice (some ⟨r, 0, none⟩) n n)) (j : Nat) (hj : j < n) :
    Calls Try.prog 22 #[.pointer (some ⟨g, 0, none⟩), .int .i64 j] w fun e w' => e = .returned (.bool true) ∧ w' = w := by
  have z0 : (0 : Int) ≤ j := by omega
  have z1 : (j : Int) < n := by omega
  go_enter Try.func22, Try.ntmps22
  go_wp2
  go_ret
  exact ⟨rfl, rfl⟩
set_option maxRecDepth 100000 in
theorem has_no (w : World) (g r n : Nat) (c0 : w.cell? ⟨g, 0, none⟩ = some (.slice (some ⟨r, 0, none⟩) n n)) (k : Int) (hk : ¬ (0 ≤ k ∧ k < n)) :
    Calls Try.prog 22 #[.pointer (some ⟨g, 0, none⟩), .int .i64 k] w fun e w' => e = .returned (.bool false) ∧ w' = w := by
  by_cases h0 : 0 ≤ k
  · have z1 : ¬ k < n := by omega
    clear hk
    go_enter Try.func22, Try.ntmps22
    go_wp2
    go_ret
    exact ⟨rfl, rfl⟩
  · clear hk
    go_enter Try.func22, Try.ntmps22
    go_wp2
    go_ret
    exact ⟨rfl, rfl⟩

set_option maxRecDepth 100000 in
theorem spend_free (w : World) (g : Nat) (c1 : w.cell? ⟨g, 1, none⟩ = some (.bool false)) :
    Calls Try.prog 23 #[.pointer (some ⟨g, 0, none⟩)] w fun e w' => e = .returned (.bool true) ∧ w' = w := by
  go_enter Try.func23, Try.ntmps23
  go_wp2
  go_ret
  exact ⟨rfl, rfl⟩
set_option maxRecDepth 100000 in
theorem spend_none (w : World) (g : Nat) (c1 : w.cell? ⟨g, 1, none⟩ = some (.bool true)) (c2 : w.cell? ⟨g, 2, none⟩ = some (.int .i64 0)) :
    Calls Try.prog 23 #[.pointer (some ⟨g, 0, none⟩)] w fun e w' => e = .returned (.bool false) ∧ w' = w := by
  go_enter Try.func23, Try.ntmps23
  go_wp2
  go_ret
  exact ⟨rfl, rfl⟩
set_option maxRecDepth 100000 in
theorem spend_one (w : World) (g : Nat) (p : Int) (c1 : w.cell? ⟨g, 1, none⟩ = some (.bool true)) (c2 : w.cell? ⟨g, 2, none⟩ = some (.int .i64 p)) (f2 : w.frozen? ⟨g, 2, none⟩ = false) (h0 : 0 < p) (h1 : p ≤ 9223372036854775807) :
    Calls Try.prog 23 #[.pointer (some ⟨g, 0, none⟩)] w fun e w' => e = .returned (.bool true) ∧ w' = w.setCell ⟨g, 2, none⟩ (.int .i64 (p - 1)) := by
  have hpe : (p == 0) = false := by rw [beq_eq_false_iff_ne]; omega
  have y3 : (p - 1 + 9223372036854775808) % 18446744073709551616 - 9223372036854775808 = p - 1 := by omega
  go_enter Try.func23, Try.ntmps23
  go_wp2
  go_ret
  exact ⟨rfl, rfl⟩

set_option maxRecDepth 100000 in
theorem restart_any (w : World) (g r : Nat) (D : Disk) (lim : Bool) (pw : Int) (h : DevAt w g r D lim pw) :
    Calls Try.prog 14 #[.pointer (some ⟨g, 0, none⟩)] w fun e w' => e = .returned (.tuple #[]) ∧ DevAt w' g r D.restart false 0 ∧ Only (blocks g r) w w' := by
  have c1 := h.c1
  have c2 := h.c2
  have c3 := h.c3
  have f1 := h.free 1 (by omega)
  have f2 := h.free 2 (by omega)
  have f3 := h.free 3 (by omega)
  have H := Kept.mk h
  clear h
  go_enter Try.func14, Try.ntmps14
  go_wp2
  go_end0
  exact ⟨rfl, ((H.out.setLim false (-1) rfl).setPow 0 (-1) (by decide) (by decide) rfl).setMask 0 (by decide), (((Only.refl _ w).setCell _ _ (fun _ => .inl rfl)).setCell _ _ (fun _ => .inl rfl)).setCell _ _ (fun _ => .inl rfl)⟩

set_option maxRecDepth 100000 in
theorem limit_any (w : World) (g r : Nat) (D : Disk) (lim : Bool) (pw : Int) (h : DevAt w g r D lim pw) (n : Int) (m : Nat) (hn : n ≤ 9223372036854775807) (hm : m < 18446744073709551616) :
    Calls Try.prog 13 #[.pointer (some ⟨g, 0, none⟩), .int .i64 n, .int .u64 m] w fun e w' => e = .returned (.tuple #[]) ∧ (∃ p, DevAt w' g r (D.limit n m) true p) ∧ Only (blocks g r) w w' := by
  have c1 := h.c1
  have c2 := h.c2
  have c3 := h.c3
  have f1 := h.free 1 (by omega)
  have f2 := h.free 2 (by omega)
  have f3 := h.free 3 (by omega)
  have H := Kept.mk h
  clear h
  by_cases h0 : n < 0
  · have e : max n 0 = 0 := by omega
    go_enter Try.func13, Try.ntmps13
    go_wp2
    go_end0
    refine ⟨rfl, ⟨0, ?_⟩, (((Only.refl _ w).setCell _ _ (fun _ => .inl rfl)).setCell _ _ (fun _ => .inl rfl)).setCell _ _ (fun _ => .inl rfl)⟩
    unfold Disk.limit
    rw [e]
    exact ((H.out.setLim true pw rfl).setPow 0 0 (by decide) (by decide) rfl).setMask m hm
  · have e : max n 0 = n := by omega
    go_enter Try.func13, Try.ntmps13
    go_wp2
    go_end0
    refine ⟨rfl, ⟨n, ?_⟩, (((Only.refl _ w).setCell _ _ (fun _ => .inl rfl)).setCell _ _ (fun _ => .inl rfl)).setCell _ _ (fun _ => .inl rfl)⟩
    unfold Disk.limit
    rw [e]
    exact ((H.out.setLim true pw rfl).setPow n n (by omega) hn rfl).setMask m hm

/-- string(x), x a slice of bytes that lie where it says. -/
theorem wpList_string_at {P : Program} {w : World} {T E : TypeId} {ops : Array Oper} {rest : List Oper} {o : Oper} {a : Act} {Q : Exit → Act → World → Prop} (k : By.Ty P T E) (hgd : o.guard = none) (dst : TypeId) (x : Operand) (ho : o.op = .convert T dst x)
    (hd : P.underlying dst = some .string) (l : List UInt8) (ad : Addr) (n cap : Nat) (hn : l.length = n) (hx : a.eval x = .slice (some ad) n cap) (hc : ∀ j, j < n → w.cell? (ad.add j) = some (By.cell (l.getD j 0)))
    (h : wpList P ops Q rest (a.put o.dst (.string (bs l))) w) : wpList P ops Q (o :: rest) a w := by
  subst hn
  have hr : (convert T dst (.slice (some ad) l.length cap)).run P w = .ok (.string ⟨l.toArray⟩) w := run_convert_bytes_back w T dst E ad cap l k.und k.elem hd fun j hj => by
    rw [hc j hj, List.getD_eq_getElem?_getD, List.getElem?_eq_getElem hj]
    rfl
  refine wpList_plain hgd fun K hK => ?_
  unfold Oper.wp execOp
  simp only [ho, hx, Sem.run_bind, hr, Result.andThen_ok, Sem.run_pure]
  exact hK _ _ h

set_option maxRecDepth 100000 in
theorem read_any (w : World) (g r : Nat) (D : Disk) (lim : Bool) (pw : Int) (h : DevAt w g r D lim pw) (k : Int) (hk0 : -9223372036854775808 ≤ k) (hk1 : k ≤ 9223372036854775807) :
    Calls Try.prog 12 #[.pointer (some ⟨g, 0, none⟩), .int .i64 k] w fun e w' => ∃ t : ByteArray, e = .returned (.tuple #[.string t, .int .i64 (D.read k).2]) ∧ Kept (t = bs (D.read k).1) ∧ w' = w := by
  have c0 := h.c0
  by_cases hh : D.has k
  · obtain ⟨h0, h1⟩ := id hh
    obtain ⟨j, rfl⟩ := Int.eq_ofNat_of_zero_le h0
    have hj : j < D.S.length := by omega
    have hR : Kept (D.at j = (D.read j).1 ∧ (D.read j).2 = 0) := ⟨by unfold Disk.read; rw [if_pos hh]; exact ⟨rfl, rfl⟩⟩
    have hl : Kept ((D.at j).length = 64) := ⟨h.ok.at hh⟩
    have hc : Kept (∀ i, i < 64 → w.cell? ⟨r, j * 64 + i, none⟩ = some (By.cell ((D.at j).getD i 0))) := ⟨fun i hi => h.cells j i hj hi⟩
    have hmx := h.ok.few
    generalize D.at j = l at hR hl hc
    clear h hh h0
    generalize hn : D.S.length = n at *
    have HN := Kept.mk hn
    clear hn
    have z0 : (0 : Int) ≤ j := by omega
    go_enter Try.func12, Try.ntmps12
    go_wp2_with (first
      | (go_at_call 22; refine (has_yes _ g r n (by assumption) j hj).mono ?_; rintro e w' ⟨rfl, rfl⟩)
      | (refine wpList_string_at byteTy rfl 9 _ rfl Try.underlying9 l ⟨r, j * 64, none⟩ 64 64 hl.out rfl (fun i hi => ?_) ?_; · rw [Addr.add_mid]; exact hc.out i hi))
    go_ret2
    exact ⟨_, by rw [hR.out.2]; rfl, ⟨by rw [hR.out.1]⟩, rfl⟩
  · have hR : Kept ((D.read k).1 = [] ∧ (D.read k).2 = 1) := ⟨by unfold Disk.read; rw [if_neg hh]; exact ⟨rfl, rfl⟩⟩
    have HH := Kept.mk hh
    clear h hh
    go_enter Try.func12, Try.ntmps12
    go_wp2_with (go_at_call 22; refine (has_no _ g r _ (by assumption) k HH.out).mono ?_; rintro e w' ⟨rfl, rfl⟩)
    go_ret2
    exact ⟨_, by rw [hR.out.2]; rfl, ⟨by rw [hR.out.1]; rfl⟩, rfl⟩
end Pd
end Go.Proofs.Yticgecbgeahijaa
