/-
  The program's device: New; and the device as the laws ask it (Means).
-/
import Derived.Test.YticgecbgeahijaaPwon
import Derived.Test.YticgecbgeahijaaIf
namespace Go.Proofs.Yticgecbgeahijaa
open Go.RowKit Tx Dv
namespace Pd

theorem sectorInfo : (Try.prog.info? 53).map (fun i => (i.zero, i.size, i.bytes)) = some (some (.agg (By.cells (List.replicate 64 0)).toArray), 64, 64) := by kernel_rfl

/-- n new sectors. -/
structure Rows (w : World) (r n : Nat) : Prop where
  lt : r < w.heap.size
  cells : ∀ k i, k < n → i < 64 → w.cell? ⟨r, k * 64 + i, none⟩ = some (By.cell 0)
  soft : ∀ k i, k < n → i < 64 → w.frozen? ⟨r, k * 64 + i, none⟩ = false

/-- make([]sector, n). -/
theorem wpList_make_sectors {w : World} {ops : Array Oper} {rest : List Oper} {o : Oper} {a : Act} {Q : Exit → Act → World → Prop} (hgd : o.guard = none) (x y : Operand) (ho : o.op = .makeSlice 43 x y)
    (n : Nat) (hn : n ≤ 4096) (hx : a.eval x = .int .i64 n) (hy : a.eval y = .int .i64 n)
    (h : ∀ w', Below w.heap.size w w' → Rows w' w.heap.size n → wpList Try.prog ops Q rest (a.put o.dst (.slice (some ⟨w.heap.size, 0, none⟩) n n)) w') : wpList Try.prog ops Q (o :: rest) a w := by
  obtain ⟨i, hi, hz, hs, hb⟩ := info_parts sectorInfo
  have hr := run_make (P := Try.prog) w 43 53 i _ Try.underlying43 hi hz .i64 .i64 n n (by omega) (Int.le_refl _) (by rw [hb]; omega) (by omega)
  rw [hs] at hr
  simp only [Int.toNat_natCast] at hr
  refine wpList_plain hgd fun K hK => ?_
  unfold Oper.wp execOp
  simp only [ho, hx, hy, Sem.run_bind, hr, Result.andThen_ok, Sem.run_pure]
  refine hK _ _ (h _ ((Below.refl _ _).alloc (Nat.le_refl _) _) ⟨by rw [World.size_alloc]; omega, fun k i hk hi => ?_, fun k i hk hi => frozen_of_row _ _ _ _ _ (heap_alloc_new w _)⟩)
  rw [cell_of_row _ _ _ _ _ (0, 0) (heap_alloc_new w _)]
  have hlt : k * 64 + i < n * 64 := by omega
  have hm : (k * 64 + i) % 64 < 64 := Nat.mod_lt _ (by decide)
  have hc : (Value.agg (By.cells (List.replicate 64 0)).toArray).cells = (By.cells (List.replicate 64 0)).toArray := rfl
  have hsz : (By.cells (List.replicate 64 0)).toArray.size = 64 := by rw [List.size_toArray, By.length_cells, List.length_replicate]
  unfold madeCells
  rw [Array.getElem?_map, Array.getElem?_range, if_pos hlt, hc, hsz]
  rw [Option.map_some]
  congr 1
  rw [getElem!_pos _ _ (by rw [hsz]; exact hm), List.getElem_toArray]
  unfold By.cells
  rw [List.getElem_map, List.getElem_replicate]

theorem fresh_byte (n k i : Nat) : byteAt (fresh n) k i = 0 := by
  unfold byteAt fresh Dv.blank
  simp only [List.getD_eq_getElem?_getD]
  by_cases hk : k < n
  · rw [List.getElem?_replicate, if_pos hk, Option.getD_some]
    by_cases hi : i < 64
    · rw [List.getElem?_replicate, if_pos hi]; rfl
    · rw [List.getElem?_replicate, if_neg hi]; rfl
  · rw [List.getElem?_replicate, if_neg hk]; rfl
theorem dev_new {w1 : World} {r n : Nat} (hr : Rows w1 r n) (hn : n ≤ 4096) : DevAt (w1.alloc (.cells #[.slice (some ⟨r, 0, none⟩) n n, .bool false, .int .i64 0, .int .u64 0] 45)) w1.heap.size r (fresh n) false 0 := by
  have hc : ∀ j, (w1.alloc (.cells #[.slice (some ⟨r, 0, none⟩) n n, .bool false, .int .i64 0, .int .u64 0] 45)).cell? ⟨w1.heap.size, j, none⟩ = (#[Value.slice (some ⟨r, 0, none⟩) n n, .bool false, .int .i64 0, .int .u64 0] : Array Value)[j]? := fun j => cell_of_row _ _ j _ _ (0, 0) (heap_alloc_new w1 _)
  have hl : (fresh n).S.length = n := by simp [fresh]
  have hlt := hr.lt
  refine ⟨by rw [World.size_alloc]; omega, by rw [World.size_alloc]; omega, by omega, by rw [hl]; exact hc 0, hc 1, hc 2, hc 3, fun j _ => frozen_of_row _ _ j _ _ (heap_alloc_new w1 _), fun k i hk hi => ?_, fun k i hk hi => ?_, rfl, by decide, by decide, fresh_ok n hn⟩
  · rw [hl] at hk
    rw [fresh_byte]
    exact (World.cell?_of_block (w := w1) (a := ⟨r, k * 64 + i, none⟩) (_root_.Go.heap_alloc_old w1 _ hr.lt)).trans (hr.cells k i hk hi)
  · rw [hl] at hk
    exact (World.frozen?_of_block (w := w1) (a := ⟨r, k * 64 + i, none⟩) (_root_.Go.heap_alloc_old w1 _ hr.lt)).trans (hr.soft k i hk hi)

theorem new_bad (n : Int) (w : World) (h0 : -9223372036854775808 ≤ n) (h1 : n ≤ 9223372036854775807) (h : n < 1 ∨ 4096 < n) :
    Calls Try.prog 6 #[.int .i64 n] w fun e w' => e = .returned (.tuple #[.pointer none, .int .i64 1]) ∧ w' = w := by
  by_cases hn : n < 1
  · go_enter Try.func6, Try.ntmps6
    go_wp2
    go_ret2
    exact ⟨rfl, rfl⟩
  · have hn2 : 4096 < n := by omega
    clear h
    go_enter Try.func6, Try.ntmps6
    go_wp2
    go_ret2
    exact ⟨rfl, rfl⟩

set_option maxHeartbeats 1000000 in
set_option maxRecDepth 100000 in
theorem new_any (n : Nat) (w : World) (h1 : 1 ≤ n) (h2 : n ≤ 4096) :
    Calls Try.prog 6 #[.int .i64 n] w fun e w' => ∃ g r, e = .returned (.tuple #[.pointer (some ⟨g, 0, none⟩), .int .i64 0]) ∧ DevAt w' g r (fresh n) false 0 ∧ w.heap.size ≤ g ∧ w.heap.size ≤ r ∧ Below w.heap.size w w' := by
  have hbd : ∀ (r : Nat) (W : World), (Instr.build 45 #[(0, .slice (some ⟨r, 0, none⟩) n n)]).run Try.prog W = .ok (.agg #[.slice (some ⟨r, 0, none⟩) n n, .bool false, .int .i64 0, .int .u64 0]) W := fun r W => by kernel_rfl
  have z1 : ¬ (n : Int) < 1 := by omega
  have z2 : ¬ (4096 : Int) < n := by omega
  go_enter Try.func6, Try.ntmps6
  go_wp2_with (refine wpList_make_sectors rfl _ _ rfl n h2 rfl rfl ?_
               intro w1 hb hr
               have HB := Kept.mk hb
               have HR := Kept.mk hr
               clear hb hr)
  go_ret2
  exact ⟨w1.heap.size, rfl, w.heap.size, dev_new HR.out h2, HB.out.size, Nat.le_refl _, HB.out.trans ((Below.refl _ _).alloc HB.out.size _)⟩
/-- The program's device, as the laws ask it. -/
def Dev (w : World) (B : Nat → Prop) (p : Value) (D : Disk) : Prop := ∃ g r lim pw, p = .pointer (some ⟨g, 0, none⟩) ∧ (∀ k, B k ↔ blocks g r k) ∧ DevAt w g r D lim pw ∧ 0 < D.S.length
theorem write_one (w : World) (g r : Nat) (D : Disk) (lim : Bool) (pw : Int) (h : DevAt w g r D lim pw) (k : Int) (s : ByteArray) (hs : s.size ≤ 1000000) :
    Calls Try.prog 11 #[.pointer (some ⟨g, 0, none⟩), .int .i64 k, .string s] w fun e w' => e = .returned (.int .i64 (D.write k (toL s)).1) ∧ Wrote w w' g r (D.write k (toL s)).2 := by
  by_cases hh : D.has k ∧ (toL s).length ≤ 64
  · have hh0 := hh
    obtain ⟨⟨h0, h1⟩, h64⟩ := hh
    rw [toL_length] at h64
    obtain ⟨j, rfl⟩ := Int.eq_ofNat_of_zero_le h0
    have hj : j < D.S.length := by omega
    by_cases hp : D.power = 0
    · rw [Disk.write_dead hh0 hp]
      refine (write_torn w g r D lim pw h j hj s h64 hp).mono ?_
      rw [Disk.write_dead hh0 hp]
      exact fun e w' h => h
    · have hpw := h.power
      rw [Disk.write_on hh0 hp]
      cases lim
      · refine (write_free w g r D pw h j hj s h64).mono ?_
        rw [Disk.write_on hh0 hp]
        exact fun e w' h => h
      · have h2 : D.power = pw := hpw
        refine (write_some w g r D pw h (by have := h.pw0; omega) j hj s h64).mono ?_
        rw [Disk.write_on hh0 hp]
        exact fun e w' h => h
  · rw [Disk.write_out hh]
    refine (write_out w g r D lim pw h k s hs hh).mono ?_
    rintro e w' ⟨rfl, rfl⟩
    exact ⟨rfl, ⟨⟨lim, pw, h⟩, Only.refl _ _⟩⟩

theorem means : Means Dev where
  lt := by
    rintro w B p D ⟨g, r, lim, pw, rfl, hB, h, hp⟩ k hk
    rcases (hB k).1 hk with rfl | rfl
    · exact h.lt
    · exact h.rlt
  keep := by
    rintro w w' B p D ⟨g, r, lim, pw, rfl, hB, h, hp⟩ hk hs
    exact ⟨g, r, lim, pw, rfl, hB, h.keep (hk g ((hB g).2 (.inl rfl))) (hk r ((hB r).2 (.inr rfl))) hs, hp⟩
  ptr := by
    rintro w B p D ⟨g, r, lim, pw, rfl, _⟩
    exact ⟨_, rfl⟩
  ok := by
    rintro w B p D ⟨g, r, lim, pw, rfl, hB, h, hp⟩
    exact ⟨h.ok, hp⟩
  newBad := by
    intro n w h0 h1 h
    refine (new_bad n w h0 h1 h).mono ?_
    rintro e w' ⟨rfl, rfl⟩
    exact ⟨rfl, Below.refl _ _⟩
  newOk := by
    intro n w h1 h2
    refine (new_any n w h1 h2).mono ?_
    rintro e w' ⟨g, r, rfl, h, hg, hr, hb⟩
    refine ⟨blocks g r, _, rfl, ⟨g, r, false, 0, rfl, fun _ => Iff.rfl, h, by simp [fresh]; omega⟩, fun k hk => ?_, hb⟩
    rcases hk with rfl | rfl
    · exact hg
    · exact hr
  size := by
    rintro w B p D ⟨g, r, lim, pw, rfl, hB, h, hp⟩
    refine (size_any w g r D lim pw h).mono ?_
    rintro e w' ⟨rfl, rfl⟩
    exact ⟨rfl, Below.refl _ _⟩
  read := by
    rintro w B p D ⟨g, r, lim, pw, rfl, hB, h, hp⟩ k h0 h1
    refine (read_any w g r D lim pw h k h0 h1).mono ?_
    rintro e w' ⟨t, rfl, ht, rfl⟩
    exact ⟨t, rfl, ht, Below.refl _ _⟩
  write := by
    rintro w B p D ⟨g, r, lim, pw, rfl, hB, h, hp⟩ k s h0 h1 hs
    refine (write_one w g r D lim pw h k s hs).mono ?_
    rintro e w' ⟨rfl, ⟨l2, p2, h2⟩, ho⟩
    exact ⟨B, rfl, ⟨g, r, l2, p2, rfl, hB, h2, by rw [write_length]; exact hp⟩, ho.mono fun i _ hi => (hB i).2 hi, fun i hi => .inl hi⟩
  limit := by
    rintro w B p D ⟨g, r, lim, pw, rfl, hB, h, hp⟩ n m h0 h1 hm
    refine (limit_any w g r D lim pw h n m h1 hm).mono ?_
    rintro e w' ⟨rfl, ⟨p2, h2⟩, ho⟩
    exact ⟨B, rfl, ⟨g, r, true, p2, rfl, hB, h2, hp⟩, ho.mono fun i _ hi => (hB i).2 hi, fun i hi => .inl hi⟩
  restart := by
    rintro w B p D ⟨g, r, lim, pw, rfl, hB, h, hp⟩
    refine (restart_any w g r D lim pw h).mono ?_
    rintro e w' ⟨rfl, h2, ho⟩
    exact ⟨B, rfl, ⟨g, r, false, 0, rfl, hB, h2, hp⟩, ho.mono fun i _ hi => (hB i).2 hi, fun i hi => .inl hi⟩
end Pd
end Go.Proofs.Yticgecbgeahijaa
