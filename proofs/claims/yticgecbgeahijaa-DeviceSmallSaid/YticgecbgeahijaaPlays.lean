/-
  Whatever is done with a device: the laws' calls.
-/
import Derived.Test.YticgecbgeahijaaDoes
import Derived.Test.YticgecbgeahijaaDawake
import Derived.WalkKit
import Derived.BigCall
namespace Go.Proofs.Yticgecbgeahijaa
open Go.RowKit Tx
namespace Dv

/-- What an act of the list is. -/
structure OneAct (w : World) (g off : Nat) (what k p : Int) (s : ByteArray) (m : Nat) : Prop where
  c0 : w.cell? ⟨g, off, none⟩ = some (.int .i64 what)
  c1 : w.cell? ⟨g, off + 1, none⟩ = some (.int .i64 k)
  c2 : w.cell? ⟨g, off + 2, none⟩ = some (.int .i64 p)
  c3 : w.cell? ⟨g, off + 3, none⟩ = some (.string s)
  c4 : w.cell? ⟨g, off + 4, none⟩ = some (.int .u64 m)
  k0 : -9223372036854775808 ≤ k
  k1 : k ≤ 9223372036854775807
  p0 : -9223372036854775808 ≤ p
  p1 : p ≤ 9223372036854775807
  mm : m < 18446744073709551616
  w0 : -9223372036854775808 ≤ what
  w1 : what ≤ 9223372036854775807
  ss : s.size ≤ 9223372036854775807
/-- The list of acts at A, of which there are len. -/
def Acts (w : World) (A : Option Addr) (len : Nat) : Prop := ∀ i, i < len → ∃ g off what k p s m, A = some ⟨g, off, none⟩ ∧ g < w.heap.size ∧ OneAct w g (off + i * 5) what k p s m
theorem OneAct.keep {w w' : World} {g off : Nat} {what k p : Int} {s : ByteArray} {m : Nat} (h : OneAct w g off what k p s m) (hb : w'.heap[g]? = w.heap[g]?) : OneAct w' g off what k p s m :=
  ⟨(World.cell?_of_block (w := w) (a := ⟨g, off, none⟩) hb).trans h.c0, (World.cell?_of_block (w := w) (a := ⟨g, off + 1, none⟩) hb).trans h.c1, (World.cell?_of_block (w := w) (a := ⟨g, off + 2, none⟩) hb).trans h.c2, (World.cell?_of_block (w := w) (a := ⟨g, off + 3, none⟩) hb).trans h.c3, (World.cell?_of_block (w := w) (a := ⟨g, off + 4, none⟩) hb).trans h.c4,
    h.k0, h.k1, h.p0, h.p1, h.mm, h.w0, h.w1, h.ss⟩
theorem Acts.below {w w' : World} {A : Option Addr} {len : Nat} (h : Acts w A len) (hb : Below w.heap.size w w') : Acts w' A len := by
  intro i hi
  obtain ⟨g, off, what, k, p, s, m, e, hg, ho⟩ := h i hi
  exact ⟨g, off, what, k, p, s, m, e, Nat.lt_of_lt_of_le hg hb.size, ho.keep (hb.block g hg)⟩

theorem eqD0 (W : World) : (binOp .eql 23 (.pointer none) (.pointer none)).run Try.prog W = .ok (.bool true) W := by
  have h : Try.prog.underlying 23 = some (.pointer (Try.prog.pointee 23)) := by kernel_rfl
  rw [run_eql_pointer_nil W _ _ h]
  rfl
theorem eqR0 (W : World) : (binOp .eql 27 (.pointer none) (.pointer none)).run Try.prog W = .ok (.bool true) W := by
  have h : Try.prog.underlying 27 = some (.pointer (Try.prog.pointee 27)) := by kernel_rfl
  rw [run_eql_pointer_nil W _ _ h]
  rfl
/-- A law's loop: both devices hold the same. -/
structure PlayIn (Dev : World → (Nat → Prop) → Value → Disk → Prop) (w0 w : World) (d r : Value) : Prop where
  two : ∃ B C D, Two Dev w0.heap.size w d r D D B C
  below : Below w0.heap.size w0 w

theorem PlayIn.start {Dev : World → (Nat → Prop) → Value → Disk → Prop} {w w1 w2 : World} {d r : Value} {D : Disk} {B C : Nat → Prop} (M : Means Dev) (hd : Dev w1 B d D) (hB : ∀ k, B k → w.heap.size ≤ k) (hb : Below w.heap.size w w1)
    (hr : Ref w2 C r D) (hC : ∀ k, C k → w1.heap.size ≤ k) (hb2 : Below w1.heap.size w1 w2) : PlayIn Dev w w2 d r :=
  ⟨⟨B, C, D, M.keep hd (fun i hi => hb2.block i (M.lt hd i hi)) hb2.size, hr, fun i hi hc => by have := M.lt hd i hi; have := hC i hc; omega, fun i hi => hi.elim (hB i) (fun x => Nat.le_trans hb.size (hC i x))⟩, hb.trans (hb2.mono hb.size)⟩

set_option maxHeartbeats 2000000 in
set_option maxRecDepth 100000 in
theorem plays_any {Dev : World → (Nat → Prop) → Value → Disk → Prop} (M : Means Dev) (w : World) (n : Int) (A : Option Addr) (len cap : Nat) (h0 : -9223372036854775808 ≤ n) (h1 : n ≤ 9223372036854775807) (hA : Acts w A len) (hl : len ≤ 140737488351232) :
    Calls Try.prog 3 #[.int .i64 n, .slice A len cap] w fun e w' => e = .returned (.bool true) ∧ Below w.heap.size w w' := by
  have MM := Kept.mk M
  have HA := Kept.mk hA
  clear M hA
  by_cases hn : n < 1 ∨ 4096 < n
  · have hpd := eqD0
    have hpr := eqR0
    have HN := Kept.mk hn
    have H0 := Kept.mk (And.intro h0 h1)
    clear hn h0 h1
    go_enter Try.func3, Try.ntmps3
    go_wp2_with (first
      | (go_at_call 6
         refine (MM.out.newBad n w H0.out.1 H0.out.2 HN.out).mono ?_
         rintro e w1 ⟨rfl, hb⟩
         have HB := Kept.mk hb
         clear hb)
      | (go_at_call 7
         refine (new_bad n w1 H0.out.1 H0.out.2 HN.out).mono ?_
         rintro e w2 ⟨rfl, rfl⟩)
      | (go_at_call 8
         refine (awake_any MM.out w2).mono ?_
         rintro e w3 ⟨rfl, hb⟩
         have HB3 := Kept.mk (HB.out.trans (hb.mono HB.out.size))
         clear hb))
    go_ret
    exact ⟨rfl, HB3.out⟩
  · have hpd := eqD
    have hpr := eqR
    obtain ⟨k, rfl⟩ := Int.eq_ofNat_of_zero_le (show 0 ≤ n by omega)
    have hk1 : 1 ≤ k := by omega
    have hk2 : k ≤ 4096 := by omega
    clear hn h0 h1
    by_cases h60 : k ≤ 60
    · go_enter Try.func3, Try.ntmps3
      go_wp2_with (first
        | (go_at_call 6
           refine (MM.out.newOk k w hk1 hk2).mono ?_
           rintro e w1 ⟨B, p, rfl, hd, hB, hb⟩
           obtain ⟨a, rfl⟩ := MM.out.ptr hd
           have H1 := Kept.mk (And.intro hd (And.intro hB hb))
           clear hd hB hb)
        | (go_at_call 7
           refine (Ref.new k w1 hk1 hk2).mono ?_
           rintro e w2 ⟨C, q, rfl, hd, hC, hb⟩
           obtain ⟨c, rfl⟩ := hd.ptr
           have H2 : Kept (PlayIn Dev w w2 (.pointer (some a)) (.pointer (some c))) := ⟨PlayIn.start MM.out H1.out.1 H1.out.2.1 H1.out.2.2 hd hC hb⟩
           clear hd hC hb))
      clear hpd hpr
      go_loopw [9] (fun x wr => ∃ i : Nat, i ≤ 40 ∧ i ≤ len ∧ x = .int .i64 i ∧ Kept (PlayIn Dev w wr (.pointer (some a)) (.pointer (some c)))) (fun x _ => 40 - (intOf x).toNat)
      case atStart => exact ⟨0, by omega, by omega, rfl, H2⟩
      case round =>
        obtain ⟨i, hi, hil, rfl, HI⟩ := hrel
        by_cases hlt : i < len
        · by_cases h40 : i < 40
          · obtain ⟨g, off, what, q, p, s, m, rfl, hg, ho⟩ := (HA.out.below HI.out.below) i hlt
            have hi5 : (0 : Int) ≤ i := by omega
            have hi6 : (i : Int) < len := by omega
            have c0 := ho.c0
            have c1 := ho.c1
            have c2 := ho.c2
            have c3 := ho.c3
            have c4 := ho.c4
            have HO := Kept.mk ho
            clear ho
            by_cases hs : s.size ≤ 300
            · have hs2 : (s.size : Int) ≤ 300 := by omega
              obtain ⟨B, C, D, hT⟩ := HI.out.two
              have HT := Kept.mk hT
              clear hT
              go_wp2_with (go_at_call 9
                           refine (does_any MM.out w.heap.size wr _ _ D B C HT.out HI.out.below.size what q p s m (by omega) HO.out.k0 HO.out.k1 HO.out.p0 HO.out.p1 HO.out.mm).mono ?_
                           rintro e w3 ⟨rfl, hT, hb⟩
                           have H3 : Kept (PlayIn Dev w w3 (.pointer (some a)) (.pointer (some c))) := ⟨⟨hT, HI.out.below.trans hb⟩⟩
                           clear hT hb c0 c1 c2 c3 c4)
              go_roundw
              case rel => exact ⟨i + 1, by omega, by omega, by go_num, H3⟩
              case measure => simp [intOf]; omega
            · have hs2 : ¬ (s.size : Int) ≤ 300 := by omega
              go_wp2_with fail
              go_roundw
              case rel => exact ⟨i + 1, by omega, by omega, by go_num, HI⟩
              case measure => simp [intOf]; omega
          · obtain ⟨B, C, D, hT⟩ := HI.out.two
            have HT := Kept.mk hT
            clear hT
            go_wp2_with (first
              | (go_at_call 8
                 refine (awake_any MM.out wr).mono ?_
                 rintro e w4 ⟨rfl, hb⟩
                 have H4 := Kept.mk (And.intro (HT.out.below MM.out hb) (HI.out.below.trans (hb.mono HI.out.below.size)))
                 clear hb)
              | (go_at_call 10
                 refine (same_any MM.out _ w4 _ _ D B C H4.out.1).mono ?_
                 rintro e w5 ⟨rfl, hb⟩
                 have H5 := Kept.mk (H4.out.2.trans (hb.mono H4.out.2.size))
                 clear hb))
            go_ret
            exact ⟨rfl, H5.out⟩
        · obtain ⟨B, C, D, hT⟩ := HI.out.two
          have HT := Kept.mk hT
          clear hT
          go_wp2_with (first
            | (go_at_call 8
               refine (awake_any MM.out wr).mono ?_
               rintro e w4 ⟨rfl, hb⟩
               have H4 := Kept.mk (And.intro (HT.out.below MM.out hb) (HI.out.below.trans (hb.mono HI.out.below.size)))
               clear hb)
            | (go_at_call 10
               refine (same_any MM.out _ w4 _ _ D B C H4.out.1).mono ?_
               rintro e w5 ⟨rfl, hb⟩
               have H5 := Kept.mk (H4.out.2.trans (hb.mono H4.out.2.size))
               clear hb))
          go_ret
          exact ⟨rfl, H5.out⟩
    · go_enter Try.func3, Try.ntmps3
      go_wp2_with (first
        | (go_at_call 6
           refine (MM.out.newOk k w hk1 hk2).mono ?_
           rintro e w1 ⟨B, p, rfl, hd, hB, hb⟩
           obtain ⟨a, rfl⟩ := MM.out.ptr hd
           have H1 := Kept.mk (And.intro hd (And.intro hB hb))
           clear hd hB hb)
        | (go_at_call 7
           refine (Ref.new k w1 hk1 hk2).mono ?_
           rintro e w2 ⟨C, q, rfl, hd, hC, hb⟩
           obtain ⟨c, rfl⟩ := hd.ptr
           have H2 : Kept (PlayIn Dev w w2 (.pointer (some a)) (.pointer (some c))) := ⟨PlayIn.start MM.out H1.out.1 H1.out.2.1 H1.out.2.2 hd hC hb⟩
           clear hd hC hb)
        | (go_at_call 8
           refine (awake_any MM.out w2).mono ?_
           rintro e w3 ⟨rfl, hb⟩
           have HB3 := Kept.mk (H2.out.below.trans (hb.mono H2.out.below.size))
           clear hb))
      go_ret
      exact ⟨rfl, HB3.out⟩
end Dv
end Go.Proofs.Yticgecbgeahijaa
