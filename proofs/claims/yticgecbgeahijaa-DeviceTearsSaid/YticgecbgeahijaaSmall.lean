/-
  Likewise of few sectors: the law's call.
-/
import Derived.Test.YticgecbgeahijaaPlays
import Derived.Laws.Closers25b
namespace Go.Proofs.Yticgecbgeahijaa
open Go.RowKit Tx
namespace Dv

theorem PlayIn.alloc {Dev : World → (Nat → Prop) → Value → Disk → Prop} {w0 w : World} {d r : Value} (h : PlayIn Dev w0 w d r) (M : Means Dev) (o : Obj) : PlayIn Dev w0 (w.alloc o) d r := by
  obtain ⟨B, C, D, hT⟩ := h.two
  exact ⟨⟨B, C, D, hT.below M ((Below.refl _ _).alloc (Nat.le_refl _) o)⟩, h.below.alloc h.below.size o⟩

set_option maxHeartbeats 2000000 in
set_option maxRecDepth 100000 in
theorem small_any {Dev : World → (Nat → Prop) → Value → Disk → Prop} (M : Means Dev) (w : World) (z : Nat) (A : Option Addr) (len cap : Nat) (hz : z < 256) (hA : Acts w A len) (hl : len ≤ 140737488351232) :
    Calls Try.prog 4 #[.int .u8 z, .slice A len cap] w fun e w' => e = .returned (.bool true) ∧ Below w.heap.size w w' := by
  have MM := Kept.mk M
  have HA := Kept.mk hA
  clear M hA
  have hpd := eqD
  have hpr := eqR
  obtain ⟨k, hk⟩ : ∃ k : Nat, 1 + z % 4 = k := ⟨_, rfl⟩
  have hk1 : 1 ≤ k := by omega
  have hk2 : k ≤ 4096 := by omega
  have hkk : 1 + (z : Int) % 4 = (k : Int) := by omega
  clear hk
  go_enter Try.func4, Try.ntmps4
  go_wp2_with (first
        | (go_at_call 6
           refine (MM.out.newOk k w hk1 hk2).mono ?_
           rintro e w1 ⟨B, p, rfl, hd, hB, hb⟩
           obtain ⟨a, rfl⟩ := MM.out.ptr hd
           have H1 := Kept.mk (And.intro hd (And.intro hB hb))
           clear hd hB hb)
        | (go_at_call 7
           refine (Ref.new k w1 hk1 hk2).mono ?_
           rintro e w2 ⟨C, q, rfl, hd, hC, hb⟩
           obtain ⟨c, rfl⟩ := hd.ptr
           have H2 : Kept (PlayIn Dev w w2 (.pointer (some a)) (.pointer (some c))) := ⟨PlayIn.start MM.out H1.out.1 H1.out.2.1 H1.out.2.2 hd hC hb⟩
           clear hd hC hb))
  clear hpd hpr
  go_loopw [10] (fun x wr => ∃ i : Nat, i ≤ 40 ∧ i ≤ len ∧ x = .int .i64 i ∧ Kept (PlayIn Dev w wr (.pointer (some a)) (.pointer (some c)))) (fun x _ => 40 - (intOf x).toNat)
  case atStart => exact ⟨0, by omega, by omega, rfl, H2⟩
  case round =>
        obtain ⟨i, hi, hil, rfl, HI⟩ := hrel
        by_cases hlt : i < len
        · by_cases h40 : i < 40
          · obtain ⟨g, off, what, q, p, s, m, rfl, hg, ho⟩ := (HA.out.below HI.out.below) i hlt
            have hi5 : (0 : Int) ≤ i := by omega
            have hi6 : (i : Int) < len := by omega
            have c0 := ho.c0
            have c1 := ho.c1
            have c2 := ho.c2
            have c3 := ho.c3
            have c4 := ho.c4
            have HO := Kept.mk ho
            clear ho
            have HQ := Kept.mk (bits_within .and .i64 q 3)
            have HP := Kept.mk (bits_within .and .i64 p 3)
            by_cases hs : s.size ≤ 300
            · have hs2 : (s.size : Int) ≤ 300 := by omega
              obtain ⟨B, C, D, hT⟩ := (HI.out.alloc MM.out (.cells #[.int .i64 what, .int .i64 (bits .and .i64 q 3), .int .i64 (bits .and .i64 p 3), .string s, .int .u64 m] 33)).two
              have HT := Kept.mk hT
              clear hT
              have HB := Kept.mk (HI.out.alloc MM.out (.cells #[.int .i64 what, .int .i64 (bits .and .i64 q 3), .int .i64 (bits .and .i64 p 3), .string s, .int .u64 m] 33)).below
              go_wp2_with (go_at_call 9
                           refine (does_any MM.out w.heap.size _ _ _ D B C HT.out HB.out.size what _ _ s m (by omega) HQ.out.1 HQ.out.2 HP.out.1 HP.out.2 HO.out.mm).mono ?_
                           rintro e w3 ⟨rfl, hT, hb⟩
                           have H3 : Kept (PlayIn Dev w w3 (.pointer (some a)) (.pointer (some c))) := ⟨⟨hT, HB.out.trans hb⟩⟩
                           clear hT hb c0 c1 c2 c3 c4)
              go_roundw
              case rel => exact ⟨i + 1, by omega, by omega, by go_num, H3⟩
              case measure => simp [intOf]; omega
            · have hs2 : ¬ (s.size : Int) ≤ 300 := by omega
              go_wp2_with fail
              go_roundw
              case rel => exact ⟨i + 1, by omega, by omega, by go_num, ⟨HI.out.alloc MM.out _⟩⟩
              case measure => simp [intOf]; omega
          · obtain ⟨B, C, D, hT⟩ := HI.out.two
            have HT := Kept.mk hT
            clear hT
            go_wp2_with (first
              | (go_at_call 8
                 refine (awake_any MM.out wr).mono ?_
                 rintro e w4 ⟨rfl, hb⟩
                 have H4 := Kept.mk (And.intro (HT.out.below MM.out hb) (HI.out.below.trans (hb.mono HI.out.below.size)))
                 clear hb)
              | (go_at_call 10
                 refine (same_any MM.out _ w4 _ _ D B C H4.out.1).mono ?_
                 rintro e w5 ⟨rfl, hb⟩
                 have H5 := Kept.mk (H4.out.2.trans (hb.mono H4.out.2.size))
                 clear hb))
            go_ret
            exact ⟨rfl, H5.out⟩
        · obtain ⟨B, C, D, hT⟩ := HI.out.two
          have HT := Kept.mk hT
          clear hT
          go_wp2_with (first
            | (go_at_call 8
               refine (awake_any MM.out wr).mono ?_
               rintro e w4 ⟨rfl, hb⟩
               have H4 := Kept.mk (And.intro (HT.out.below MM.out hb) (HI.out.below.trans (hb.mono HI.out.below.size)))
               clear hb)
            | (go_at_call 10
               refine (same_any MM.out _ w4 _ _ D B C H4.out.1).mono ?_
               rintro e w5 ⟨rfl, hb⟩
               have H5 := Kept.mk (H4.out.2.trans (hb.mono H4.out.2.size))
               clear hb))
          go_ret
          exact ⟨rfl, H5.out⟩
end Dv
end Go.Proofs.Yticgecbgeahijaa
