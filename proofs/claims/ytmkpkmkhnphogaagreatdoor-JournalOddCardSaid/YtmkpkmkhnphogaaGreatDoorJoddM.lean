/-
  A journal on a device on which anything stands: the law's call, over any journal.
-/
import Derived.Test.YtmkpkmkhnphogaaGreatDoorJdoesaM
import Derived.Deep.DeepCutAuto
import Derived.Deep.CutBlock
namespace Go.Proofs.YtmkpkmkhnphogaaGreatDoor
open Go.RowKit Tx Dv
namespace Jr

set_option maxHeartbeats 4000000 in
set_option maxRecDepth 100000 in
theorem odd_any {K : World → Prop} {Dev : World → (Nat → Prop) → Value → Disk → Prop} {Pp : World → (Nat → Prop) → Value → Value → Disk → Jn.Jour → Prop} (w : World) (L : Lore (K := K) (Dev := Dev) (Pp := Pp) w)
    (l : List ByteArray) (A : Option Addr) (ln lk : Nat) (s : ByteArray) (hl : Tup.Rd w A l) (hln : l.length = ln) (hln2 : ln ≤ 140737488351232) (hlz : ∀ t ∈ l, t.size ≤ 9223372036854775807) (hs : s.size ≤ 9223372036854775807) :
    Calls Tryz.prog 4 #[.slice A ln lk, .string s] w fun e w' => e = .returned (.bool true) ∧ Below w.heap.size w w' := by
  have HAw : Kept (Calls Tryz.prog 9 #[] w fun e w' => e = .returned (.bool true) ∧ Below w.heap.size w w') := ⟨awake_any L.M L.M4 w L.hK⟩
  have HBg : Kept (∀ w1, Below w.heap.size w w1 → Calls Tryz.prog 10 #[.int .i64 12] w1 fun e w' => ∃ x d p r q, e = .returned (.tuple #[.pointer (some ⟨x, 0, none⟩), .bool true]) ∧ Kept (Stands Pp w w' x d p r q)) := ⟨fun w1 hb => by
    refine (begun_any L.M L.M4 w w1 L.hK hb 12 (by omega) (by omega)).mono ?_
    rintro e w' ⟨x, U, V, d, p, r, q, rfl, h⟩
    exact ⟨x, d, p, r, q, rfl, ⟨U, V, _, _, h⟩⟩⟩
  have hnj := neqJ
  have HL := Kept.mk L
  have HR := Kept.mk hl
  have HLN := Kept.mk hln
  have HLZ := Kept.mk hlz
  clear L hl hln hlz
  by_cases hz : s.size ≤ 200
  · have hz2 : ¬ (200 : Int) < s.size := by omega
    have HS : Kept (s.size ≤ 9223372036854775807) := ⟨hs⟩
    clear hz hs
    go_enter Tryz.func4, Tryz.ntmps4
    go_upto_block 0 with (first
      | (go_at_call 9; refine HAw.out.mono ?_; rintro e w1 ⟨rfl, hb⟩; have HB1 := Kept.mk hb; clear hb)
      | (go_at_call 10; refine (HBg.out _ HB1.out).mono ?_; rintro e w2 ⟨x, d, p, r, q, rfl, H2⟩))
    clear HAw HBg HB1 hz2
    go_cut [8] (fun z wx => Kept (Stands Pp w wx x d p r q))
    case first =>
      go_wp2_with fail
      go_loopw [8] (fun z wr => ∃ i : Nat, i ≤ 12 ∧ i ≤ ln ∧ z = .int .i64 i ∧ Kept (Stands Pp w wr x d p r q)) (fun z _ => 12 - (intOf z).toNat)
      case atStart => exact ⟨0, by omega, by omega, rfl, H2⟩
      case round =>
        clear H2
        obtain ⟨i, hi, hil, rfl, HI⟩ := hrel
        have i0 : (0 : Int) ≤ i := by omega
        have i1 : (i : Int) ≤ 12 := by omega
        by_cases hlt : i < ln
        · have i2 : (i : Int) < ln := by omega
          by_cases h14 : i < 12
          · have i3 : (i : Int) < 12 := by omega
            obtain ⟨U, V, D, J, hD⟩ := HI.out
            have HD := Kept.mk (hD.byBelow HL.out.M4 (Below.refl _ _).drew)
            obtain ⟨g, off, rfl, hg, hc⟩ := HR.out i (by rw [HLN.out]; exact hlt)
            have hz := HLZ.out (l[i]'(by rw [HLN.out]; exact hlt)) (List.getElem_mem _)
            generalize l[i]'(by rw [HLN.out]; exact hlt) = t at hc hz
            have HZ := Kept.mk hz
            have HC := Kept.mk (And.intro hc hg)
            have c0 := (World.cell?_of_block (w := w) (a := ⟨g, off + i, none⟩) (HD.out.four.below.block g hg)).trans hc
            have b0 := HD.out.at'.c0
            clear hD hz hc hg HI
            go_wp2
            refine wp_region_still_tail 9 (by kernel_rfl) (by kernel_rfl) ?_
            simp only [List.take_succ_cons, List.take_zero, List.drop_succ_cons, List.drop_zero]
            repeat still_step
            refine wpStill_nil ?_
            go_wp2_with (go_at_call 16
                         refine (HD.out.writeP HL.out.M HL.out.M4 i t (by omega) (by omega) HZ.out).mono ?_
                         rintro e w4 ⟨U1, rfl, h1⟩
                         have HE := Kept.mk (h1.byBelow HL.out.M4 (Below.refl _ _).drew)
                         clear h1 c0 b0)
            have c1 := (World.cell?_of_block (w := w) (a := ⟨g, off + i, none⟩) (HE.out.four.below.block g HC.out.2)).trans HC.out.1
            have b2 := HE.out.at'.c2
            refine wp_region_still_tail 9 (by kernel_rfl) (by kernel_rfl) ?_
            simp only [List.take_succ_cons, List.take_zero, List.drop_succ_cons, List.drop_zero]
            repeat still_step
            refine wpStill_nil ?_
            go_wp2_with (go_at_call 17
                         refine (HE.out.writeR HL.out.M4 i t (by omega) (by omega) HZ.out).mono ?_
                         rintro e w5 ⟨V1, rfl, h1⟩
                         have H5 := Kept.mk h1
                         clear h1 c1 b2)
            go_roundw
            case rel => exact ⟨i + 1, by omega, by omega, by go_num, ⟨_, _, _, _, H5.out⟩⟩
            case measure => simp [intOf]; omega
          · have i3 : ¬ (i : Int) < 12 := by omega
            go_wp2
            go_meet
            exact HI
        · have i2 : ¬ (i : Int) < ln := by omega
          go_wp2
          go_meet
          exact HI
    case rest =>
      clear H2
      obtain ⟨U, V, D, J, hD⟩ := hcut.out
      have H2 := Kept.mk hD
      have b0 := hD.at'.c0
      have b2 := hD.at'.c2
      clear hD hcut
      go_wp2
      go_region_held3 (fun w' => w'.cell? ⟨x, 0, none⟩ = some d ∧ w'.cell? ⟨x, 2, none⟩ = some r)
        (first
          | go_keep
          | exact ⟨d0, d2⟩
          | exact ⟨e0, e2⟩
          | exact ⟨(World.cell?_setCell_other _ _ _ _ (by simp)).trans e0, (World.cell?_setCell_other _ _ _ _ (by simp)).trans e2⟩
          | exact ⟨(World.cell?_setCell_other _ _ _ _ (by simp)).trans ((World.cell?_setCell_other _ _ _ _ (by simp)).trans e0), (World.cell?_setCell_other _ _ _ _ (by simp)).trans ((World.cell?_setCell_other _ _ _ _ (by simp)).trans e2)⟩)
        (first
          | (go_at_call 18
             refine ((H2.out.byBelow HL.out.M4 (Below.refl _ _).drew).openP HL.out.M4 HL.out.hK).mono ?_
             rintro e w4 ⟨U2, a, L2, k2, rfl, ho, h1⟩
             have H3 := Kept.mk h1
             have HO := Kept.mk ho
             have d0 := H3.out.at'.c0
             have d2 := H3.out.at'.c2
             clear h1 ho)
          | (go_at_call 19
             refine (H3.out.openR HL.out.M4).mono ?_
             rintro e w5 ⟨V2, a3, L3, k3, rfl, ho, h1⟩
             have H4 := Kept.mk h1
             have HP := Kept.mk ho
             have e0 := H4.out.at'.c0
             have e2 := H4.out.at'.c2
             have g1 := H4.out.at'.c1
             have g3 := H4.out.at'.c3
             have f1 := H4.out.at'.free 1 (by decide)
             have f3 := H4.out.at'.free 3 (by decide)
             clear h1 ho))
      have hf := (HL.out.M4.few H4.out.four.pr).1.few
      obtain ⟨rfl, rfl⟩ := HO.out.unique hf HP.out
      have H5 := Kept.mk (H4.out.put HL.out.M4)
      generalize (w5.setCell ⟨x, 1, none⟩ (.pointer (some a))).setCell ⟨x, 3, none⟩ (.pointer (some a3)) = w6 at H5 ⊢
      clear H2 H3 H4 HO HP b0 b2 d0 d2 e0 e2 g1 g3 f1 f3 hf
      obtain ⟨y, hy⟩ : ∃ y, Jn.append D ⟨L2, k2⟩ (toL s) = y := ⟨_, rfl⟩
      obtain ⟨e0, X, I⟩ := y
      have HX := Kept.mk hy
      clear hy
      have b0 := H5.out.at'.c0
      have b1 := H5.out.at'.c1
      have b2 := H5.out.at'.c2
      have b3 := H5.out.at'.c3
      go_wp2
      go_region_held3 (fun w' => w'.cell? ⟨x, 0, none⟩ = some d ∧ w'.cell? ⟨x, 1, none⟩ = some (.pointer (some a)) ∧ w'.cell? ⟨x, 2, none⟩ = some r ∧ w'.cell? ⟨x, 3, none⟩ = some (.pointer (some a3)))
        (first
          | go_keep
          | exact ⟨a4.c0, a4.c1, a4.c2, a4.c3⟩
          | exact ⟨a5.c0, a5.c1, a5.c2, a5.c3⟩
          | exact ⟨a6.c0, a6.c1, a6.c2, a6.c3⟩
          | exact ⟨a7.c0, a7.c1, a7.c2, a7.c3⟩
          | exact ⟨a8.c0, a8.c1, a8.c2, a8.c3⟩
          | exact ⟨a9.c0, a9.c1, a9.c2, a9.c3⟩)
        (first
          | (go_at_call 13
             refine ((H5.out.byBelow HL.out.M4 (Below.refl _ _).drew).recordsP HL.out.M4).mono ?_
             rintro e w7 ⟨A4, n4, k4, rfl, hn4, hR4, hB4⟩
             have H7 := Kept.mk ((H5.out.byBelow HL.out.M4 (Below.refl _ _).drew).byBelow HL.out.M4 hB4.out)
             have a4 := H7.out.at')
          | (go_at_call 14
             refine (H7.out.recordsR).mono ?_
             rintro e w8 ⟨A5, n5, k5, rfl, hn5, hR5, hB5⟩
             have H8 := Kept.mk (H7.out.byBelow HL.out.M4 hB5.out)
             have a5 := H8.out.at')
          | (go_at_call 12
             refine (Tup.same_any (L2.map bs) (L2.map bs) A4 A5 n4 k4 n5 k5 w8 (hR4.out.below hB5.out) hR5.out (by rw [List.length_map]; exact hn4.out.symm) (by rw [List.length_map]; exact hn5.out.symm) (Duo.short H5.out HL.out.M4 hn4) (Duo.short H5.out HL.out.M4 hn5)).mono ?_
             rintro e w9 ⟨he, hb⟩
             rw [decide_eq_true rfl] at he
             subst he
             have H9 := Kept.mk (H8.out.byBelow HL.out.M4 hb)
             have a6 := H9.out.at'
             clear hb)
          | (go_at_call 20
             refine (H9.out.appendP HL.out.M4 HL.out.hK s HS.out).mono ?_
             rintro e wA ⟨U7, rfl, h1⟩
             rw [HX.out] at h1 ⊢
             have HA := Kept.mk h1
             have a7 := HA.out.at'
             clear h1)
          | (go_at_call 21
             refine (HA.out.appendR HL.out.M4 s HS.out).mono ?_
             rintro e wB ⟨V7, rfl, h1⟩
             rw [HX.out] at h1 ⊢
             have HB := Kept.mk h1
             have a8 := HB.out.at'
             clear h1)
          | (go_at_call 15
             obtain ⟨B, C, hT⟩ := HB.out.two HL.out.M4
             refine (same_any HL.out.M _ _ d r X B C hT).mono ?_
             rintro e wC ⟨rfl, hb⟩
             have HC := Kept.mk (HB.out.byBelow HL.out.M4 hb)
             have a9 := HC.out.at'
             clear hb hT))
      all_goals
        go_wp2
        go_ret
        exact ⟨rfl, HC.out.four.below⟩
  · have hz2 : (200 : Int) < s.size := by omega
    go_enter Tryz.func4, Tryz.ntmps4
    go_wp2_with (first
      | (go_at_call 9; refine HAw.out.mono ?_; rintro e w1 ⟨rfl, hb⟩; have HB1 := Kept.mk hb; clear hb)
      | (go_at_call 10; refine (HBg.out _ HB1.out).mono ?_; rintro e w2 ⟨x, d, p, r, q, rfl, H2⟩))
    go_ret
    obtain ⟨U, V, D, J, hD⟩ := H2.out
    exact ⟨rfl, hD.four.below⟩
end Jr
end Go.Proofs.YtmkpkmkhnphogaaGreatDoor
