/-
  A journal that is filled, and cleared: the law's call, over any journal.
-/
import Derived.Test.YtmkpkmkhnphogaaGreatDoorJdoesaM
import Derived.Deep.RegionLaw
import Derived.Deep.AppendLies
namespace Go.Proofs.YtmkpkmkhnphogaaGreatDoor
open Go.RowKit Tx Dv
namespace Jr

/-- The list of numbers at A, of which there are len. -/
def U16s (w : World) (A : Option Addr) (len : Nat) : Prop := ∀ i, i < len → ∃ g off v, A = some ⟨g, off, none⟩ ∧ g < w.heap.size ∧ w.cell? ⟨g, off + i, none⟩ = some (.int .u16 (v : Nat)) ∧ v < 65536

set_option maxHeartbeats 4000000 in
set_option maxRecDepth 100000 in
theorem full_any {K : World → Prop} {Dev : World → (Nat → Prop) → Value → Disk → Prop} {Pp : World → (Nat → Prop) → Value → Value → Disk → Jn.Jour → Prop} (w : World) (L : Lore (K := K) (Dev := Dev) (Pp := Pp) w) (size : Nat) (hsz : size < 256) (A : Option Addr) (len cap : Nat) (hA : U16s w A len) (hl : len ≤ 140737488351232) :
    Calls Tryz.prog 8 #[.int .u8 size, .slice A len cap] w fun e w' => e = .returned (.bool true) ∧ Below w.heap.size w w' := by
  have HAw : Kept (Calls Tryz.prog 9 #[] w fun e w' => e = .returned (.bool true) ∧ Below w.heap.size w w') := ⟨awake_any L.M L.M4 w L.hK⟩
  have e0 : (size : Int).tmod 20 = ((size % 20 : Nat) : Int) := by rw [Int.tmod_eq_emod_of_nonneg (by omega)]; omega
  have HBg : Kept (∀ w1, Below w.heap.size w w1 → Calls Tryz.prog 10 #[.int .i64 (1 + (size : Int).tmod 20)] w1 fun e w' => ∃ x d p r q, e = .returned (.tuple #[.pointer (some ⟨x, 0, none⟩), .bool true]) ∧ Kept (Stands Pp w w' x d p r q)) := ⟨fun w1 hb => by
    have e1 : (1 + (size : Int).tmod 20) = ((1 + size % 20 : Nat) : Int) := by rw [e0]; omega
    rw [e1]
    refine (begun_any L.M L.M4 w w1 L.hK hb (1 + size % 20) (by omega) (by omega)).mono ?_
    rintro e w' ⟨x, U, V, d, p, r, q, rfl, h⟩
    exact ⟨x, d, p, r, q, rfl, ⟨U, V, _, _, h⟩⟩⟩
  have t0 : 0 ≤ (size : Int).tmod 20 := by rw [e0]; omega
  have t1 : (size : Int).tmod 20 < 20 := by rw [e0]; omega
  have s0 : (0 : Int) ≤ size := by omega
  have s1 : (size : Int) < 256 := by omega
  have HL := Kept.mk L
  have HA := Kept.mk hA
  clear L hA e0 hsz
  go_enter Tryz.func8, Tryz.ntmps8
  go_wp2_with (first
    | (go_at_call 9; refine HAw.out.mono ?_; rintro e w1 ⟨rfl, hb⟩; have HB1 := Kept.mk hb; clear hb)
    | (go_at_call 10; refine (HBg.out _ HB1.out).mono ?_; rintro e w2 ⟨x, d, p, r, q, rfl, H2⟩))
  clear HAw HBg HB1 t0 t1 s0 s1
  go_loopw [8] (fun z wr => ∃ (i : Nat) (p q : Value), i ≤ 30 ∧ i ≤ len ∧ z = .int .i64 i ∧ Kept (Stands Pp w wr x d p r q)) (fun z _ => 30 - (intOf z).toNat)
  case atStart => exact ⟨0, p, q, by omega, by omega, rfl, H2⟩
  case round =>
    clear H2
    obtain ⟨i, p, q, hi, hil, rfl, HI⟩ := hrel
    have i0 : (0 : Int) ≤ i := by omega
    have i1 : (i : Int) ≤ 30 := by omega
    by_cases hlt : i < len
    · have i2 : (i : Int) < len := by omega
      by_cases h14 : i < 30
      · have i3 : (i : Int) < 30 := by omega
        obtain ⟨U, V, D, J, hD⟩ := HI.out
        obtain ⟨g, off, v, rfl, hg, ho, hv⟩ := HA.out i hlt
        have HD := Kept.mk hD
        have hgr := Nat.lt_of_lt_of_le hg hD.four.big
        have HO := Kept.mk (And.intro hg hgr)
        have c0 := (World.cell?_of_block (w := w) (a := ⟨g, off + i, none⟩) (hD.four.below.block g hg)).trans ho
        have v0 : (0 : Int) ≤ v := by omega
        have v1 : (v : Int) < 65536 := by omega
        have HY : Kept ((v : Int).tmod 300 = ((v % 300 : Nat) : Int)) := ⟨by rw [Int.tmod_eq_emod_of_nonneg (by omega)]; omega⟩
        clear hD ho hg hgr HI
        obtain ⟨c, hc⟩ : ∃ c, (v : Int) % 31 = c := ⟨_, rfl⟩
        by_cases h7 : c = 7
        · subst h7
          obtain ⟨y, hy⟩ : ∃ y, Jn.clear D J = y := ⟨_, rfl⟩
          obtain ⟨e0, X, I⟩ := y
          have HX := Kept.mk hy
          clear hy
          go_wp2_with (first
            | (refine Row.wpList_make (B := wr.heap.size) byteTy rfl _ _ rfl (v % 300) (congrArg (Value.int .i64) HY.out) (congrArg (Value.int .i64) HY.out) (Nat.le_refl _) (by omega) ?_; intro v1 w3 hr hg; have HR := Kept.mk hr; have HG := Kept.mk hg; clear hr hg)
            | (refine By.wpList_string byteTy rfl 9 _ rfl Tryz.underlying9 rfl HR.out.bs ?_; change wpList _ _ _ _ (Act.put _ _ (.string (bs (List.replicate (v % 300) 0)))) _; have HE := Kept.mk (HD.out.byBelow HL.out.M4 (show Below wr.heap.size wr w3 from ⟨HG.out.os, HG.out.tape, HG.out.output, HG.out.size, fun k hk => HG.out.block k hk (by simp)⟩)); have cw := (World.cell?_of_block (w := wr) (a := ⟨g, off + i, none⟩) (HG.out.block g HO.out.2 (by simp))).trans c0))
          have b1 := HE.out.at'.c1
          have b3 := HE.out.at'.c3
          go_region_held3 (fun w' => w'.cell? ⟨x, 1, none⟩ = some p ∧ w'.cell? ⟨x, 3, none⟩ = some q)
            (first
              | go_keep
              | exact ⟨d1, d3⟩
              | exact ⟨e1, e3⟩)
            (first
              | (go_at_call 26
                 refine ((HE.out.byBelow HL.out.M4 (Below.refl _ _).drew).clearP HL.out.MC).mono ?_
                 rintro e w4 ⟨U1, rfl, h1⟩
                 rw [HX.out] at h1 ⊢
                 have H1 := Kept.mk h1
                 have d1 := H1.out.at'.c1
                 have d3 := H1.out.at'.c3
                 clear h1)
              | (go_at_call 27
                 refine (H1.out.clearR HL.out.M4).mono ?_
                 rintro e w5 ⟨V1, rfl, h1⟩
                 rw [HX.out] at h1 ⊢
                 have H2 := Kept.mk h1
                 have e1 := H2.out.at'.c1
                 have e3 := H2.out.at'.c3
                 clear h1))
          all_goals
            clear b1 b3 d1 d3 e1 e3
            go_wp2
            go_roundw
            case rel => exact ⟨i + 1, _, _, by omega, by omega, by go_num, ⟨_, _, _, _, H2.out⟩⟩
            case measure => simp [intOf]; omega
        · have g7 : (c == 7) = false := by simpa using h7
          have HS : Kept ((bs (List.replicate (v % 300) 0)).size ≤ 9223372036854775807) := ⟨by rw [bs_size, List.length_replicate]; omega⟩
          obtain ⟨y, hy⟩ : ∃ y, Jn.append D J (toL (bs (List.replicate (v % 300) 0))) = y := ⟨_, rfl⟩
          obtain ⟨e0, X, I⟩ := y
          have HX := Kept.mk hy
          clear hy h7
          go_wp2_with (first
            | (refine Row.wpList_make (B := wr.heap.size) byteTy rfl _ _ rfl (v % 300) (congrArg (Value.int .i64) HY.out) (congrArg (Value.int .i64) HY.out) (Nat.le_refl _) (by omega) ?_; intro v1 w3 hr hg; have HR := Kept.mk hr; have HG := Kept.mk hg; clear hr hg)
            | (refine By.wpList_string byteTy rfl 9 _ rfl Tryz.underlying9 rfl HR.out.bs ?_; change wpList _ _ _ _ (Act.put _ _ (.string (bs (List.replicate (v % 300) 0)))) _; have HE := Kept.mk (HD.out.byBelow HL.out.M4 (show Below wr.heap.size wr w3 from ⟨HG.out.os, HG.out.tape, HG.out.output, HG.out.size, fun k hk => HG.out.block k hk (by simp)⟩)); have cw := (World.cell?_of_block (w := wr) (a := ⟨g, off + i, none⟩) (HG.out.block g HO.out.2 (by simp))).trans c0))
          have b1 := HE.out.at'.c1
          have b3 := HE.out.at'.c3
          go_region_held3 (fun w' => w'.cell? ⟨x, 1, none⟩ = some p ∧ w'.cell? ⟨x, 3, none⟩ = some q)
            (first
              | go_keep
              | exact ⟨d1, d3⟩
              | exact ⟨e1, e3⟩)
            (first
              | (go_at_call 20
                 refine ((HE.out.byBelow HL.out.M4 (Below.refl _ _).drew).appendP HL.out.M4 HL.out.hK _ HS.out).mono ?_
                 rintro e w4 ⟨U1, rfl, h1⟩
                 rw [HX.out] at h1 ⊢
                 have H1 := Kept.mk h1
                 have d1 := H1.out.at'.c1
                 have d3 := H1.out.at'.c3
                 clear h1)
              | (go_at_call 21
                 refine (H1.out.appendR HL.out.M4 _ HS.out).mono ?_
                 rintro e w5 ⟨V1, rfl, h1⟩
                 rw [HX.out] at h1 ⊢
                 have H2 := Kept.mk h1
                 have e1 := H2.out.at'.c1
                 have e3 := H2.out.at'.c3
                 clear h1))
          all_goals
            clear b1 b3 d1 d3 e1 e3
            go_wp2
            go_roundw
            case rel => exact ⟨i + 1, _, _, by omega, by omega, by go_num, ⟨_, _, _, _, H2.out⟩⟩
            case measure => simp [intOf]; omega
      · have i3 : ¬ (i : Int) < 30 := by omega
        obtain ⟨U, V, D, J, hD⟩ := HI.out
        have HD := Kept.mk hD
        have b0 := hD.at'.c0
        have b1 := hD.at'.c1
        have b2 := hD.at'.c2
        have b3 := hD.at'.c3
        clear hD HI HA
        go_wp2
        go_region_held3 (fun w' => w'.cell? ⟨x, 0, none⟩ = some d ∧ w'.cell? ⟨x, 1, none⟩ = some p ∧ w'.cell? ⟨x, 2, none⟩ = some r ∧ w'.cell? ⟨x, 3, none⟩ = some q)
          (first
            | go_keep
            | exact ⟨a4.c0, a4.c1, a4.c2, a4.c3⟩
            | exact ⟨a5.c0, a5.c1, a5.c2, a5.c3⟩
            | exact ⟨a6.c0, a6.c1, a6.c2, a6.c3⟩
            | exact ⟨a7.c0, a7.c1, a7.c2, a7.c3⟩)
          (first
            | (go_at_call 13
               refine ((HD.out.byBelow HL.out.M4 (Below.refl _ _).drew).recordsP HL.out.M4).mono ?_
               rintro e w4 ⟨A4, n4, k4, rfl, hn4, hR4, hB4⟩
               have H4 := Kept.mk ((HD.out.byBelow HL.out.M4 (Below.refl _ _).drew).byBelow HL.out.M4 hB4.out)
               have a4 := H4.out.at')
            | (go_at_call 14
               refine (H4.out.recordsR).mono ?_
               rintro e w5 ⟨A5, n5, k5, rfl, hn5, hR5, hB5⟩
               have H5 := Kept.mk (H4.out.byBelow HL.out.M4 hB5.out)
               have a5 := H5.out.at')
            | (go_at_call 12
               refine (Tup.same_any (J.L.map bs) (J.L.map bs) A4 A5 n4 k4 n5 k5 w5 (hR4.out.below hB5.out) hR5.out (by rw [List.length_map]; exact hn4.out.symm) (by rw [List.length_map]; exact hn5.out.symm) (Duo.short HD.out HL.out.M4 hn4) (Duo.short HD.out HL.out.M4 hn5)).mono ?_
               rintro e w6 ⟨he, hb⟩
               rw [decide_eq_true rfl] at he
               subst he
               have H6 := Kept.mk (H5.out.byBelow HL.out.M4 hb)
               have a6 := H6.out.at'
               clear hb)
            | (go_at_call 15
               obtain ⟨B, C, hT⟩ := H6.out.two HL.out.M4
               refine (same_any HL.out.M _ _ d r D B C hT).mono ?_
               rintro e w7 ⟨rfl, hb⟩
               have H7 := Kept.mk (H6.out.byBelow HL.out.M4 hb)
               have a7 := H7.out.at'
               clear hb hT))
        all_goals
          go_wp2
          go_ret
          exact ⟨rfl, H7.out.four.below⟩
    · have i2 : ¬ (i : Int) < len := by omega
      obtain ⟨U, V, D, J, hD⟩ := HI.out
      have HD := Kept.mk hD
      have b0 := hD.at'.c0
      have b1 := hD.at'.c1
      have b2 := hD.at'.c2
      have b3 := hD.at'.c3
      clear hD HI HA
      go_wp2
      go_region_held3 (fun w' => w'.cell? ⟨x, 0, none⟩ = some d ∧ w'.cell? ⟨x, 1, none⟩ = some p ∧ w'.cell? ⟨x, 2, none⟩ = some r ∧ w'.cell? ⟨x, 3, none⟩ = some q)
        (first
          | go_keep
          | exact ⟨a4.c0, a4.c1, a4.c2, a4.c3⟩
          | exact ⟨a5.c0, a5.c1, a5.c2, a5.c3⟩
          | exact ⟨a6.c0, a6.c1, a6.c2, a6.c3⟩
          | exact ⟨a7.c0, a7.c1, a7.c2, a7.c3⟩)
        (first
          | (go_at_call 13
             refine ((HD.out.byBelow HL.out.M4 (Below.refl _ _).drew).recordsP HL.out.M4).mono ?_
             rintro e w4 ⟨A4, n4, k4, rfl, hn4, hR4, hB4⟩
             have H4 := Kept.mk ((HD.out.byBelow HL.out.M4 (Below.refl _ _).drew).byBelow HL.out.M4 hB4.out)
             have a4 := H4.out.at')
          | (go_at_call 14
             refine (H4.out.recordsR).mono ?_
             rintro e w5 ⟨A5, n5, k5, rfl, hn5, hR5, hB5⟩
             have H5 := Kept.mk (H4.out.byBelow HL.out.M4 hB5.out)
             have a5 := H5.out.at')
          | (go_at_call 12
             refine (Tup.same_any (J.L.map bs) (J.L.map bs) A4 A5 n4 k4 n5 k5 w5 (hR4.out.below hB5.out) hR5.out (by rw [List.length_map]; exact hn4.out.symm) (by rw [List.length_map]; exact hn5.out.symm) (Duo.short HD.out HL.out.M4 hn4) (Duo.short HD.out HL.out.M4 hn5)).mono ?_
             rintro e w6 ⟨he, hb⟩
             rw [decide_eq_true rfl] at he
             subst he
             have H6 := Kept.mk (H5.out.byBelow HL.out.M4 hb)
             have a6 := H6.out.at'
             clear hb)
          | (go_at_call 15
             obtain ⟨B, C, hT⟩ := H6.out.two HL.out.M4
             refine (same_any HL.out.M _ _ d r D B C hT).mono ?_
             rintro e w7 ⟨rfl, hb⟩
             have H7 := Kept.mk (H6.out.byBelow HL.out.M4 hb)
             have a7 := H7.out.at'
             clear hb hT))
      all_goals
        go_wp2
        go_ret
        exact ⟨rfl, H7.out.four.below⟩
end Jr
end Go.Proofs.YtmkpkmkhnphogaaGreatDoor
