/-
  Whatever is done with a journal: the law's call, over any journal.
-/
import Derived.Test.YtmkpkmkhnphogaaGreatDoorJdoesaM
import Derived.Deep.RegionLaw
import Derived.Deep.AppendLies
namespace Go.Proofs.YtmkpkmkhnphogaaGreatDoor
open Go.RowKit Tx Dv
namespace Jr

/-- The list of acts at A, of which there are len. -/
structure OneAct (w : World) (g off : Nat) (what k : Nat) (s : ByteArray) (m : Nat) : Prop where
  c0 : w.cell? ⟨g, off, none⟩ = some (.int .u8 what)
  c1 : w.cell? ⟨g, off + 1, none⟩ = some (.int .u8 k)
  c2 : w.cell? ⟨g, off + 2, none⟩ = some (.string s)
  c3 : w.cell? ⟨g, off + 3, none⟩ = some (.int .u64 m)
  kk : k < 256
  ww : what < 256
  mm : m < 18446744073709551616
  ss : s.size ≤ 9223372036854775807
def Acts (w : World) (A : Option Addr) (len : Nat) : Prop := ∀ i, i < len → ∃ g off what k s m, A = some ⟨g, off, none⟩ ∧ g < w.heap.size ∧ OneAct w g (off + i * 4) what k s m
theorem OneAct.keep {w w' : World} {g off : Nat} {what k : Nat} {s : ByteArray} {m : Nat} (h : OneAct w g off what k s m) (hb : w'.heap[g]? = w.heap[g]?) : OneAct w' g off what k s m :=
  ⟨(World.cell?_of_block (w := w) (a := ⟨g, off, none⟩) hb).trans h.c0, (World.cell?_of_block (w := w) (a := ⟨g, off + 1, none⟩) hb).trans h.c1, (World.cell?_of_block (w := w) (a := ⟨g, off + 2, none⟩) hb).trans h.c2, (World.cell?_of_block (w := w) (a := ⟨g, off + 3, none⟩) hb).trans h.c3, h.kk, h.ww, h.mm, h.ss⟩
theorem Acts.below {w w' : World} {A : Option Addr} {len : Nat} (h : Acts w A len) (hb : Below w.heap.size w w') : Acts w' A len := by
  intro i hi
  obtain ⟨g, off, what, k, s, m, e, hg, ho⟩ := h i hi
  exact ⟨g, off, what, k, s, m, e, Nat.lt_of_lt_of_le hg hb.size, ho.keep (hb.block g hg)⟩

set_option maxHeartbeats 8000000 in
set_option maxRecDepth 100000 in
theorem plays_any {K : World → Prop} {Dev : World → (Nat → Prop) → Value → Disk → Prop} {Pp : World → (Nat → Prop) → Value → Value → Disk → Jn.Jour → Prop} (w : World) (L : Lore (K := K) (Dev := Dev) (Pp := Pp) w) (size : Nat) (hsz : size < 256) (A : Option Addr) (len cap : Nat) (hA : Acts w A len) (hl : len ≤ 140737488351232) :
    Calls Tryz.prog 3 #[.int .u8 size, .slice A len cap] w fun e w' => e = .returned (.bool true) ∧ Below w.heap.size w w' := by
  have HAw : Kept (Calls Tryz.prog 9 #[] w fun e w' => e = .returned (.bool true) ∧ Below w.heap.size w w') := ⟨awake_any L.M L.M4 w L.hK⟩
  have e0 : (size : Int).tmod 24 = ((size % 24 : Nat) : Int) := by rw [Int.tmod_eq_emod_of_nonneg (by omega)]; omega
  have HBg : Kept (∀ w1, Below w.heap.size w w1 → Calls Tryz.prog 10 #[.int .i64 (1 + (size : Int).tmod 24)] w1 fun e w' => ∃ x d p r q, e = .returned (.tuple #[.pointer (some ⟨x, 0, none⟩), .bool true]) ∧ Kept (Stands Pp w w' x d p r q)) := ⟨fun w1 hb => by
    have e1 : (1 + (size : Int).tmod 24) = ((1 + size % 24 : Nat) : Int) := by rw [e0]; omega
    rw [e1]
    refine (begun_any L.M L.M4 w w1 L.hK hb (1 + size % 24) (by omega) (by omega)).mono ?_
    rintro e w' ⟨x, U, V, d, p, r, q, rfl, h⟩
    exact ⟨x, d, p, r, q, rfl, ⟨U, V, _, _, h⟩⟩⟩
  have t0 : 0 ≤ (size : Int).tmod 24 := by rw [e0]; omega
  have t1 : (size : Int).tmod 24 < 24 := by rw [e0]; omega
  have s0 : (0 : Int) ≤ size := by omega
  have s1 : (size : Int) < 256 := by omega
  have HL := Kept.mk L
  have HA := Kept.mk hA
  clear L hA e0 hsz
  go_enter Tryz.func3, Tryz.ntmps3
  go_wp2_with (first
    | (go_at_call 9; refine HAw.out.mono ?_; rintro e w1 ⟨rfl, hb⟩; have HB1 := Kept.mk hb; clear hb)
    | (go_at_call 10; refine (HBg.out _ HB1.out).mono ?_; rintro e w2 ⟨x, d, p, r, q, rfl, H2⟩))
  clear HAw HBg HB1 t0 t1 s0 s1
  go_loopw [8] (fun z wr => ∃ (i : Nat) (p q : Value), i ≤ 14 ∧ i ≤ len ∧ z = .int .i64 i ∧ Kept (Stands Pp w wr x d p r q)) (fun z _ => 14 - (intOf z).toNat)
  case atStart => exact ⟨0, p, q, by omega, by omega, rfl, H2⟩
  case round =>
    clear H2
    obtain ⟨i, p, q, hi, hil, rfl, HI⟩ := hrel
    have i0 : (0 : Int) ≤ i := by omega
    have i1 : (i : Int) ≤ 14 := by omega
    by_cases hlt : i < len
    · have i2 : (i : Int) < len := by omega
      by_cases h14 : i < 14
      · have i3 : (i : Int) < 14 := by omega
        obtain ⟨U, V, D, J, hD⟩ := HI.out
        obtain ⟨g, off, what, k, s, m, rfl, hg, ho⟩ := HA.out i hlt
        have HD := Kept.mk hD
        have HO := Kept.mk (And.intro ho hg)
        have ha := ho.keep (hD.four.below.block g hg)
        have c0 := ha.c0
        have c1 := ha.c1
        have c2 := ha.c2
        have c3 := ha.c3
        clear hD ho hg HI ha
        by_cases hs : s.size ≤ 200
        · have hs2 : ¬ (200 : Int) < s.size := by omega
          have HS : Kept (s.size ≤ 1000000) := ⟨by omega⟩
          clear hs
          go_wp2
          clear hs2
          go_region_law
            (first
              | (go_simp; go_at_call 11
                 refine (does_any w _ HL.out x _ _ d p r q D J (HD.out.byBelow HL.out.M4 (Below.refl _ _).drew) what k s m HO.out.1.kk HO.out.1.mm HS.out).mono ?_
                 rintro e w3 ⟨rfl, U3, V3, p3, q3, D3, J3, h3⟩
                 have H3 := Kept.mk h3
                 have d1 := h3.at'.c1
                 have d3 := h3.at'.c3
                 have a3 := HO.out.1.keep (h3.four.below.block g HO.out.2)
                 clear h3)
              | (go_simp; go_at_call 13
                 refine (H3.out.recordsP HL.out.M4).mono ?_
                 rintro e w4 ⟨A4, n4, k4, rfl, hn4, hR4, hB4⟩
                 have H4 := Kept.mk (H3.out.byBelow HL.out.M4 hB4.out)
                 have e3 := H4.out.at'.c3
                 have a4 := HO.out.1.keep (H4.out.four.below.block g HO.out.2))
              | (go_simp; go_at_call 14
                 refine (H4.out.recordsR).mono ?_
                 rintro e w5 ⟨A5, n5, k5, rfl, hn5, hR5, hB5⟩
                 have H5 := Kept.mk (H4.out.byBelow HL.out.M4 hB5.out)
                 have a5 := HO.out.1.keep (H5.out.four.below.block g HO.out.2))
              | (go_simp; go_at_call 12
                 refine (Tup.same_any (J3.L.map bs) (J3.L.map bs) A4 A5 n4 k4 n5 k5 w5 (hR4.out.below hB5.out) hR5.out (by rw [List.length_map]; exact hn4.out.symm) (by rw [List.length_map]; exact hn5.out.symm) (Duo.short H3.out HL.out.M4 hn4) (Duo.short H3.out HL.out.M4 hn5)).mono ?_
                 rintro e w6 ⟨he, hb⟩
                 rw [decide_eq_true rfl] at he
                 subst he
                 have H6 := Kept.mk (H5.out.byBelow HL.out.M4 hb)
                 have a6 := HO.out.1.keep (H6.out.four.below.block g HO.out.2)
                 clear hb))
          all_goals
            clear c0 c1 c2 c3 d1 d3 e3 a3 a4 a5 a6
            go_wp2
            go_roundw
            case rel => exact ⟨i + 1, _, _, by omega, by omega, by go_num, ⟨_, _, _, _, H6.out⟩⟩
            case measure => simp [intOf]; omega
        · have hs2 : (200 : Int) < s.size := by omega
          go_wp2
          go_ret
          exact ⟨rfl, HD.out.four.below⟩
      · have i3 : ¬ (i : Int) < 14 := by omega
        obtain ⟨U, V, D, J, hD⟩ := HI.out
        obtain ⟨B, C, hT⟩ := (hD.byBelow HL.out.M4 (Below.refl _ _).drew).two HL.out.M4
        have HD := Kept.mk hD
        have HT := Kept.mk hT
        have b0 := hD.at'.c0
        have b2 := hD.at'.c2
        clear hD hT HI HA
        go_wp2
        go_region_held3 (fun w' => w'.cell? ⟨x, 0, none⟩ = some d ∧ w'.cell? ⟨x, 2, none⟩ = some r)
          (first
            | go_keep
            | exact ⟨d0, d2⟩)
          (first
            | (go_at_call 15
               refine (same_any HL.out.M _ _ d r D B C HT.out).mono ?_
               rintro e w3 ⟨rfl, hb⟩
               have H3 := Kept.mk ((HD.out.byBelow HL.out.M4 (Below.refl _ _).drew).byBelow HL.out.M4 hb)
               have d0 := H3.out.at'.c0
               have d2 := H3.out.at'.c2
               clear hb))
        all_goals
          go_wp2
          go_ret
          exact ⟨rfl, H3.out.four.below⟩
    · have i2 : ¬ (i : Int) < len := by omega
      obtain ⟨U, V, D, J, hD⟩ := HI.out
      obtain ⟨B, C, hT⟩ := (hD.byBelow HL.out.M4 (Below.refl _ _).drew).two HL.out.M4
      have HD := Kept.mk hD
      have HT := Kept.mk hT
      have b0 := hD.at'.c0
      have b2 := hD.at'.c2
      clear hD hT HI HA
      go_wp2
      go_region_held3 (fun w' => w'.cell? ⟨x, 0, none⟩ = some d ∧ w'.cell? ⟨x, 2, none⟩ = some r)
        (first
          | go_keep
          | exact ⟨d0, d2⟩)
        (first
          | (go_at_call 15
             refine (same_any HL.out.M _ _ d r D B C HT.out).mono ?_
             rintro e w3 ⟨rfl, hb⟩
             have H3 := Kept.mk ((HD.out.byBelow HL.out.M4 (Below.refl _ _).drew).byBelow HL.out.M4 hb)
             have d0 := H3.out.at'.c0
             have d2 := H3.out.at'.c2
             clear hb))
      all_goals
        go_wp2
        go_ret
        exact ⟨rfl, H3.out.four.below⟩
end Jr
end Go.Proofs.YtmkpkmkhnphogaaGreatDoor
