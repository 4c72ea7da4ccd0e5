/-
  StoreApplies: what was read agrees with what was there; what was written, applied to that, makes the same.
-/
import Derived.Test.YtjmblgahoejoiaaGreatDoorLmath
import Derived.Test.YtjmblgahoejoiaaGreatDoorSawake
import Derived.Test.YtjmblgahoejoiaaGreatDoorPlist
import Derived.Test.YtjmblgahoejoiaaGreatDoorSame
import Derived.Test.YtjmblgahoejoiaaGreatDoorEq
namespace Go.Proofs.YtjmblgahoejoiaaGreatDoor
open Go.RowKit Go.Maps Tx
namespace St

structure P1 (w wr : World) (g b n : Nat) (t : Tree) : Prop where
  p : PSto wr g b n lvNone t
  below : Below w.heap.size w wr
  hg : w.heap.size ≤ g
  hb : w.heap.size ≤ b
  small : Small t
  len : t.length ≤ n
section
variable {w wr w2 : World} {g b n : Nat} {t : Tree}
theorem P1.on (h : P1 w wr g b n t) (hb : Below wr.heap.size wr w2) : P1 w w2 g b n t := ⟨h.p.below hb, h.below.trans (hb.mono h.below.size), h.hg, h.hb, h.small, h.len⟩
theorem P1.drew (h : P1 w wr g b n t) : P1 w wr.drew g b n t := h.on (Below.refl _ _).drew
theorem P1.put (h : P1 w wr g b n t) {p : ByteArray} {k m : Nat} {d : ByteArray} (hp : PSto w2 g b (n + 1) lvNone (St.put t p ⟨k, m, d⟩)) (ho : Only (· = b) wr w2) (hps : p.size ≤ 10) (hd : d.size ≤ 10) (hv : k ≠ 0 → valid ⟨k, m, d⟩) : P1 w w2 g b (n + 1) (St.put t p ⟨k, m, d⟩) :=
  ⟨hp, h.below.trans (ho.toBelow (fun k hk e => by have := h.hb; omega) h.below.size), h.hg, h.hb, h.small.put hps hd hv, by have := length_put t p ⟨k, m, d⟩; have := h.len; omega⟩
end
/-- The recording store x and its copy y. -/
structure L1 (w wr : World) (g b n lg bb nb br nr bp np g2 b2 n2 : Nat) (t t0 : Tree) (DR DP : DataW Unit) : Prop where
  s : LSto wr g b n lg bb nb br nr bp np t t0 DR DP
  y : PSto wr g2 b2 n2 lvNone t0
  below : Below w.heap.size w wr
  hi : w.heap.size ≤ g ∧ w.heap.size ≤ b ∧ w.heap.size ≤ br ∧ w.heap.size ≤ bp
  ap : (g2 ≠ g ∧ g2 ≠ b ∧ g2 ≠ br ∧ g2 ≠ bp) ∧ (b2 ≠ g ∧ b2 ≠ b ∧ b2 ≠ br ∧ b2 ≠ bp)
  lt : b2 < wr.heap.size ∧ w.heap.size ≤ b2
  rc : Rec t t0 DR DP
  small : Small t
  small0 : Small t0
  len : t.length ≤ n
  len0 : t0.length ≤ n2
section
variable {w wr w2 : World} {g b n lg bb nb br nr bp np g2 b2 n2 : Nat} {t t0 : Tree} {DR DP DR' : DataW Unit}
theorem L1.on (h : L1 w wr g b n lg bb nb br nr bp np g2 b2 n2 t t0 DR DP) (hb : Below wr.heap.size wr w2) : L1 w w2 g b n lg bb nb br nr bp np g2 b2 n2 t t0 DR DP :=
  ⟨h.s.below hb, h.y.below hb, h.below.trans (hb.mono h.below.size), h.hi, h.ap, ⟨Nat.lt_of_lt_of_le h.lt.1 hb.size, h.lt.2⟩, h.rc, h.small, h.small0, h.len, h.len0⟩
theorem L1.read (h : L1 w wr g b n lg bb nb br nr bp np g2 b2 n2 t t0 DR DP) (hs : LSto w2 g b n lg bb nb br (nr + 1) bp np t t0 DR' DP) (ho : Only (· = br) wr w2) (hr : Rec t t0 DR' DP) : L1 w w2 g b n lg bb nb br (nr + 1) bp np g2 b2 n2 t t0 DR' DP :=
  ⟨hs, h.y.only ho h.ap.1.2.2.1 h.ap.2.2.2.1, h.below.trans (ho.toBelow (fun k hk e => by have := h.hi; omega) h.below.size), h.hi, h.ap, ⟨Nat.lt_of_lt_of_le h.lt.1 ho.size, h.lt.2⟩, hr, h.small, h.small0, h.len, h.len0⟩
theorem L1.put (h : L1 w wr g b n lg bb nb br nr bp np g2 b2 n2 t t0 DR DP) {p : ByteArray} {k m : Nat} {d : ByteArray} (hs : LSto w2 g b (n + 1) lg bb nb br nr bp (np + 1) (St.put t p ⟨k, m, d⟩) t0 DR (if p = emp then DP else DP.put (key p) unD))
    (ho : Only (fun k => k = b ∨ k = bp) wr w2) (hps : p.size ≤ 10) (hd : d.size ≤ 10) (hv : k ≠ 0 → valid ⟨k, m, d⟩) : L1 w w2 g b (n + 1) lg bb nb br nr bp (np + 1) g2 b2 n2 (St.put t p ⟨k, m, d⟩) t0 DR (if p = emp then DP else DP.put (key p) unD) := by
  have hm : IsMap (DP.put (key p) unD) := by
    obtain ⟨es, e⟩ := h.rc.mapP
    rw [e]
    exact ⟨_, rfl⟩
  exact ⟨hs, h.y.only ho (by have := h.ap; omega) (by have := h.ap; omega), h.below.trans (ho.toBelow (fun k hk e => by have := h.hi; omega) h.below.size), h.hi, h.ap, ⟨Nat.lt_of_lt_of_le h.lt.1 ho.size, h.lt.2⟩, h.rc.put h.small.good p _ hps trivial hm, h.small.put hps hd hv, h.small0, by have := length_put t p ⟨k, m, d⟩; have := h.len; omega, h.len0⟩
end

set_option maxHeartbeats 8000000 in
set_option maxRecDepth 1000000 in
theorem applies_any (A : Option Addr) (len cap : Nat) (C : Option Addr) (len2 cap2 : Nat) (w : World) (hK : Tup.Kit w) (hA : Acts w A len) (hlen : len ≤ 140737488355328) (hC : Acts w C len2) (hlen2 : len2 ≤ 140737488355328) :
    Calls Tryz.prog 4 #[.slice A len cap, .slice C len2 cap2] w fun e w' => e = .returned (.bool true) ∧ Below w.heap.size w w' := by
  have HK := Kept.mk hK
  have HA := Kept.mk hA
  have HC := Kept.mk hC
  clear hK hA hC
  go_enter Tryz.func4, Tryz.ntmps4
  go_upto_block 0 with (first
    | (go_at_call 5
       refine (awake_any _ HK.out).mono ?_
       rintro e w1 ⟨rfl, hb1⟩
       have HB1 := Kept.mk hb1
       clear hb1)
    | (go_at_call 6
       refine (new_any w1).mono ?_
       rintro e w2 ⟨g, b, rfl, hg, hb, hp, hB⟩
       have H0 : Kept (P1 w w2 g b 1 []) := ⟨⟨hp.out, HB1.out.trans (hB.mono HB1.out.size), Nat.le_trans HB1.out.size hg, Nat.le_trans HB1.out.size hb, small_nil, Nat.zero_le _⟩⟩
       clear hp hB hg hb))
  go_cut [7] (fun x wx => ∃ n t, Kept (P1 w wx g b n t ∧ n ≤ 21))
  case first =>
    go_wp2_with fail
    go_loopw [7] (fun x wr => ∃ (j : Nat) (t : Tree), j ≤ 20 ∧ x = .int .i64 j ∧ Kept (P1 w wr g b (1 + j) t)) (fun x _ => 20 - (intOf x).toNat)
    case atStart => exact ⟨0, [], by omega, rfl, H0⟩
    case round =>
      clear H0
      obtain ⟨j, t, hj, rfl, H⟩ := hrel
      have i0 : (0 : Int) ≤ j := by omega
      by_cases hlt : j < len
      · by_cases h20 : j < 20
        · obtain ⟨ga, off, a, rfl, hga, ho⟩ := HA.out j hlt
          have HO := Kept.mk ho
          have hok := ho.ok
          obtain ⟨kn, mn, d, hE, hk3, hm7, hd10, hv, hEn⟩ := entA_cases a hok
          have HEn := Kept.mk hEn
          have HVd := Kept.mk (And.intro hd10 hv)
          have hpa := hok.path
          have HPa : Kept (∀ w, Calls Tryz.prog 12 #[.int .u8 a.path] w fun e w' => e = .returned (.string (place a.path)) ∧ Below w.heap.size w w') := ⟨fun w => path_any a.path hpa w⟩
          have i2 : (j : Int) < len := by omega
          have i3 : (j : Int) < 20 := by omega
          have HD := Kept.mk H.out.drew
          have hO : Kept (∀ w', Below w.heap.size w w' → OneAct w' ga (off + j * 5) a) := ⟨fun w' hb => HO.out.keep (hb.block ga hga)⟩
          obtain ⟨-, c0, c1, c2, c3, c4⟩ := hO.out _ HD.out.below
          clear hE hv hEn ho hlt h20 hok
          go_wp2
          go_region_held3 (fun w' => w'.cell? ⟨ga, off + j * 5, none⟩ = some (.int .u8 a.what) ∧ w'.cell? ⟨ga, off + j * 5 + 1, none⟩ = some (.int .u8 a.path) ∧ w'.cell? ⟨ga, off + j * 5 + 2, none⟩ = some (.int .u8 a.kind) ∧ w'.cell? ⟨ga, off + j * 5 + 3, none⟩ = some (.int .u8 a.mode) ∧ w'.cell? ⟨ga, off + j * 5 + 4, none⟩ = some (.int .u8 a.data))
            (first
              | exact ⟨c0, c1, c2, c3, c4⟩
              | exact ⟨d0, d1, d2, d3, d4⟩
              | exact ⟨e0, e1, e2, e3, e4⟩
              | exact ⟨f0, f1, f2, f3, f4⟩)
            (first
              | (go_at_call 12
                 refine (HPa.out _).mono ?_
                 rintro e w3 ⟨rfl, hb3⟩
                 have H3 := Kept.mk (HD.out.on hb3)
                 obtain ⟨-, d0, d1, d2, d3, d4⟩ := hO.out _ H3.out.below
                 clear hb3)
              | (go_at_call 13
                 refine (HEn.out _).mono ?_
                 rintro e w4 ⟨rfl, hb4⟩
                 have H4 := Kept.mk (H3.out.on hb4)
                 obtain ⟨-, e0, e1, e2, e3, e4⟩ := hO.out _ H4.out.below
                 clear hb4)
              | (go_at_call 10
                 refine (put_letters g b (1 + j) t (place a.path) kn mn d _ H4.out.p (place_max _) (by omega)).mono ?_
                 rintro e w5 ⟨rfl, hp5, ho5⟩
                 have H5 := Kept.mk (H4.out.put hp5.out ho5 (place_small _) HVd.out.1 HVd.out.2)
                 obtain ⟨-, f0, f1, f2, f3, f4⟩ := hO.out _ H5.out.below
                 clear hp5 ho5))
          go_wp2
          go_roundw
          case rel => exact ⟨j + 1, _, by omega, by go_num, H5⟩
          case measure => simp [intOf]; omega
        · have i2 : (j : Int) < len := by omega
          have i3 : ¬ (j : Int) < 20 := by omega
          clear h20
          go_wp2
          go_meet
          exact ⟨_, t, ⟨H.out, by omega⟩⟩
      · have i2 : ¬ (j : Int) < len := by omega
        go_wp2
        go_meet
        exact ⟨_, t, ⟨H.out, by omega⟩⟩
  case rest =>
    clear H0
    obtain ⟨n, t0, H⟩ := hcut
    have hn21 := H.out.2
    go_upto_block 2 with (first
      | (go_at_call 9
         refine (copy_any g b n _ t0 wc H.out.1.p).mono ?_
         rintro e w3 ⟨g2, b2, rfl, hg2, hb2, hp3, hb3⟩
         have HC3 : Kept (P1 w w3 g b n t0 ∧ PSto w3 g2 b2 n lvNone t0 ∧ wc.heap.size ≤ g2 ∧ wc.heap.size ≤ b2 ∧ g < wc.heap.size ∧ b < wc.heap.size) := ⟨H.out.1.on hb3, hp3.out, hg2, hb2, H.out.1.p.lt, H.out.1.p.own.lt⟩
         clear hp3 hb3 hg2 hb2)
      | (go_at_call 14
         refine (begin_any g b n t0 w3 HC3.out.1.p).mono ?_
         rintro e w4 ⟨rfl, lg, bb, br, bp, hs4, hh4, ho4⟩
         have H4 : Kept (L1 w w4 g b n lg bb n br 0 bp 0 g2 b2 n t0 t0 (.map []) (.map [])) := by
           obtain ⟨h1, h2, h3, h4, h5, h6⟩ := HC3.out
           have hs := HC3.out.1.below.size
           have hw := h2.own.lt
           have hw2 := h2.lt
           have hbw := H.out.1.below.size
           refine ⟨⟨hs4.out, h2.only ho4 (fun e => by omega) (fun e => by omega), h1.below.trans (ho4.toBelow (fun k hk e => by have := h1.hg; omega) h1.below.size), ⟨h1.hg, h1.hb, by omega, by omega⟩, ⟨⟨by omega, by omega, by omega, by omega⟩, by omega, by omega, by omega, by omega⟩, ⟨Nat.lt_of_lt_of_le hw ho4.size, by omega⟩, Rec.start t0 ⟨_, rfl⟩, h1.small, h1.small, h1.len, h1.len⟩⟩
         clear hs4 hh4 ho4))
    go_cut [9, 10] (fun _ _ wx => ∃ (N nr np : Nat) (t : Tree) (DR DP : DataW Unit), Kept (L1 w wx g b N lg bb n br nr bp np g2 b2 n t t0 DR DP ∧ N ≤ 42 ∧ nr ≤ 21 ∧ np ≤ 21))
    case first =>
      go_wp2_with fail
      go_loopw [9, 10] (fun x _ wr => ∃ (j N nr np : Nat) (t : Tree) (DR DP : DataW Unit), j ≤ 20 ∧ x = .int .i64 j ∧ N ≤ 21 + j ∧ nr ≤ j ∧ np ≤ j ∧ Kept (L1 w wr g b N lg bb n br nr bp np g2 b2 n t t0 DR DP)) (fun x _ _ => 20 - (intOf x).toNat)
      case atStart => exact ⟨0, n, 0, 0, t0, _, _, by omega, rfl, by omega, by omega, by omega, H4⟩
      case round =>
        clear H4
        obtain ⟨j, N, nr, np, t, DR, DP, hj, rfl, hN, hnr, hnp, H⟩ := hrel
        have i0 : (0 : Int) ≤ j := by omega
        by_cases hlt : j < len2
        · by_cases h20 : j < 20
          · obtain ⟨ga, off, a, rfl, hga, ho⟩ := HC.out j hlt
            have HO := Kept.mk ho
            have hok := ho.ok
            obtain ⟨kn, mn, d, hE, hk3, hm7, hd10, hv, hEn⟩ := entA_cases a hok
            have HEn := Kept.mk hEn
            have HVd := Kept.mk (And.intro hd10 hv)
            have hpa := hok.path
            have HPa : Kept (∀ w, Calls Tryz.prog 12 #[.int .u8 a.path] w fun e w' => e = .returned (.string (place a.path)) ∧ Below w.heap.size w w') := ⟨fun w => path_any a.path hpa w⟩
            have i2 : (j : Int) < len2 := by omega
            have i3 : (j : Int) < 20 := by omega
            have hO : Kept (∀ w', Below w.heap.size w w' → OneAct w' ga (off + j * 5) a) := ⟨fun w' hb => HO.out.keep (hb.block ga hga)⟩
            obtain ⟨-, c0, c1, c2, c3, c4⟩ := hO.out _ H.out.below
            have hq : (a.what : Int).tmod 4 = ((a.what % 4 : Nat) : Int) := by rw [Int.tmod_eq_emod_of_nonneg (by omega)]; omega
            have h4 : a.what % 4 < 4 := Nat.mod_lt _ (by omega)
            have HPl : Kept ((place a.path).size ≤ 10) := ⟨place_small _⟩
            have HLt := Kept.mk H.out.len
            clear hE hv hEn ho hlt h20 hok
            rcases (show a.what % 4 = 0 ∨ a.what % 4 = 1 ∨ a.what % 4 = 2 ∨ a.what % 4 = 3 by omega) with hw | hw | hw | hw
            all_goals
              rw [hw] at hq
              clear hw h4
            rotate_left 2
            · have hm9 : IsMap (DR.put (rk ⟨place a.path, false⟩) unD) := by
                obtain ⟨es, e⟩ := H.out.rc.mapR
                rw [e]
                exact ⟨_, rfl⟩
              have HM9 := Kept.mk hm9
              clear hm9
              go_wp2_with (first
                | (go_at_call 12
                   refine (HPa.out _).mono ?_
                   rintro e w3' ⟨rfl, hb3⟩
                   have H3 := Kept.mk (H.out.on hb3)
                   clear c0 c1 c2 c3 c4 hb3
                   obtain ⟨-, c0, c1, c2, c3, c4⟩ := hO.out _ H3.out.below)
                | (go_at_call 15
                   refine (at_log g b N lg bb n br nr bp np t t0 DR DP (place a.path) _ H3.out.s (place_max _) (by omega)).mono ?_
                   rintro e w5 ⟨rfl, hs5, ho5⟩
                   have H5 : Kept (L1 w w5 g b N lg bb n br (nr + 1) bp np g2 b2 n t t0 (if Maps.has DP (key (place a.path)) = true then DR else DR.put (rk ⟨place a.path, false⟩) unD) DP) := ⟨H3.out.read hs5.out ho5 (by
                     split
                     · exact H3.out.rc
                     · exact H3.out.rc.read ⟨place a.path, false⟩ HPl.out HM9.out)⟩
                   clear hs5 ho5 c0 c1 c2 c3 c4))
              go_roundw
              case rel => exact ⟨j + 1, N, nr + 1, np, t, _, DP, by omega, by go_num, by omega, by omega, by omega, H5⟩
              case measure => simp [intOf]; omega
            · have hm9 : IsMap (DR.put (rk ⟨place a.path, true⟩) unD) := by
                obtain ⟨es, e⟩ := H.out.rc.mapR
                rw [e]
                exact ⟨_, rfl⟩
              have HM9 := Kept.mk hm9
              clear hm9
              go_wp2_with (first
                | (go_at_call 12
                   refine (HPa.out _).mono ?_
                   rintro e w3' ⟨rfl, hb3⟩
                   have H3 := Kept.mk (H.out.on hb3)
                   clear c0 c1 c2 c3 c4 hb3
                   obtain ⟨-, c0, c1, c2, c3, c4⟩ := hO.out _ H3.out.below)
                | (go_at_call 16
                   refine (names_log g b N lg bb n br nr bp np t t0 DR DP (place a.path) _ H3.out.s (by have := HPl.out; omega) (by omega) (by have := HLt.out; omega)).mono ?_
                   rintro e w5 ⟨nv, rfl, -, hs5, ho5⟩
                   have H5 : Kept (L1 w w5 g b N lg bb n br (nr + 1) bp np g2 b2 n t t0 (DR.put (rk ⟨place a.path, true⟩) unD) DP) := ⟨H3.out.read hs5.out ho5 (H3.out.rc.read ⟨place a.path, true⟩ HPl.out HM9.out)⟩
                   clear hs5 ho5 c0 c1 c2 c3 c4))
              go_roundw
              case rel => exact ⟨j + 1, N, nr + 1, np, t, _, DP, by omega, by go_num, by omega, by omega, by omega, H5⟩
              case measure => simp [intOf]; omega
            all_goals
              go_wp2_with (first
                | (go_at_call 12
                   refine (HPa.out _).mono ?_
                   rintro e w3' ⟨rfl, hb3⟩
                   have H3 := Kept.mk (H.out.on hb3)
                   clear c0 c1 c2 c3 c4 hb3
                   obtain ⟨-, c0, c1, c2, c3, c4⟩ := hO.out _ H3.out.below)
                | (go_at_call 13
                   refine (HEn.out _).mono ?_
                   rintro e w4' ⟨rfl, hb4⟩
                   have H4' := Kept.mk (H3.out.on hb4)
                   clear hb4)
                | (go_at_call 10
                   refine (put_log g b N lg bb n br nr bp np t t0 DR DP (place a.path) kn mn d _ H4'.out.s (place_max _) (by omega) (by omega)).mono ?_
                   rintro e w5 ⟨rfl, hs5, ho5⟩
                   have H5 := Kept.mk (H4'.out.put hs5.out ho5 HPl.out HVd.out.1 HVd.out.2)
                   clear hs5 ho5 c0 c1 c2 c3 c4))
              go_roundw
              case rel => exact ⟨j + 1, N + 1, nr, np + 1, _, DR, _, by omega, by go_num, by omega, by omega, by omega, H5⟩
              case measure => simp [intOf]; omega
          · have i2 : (j : Int) < len2 := by omega
            have i3 : ¬ (j : Int) < 20 := by omega
            clear h20
            go_wp2
            go_meet
            exact ⟨N, nr, np, t, DR, DP, ⟨H.out, by omega, by omega, by omega⟩⟩
        · have i2 : ¬ (j : Int) < len2 := by omega
          go_wp2
          go_meet
          exact ⟨N, nr, np, t, DR, DP, ⟨H.out, by omega, by omega, by omega⟩⟩
    case rest =>
      clear H4
      obtain ⟨N, nr, np, t, DR, DP, HH⟩ := hcut
      have H := Kept.mk HH.out.1
      have hb3 := HH.out.2
      have HKw : Kept (∀ w', Below w.heap.size w w' → Tup.Kit w') := ⟨fun w' hb => HK.out.below hb⟩
      have htl : t.length ≤ 42 := by have := H.out.len; omega
      have ht0 : t0.length ≤ 21 := by have := H.out.len0; omega
      have T1 : Kept True := ⟨trivial⟩
      go_upto_block 5 with (first
        | (go_at_call 17
           refine (end_any g b N lg bb n br nr bp np t t0 DR DP wc H.out.s (HKw.out _ H.out.below) (fun w2 hb => HKw.out _ ((H.out.below.setCell (p := ⟨g, 1, none⟩) H.out.hi.1 lvNone).trans (hb.mono (by rw [World.size_setCell]; exact H.out.below.size)))) H.out.small H.out.small0 (by omega) (by omega) (by omega) (by omega) H.out.rc.shortR H.out.rc.shortP).mono ?_
           rintro e w5 ⟨vr, vw, xs, l, rfl, hx1, -, hm, hh, ho5⟩
           have HX1 := Kept.mk hx1
           have HM := Kept.mk hm
           have HH5 := Kept.mk hh.out
           have HO5 := Kept.mk ho5
           have HB5 : Kept (Below w.heap.size w w5) := ⟨H.out.below.trans (ho5.toBelow (fun k hk e => by have := H.out.hi.1; omega) H.out.below.size)⟩
           have HY5 : Kept (PSto w5 g2 b2 n lvNone t0) := ⟨H.out.y.only ho5 H.out.ap.1.1 H.out.ap.2.1⟩
           clear hx1 hm hh ho5)
        | (go_at_call 18
           refine (agrees_any g2 b2 n lvNone t0 vr (told t0 xs) w5 HY5.out HH5.out.2.2.1 (HKw.out _ HB5.out) H.out.small0 (by omega) (by unfold told; rw [List.length_map]; have := HH5.out.1; omega) (fun q hq => by
             unfold told at hq
             obtain ⟨x, hx, rfl⟩ := List.mem_map.1 hq
             exact ⟨H.out.rc.shortR x (HX1.out.size x hx) ((HX1.out.mem x (HX1.out.size x hx)).1 hx), rfl⟩)).mono ?_
           rintro e w6 ⟨rfl, hb6⟩
           have HB6 : Kept (Below w.heap.size w w6) := ⟨HB5.out.trans (hb6.mono HB5.out.size)⟩
           have HY6 := Kept.mk (HY5.out.below hb6)
           have HX6 := Kept.mk (HH5.out.2.2.2.2.2.2.below hb6)
           have HT6 := Kept.mk (HH5.out.2.2.2.1.below hb6)
           clear hb6)
        | (go_at_call 19
           refine (apply_any g2 b2 n t0 t vw (told t (l.map fun p => ⟨p, false⟩)) w6 HY6.out HT6.out (fun k hk e => by have := HH5.out.2.2.2.2.2.1 k hk; have := H.out.lt.1; omega) (HKw.out _ HB6.out) H.out.small (by unfold told; rw [List.length_map, List.length_map]; exact HH5.out.2.1) (by omega) (fun q hq => by
             unfold told at hq
             obtain ⟨x, hx, rfl⟩ := List.mem_map.1 hq
             obtain ⟨p, hp, rfl⟩ := List.mem_map.1 hx
             exact ⟨H.out.rc.shortP p ((HM.out p).1 hp), rfl, rfl⟩)).mono ?_
           rintro e w7 ⟨rfl, hp7, ho7⟩
           have HB7 : Kept (Below w.heap.size w w7) := ⟨HB6.out.trans (ho7.toBelow (fun k hk e => by have := H.out.lt.2; omega) HB6.out.size)⟩
           have hput : puts t t0 (told t (l.map fun p => ⟨p, false⟩)) = t := puts_all H.out.small H.out.small0.good _ (fun k hk => by
             cases hh : Maps.has DP (key k) with
             | false => exact H.out.rc.same k hh
             | true =>
               refine absurd rfl (hk ⟨⟨k, false⟩, valR t ⟨k, false⟩⟩ ?_)
               unfold told
               rw [List.mem_map]
               exact ⟨⟨k, false⟩, List.mem_map.2 ⟨k, (HM.out k).2 hh, rfl⟩, rfl⟩)
           have HY7 : Kept (PSto w7 g2 b2 (n + (told t (l.map fun p => ⟨p, false⟩)).length) lvNone t) := ⟨by have := hp7.out; rw [hput] at this; exact this⟩
           have HX7 : Kept (PSto w7 g b N lvNone t) := ⟨HX6.out.only ho7 (fun e => by have := H.out.ap.2; omega) (fun e => by have := H.out.ap.2; omega)⟩
           clear hp7 ho7 hput)
        | (go_at_call 20
           have := T1
           refine (paths_any g b N lvNone t w7 HX7.out (by omega)).mono ?_
           rintro e w8 ⟨A8, k8, rfl, r8, hb8⟩
           clear T1 this
           have HB8 : Kept (Below w.heap.size w w8) := ⟨HB7.out.trans (hb8.mono HB7.out.size)⟩
           have HX8 := Kept.mk (HX7.out.below hb8)
           have HY8 := Kept.mk (HY7.out.below hb8)
           clear hb8)
        | (go_at_call 20
           refine (paths_any g2 b2 _ lvNone t w8 HY8.out (by omega)).mono ?_
           rintro e w9 ⟨A9, k9, rfl, r9, hb9⟩
           have HB9 : Kept (Below w.heap.size w w9) := ⟨HB8.out.trans (hb9.mono HB8.out.size)⟩
           have HX9 := Kept.mk (HX8.out.below hb9)
           have HY9 := Kept.mk (HY8.out.below hb9)
           have r8b := Kept.mk (r8.out.below hb9)
           clear hb9)
        | (go_at_call 21
           refine (Tup.same_any (t.map (·.1)) (t.map (·.1)) A8 A9 t.length k8 t.length k9 w9 r8b.out r9.out (by simp) (by simp) (by omega) (by omega)).mono ?_
           rw [decide_eq_true rfl]
           rintro e w10 ⟨rfl, hb10⟩
           have HB10 : Kept (Below w.heap.size w w10) := ⟨HB9.out.trans (hb10.mono HB9.out.size)⟩
           have HX10 := Kept.mk (HX9.out.below hb10)
           have HY10 := Kept.mk (HY9.out.below hb10)
           have r10 := Kept.mk (r8b.out.below hb10)
           clear hb10))
      go_wp2_with fail
      go_loopw [16] (fun x wr => ∃ j : Nat, j ≤ t.length ∧ x = .int .i64 j ∧ Kept (Below w10.heap.size w10 wr)) (fun x _ => t.length - (intOf x).toNat)
      case atStart => exact ⟨0, by omega, rfl, ⟨Below.refl _ _⟩⟩
      case round =>
        obtain ⟨j, hj, rfl, hb⟩ := hrel
        have j0 : (0 : Int) ≤ j := by omega
        by_cases hlt : j < t.length
        · have j1 : (j : Int) < (t.length : Int) := by omega
          obtain ⟨q, off, rfl, hq, hc⟩ := r10.out j (by simpa using hlt)
          have HX := Kept.mk (HX10.out.below hb.out)
          have HY := Kept.mk (HY10.out.below hb.out)
          have d0 := (hb.out.drew.cell (p := ⟨q, off + j, none⟩) hq).trans hc
          have hsm : ((t.map (fun p : ByteArray × Ent => p.1))[j]'(by simpa using hlt)).size ≤ maxLen := by
            have := (H.out.small.ent _ (List.getElem_mem hlt)).2.1
            simp only [List.getElem_map]
            unfold maxLen
            omega
          generalize (t.map (fun p : ByteArray × Ent => p.1))[j]'(by simpa using hlt) = s at d0 hsm hc
          have c0 := (hb.out.cell (p := ⟨q, off + j, none⟩) hq).trans hc
          obtain ⟨k, m, d, hget⟩ : ∃ k m d, get t s = ⟨k, m, d⟩ := ⟨_, _, _, rfl⟩
          have HAx := Kept.mk (at_none g b N t s wr.drew HX.out.drew hsm)
          have HAy : Kept (∀ w', Below wr.heap.size wr w' → Calls Tryz.prog 15 #[.pointer (some ⟨g2, 0, none⟩), .string s] w' fun e w2 => e = .returned (.agg #[.int .i64 k, .int .i64 m, .string d]) ∧ Below w'.heap.size w' w2) := ⟨fun w' hb' => by
            have := at_none g2 b2 _ t s w' (HY.out.below hb') hsm
            rw [hget] at this
            exact this⟩
          rw [hget] at HAx
          unfold entV at HAx
          simp only at HAx
          have hq1 : ∀ w, (binOp .neq 37 (.agg #[.int .i64 k, .int .i64 m, .string d]) (.agg #[.int .i64 k, .int .i64 m, .string d])).run Tryz.prog w = .ok (.bool false) w := fun w => by
            have h1 := ent_eq ⟨k, m, d⟩ ⟨k, m, d⟩ w
            rw [decide_eq_true rfl] at h1
            unfold entV at h1
            rw [run_eql_struct] at h1
            rw [run_neq_struct]
            revert h1
            cases (Op.equalIn 10000 37 (.agg #[.int .i64 k, .int .i64 m, .string d]) (.agg #[.int .i64 k, .int .i64 m, .string d])).run Tryz.prog w with
            | ok r w' =>
              intro h1
              simp only [Result.andThen] at h1 ⊢
              injection h1 with h1 h2
              injection h1 with h1
              rw [h1, h2]
              rfl
            | _ => intro h1; simp [Result.andThen] at h1
          have HQ : Kept (q < w10.heap.size) := ⟨hq⟩
          have HCc : Kept (w10.cell? ⟨q, off + j, none⟩ = some (.string s)) := ⟨hc⟩
          have T2 : Kept True := ⟨trivial⟩
          clear hget hc hsm hq c0
          go_wp2
          go_region_held3 (fun w' => w'.cell? ⟨q, off + j, none⟩ = some (.string s))
            (first
              | exact d0
              | exact d1
              | exact d2)
            (first
              | (go_at_call 15
                 have := T2
                 refine HAx.out.mono ?_
                 rintro e w11 ⟨rfl, hb11⟩
                 clear T2 this
                 have HB11 : Kept (Below wr.heap.size wr w11) := ⟨(Below.refl _ _).drew.trans hb11⟩
                 have HD11 : Kept (Below w10.heap.size w10 w11) := ⟨hb.out.trans (HB11.out.mono hb.out.size)⟩
                 have d1 := (HD11.out.cell (p := ⟨q, off + j, none⟩) HQ.out).trans HCc.out
                 clear hb11)
              | (go_at_call 15
                 refine (HAy.out _ HB11.out).mono ?_
                 rintro e w12 ⟨rfl, hb12⟩
                 have HD12 : Kept (Below w10.heap.size w10 w12) := ⟨HD11.out.trans (hb12.mono HD11.out.size)⟩
                 have d2 := (HD12.out.cell (p := ⟨q, off + j, none⟩) HQ.out).trans HCc.out
                 clear hb12))
          go_wp2
          go_roundw
          case rel => exact ⟨j + 1, by omega, by go_num, HD12⟩
          case measure => simp [intOf]; omega
        · have j1 : ¬ (j : Int) < (t.length : Int) := by omega
          go_wp2
          go_ret
          exact ⟨rfl, HB10.out.trans (hb.out.mono HB10.out.size)⟩
end St
end Go.Proofs.YtjmblgahoejoiaaGreatDoor
