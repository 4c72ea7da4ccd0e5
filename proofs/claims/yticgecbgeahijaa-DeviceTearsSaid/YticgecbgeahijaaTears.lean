/-
  A write touches no other sector, a torn one has of each byte the old one or the new one, behind that nothing changes until a restart: the law's call.
-/
import Derived.Test.YticgecbgeahijaaDawake
import Derived.WalkKit
import Derived.BigCall
import Derived.Laws.Unary
import Derived.Laws.BitsAllLaws
import Derived.Deep.QuietTactic
import Derived.BigQuiet
namespace Go.Proofs.Yticgecbgeahijaa
open Go.RowKit Tx
namespace Dv

section
variable {Dev : World → (Nat → Prop) → Value → Disk → Prop} {n : Nat} {w0 w : World} {d : Value} {D E : Disk} {B : Nat → Prop}
theorem One.write (h : One Dev n w0 w d D B) (M : Means Dev) (k : Int) (s : ByteArray) (h0 : -9223372036854775808 ≤ k) (h1 : k ≤ 9223372036854775807) (hs : s.size ≤ 1000000) {x : Int} (hE : D.write k (toL s) = (x, E)) :
    Calls Try.prog 11 #[d, .int .i64 k, .string s] w fun e w' => ∃ B', e = .returned (.int .i64 x) ∧ One Dev n w0 w' d E B' := (M.write h.dev k s h0 h1 hs).mono (by
  rintro e w' ⟨B', rfl, hd, ho, hB⟩
  rw [hE] at hd ⊢
  exact ⟨B', rfl, h.byDev hd ho hB⟩)
theorem One.read (h : One Dev n w0 w d D B) (M : Means Dev) (k : Int) (h0 : -9223372036854775808 ≤ k) (h1 : k ≤ 9223372036854775807) {l : List UInt8} {x : Int} (hE : D.read k = (l, x)) :
    Calls Try.prog 12 #[d, .int .i64 k] w fun e w' => ∃ t : ByteArray, e = .returned (.tuple #[.string t, .int .i64 x]) ∧ Kept (t = bs l) ∧ One Dev n w0 w' d D B := (M.read h.dev k h0 h1).mono (by
  rintro e w' ⟨t, rfl, ht, hb⟩
  rw [hE] at ht ⊢
  exact ⟨t, rfl, ht, h.byBelow M hb⟩)
theorem One.limit (h : One Dev n w0 w d D B) (M : Means Dev) (k : Int) (m : Nat) (h0 : -9223372036854775808 ≤ k) (h1 : k ≤ 9223372036854775807) (hm : m < 18446744073709551616) :
    Calls Try.prog 13 #[d, .int .i64 k, .int .u64 m] w fun e w' => ∃ B', e = .returned (.tuple #[]) ∧ One Dev n w0 w' d (D.limit k m) B' := (M.limit h.dev k m h0 h1 hm).mono (by
  rintro e w' ⟨B', rfl, hd, ho, hB⟩
  exact ⟨B', rfl, h.byDev hd ho hB⟩)
theorem One.restart (h : One Dev n w0 w d D B) (M : Means Dev) :
    Calls Try.prog 14 #[d] w fun e w' => ∃ B', e = .returned (.tuple #[]) ∧ One Dev n w0 w' d D.restart B' := (M.restart h.dev).mono (by
  rintro e w' ⟨B', rfl, hd, ho, hB⟩
  exact ⟨B', rfl, h.byDev hd ho hB⟩)
end

/-! ### The story, as plain data -/
/-- The first i of three sectors hold o. -/
def filled (o : List UInt8) (i : Nat) : Disk := ⟨List.replicate i o ++ List.replicate (3 - i) blank, -1, 0⟩
theorem filled_zero (o : List UInt8) : filled o 0 = fresh 3 := rfl
theorem filled_write (s : List UInt8) (hs : s.length ≤ 64) (i : Nat) (hi : i < 3) : (filled (pad s) i).write i s = (0, filled (pad s) (i + 1)) := by
  rw [Disk.write_on ⟨⟨by omega, by simp [filled]; omega⟩, hs⟩ (by simp [filled])]
  rcases (show i = 0 ∨ i = 1 ∨ i = 2 by omega) with rfl | rfl | rfl <;> rfl
/-- Three sectors with o, but for the j-th, which holds x. -/
def three (o x : List UInt8) (j : Nat) (p : Int) (m : Nat) : Disk := ⟨(List.replicate 3 o).set j x, p, m⟩
theorem three_start (o : List UInt8) (j : Nat) (hj : j < 3) : filled o 3 = three o o j (-1) 0 := by
  rcases (show j = 0 ∨ j = 1 ∨ j = 2 by omega) with rfl | rfl | rfl <;> rfl
theorem three_has (o x : List UInt8) (j : Nat) (p : Int) (m : Nat) (i : Nat) (hi : i < 3) : (three o x j p m).has i := ⟨by omega, by simp [three]; omega⟩
theorem three_at (o x : List UInt8) (j : Nat) (p : Int) (m : Nat) (hj : j < 3) : (three o x j p m).at j = x := by
  unfold Disk.at three
  simp [hj]
theorem three_other (o x : List UInt8) (j : Nat) (p : Int) (m : Nat) (i : Nat) (hi : i < 3) (hne : i ≠ j) : (three o x j p m).at i = o := by
  unfold Disk.at three
  simp only [Int.toNat_natCast, List.getD_eq_getElem?_getD]
  rw [List.getElem?_set_ne (by omega), List.getElem?_replicate, if_pos hi]
  rfl
theorem three_read (o x : List UInt8) (j : Nat) (p : Int) (m : Nat) (i : Nat) (hi : i < 3) : (three o x j p m).read i = ((three o x j p m).at i, 0) := by
  unfold Disk.read
  rw [if_pos (three_has o x j p m i hi)]
theorem three_put (o x y : List UInt8) (j : Nat) (p : Int) (m : Nat) : (three o x j p m).put j y = (List.replicate 3 o).set j y := by
  unfold Disk.put three
  simp
theorem three_limit (o x : List UInt8) (j m : Nat) : (three o x j (-1) 0).limit 0 m = three o x j 0 m := rfl
theorem three_restart (o x : List UInt8) (j : Nat) (p : Int) (m : Nat) : (three o x j p m).restart = three o x j (-1) 0 := rfl
theorem three_torn (o x s : List UInt8) (j m : Nat) (hj : j < 3) (hs : s.length ≤ 64) : (three o x j 0 m).write j s = (13, three o (torn m (pad s) x) j 0 0) := by
  rw [Disk.write_dead ⟨three_has o x j 0 m j hj, hs⟩ rfl, three_put, three_at _ _ _ _ _ hj]
  rfl
theorem three_on (o x s : List UInt8) (j : Nat) (hj : j < 3) (hs : s.length ≤ 64) : (three o x j (-1) 0).write j s = (0, three o (pad s) j (-1) 0) := by
  rw [Disk.write_on ⟨three_has o x j (-1) 0 j hj, hs⟩ (by simp [three]), three_put]
  rfl

set_option maxHeartbeats 2000000 in
set_option maxRecDepth 100000 in
theorem tears_any {Dev : World → (Nat → Prop) → Value → Disk → Prop} (M : Means Dev) (w : World) (old now last : ByteArray) (m kk : Nat) (hm : m < 18446744073709551616) (hk : kk < 256) (z1 : old.size ≤ 9223372036854775807) (z2 : now.size ≤ 9223372036854775807) (z3 : last.size ≤ 9223372036854775807) :
    Calls Try.prog 5 #[.string old, .string now, .string last, .int .u64 m, .int .u8 kk] w fun e w' => e = .returned (.bool true) ∧ Below w.heap.size w w' := by
  have MM := Kept.mk M
  clear M
  have hpd := eqD
  by_cases h1 : old.size ≤ 64
  · by_cases h2 : now.size ≤ 64
    · by_cases h3 : last.size ≤ 64
      · have y1 : ¬ (64 : Int) < old.size := by omega
        have y2 : ¬ (64 : Int) < now.size := by omega
        have y3 : ¬ (64 : Int) < last.size := by omega
        go_enter Try.func5, Try.ntmps5
        go_wp2_with (first
          | (go_at_call 8
             refine (awake_any MM.out w).mono ?_
             rintro e w1 ⟨rfl, hb⟩
             have H1 := Kept.mk hb
             clear hb)
          | (go_at_call 6
             refine (MM.out.newOk 3 w1 (by omega) (by omega)).mono ?_
             rintro e w2 ⟨B, p, rfl, hd, hB, hb⟩
             obtain ⟨a, rfl⟩ := MM.out.ptr hd
             have H2 : Kept (One Dev w.heap.size w w2 (.pointer (some a)) (fresh 3) B) := ⟨⟨hd, fun k hk => Nat.le_trans H1.out.size (hB k hk), H1.out.trans (hb.mono H1.out.size), Nat.le_trans H1.out.size hb.size⟩⟩
             clear hd hB hb))
        obtain ⟨j, hj⟩ : ∃ j : Nat, kk % 3 = j := ⟨_, rfl⟩
        have hkj : (kk : Int) % 3 = (j : Int) := by omega
        have hj3 : j < 3 := by omega
        have L1 : Kept ((toL old).length ≤ 64) := ⟨by rw [toL_length]; exact h1⟩
        have L2 : Kept ((toL now).length ≤ 64) := ⟨by rw [toL_length]; exact h2⟩
        have L3 : Kept ((toL last).length ≤ 64) := ⟨by rw [toL_length]; exact h3⟩
        clear hj
        simp only [hkj]
        go_loopw [15] (fun x wr => ∃ i : Nat, i ≤ 3 ∧ x = .int .i64 i ∧ Kept (∃ B, One Dev w.heap.size w wr (.pointer (some a)) (filled (pad (toL old)) i) B)) (fun x _ => 3 - (intOf x).toNat)
        case atStart => exact ⟨0, by omega, rfl, ⟨⟨_, H2.out⟩⟩⟩
        case round =>
          obtain ⟨i, hi, rfl, HI⟩ := hrel
          obtain ⟨BI, hI⟩ := HI.out
          have HI2 := Kept.mk hI
          clear hI
          by_cases hlt : i < 3
          · go_wp2_with (go_at_call 11
                         refine (HI2.out.write MM.out i old (by omega) (by omega) (by omega) (filled_write (toL old) L1.out i hlt)).mono ?_
                         rintro e w3 ⟨B3, rfl, h⟩
                         have H3 := Kept.mk (Exists.intro B3 h)
                         clear h)
            go_roundw
            case rel => exact ⟨i + 1, by omega, by go_num, H3⟩
            case measure => simp [intOf]; omega
          · have hi3 : i = 3 := by omega
            subst hi3
            have H3 : Kept (One Dev w.heap.size w wr (.pointer (some a)) (three (pad (toL old)) (pad (toL old)) j (-1) 0) BI) := ⟨by rw [← three_start _ _ hj3]; exact HI2.out⟩
            have T1 : Kept True := ⟨trivial⟩
            have T2 : Kept True := ⟨trivial⟩
            have R1 : Kept True := ⟨trivial⟩
            have R2 : Kept True := ⟨trivial⟩
            have R3 : Kept True := ⟨trivial⟩
            go_wp2_with (first
              | (have := R1
                 go_at_call 12
                 clear R1
                 refine (H3.out.read MM.out j (by omega) (by omega) (three_read _ _ _ _ _ j hj3)).mono ?_
                 rintro e w4 ⟨was, rfl, hwas, h⟩
                 have H4 := Kept.mk h
                 clear h)
              | (go_at_call 13
                 refine (H4.out.limit MM.out 0 m (by decide) (by decide) hm).mono ?_
                 rintro e w5 ⟨B5, rfl, h⟩
                 rw [three_limit] at h
                 have H5 := Kept.mk h
                 clear h)
              | (have := T1
                 go_at_call 11
                 clear T1
                 refine (H5.out.write MM.out j now (by omega) (by omega) (by omega) (three_torn _ _ (toL now) j m hj3 L2.out)).mono ?_
                 rintro e w6 ⟨B6, rfl, h⟩
                 have H6 := Kept.mk h
                 clear h)
              | (have := R2
                 go_at_call 12
                 clear R2
                 refine (H6.out.read MM.out j (by omega) (by omega) (three_read _ _ _ _ _ j hj3)).mono ?_
                 rintro e w7 ⟨tor, rfl, htor, h⟩
                 have H7 := Kept.mk h
                 clear h)
              | (have := T2
                 go_at_call 11
                 clear T2
                 refine (H7.out.write MM.out j last (by omega) (by omega) (by omega) (three_torn _ _ (toL last) j 0 hj3 L3.out)).mono ?_
                 rintro e w8 ⟨B8, rfl, h⟩
                 rw [torn_none _ _ (torn_length _ _ _)] at h
                 have H8 := Kept.mk h
                 clear h)
              | (have := R3
                 go_at_call 12
                 clear R3
                 refine (H8.out.read MM.out j (by omega) (by omega) (three_read _ _ _ _ _ j hj3)).mono ?_
                 rintro e w9 ⟨sti, rfl, hsti, h⟩
                 have H9 := Kept.mk h
                 have hE : (sti.toList == tor.toList) = true := by rw [beq_str, decide_eq_true (hsti.out.trans htor.out.symm)]
                 clear h hsti)
              | (go_at_call 14
                 refine (H9.out.restart MM.out).mono ?_
                 rintro e wA ⟨BA, rfl, h⟩
                 rw [three_restart] at h
                 have HA := Kept.mk h
                 clear h)
              | (go_at_call 11
                 refine (HA.out.write MM.out j now (by omega) (by omega) (by omega) (three_on _ _ (toL now) j hj3 L2.out)).mono ?_
                 rintro e wB ⟨BB, rfl, h⟩
                 have HB := Kept.mk h
                 clear h)
              | (go_at_call 12
                 refine (HB.out.read MM.out j (by omega) (by omega) (three_read _ _ _ _ _ j hj3)).mono ?_
                 rintro e wC ⟨who, rfl, hwho, h⟩
                 have HC := Kept.mk h
                 have htor2 : Kept (toL tor = torn m (pad (toL now)) (pad (toL old))) := ⟨by rw [htor.out, three_at _ _ _ _ _ hj3, toL_bs]⟩
                 have hwas2 : Kept (toL was = pad (toL old)) := ⟨by rw [hwas.out, three_at _ _ _ _ _ hj3, toL_bs]⟩
                 have hwho2 : Kept (toL who = pad (toL now)) := ⟨by rw [hwho.out, three_at _ _ _ _ _ hj3, toL_bs]⟩
                 have s1 : tor.size = 64 := by rw [← toL_length, htor2.out, torn_length]
                 have s2 : was.size = 64 := by rw [← toL_length, hwas2.out, pad_length _ L1.out]
                 have s3 : who.size = 64 := by rw [← toL_length, hwho2.out, pad_length _ L2.out]
                 have s4 : (tor.size : Int) = 64 := by omega
                 have s5 : (was.size : Int) = 64 := by omega
                 have s6 : (who.size : Int) = 64 := by omega
                 clear h hwho htor hwas))
            have HH : Kept (∃ B, One Dev w.heap.size w wC (.pointer (some a)) (three (pad (toL old)) (pad (toL now)) j (-1) 0) B) := ⟨⟨_, HC.out⟩⟩
            clear hE
            go_loopw [27] (fun x wr => ∃ q : Nat, q ≤ 64 ∧ x = .int .i64 q ∧ Kept (∃ B, One Dev w.heap.size w wr (.pointer (some a)) (three (pad (toL old)) (pad (toL now)) j (-1) 0) B)) (fun x _ => 64 - (intOf x).toNat)
            case atStart => exact ⟨0, by omega, rfl, HH⟩
            case round =>
              obtain ⟨q, hq, rfl, HQ⟩ := hrel
              by_cases hq4 : q < 64
              · have hbit := mask_bit m q hm
                have v0 : (0 : Int) ≤ q := by omega
                have v1 : (q : Int) < 64 := by omega
                have v2 : (q : Int) ≤ 64 := by omega
                have i1 : q < tor.size := by omega
                have i2 : q < was.size := by omega
                have i3 : q < who.size := by omega
                have hat := torn_at m (pad (toL now)) (pad (toL old)) q hq4
                rw [← htor2.out, ← hwas2.out, ← hwho2.out, getD_at tor q i1, getD_at was q i2, getD_at who q i3] at hat
                by_cases hb : m / 2 ^ q % 2 = 1
                · rw [if_pos hb] at hat
                  rw [hb] at hbit
                  have hv : ((tor[q]'i1).toNat : Int) = ((who[q]'i3).toNat : Int) := by rw [hat]
                  clear hat hb
                  go_wp2_with fail
                  go_quiet (fail)
                  have HQ2 : Kept (∃ B, One Dev w.heap.size w (wr.drewN nq) (.pointer (some a)) (three (pad (toL old)) (pad (toL now)) j (-1) 0) B) := ⟨HQ.out.elim fun B h => ⟨B, h.byBelow MM.out (below_drewN (Below.refl _ _) nq)⟩⟩
                  go_wp2_with fail
                  go_roundw
                  case rel => exact ⟨q + 1, by omega, by go_num, HQ2⟩
                  case measure => simp [intOf]; omega
                · have hb0 : m / 2 ^ q % 2 = 0 := by omega
                  rw [if_neg hb] at hat
                  rw [hb0] at hbit
                  have hv : ((tor[q]'i1).toNat : Int) = ((was[q]'i2).toNat : Int) := by rw [hat]
                  clear hat hb hb0
                  go_wp2_with fail
                  go_quiet (fail)
                  have HQ2 : Kept (∃ B, One Dev w.heap.size w (wr.drewN nq) (.pointer (some a)) (three (pad (toL old)) (pad (toL now)) j (-1) 0) B) := ⟨HQ.out.elim fun B h => ⟨B, h.byBelow MM.out (below_drewN (Below.refl _ _) nq)⟩⟩
                  go_wp2_with fail
                  go_roundw
                  case rel => exact ⟨q + 1, by omega, by go_num, HQ2⟩
                  case measure => simp [intOf]; omega
              · go_wp2_with fail
                go_loopw [28] (fun x wr => ∃ i : Nat, i ≤ 3 ∧ x = .int .i64 i ∧ Kept (∃ B, One Dev w.heap.size w wr (.pointer (some a)) (three (pad (toL old)) (pad (toL now)) j (-1) 0) B)) (fun x _ => 3 - (intOf x).toNat)
                case atStart => exact ⟨0, by omega, rfl, HQ⟩
                case round =>
                  obtain ⟨i, hi, rfl, HI⟩ := hrel
                  by_cases hlt : i < 3
                  · obtain ⟨BI, hI⟩ := HI.out
                    have HI2 := Kept.mk hI
                    clear hI
                    by_cases hij : i = j
                    · subst hij
                      go_wp2_with (go_at_call 12
                                   refine (HI2.out.read MM.out i (by omega) (by omega) (three_read _ _ _ _ _ i hlt)).mono ?_
                                   rintro e wD ⟨s, rfl, hs, h⟩
                                   have HD := Kept.mk (Exists.intro BI h)
                                   clear h)
                      go_roundw
                      case rel => exact ⟨i + 1, by omega, by go_num, HD⟩
                      case measure => simp [intOf]; omega
                    · have hne : ((i : Int) == j) = false := beq_eq_false_iff_ne.2 (fun e => hij (by omega))
                      go_wp2_with (go_at_call 12
                                   refine (HI2.out.read MM.out i (by omega) (by omega) (three_read _ _ _ _ _ i hlt)).mono ?_
                                   rintro e wD ⟨s, rfl, hs, h⟩
                                   have HD := Kept.mk (Exists.intro BI h)
                                   have hE : (s.toList == was.toList) = true := by
                                     rw [beq_str, decide_eq_true]
                                     apply toL_inj
                                     rw [hs.out, toL_bs, three_other _ _ _ _ _ i hlt hij, hwas2.out]
                                   clear h)
                      go_roundw
                      case rel => exact ⟨i + 1, by omega, by go_num, HD⟩
                      case measure => simp [intOf]; omega
                  · go_wp2_with fail
                    go_ret
                    exact ⟨rfl, HI.out.elim fun B h => h.below⟩
      · have y1 : ¬ (64 : Int) < old.size := by omega
        have y2 : ¬ (64 : Int) < now.size := by omega
        have y3 : (64 : Int) < last.size := by omega
        go_enter Try.func5, Try.ntmps5
        go_wp2_with (first
          | (go_at_call 8
             refine (awake_any MM.out w).mono ?_
             rintro e w1 ⟨rfl, hb⟩
             have H1 := Kept.mk hb
             clear hb)
          | (go_at_call 6
             refine (MM.out.newOk 3 w1 (by omega) (by omega)).mono ?_
             rintro e w2 ⟨B, p, rfl, hd, hB, hb⟩
             obtain ⟨a, rfl⟩ := MM.out.ptr hd
             have H2 : Kept (Below w.heap.size w w2) := ⟨H1.out.trans (hb.mono H1.out.size)⟩
             clear hd hB hb))
        go_ret
        exact ⟨rfl, H2.out⟩
    · have y1 : ¬ (64 : Int) < old.size := by omega
      have y2 : (64 : Int) < now.size := by omega
      go_enter Try.func5, Try.ntmps5
      go_wp2_with (first
        | (go_at_call 8
           refine (awake_any MM.out w).mono ?_
           rintro e w1 ⟨rfl, hb⟩
           have H1 := Kept.mk hb
           clear hb)
        | (go_at_call 6
           refine (MM.out.newOk 3 w1 (by omega) (by omega)).mono ?_
           rintro e w2 ⟨B, p, rfl, hd, hB, hb⟩
           obtain ⟨a, rfl⟩ := MM.out.ptr hd
           have H2 : Kept (Below w.heap.size w w2) := ⟨H1.out.trans (hb.mono H1.out.size)⟩
           clear hd hB hb))
      go_ret
      exact ⟨rfl, H2.out⟩
  · have y1 : (64 : Int) < old.size := by omega
    go_enter Try.func5, Try.ntmps5
    go_wp2_with (first
      | (go_at_call 8
         refine (awake_any MM.out w).mono ?_
         rintro e w1 ⟨rfl, hb⟩
         have H1 := Kept.mk hb
         clear hb)
      | (go_at_call 6
         refine (MM.out.newOk 3 w1 (by omega) (by omega)).mono ?_
         rintro e w2 ⟨B, p, rfl, hd, hB, hb⟩
         obtain ⟨a, rfl⟩ := MM.out.ptr hd
         have H2 : Kept (Below w.heap.size w w2) := ⟨H1.out.trans (hb.mono H1.out.size)⟩
         clear hd hB hb))
    go_ret
    exact ⟨rfl, H2.out⟩
end Dv
end Go.Proofs.Yticgecbgeahijaa
