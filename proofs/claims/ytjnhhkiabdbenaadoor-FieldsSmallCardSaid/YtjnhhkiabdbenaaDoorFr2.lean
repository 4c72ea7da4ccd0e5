/-
  The document's state: a text is split.
-/
import Derived.Test.YtjnhhkiabdbenaaDoorFr1
import Derived.Test.YtjnhhkiabdbenaaDoorFp4
import Derived.Deep.QuietTactic
import Derived.StillTailTactics
namespace Go.Proofs.YtjnhhkiabdbenaaDoor
open Go.RowKit Tx
namespace Fd
open Pm (one_cut toL_one take_on toL_app)

/-- The state is as x says. -/
def DX (B b : Nat) (x : St) (w : World) : Prop := ∃ u, DM B b u x.out x.cur x.has x.gap w
theorem DX.below {B b : Nat} {x : St} {w w' : World} (h : DX B b x w) (hb : Below w.heap.size w w') : DX B b x w' := by
  obtain ⟨u, h1⟩ := h
  exact ⟨u, h1.below hb⟩
set_option maxHeartbeats 4000000 in
set_option maxRecDepth 100000 in
theorem refSplit_any (B b : Nat) (s ifs : ByteArray) (x : St) (w : World) (hx : DX B b x w) (hs : s.size ≤ 2000) (hi : ifs.size ≤ 2000) (hl : x.size ≤ 40000) :
    Calls Tryd.prog 20 #[.pointer (some ⟨b, 0, none⟩), .string s, .string ifs] w fun e w' => e = .returned (.tuple #[]) ∧ Kept (DX B b (bytes (toL ifs) x (toL s)) w') ∧ Kept (Below B w w') := by
  have H := Kept.mk hx
  have HL := Kept.mk hl
  have HS := Kept.mk hs
  have HI : Kept (ifs.size ≤ 100000) := ⟨by omega⟩
  clear hx hl hs hi
  go_enter Tryd.func20, Tryd.ntmps20
  go_wp2_with fail
  go_loopw [6] (fun i wr => ∃ j : Nat, j ≤ s.size ∧ i = .int .i64 (j : Int) ∧ Kept (DX B b (bytes (toL ifs) x ((toL s).take j)) wr) ∧ Kept (Below B w wr)) (fun i _ => s.size - (intOf i).toNat)
  case atStart => exact ⟨0, by omega, rfl, H, ⟨Below.refl _ _⟩⟩
  case round =>
    clear H
    obtain ⟨j, hj, rfl, HM, HB⟩ := hrel
    by_cases hlt : j < s.size
    · have hl2 : (j : Int) < (s.size : Int) := by omega
      have hj1 : (j : Int) + 1 ≤ (s.size : Int) := by omega
      have hj0 : (0 : Int) ≤ (j : Int) := by omega
      have hj5 : (j : Int) ≤ 2000 := by have := HS.out; omega
      obtain ⟨Y, hY⟩ : ∃ Y, Y = s.extract j (j + 1) := ⟨_, rfl⟩
      have hsl : ∀ W : World, (Instr.slice 9 (.string s) (some (.int .i64 (j : Int))) (some (.int .i64 ((j : Int) + 1))) none).run Tryd.prog W = .ok (.string Y) W := fun W => by rw [hY]; exact one_cut hlt W
      have HY : Kept (toL Y = [s[j]'hlt] ∧ Y.size = 1) := ⟨by rw [hY]; exact ⟨toL_one hlt, by rw [ByteArray.size_extract]; omega⟩⟩
      have HN : Kept (byte (toL ifs) (bytes (toL ifs) x ((toL s).take j)) (s[j]'hlt) = bytes (toL ifs) x ((toL s).take (j + 1))) := ⟨by rw [bytes_take _ x (toL s) j (by rw [toL_length]; exact hlt)]; rfl⟩
      have HSz : Kept ((bytes (toL ifs) x ((toL s).take j)).size ≤ 45000) := ⟨by have := size_bytes (toL ifs) ((toL s).take j) x; rw [List.length_take, toL_length] at this; have := HL.out; have := HS.out; omega⟩
      generalize bytes (toL ifs) x ((toL s).take j) = y at HM HN HSz
      obtain ⟨u, hm⟩ := HM.out
      have hz := blZ (s[j]'hlt)
      have hix : ∀ W : World, (Instr.index 9 (.string s) (.int .i64 (j : Int))).run Tryd.prog W = .ok (.int .u8 ((s[j]'hlt).toNat : Int)) W := fun W => by
        rw [Go.run_index_string W 9 s .i64 _ Tryd.underlying9, dif_pos ⟨by omega, by omega⟩]
        simp only [Int.toNat_natCast]
      have HIn := Kept.mk (in_any (s[j]'hlt) ifs)
      have HBy : Kept (byte (toL ifs) y (s[j]'hlt) = if (toL ifs).contains (s[j]'hlt) then
          if blank (s[j]'hlt) then (if y.has then ⟨y.out ++ [y.cur], [], false, true⟩ else y)
          else if y.has || !y.gap then ⟨y.out ++ [y.cur], [], false, false⟩ else ⟨y.out, y.cur, y.has, false⟩
        else ⟨y.out, y.cur ++ dbl [s[j]'hlt], true, false⟩) := ⟨rfl⟩
      generalize (toL ifs).contains (s[j]'hlt) = t at HIn HBy
      generalize blank (s[j]'hlt) = bk at hz HBy
      obtain ⟨zz, hzz⟩ : ∃ zz : Int, zz = ((s[j]'hlt).toNat : Int) := ⟨_, rfl⟩
      rw [← hzz] at hix hz HIn
      clear hY hzz
      cases t with
      | false =>
        have HR : Kept (bytes (toL ifs) x ((toL s).take (j + 1)) = ⟨y.out, y.cur ++ dbl [s[j]'hlt], true, false⟩) := ⟨HN.out.symm.trans HBy.out⟩
        have HA := Kept.mk (fun W : World => active_any Y W (by have := HY.out.2; omega))
        rw [HY.out.1] at HA
        obtain ⟨z, hz9⟩ : ∃ z, z = bs (dbl [s[j]'hlt]) := ⟨_, rfl⟩
        rw [← hz9] at HA
        have HZ : Kept (toL z = dbl [s[j]'hlt] ∧ z.size ≤ 2) := ⟨by rw [hz9, toL_bs, bs_size]; exact ⟨rfl, (dbl_one_length _).1⟩⟩
        obtain ⟨cu, hcu⟩ : ∃ cu, cu = bs y.cur := ⟨_, rfl⟩
        have HAll := Kept.mk (hm.drew.all (y.cur ++ dbl [s[j]'hlt]) true false)
        have HCu : Kept (bs (y.cur ++ dbl [s[j]'hlt]) = cu ++ z) := ⟨by rw [hcu, hz9, bs_append]⟩
        rw [HCu.out] at HAll
        have hsum : ¬ 9223372036854775807 < cu.size + z.size := by have := HSz.out; have := HZ.out.2; unfold St.size at *; rw [hcu, bs_size]; omega
        have c1 := hm.c1
        have c1d := hm.drew.c1
        rw [← hcu] at c1 c1d
        have c2 := hm.c2
        have c3 := hm.c3
        have f1 := hm.fz 1
        have f2 := hm.fz 2
        have f3 := hm.fz 3
        have c2d := hm.drew.c2
        have c3d := hm.drew.c3
        have f1d := hm.drew.fz 1
        have f2d := hm.drew.fz 2
        have f3d := hm.drew.fz 3
        have hw1 : IntKind.i64.wrap ((j : Int) + 1) = (j : Int) + 1 := IntWalk.i64_in _ (by omega)
        clear hm hcu hz9 hz
        go_wp2_with fail
        go_at_call 30
        refine (HIn.out _ HI.out).mono ?_
        rintro e w2 ⟨rfl, rfl⟩
        go_wp2_with fail
        go_at_call 30
        refine (HIn.out _ HI.out).mono ?_
        rintro e w2 ⟨rfl, rfl⟩
        go_wp2_with fail
        go_region_law (first | (go_simp; go_at_call 18; refine (HA.out _).mono ?_; rintro e w5 ⟨rfl, rfl⟩) | go_simp)
        all_goals
          go_wp2_with fail
          go_roundw
          case rel => exact ⟨j + 1, by omega, by go_num, ⟨by rw [HR.out]; exact ⟨u, HAll.out.1⟩⟩, ⟨HB.out.drew.trans HAll.out.2⟩⟩
          case measure => simp [intOf]; omega
      | true =>
        have hm2 := hm
        have c2 := hm2.c2
        have c3 := hm2.c3
        have f3 := hm2.fz 3
        cases hh : y.has with
        | false =>
          rw [hh] at c2 hm2
          rcases hz with ⟨rfl, hz⟩ | ⟨rfl, n1, n2, n3⟩
          · have HR : Kept (bytes (toL ifs) x ((toL s).take (j + 1)) = y) := ⟨HN.out.symm.trans (HBy.out.trans (by rw [if_pos rfl, if_pos rfl, hh, if_neg (by decide)]))⟩
            clear hm hm2 hh
            rcases hz with rfl | rfl | rfl
            all_goals
              go_wp2_with fail
              go_at_call 30
              refine (HIn.out _ HI.out).mono ?_
              rintro e w2 ⟨rfl, rfl⟩
              go_wp2_with fail
              go_roundw
              case rel => exact ⟨j + 1, by omega, by go_num, ⟨by rw [HR.out]; exact HM.out⟩, HB⟩
              case measure => simp [intOf]; omega
          · have HLo : Kept (y.out.length ≤ 100000) := ⟨by have := HSz.out; unfold St.size at this; omega⟩
            have n4 : (zz == 10) = false := beq_eq_false_iff_ne.2 n3
            have HD := Kept.mk hm2
            cases hg : y.gap with
            | false =>
              have HR : Kept (bytes (toL ifs) x ((toL s).take (j + 1)) = ⟨y.out ++ [y.cur], [], false, false⟩) := ⟨HN.out.symm.trans (HBy.out.trans (by rw [if_pos rfl, if_neg (by decide), hh, hg, if_pos (by rfl)]))⟩
              rw [hg] at c3
              clear hm hm2 hh hg
              go_wp2_with fail
              go_at_call 30
              refine (HIn.out _ HI.out).mono ?_
              rintro e w2 ⟨rfl, rfl⟩
              go_wp2_with fail
              go_at_call 30
              refine (HIn.out _ HI.out).mono ?_
              rintro e w2 ⟨rfl, rfl⟩
              go_wp2_with fail
              go_at_call 21
              refine (refEnd_any B b u y.out y.cur _ _ wr HD.out HLo.out).mono ?_
              rintro e w3 ⟨rfl, u2, ⟨h3⟩, ⟨hb3⟩⟩
              have HE := Kept.mk (h3.set3 false)
              have HB3 := Kept.mk (HB.out.trans hb3)
              have d3 := h3.c3
              have g3 := h3.fz 3
              clear h3 hb3
              go_wp2_with fail
              go_roundw
              case rel => exact ⟨j + 1, by omega, by go_num, ⟨by rw [HR.out]; exact ⟨u2, HE.out.1⟩⟩, ⟨HB3.out.trans HE.out.2⟩⟩
              case measure => simp [intOf]; omega
            | true =>
              have HR : Kept (bytes (toL ifs) x ((toL s).take (j + 1)) = ⟨y.out, y.cur, y.has, false⟩) := ⟨HN.out.symm.trans (HBy.out.trans (by rw [if_pos rfl, if_neg (by decide), hh, hg, if_neg (by decide)]))⟩
              rw [hg] at c3
              have HE := Kept.mk (hm.set3 false)
              clear hm hm2 hh hg
              go_wp2_with fail
              go_at_call 30
              refine (HIn.out _ HI.out).mono ?_
              rintro e w2 ⟨rfl, rfl⟩
              go_wp2_with fail
              go_at_call 30
              refine (HIn.out _ HI.out).mono ?_
              rintro e w2 ⟨rfl, rfl⟩
              go_wp2_with fail
              go_roundw
              case rel => exact ⟨j + 1, by omega, by go_num, ⟨by rw [HR.out]; exact ⟨u, HE.out.1⟩⟩, ⟨HB.out.trans HE.out.2⟩⟩
              case measure => simp [intOf]; omega
        | true =>
          rw [hh] at c2
          have HLo : Kept (y.out.length ≤ 100000) := ⟨by have := HSz.out; unfold St.size at this; omega⟩
          have HD := Kept.mk hm2
          rcases hz with ⟨rfl, hz⟩ | ⟨rfl, n1, n2, n3⟩
          · have HR : Kept (bytes (toL ifs) x ((toL s).take (j + 1)) = ⟨y.out ++ [y.cur], [], false, true⟩) := ⟨HN.out.symm.trans (HBy.out.trans (by rw [if_pos rfl, if_pos rfl, hh, if_pos rfl]))⟩
            clear hm hm2 hh
            rcases hz with rfl | rfl | rfl
            all_goals
              go_wp2_with fail
              go_at_call 30
              refine (HIn.out _ HI.out).mono ?_
              rintro e w2 ⟨rfl, rfl⟩
              go_wp2_with fail
              go_at_call 21
              refine (refEnd_any B b u y.out y.cur _ _ wr HD.out HLo.out).mono ?_
              rintro e w3 ⟨rfl, u2, ⟨h3⟩, ⟨hb3⟩⟩
              have HE := Kept.mk (h3.set3 true)
              have HB3 := Kept.mk (HB.out.trans hb3)
              have d3 := h3.c3
              have g3 := h3.fz 3
              clear h3 hb3
              go_wp2_with fail
              go_roundw
              case rel => exact ⟨j + 1, by omega, by go_num, ⟨by rw [HR.out]; exact ⟨u2, HE.out.1⟩⟩, ⟨HB3.out.trans HE.out.2⟩⟩
              case measure => simp [intOf]; omega
          · have HR : Kept (bytes (toL ifs) x ((toL s).take (j + 1)) = ⟨y.out ++ [y.cur], [], false, false⟩) := ⟨HN.out.symm.trans (HBy.out.trans (by rw [if_pos rfl, if_neg (by decide), hh, if_pos (by rfl)]))⟩
            have n4 : (zz == 10) = false := beq_eq_false_iff_ne.2 n3
            clear hm hm2 hh
            go_wp2_with fail
            go_at_call 30
            refine (HIn.out _ HI.out).mono ?_
            rintro e w2 ⟨rfl, rfl⟩
            go_wp2_with fail
            go_at_call 30
            refine (HIn.out _ HI.out).mono ?_
            rintro e w2 ⟨rfl, rfl⟩
            go_wp2_with fail
            go_at_call 21
            refine (refEnd_any B b u y.out y.cur _ _ wr HD.out HLo.out).mono ?_
            rintro e w3 ⟨rfl, u2, ⟨h3⟩, ⟨hb3⟩⟩
            have HE := Kept.mk (h3.set3 false)
            have HB3 := Kept.mk (HB.out.trans hb3)
            have d3 := h3.c3
            have g3 := h3.fz 3
            clear h3 hb3
            go_wp2_with fail
            go_roundw
            case rel => exact ⟨j + 1, by omega, by go_num, ⟨by rw [HR.out]; exact ⟨u2, HE.out.1⟩⟩, ⟨HB3.out.trans HE.out.2⟩⟩
            case measure => simp [intOf]; omega
    · obtain rfl : j = s.size := by omega
      have HT : Kept (DX B b (bytes (toL ifs) x (toL s)) wr) := ⟨by
        have := HM.out
        rwa [List.take_of_length_le (by rw [toL_length]; exact Nat.le_refl _)] at this⟩
      clear HM hlt
      go_wp2_with fail
      go_end0
      exact ⟨rfl, HT, HB⟩
end Fd
end Go.Proofs.YtjnhhkiabdbenaaDoor
