/-
  The document's journal: Append.
-/
import Derived.Test.YtmkpkmkhnphogaaGreatDoorGjr
import Derived.Test.YtmkpkmkhnphogaaGreatDoorGcm
import Derived.Deep.QuietTactic
import Derived.BigQuiet
import Derived.Deep.DeepCutAuto
import Derived.Deep.CutBlock
namespace Go.Proofs.YtmkpkmkhnphogaaGreatDoor
open Go.RowKit Tx Dv
namespace Jn
theorem wr_one (D : Disk) (k : Nat) (t : List UInt8) : wr D [(k, t)] = D.write k t := by
  rw [wr]
  split
  · rename_i h
    rw [wr]
    exact Prod.ext h.symm rfl
  · rfl
theorem wr_snoc {D : Disk} {l : List (Nat × List UInt8)} (k : Nat) (t : List UInt8) (h : (wr D l).1 = 0) : wr D (l ++ [(k, t)]) = (wr D l).2.write k t := by
  rw [wr_append, if_pos h, wr_one]
theorem wr_skip {D : Disk} {l : List (Nat × List UInt8)} (m : List (Nat × List UInt8)) (h : (wr D l).1 ≠ 0) : wr D (l ++ m) = wr D l := by
  rw [wr_append, if_neg h]
end Jn
namespace Jr

theorem body_next {a j : Nat} {s : List UInt8} (hj : j < Jn.count s.length) : (Jn.body a s).take (j + 1) = (Jn.body a s).take j ++ [(a + 1 + j, Jn.piece s j)] := by
  unfold Jn.body
  rw [List.take_succ_eq_append_getElem (by rw [List.length_map, List.length_range]; exact hj)]
  congr 1
  rw [List.getElem_map, List.getElem_range]
/-- The text of a sector, cut out. -/
theorem piece_slice (s : ByteArray) (j : Nat) (h : j * 64 ≤ s.size) : ∃ u : ByteArray, toL u = Jn.piece (toL s) j ∧
    ∀ W : World, (Instr.slice 9 (.string s) (some (.int .i64 ((j : Int) * 64))) (some (.int .i64 (min (s.size : Int) (((j : Int) + 1) * 64)))) none).run Tryz.prog W = .ok (.string u) W := by
  have hd : ((toL s).drop (j * 64)).length = s.size - j * 64 := by rw [List.length_drop, toL_length]
  refine ⟨s.extract (j * 64) (min s.size ((j + 1) * 64)), ?_, fun W => ?_⟩
  · rw [toL_extract]
    unfold Jn.piece
    by_cases hm : (j + 1) * 64 ≤ s.size
    · rw [show min s.size ((j + 1) * 64) - j * 64 = 64 by omega]
    · rw [List.take_of_length_le (by omega), List.take_of_length_le (by omega)]
  · rw [run_slice_string W 9 s .i64 .i64 _ _ Tryz.underlying9 (by omega) (by omega) (by omega), show ((j : Int) * 64).toNat = j * 64 by omega, show (min (s.size : Int) (((j : Int) + 1) * 64)).toNat = min s.size ((j + 1) * 64) by omega]
/-- While a record is written. -/
structure AppIn (w w' : World) (B : Nat → Prop) (b g : Nat) (d v : Value) (J : Jn.Jour) (X : Disk) : Prop where
  at' : JAt w' b g d v J
  dev : Ref w' B d X
  apart : ∀ k, B k → ¬ blocks g v k
  only : Only (fun k => B k ∨ blocks g v k) w w'
section
variable {w wr w2 : World} {B : Nat → Prop} {b g : Nat} {d v : Value} {J : Jn.Jour} {X Y : Disk}
theorem AppIn.below (h : AppIn w wr B b g d v J X) (hb : Below wr.heap.size wr w2) : AppIn w w2 B b g d v J X :=
  ⟨h.at'.below hb, Ref.below h.dev hb, h.apart, h.only.below hb⟩
theorem AppIn.again (h : AppIn w wr B b g d v J X) {P : World → Prop} (k : ∀ W, AppIn w W B b g d v J X → P W) : P wr.drew := k _ (h.below ((Below.refl _ _).drew))
theorem AppIn.size (h : AppIn w wr B b g d v J X) {Z : Nat} (hZ : X.S.length = Z) : Calls Tryz.prog 33 #[d] wr.drew fun e w' => e = .returned (.int .i64 Z) ∧ w' = wr.drew := by
  have := (Ref.below h.dev ((Below.refl _ _).drew)).size
  rw [hZ] at this
  exact this
theorem AppIn.wrote (h : AppIn w wr B b g d v J X) (hd : Ref w2 B d Y) (ho : Only B wr w2) : AppIn w w2 B b g d v J Y :=
  ⟨h.at'.keep (ho.block g h.at'.lt (fun k => h.apart g k (.inl rfl))) (fun k hk => ho.block k (h.at'.es.lt k hk).2 (fun e => h.apart k e (.inr hk))) ho.size, hd, h.apart, h.only.trans ho (fun _ _ e => .inl e)⟩
end

/-- What Append leaves. -/
structure AppOut (w w' : World) (B : Nat → Prop) (b g : Nat) (d v v' : Value) (J : Jn.Jour) (X : Disk) : Prop where
  at' : JAt w' b g d v' J
  dev : Ref w' B d X
  apart : ∀ k, B k → ¬ blocks g v' k
  only : Only (fun k => B k ∨ blocks g v k) w w'
  row : ∀ k, v'.ownBlock = some k → v.ownBlock = some k ∨ w.heap.size ≤ k
theorem AppIn.out {w wr : World} {B : Nat → Prop} {b g : Nat} {d v : Value} {J : Jn.Jour} {X : Disk} (h : AppIn w wr B b g d v J X) : AppOut w wr B b g d v v J X := ⟨h.at', h.dev, h.apart, h.only, fun _ hk => .inl hk⟩
theorem AppIn.done {w wr w2 : World} {B : Nat → Prop} {b g n : Nat} {d v v2 : Value} {J : Jn.Jour} {X : Disk} {s : List UInt8} (h : AppIn w wr B b g d v J X) (hj : JAt (w2.setCell ⟨g, 1, none⟩ v2) b g d v2 ⟨J.L ++ [s], J.pos⟩) (hg : wr.grownBy w2 v.ownBlock) (hr : ∀ k, v2.ownBlock = some k → v.ownBlock = some k ∨ wr.heap.size ≤ k) (hn : n ≤ 4096) :
    AppOut w ((w2.setCell ⟨g, 1, none⟩ v2).setCell ⟨g, 2, none⟩ (.int .i64 n)) B b g d v v2 ⟨J.L ++ [s], n⟩ X := by
  have hs : wr.heap.size ≤ ((w2.setCell ⟨g, 1, none⟩ v2).setCell ⟨g, 2, none⟩ (.int .i64 n)).heap.size := by have := hg.size; simp only [World.setCell, Array.size_modify]; omega
  refine ⟨hj.setPos n hn, h.dev.keep (fun k hk => ?_) hs, fun k hk hb => ?_, ?_, fun k hk => ?_⟩
  · have hkg : k ≠ g := fun e => h.apart k hk (.inl e)
    rw [heap_setCell_other _ _ _ _ hkg, heap_setCell_other _ _ _ _ hkg]
    exact hg.block k (h.dev.lt k hk) (fun e => h.apart k hk (.inr e.symm))
  · rcases hb with hb | hb
    · exact h.apart k hk (.inl hb)
    · rcases hr k hb with h1 | h1
      · exact h.apart k hk (.inr h1)
      · have := h.dev.lt k hk
        omega
  · refine Only.setCell (Only.setCell (h.only.grown hg (fun k hk _ => .inr (.inr hk))) _ _ (fun _ => .inr (.inl rfl))) _ _ (fun _ => .inr (.inl rfl))
  · rcases hr k hk with h1 | h1
    · exact .inl h1
    · have := h.only.size
      exact .inr (by omega)

set_option maxHeartbeats 4000000 in
set_option maxRecDepth 100000 in
theorem append_main (w : World) (B : Nat → Prop) (b g : Nat) (A : Option Addr) (m : Nat) (dp : Addr) (D : Disk) (L : List (List UInt8)) (a : Nat) (s : ByteArray) (hA : AppIn w w B b g (.pointer (some dp)) (.slice A L.length m) ⟨L, a⟩ D)
    (hs : s.size ≤ 100000) (n Z : Nat) (hn : Jn.count s.size = n) (hZ : D.S.length = Z) (hr : a + 1 + n ≤ Z) (hla : L.length ≤ a) :
    Calls Tryz.prog 21 #[.pointer (some ⟨g, 0, none⟩), .string s] w fun e w' => e = .returned (.int .i64 (Jn.append D ⟨L, a⟩ (toL s)).1) ∧ ∃ v', AppOut w w' B b g (.pointer (some dp)) (.slice A L.length m) v' (Jn.append D ⟨L, a⟩ (toL s)).2.2 (Jn.append D ⟨L, a⟩ (toL s)).2.1 := by
  have hZ4 : Z ≤ 4096 := by obtain ⟨_, _, _, _, _, h, _⟩ := hA.dev; have := h.ok.few; omega
  have hn2 : n ≤ 2000 := by rw [← hn]; unfold Jn.count; omega
  have HA := Kept.mk hA
  have HC : Kept (∀ w, Calls Tryz.prog 41 #[.int .i64 s.size] w fun e w' => e = .returned (.int .i64 n) ∧ w' = w) := ⟨fun w => by have := count_any s.size w (by omega); rw [hn] at this; exact this⟩
  have HN := Kept.mk hn
  have HZ := Kept.mk hZ
  have c0 := hA.at'.c0
  have c1 := hA.at'.c1
  have c2 := hA.at'.c2
  have z1 : ¬ (100000 : Int) < s.size := by omega
  have y1 : IntKind.i64.wrap ((a : Int) + 1) = (a : Int) + 1 := IntWalk.i64_in _ (by omega)
  have y2 : IntKind.i64.wrap ((a : Int) + 1 + n) = (a : Int) + 1 + n := IntWalk.i64_in _ (by omega)
  have z2 : ¬ (Z : Int) < (a : Int) + 1 + n := by omega
  have z3 : decide ((Z : Int) < (a : Int) + 1 + n) = false := decide_eq_false z2
  have z4 : (0 : Int) ≤ a := by omega
  have z5 : (0 : Int) ≤ n := by omega
  have z6 : (a : Int) ≤ 4096 := by omega
  have z7 : (n : Int) ≤ 2000 := by omega
  have HS := Kept.mk hs
  clear hA hn hZ hs
  go_enter Tryz.func21, Tryz.ntmps21
  go_wp2_with (go_at_call 41
               refine (HC.out _).mono ?_
               rintro e w1 ⟨rfl, hw⟩
               obtain rfl := hw.symm)
  refine wp_region_still_lit (by kernel_rfl) (by kernel_rfl) ?_
  repeat (first | still_step | still_call (HA.out.size HZ.out))
  refine wpStill_nil ?_
  refine HA.out.again (P := fun W => Exit.then _ _ _ _ W) ?_
  intro W1 h1
  have H1 := Kept.mk h1
  clear h1 c0 c1 c2
  have c0 := H1.out.at'.c0
  have c1 := H1.out.at'.c1
  have c2 := H1.out.at'.c2
  go_wp2
  have hbe : Kept (Jn.behind D a (toL s) = if a + 1 + n < Z then [(a + 1 + n, [])] else []) := ⟨by unfold Jn.behind; rw [toL_length, HN.out, HZ.out]⟩
  refine wp_region_still_lit (by kernel_rfl) (by kernel_rfl) ?_
  repeat (first | still_step | still_call (H1.out.size HZ.out))
  refine wpStill_nil ?_
  refine H1.out.again (P := fun W => Exit.then _ _ _ _ W) ?_
  intro W2 h2
  have H2 := Kept.mk h2
  clear h2 c0 c1 c2
  have c0 := H2.out.at'.c0
  have c1 := H2.out.at'.c1
  have c2 := H2.out.at'.c2
  go_upto_if 39 with fail
  go_cut [6] (fun e wx => ∃ E : Int, e = .int .i64 E ∧ Kept ((Jn.wr D (Jn.behind D a (toL s))).1 = E) ∧ Kept (AppIn w wx B b g (.pointer (some dp)) (.slice A L.length m) ⟨L, a⟩ (Jn.wr D (Jn.behind D a (toL s))).2))
  case first =>
    by_cases hlt : a + 1 + n < Z
    · have q0 : (a : Int) + 1 + n < Z := by omega
      have HW : Kept (Jn.wr D (Jn.behind D a (toL s)) = D.write ((a : Int) + 1 + n) []) := ⟨by rw [hbe.out, if_pos hlt, Jn.wr_one, show ((a + 1 + n : Nat) : Int) = (a : Int) + 1 + n by omega]⟩
      have HD := Kept.mk (H2.out.below ((Below.refl _ _).drew))
      have w0 : -9223372036854775808 ≤ (a : Int) + 1 + n := by omega
      have w1 : (a : Int) + 1 + n ≤ 9223372036854775807 := by omega
      have HWI := Kept.mk (And.intro w0 w1)
      clear w0 w1 hlt
      go_wp2
      refine wp_region_still_tail 11 (by kernel_rfl) (by kernel_rfl) ?_
      simp only [List.take_succ_cons, List.take_zero, List.drop_succ_cons, List.drop_zero]
      repeat still_step
      refine wpStill_nil ?_
      go_wp2_with (go_at_call 17
                   refine (HD.out.dev.write ((a : Int) + 1 + n) ⟨#[]⟩ HWI.out.1 HWI.out.2 (by decide)).mono ?_
                   rintro e w3 ⟨rfl, hd, ho⟩
                   have h3 := HD.out.wrote hd ho
                   change AppIn _ _ _ _ _ _ _ _ (D.write ((a : Int) + 1 + n) []).2 at h3
                   have H3 := Kept.mk h3
                   clear h3 hd ho)
      go_meet
      exact ⟨_, rfl, ⟨by rw [HW.out]; rfl⟩, ⟨by rw [HW.out]; exact H3.out⟩⟩
    · have q0 : ¬ (a : Int) + 1 + n < Z := by omega
      have HW : Kept (Jn.wr D (Jn.behind D a (toL s)) = (0, D)) := ⟨by rw [hbe.out, if_neg hlt]; rfl⟩
      clear hlt
      go_wp2
      go_meet
      exact ⟨0, rfl, ⟨by rw [HW.out]⟩, ⟨by rw [HW.out]; exact H2.out⟩⟩
  case rest =>
    obtain ⟨E, rfl, HE, HX⟩ := hcut
    clear c0 c1 c2
    clear hbe H1 H2 HC
    have HL9 : Kept (L.length ≤ 1000000) := ⟨by have := HA.out.at'.few; exact Nat.le_trans this (by decide)⟩
    go_upto_if 53 with fail
    go_cut [6] (fun e wx => ∃ E : Int, e = .int .i64 E ∧ Kept ((Jn.wr D (Jn.behind D a (toL s) ++ [(a, Jn.head 48 L.length (toL s))])).1 = E) ∧ Kept (AppIn w wx B b g (.pointer (some dp)) (.slice A L.length m) ⟨L, a⟩ (Jn.wr D (Jn.behind D a (toL s) ++ [(a, Jn.head 48 L.length (toL s))])).2))
    case first =>
      have c0 := HX.out.at'.c0
      have c1 := HX.out.at'.c1
      have c2 := HX.out.at'.c2
      by_cases hE : E = 0
      · have q0 : (E == 0) = true := by simpa using hE
        have HW : Kept (Jn.wr D (Jn.behind D a (toL s) ++ [(a, Jn.head 48 L.length (toL s))]) = (Jn.wr D (Jn.behind D a (toL s))).2.write a (Jn.head 48 L.length (toL s))) := ⟨Jn.wr_snoc _ _ (by rw [HE.out, hE])⟩
        clear hE
        generalize (Jn.wr D (Jn.behind D a (toL s))).2 = X at *
        have HD := Kept.mk (HX.out.below ((Below.refl _ _).drew))
        go_wp2
        go_region_held3 (fun w' => w'.cell? ⟨g, 0, none⟩ = some (.pointer (some dp)) ∧ w'.cell? ⟨g, 1, none⟩ = some (.slice A L.length m) ∧ w'.cell? ⟨g, 2, none⟩ = some (.int .i64 a))
          (first
            | go_keep
            | exact ⟨d0, d1, d2⟩
            | exact ⟨e0, e1, e2⟩)
          (first
            | (go_at_call 44
               refine (head_any 48 L.length s _ HL9.out HS.out).mono ?_
               rintro e w3 ⟨t, rfl, hb, ht⟩
               have H3 := Kept.mk (HD.out.below hb)
               have HT := Kept.mk ht.out
               have d0 := H3.out.at'.c0
               have d1 := H3.out.at'.c1
               have d2 := H3.out.at'.c2
               clear hb ht)
            | (go_at_call 17
               refine (H3.out.dev.write a t (by have := z4; omega) (by have := z6; omega) (by rw [HT.out, bs_size]; have := Jn.head_length 48 L.length (toL s) (by have := HL9.out; omega) (by rw [toL_length]; exact HS.out); omega)).mono ?_
               rintro e w4 ⟨rfl, hd, ho⟩
               have h4 := H3.out.wrote hd ho
               rw [HT.out, toL_bs] at h4
               rw [HT.out, toL_bs]
               have H4 := Kept.mk h4
               have e0 := H4.out.at'.c0
               have e1 := H4.out.at'.c1
               have e2 := H4.out.at'.c2
               clear h4 hd ho))
        all_goals
          go_wp2
          go_meet
          exact ⟨_, rfl, ⟨by rw [HW.out]⟩, ⟨by rw [HW.out]; exact H4.out⟩⟩
      · have q0 : (E == 0) = false := by simpa using hE
        have HW : Kept (Jn.wr D (Jn.behind D a (toL s) ++ [(a, Jn.head 48 L.length (toL s))]) = Jn.wr D (Jn.behind D a (toL s))) := ⟨Jn.wr_skip _ (by rw [HE.out]; exact hE)⟩
        clear hE
        go_wp2
        go_meet
        exact ⟨E, rfl, ⟨by rw [HW.out]; exact HE.out⟩, ⟨by rw [HW.out]; exact HX.out⟩⟩
    case rest =>
      clear HE HX
      obtain ⟨E1, rfl, HE, HX⟩ := hcut
      generalize hpl : Jn.behind D a (toL s) ++ [(a, Jn.head 48 L.length (toL s))] = pl at *
      have HPL := Kept.mk hpl
      clear hpl
      go_upto_block 0 with fail
      go_cut [6] (fun e wx => ∃ E : Int, e = .int .i64 E ∧ Kept ((Jn.wr D (pl ++ Jn.body a (toL s))).1 = E) ∧ Kept (AppIn w wx B b g (.pointer (some dp)) (.slice A L.length m) ⟨L, a⟩ (Jn.wr D (pl ++ Jn.body a (toL s))).2))
      case first =>
        go_wp2_with fail
        go_loopw [6, 7] (fun e i wr => ∃ (E : Int) (j : Nat), j ≤ n ∧ e = .int .i64 E ∧ i = .int .i64 j ∧ Kept ((Jn.wr D (pl ++ (Jn.body a (toL s)).take j)).1 = E) ∧ Kept (AppIn w wr B b g (.pointer (some dp)) (.slice A L.length m) ⟨L, a⟩ (Jn.wr D (pl ++ (Jn.body a (toL s)).take j)).2)) (fun _ i _ => n - (intOf i).toNat)
        case atStart => exact ⟨E1, 0, by omega, rfl, rfl, ⟨by rw [List.take_zero, List.append_nil]; exact HE.out⟩, ⟨by rw [List.take_zero, List.append_nil]; exact HX.out⟩⟩
        case round =>
          clear HE HX
          obtain ⟨E, j, hj, rfl, rfl, HE, HX⟩ := hrel
          have j0 : (0 : Int) ≤ j := by omega
          have j1 : (j : Int) ≤ 2000 := by omega
          by_cases hjn : j < n
          · have j2 : (j : Int) < n := by omega
            by_cases hE : E = 0
            · have q0 : (E == 0) = true := by simpa using hE
              have HD := Kept.mk (HX.out.below ((Below.refl _ _).drew))
              have c0 := HX.out.at'.c0
              have c2 := HX.out.at'.c2
              have v1 : IntKind.i64.wrap ((a : Int) + 1 + j) = (a : Int) + 1 + j := IntWalk.i64_in _ (by omega)
              have v2 : IntKind.i64.wrap ((j : Int) * 64) = (j : Int) * 64 := IntWalk.i64_in _ (by omega)
              have v3 : IntKind.i64.wrap ((j : Int) + 1) = (j : Int) + 1 := IntWalk.i64_in _ (by omega)
              have v4 : IntKind.i64.wrap (((j : Int) + 1) * 64) = ((j : Int) + 1) * 64 := IntWalk.i64_in _ (by omega)
              have HW : Kept (Jn.wr D (pl ++ (Jn.body a (toL s)).take (j + 1)) = (Jn.wr D (pl ++ (Jn.body a (toL s)).take j)).2.write ((a : Int) + 1 + j) (Jn.piece (toL s) j)) := ⟨by
                rw [body_next (by rw [toL_length, HN.out]; exact hjn), ← List.append_assoc, Jn.wr_snoc _ _ (by rw [HE.out, hE]), show ((a + 1 + j : Nat) : Int) = (a : Int) + 1 + j by omega]⟩
              obtain ⟨u, hu, hsl⟩ := piece_slice s j (by have := HN.out; unfold Jn.count at this; omega)
              have HU := Kept.mk hu
              have HI1 : Kept (-9223372036854775808 ≤ (a : Int) + 1 + j ∧ (a : Int) + 1 + j ≤ 9223372036854775807) := ⟨by omega⟩
              have HUs : Kept (u.size ≤ 1000000) := ⟨by rw [← toL_length, hu]; have := Jn.piece_length (toL s) j; omega⟩
              clear hE hu
              generalize (Jn.wr D (pl ++ (Jn.body a (toL s)).take j)).2 = X at *
              all_goals
                go_wp2
                refine wp_region_still_tail 21 (by kernel_rfl) (by kernel_rfl) ?_
                simp only [List.take_succ_cons, List.take_zero, List.drop_succ_cons, List.drop_zero]
                repeat still_step
                refine wpStill_nil ?_
                go_wp2_with (go_at_call 17
                             refine (HD.out.dev.write ((a : Int) + 1 + j) u HI1.out.1 HI1.out.2 (by have := HUs.out; omega)).mono ?_
                             rintro e w4 ⟨rfl, hd, ho⟩
                             have h4 := HD.out.wrote hd ho
                             rw [HU.out] at h4
                             rw [HU.out]
                             have H4 := Kept.mk h4
                             clear h4 hd ho)
                go_roundw
                case rel => exact ⟨_, j + 1, by omega, rfl, by go_num, ⟨by rw [HW.out]⟩, ⟨by rw [HW.out]; exact H4.out⟩⟩
                case measure => simp [intOf]; omega
            · have q0 : (E == 0) = false := by simpa using hE
              have HW : Kept (Jn.wr D (pl ++ Jn.body a (toL s)) = Jn.wr D (pl ++ (Jn.body a (toL s)).take j)) := ⟨by
                conv => lhs; rw [← List.take_append_drop j (Jn.body a (toL s)), ← List.append_assoc]
                exact Jn.wr_skip _ (by rw [HE.out]; exact hE)⟩
              clear hE
              go_wp2
              go_meet
              exact ⟨E, rfl, ⟨by rw [HW.out]; exact HE.out⟩, ⟨by rw [HW.out]; exact HX.out⟩⟩
          · have j2 : ¬ (j : Int) < n := by omega
            have HW : Kept (Jn.wr D (pl ++ Jn.body a (toL s)) = Jn.wr D (pl ++ (Jn.body a (toL s)).take j)) := ⟨by
              rw [List.take_of_length_le (by unfold Jn.body; rw [List.length_map, List.length_range, toL_length, HN.out]; omega)]⟩
            go_wp2
            go_meet
            exact ⟨E, rfl, ⟨by rw [HW.out]; exact HE.out⟩, ⟨by rw [HW.out]; exact HX.out⟩⟩
      case rest =>
        clear HE HX
        obtain ⟨E, rfl, HE, HX⟩ := hcut
        go_upto_if 102 with fail
        go_cut [6] (fun e wx => ∃ E : Int, e = .int .i64 E ∧ Kept ((Jn.wr D (pl ++ Jn.body a (toL s) ++ [(a, Jn.head 49 L.length (toL s))])).1 = E) ∧ Kept (AppIn w wx B b g (.pointer (some dp)) (.slice A L.length m) ⟨L, a⟩ (Jn.wr D (pl ++ Jn.body a (toL s) ++ [(a, Jn.head 49 L.length (toL s))])).2))
        case first =>
          have c0 := HX.out.at'.c0
          have c1 := HX.out.at'.c1
          have c2 := HX.out.at'.c2
          by_cases hE : E = 0
          · have q0 : (E == 0) = true := by simpa using hE
            have HW : Kept (Jn.wr D (pl ++ Jn.body a (toL s) ++ [(a, Jn.head 49 L.length (toL s))]) = (Jn.wr D (pl ++ Jn.body a (toL s))).2.write a (Jn.head 49 L.length (toL s))) := ⟨Jn.wr_snoc _ _ (by rw [HE.out, hE])⟩
            clear hE
            generalize (Jn.wr D (pl ++ Jn.body a (toL s))).2 = X at *
            have HD := Kept.mk (HX.out.below ((Below.refl _ _).drew))
            go_wp2
            go_region_held3 (fun w' => w'.cell? ⟨g, 0, none⟩ = some (.pointer (some dp)) ∧ w'.cell? ⟨g, 1, none⟩ = some (.slice A L.length m) ∧ w'.cell? ⟨g, 2, none⟩ = some (.int .i64 a))
              (first
                | go_keep
                | exact ⟨d0, d1, d2⟩
                | exact ⟨e0, e1, e2⟩)
              (first
                | (go_at_call 44
                   refine (head_any 49 L.length s _ HL9.out HS.out).mono ?_
                   rintro e w3 ⟨t, rfl, hb, ht⟩
                   have H3 := Kept.mk (HD.out.below hb)
                   have HT := Kept.mk ht.out
                   have d0 := H3.out.at'.c0
                   have d1 := H3.out.at'.c1
                   have d2 := H3.out.at'.c2
                   clear hb ht)
                | (go_at_call 17
                   refine (H3.out.dev.write a t (by have := z4; omega) (by have := z6; omega) (by rw [HT.out, bs_size]; have := Jn.head_length 49 L.length (toL s) (by have := HL9.out; omega) (by rw [toL_length]; exact HS.out); omega)).mono ?_
                   rintro e w4 ⟨rfl, hd, ho⟩
                   have h4 := H3.out.wrote hd ho
                   rw [HT.out, toL_bs] at h4
                   rw [HT.out, toL_bs]
                   have H4 := Kept.mk h4
                   have e0 := H4.out.at'.c0
                   have e1 := H4.out.at'.c1
                   have e2 := H4.out.at'.c2
                   clear h4 hd ho))
            all_goals
              go_wp2
              go_meet
              exact ⟨_, rfl, ⟨by rw [HW.out]⟩, ⟨by rw [HW.out]; exact H4.out⟩⟩
          · have q0 : (E == 0) = false := by simpa using hE
            have HW : Kept (Jn.wr D (pl ++ Jn.body a (toL s) ++ [(a, Jn.head 49 L.length (toL s))]) = Jn.wr D (pl ++ Jn.body a (toL s))) := ⟨Jn.wr_skip _ (by rw [HE.out]; exact hE)⟩
            clear hE
            go_wp2
            go_meet
            exact ⟨E, rfl, ⟨by rw [HW.out]; exact HE.out⟩, ⟨by rw [HW.out]; exact HX.out⟩⟩
        case rest =>
          clear HE HX
          obtain ⟨E, rfl, HE, HX⟩ := hcut
          have HPlan : Kept (Jn.plan D L.length a (toL s) = pl ++ Jn.body a (toL s) ++ [(a, Jn.head 49 L.length (toL s))]) := ⟨by rw [← HPL.out]; unfold Jn.plan; simp⟩
          rw [← HPlan.out] at HE HX
          have HSL : Kept (¬ 100000 < (toL s).length ∧ ¬ D.S.length < a + 1 + Jn.count (toL s).length ∧ Jn.count (toL s).length = n) := ⟨by rw [toL_length, HN.out, HZ.out]; have := HS.out; omega⟩
          by_cases hE : E = 0
          · have q0 : (E != 0) = false := by simpa using hE
            have HApp : Kept (Jn.append D ⟨L, a⟩ (toL s) = (0, (Jn.wr D (Jn.plan D L.length a (toL s))).2, ⟨L ++ [toL s], a + 1 + n⟩)) := ⟨by
              unfold Jn.append
              rw [if_neg HSL.out.1, if_neg HSL.out.2.1]
              simp only
              rw [if_pos (by rw [HE.out, hE]), HSL.out.2.2]⟩
            clear hE
            generalize (Jn.wr D (Jn.plan D L.length a (toL s))).2 = X at *
            have c1 := HX.out.at'.c1
            have HLN : Kept (L.length + 1 ≤ 4096) := ⟨by omega⟩
            have HN1 : Kept (((L.map bs).length + 1) * 16 ≤ 140737488355328) := ⟨by rw [List.length_map]; omega⟩
            have HN2 : Kept ((L.map bs).length + 1 ≤ maxLen) := ⟨by rw [List.length_map]; unfold maxLen; omega⟩
            have HE1 : Kept (Own.Es Value.string wc b (.slice A L.length m) (L.map bs)) := ⟨HX.out.at'.es⟩
            have HBs : Kept (b ≤ wc.heap.size) := ⟨by have h1 := HX.out.at'.low; have h2 := HX.out.at'.lt; omega⟩
            have HAn : Kept (a + 1 + n ≤ 4096) := ⟨by omega⟩
            go_wp2_with (refine Own.wpList_append1b strTy str_one rfl _ _ rfl rfl HE1.out HBs.out s _ rfl rfl HN1.out HN2.out ?_
                         intro v2 w2 hE2 hg2 hrow
                         obtain ⟨A2, n2, k2, rfl⟩ : ∃ A n k, v2 = Value.slice A n k := by
                           obtain ⟨A, k, e⟩ := hE2.len
                           exact ⟨A, _, k, e⟩
                         obtain ⟨e1, f1, -⟩ := HX.out.at'.still hg2
                         have H2 := Kept.mk (HX.out.at'.push (s := toL s) (by rw [bs_toL]; exact hE2) hg2 HLN.out)
                         have HG2 := Kept.mk (And.intro hg2 hrow)
                         have e2 := H2.out.c2
                         have f2 := H2.out.free 2 (by omega)
                         clear hE2 hg2 hrow)
            go_ret
            have hdone := HX.out.done (n := a + 1 + n) H2.out HG2.out.1 HG2.out.2 HAn.out
            rw [show ((a + 1 + n : Nat) : Int) = (a : Int) + 1 + n by omega] at hdone
            exact ⟨by rw [HApp.out]; rfl, _, by rw [HApp.out]; exact hdone⟩
          · have q0 : (E != 0) = true := by simpa using hE
            have HApp : Kept (Jn.append D ⟨L, a⟩ (toL s) = (E, (Jn.wr D (Jn.plan D L.length a (toL s))).2, ⟨L, a⟩)) := ⟨by
              unfold Jn.append
              rw [if_neg HSL.out.1, if_neg HSL.out.2.1]
              simp only
              rw [if_neg (by rw [HE.out]; exact hE), HE.out]⟩
            clear hE
            go_wp2
            go_ret
            exact ⟨by rw [HApp.out]; rfl, _, by rw [HApp.out]; exact HX.out.out⟩
end Jr
end Go.Proofs.YtmkpkmkhnphogaaGreatDoor
