/-
  The program's reader: what is within double quotes, over any call that reads what a dollar begins.
-/
import Derived.Test.YtphgnjjblpmijaaDoorWp5M
import Derived.Test.YtphgnjjblpmijaaDoorWrcM
import Derived.Test.YtphgnjjblpmijaaDoorWr8M
import Derived.Deep.LoopGhost
namespace Go.Proofs.YtphgnjjblpmijaaDoor
open Go.RowKit Tx
namespace Wx
open Lx

/-- What a dollar begins is read as the chapter says, d levels being left. -/
structure DolC (d : Nat) (dep : Int) : Prop where
  ok : ∀ (s : ByteArray) (q : Bool) (w : World) (b : Nat) (acc : List Pt) (pv tv : Value) (p : Pt) (k : Nat), Kept (dollar (parts d) q (toL s) = .ok (p, k)) → (toL s).head? = some 36 → s.size ≤ 5000 → Kept (wt acc + 2 * s.size ≤ 50000) → Kit w → Ahead b → Kept (St w b dep acc pv tv) →
    Calls Tryd.prog 42 #[.pointer (some ⟨b, 0, none⟩), .string s, .bool q] w fun e w' => e = .returned (.tuple #[.int .i64 (k : Int), .int .i64 0]) ∧ ∃ pv' tv', Kept (St w' b dep (add acc p) pv' tv') ∧ Kept (Fr b pv tv pv' tv' w w')
  no : ∀ (s : ByteArray) (q : Bool) (w : World) (b : Nat) (acc : List Pt) (pv tv : Value) (c : Int), Kept (dollar (parts d) q (toL s) = .error c) → (toL s).head? = some 36 → s.size ≤ 5000 → Kept (wt acc + 2 * s.size ≤ 50000) → Kit w → Ahead b → Kept (St w b dep acc pv tv) →
    Calls Tryd.prog 42 #[.pointer (some ⟨b, 0, none⟩), .string s, .bool q] w fun e w' => ∃ n : Int, e = .returned (.tuple #[.int .i64 n, .int .i64 c]) ∧ (c == 0) = false ∧ Kept (Below b w w')
/-- What a reading ends in. -/
inductive WEnd (r : Except Int (List Pt)) (w : World) (b : Nat) (dep : Int) (pv tv : Value) : Ending → World → Prop
  | ok (w' : World) (l : List Pt) (pv' tv' : Value) (h : r = .ok l) (hs : Kept (St w' b dep l pv' tv')) (hf : Kept (Fr b pv tv pv' tv' w w')) : WEnd r w b dep pv tv (.returned (.int .i64 0)) w'
  | no (w' : World) (c : Int) (h : r = .error c) (hc : (c == 0) = false) (hb : Kept (Below b w w')) : WEnd r w b dep pv tv (.returned (.int .i64 c)) w'
theorem neq_zero {c : Int} (h : (c == 0) = false) : (c != 0) = true := by unfold bne; rw [h]; rfl
theorem step2_other {w : List UInt8 → Except Int (List Pt)} {c : UInt8} {r : List UInt8} (h : c ≠ 36) : step2 w (c :: r) = if isEsc (c :: r) = true then .ok (txt true (r.take 1), 2) else .ok (txt true [c], 1) := by
  rw [step2, if_neg h]
  by_cases h2 : c = 92 ∧ (r.head? = some 36 ∨ r.head? = some 96 ∨ r.head? = some 34 ∨ r.head? = some 92)
  · rw [if_pos h2, if_pos]
    show (c == 92 && decide _) = true
    rw [decide_eq_true h2.2, h2.1]; rfl
  · rw [if_neg h2, if_neg]
    intro h3
    change (c == 92 && decide _) = true at h3
    rw [Bool.and_eq_true, beq_iff_eq, decide_eq_true_eq] at h3
    exact h2 h3
set_option maxHeartbeats 8000000 in
set_option maxRecDepth 100000 in
theorem within_any (d : Nat) (dep : Int) (HD : DolC d dep) (s : ByteArray) (w : World) (b : Nat) (acc0 : List Pt) (pv tv : Value) (hs : s.size ≤ 5000) (hw : wt acc0 + 2 * s.size ≤ 50000) (hK : Kit w) (hA : Ahead b) (hS : St w b dep acc0 pv tv) :
    Calls Tryd.prog 56 #[.pointer (some ⟨b, 0, none⟩), .string s] w (WEnd (doubleOn (parts d) (toL s) acc0) w b dep pv tv) := by
  have HK := Kept.mk hK
  have HA := Kept.mk hA
  have HS := Kept.mk hS
  have HDl := Kept.mk HD
  have HW0 : Kept (wt acc0 + 2 * s.size ≤ 50000) := ⟨hw⟩
  obtain ⟨R, hR⟩ : ∃ R, R = doubleOn (parts d) (toL s) acc0 := ⟨_, rfl⟩
  have HR := Kept.mk hR
  rw [← hR]
  clear hK hA hS hw HD hR
  go_enter Tryd.func56, Tryd.ntmps56
  go_wp2_with fail
  go_loopg [1] s.size (fun m sv wr => ∃ (x : ByteArray) (acc : List Pt) (pv' tv' : Value), sv = .string x ∧ x.size ≤ 5000 ∧ x.size ≤ m ∧ Kept (R = doubleOn (parts d) (toL x) acc) ∧ Kept (St wr b dep acc pv' tv') ∧ Kept (Fr b pv tv pv' tv' w wr) ∧ Kept (wt acc + 2 * x.size ≤ 50000))
  case atStart => exact ⟨s, acc0, pv, tv, rfl, hs, Nat.le_refl _, HR, HS, ⟨Fr.refl _ _ _ _⟩, HW0⟩
  case round =>
    obtain ⟨x, acc, pv', tv', rfl, hx5, hxm, HRx, HSx, HF, HW⟩ := hrel
    have HKr : Kept (Kit wr) := ⟨HK.out.far HA.out HF.out.bl⟩
    by_cases h0 : 0 < x.size
    · have hne := not_empty h0
      have hne2 : (x.toList != ([] : List UInt8)) = true := by unfold bne; rw [hne]; rfl
      have hc := cons_at h0
      have HC := Kept.mk hc
      by_cases h36 : x[0]'h0 = 36
      · have z1 : ((x[0]'h0).toNat : Int) = 36 := by rw [h36]; rfl
        have hh : (toL x).head? = some 36 := by rw [hc, h36]; rfl
        cases hd : dollar (parts d) true (toL x) with
        | error c =>
          have HDd := Kept.mk hd
          have HE : Kept (R = .error c) := ⟨by
            rw [HRx.out, hc]
            refine doubleOn_bad ?_
            rw [step2, if_pos h36, ← hc]; exact hd⟩
          clear hd h36 hc
          go_wp2_with fail
          go_at_call 42
          refine (HDl.out.no x true wr b acc pv' tv' c HDd hh hx5 HW HKr.out HA.out HSx).mono ?_
          rintro e w2 ⟨n, rfl, hc0, hb⟩
          have HB : Kept (Below b w w2) := ⟨HF.out.bl.trans hb.out⟩
          have hc1 := neq_zero hc0
          clear hb
          go_wp2_with fail
          go_ret
          exact .no _ c HE.out hc0 HB
        | ok y =>
          obtain ⟨p, k⟩ := y
          have HDd := Kept.mk hd
          have hst : step2 (parts d) (x[0]'h0 :: (toL x).drop 1) = .ok (p, k) := by rw [step2, if_pos h36, ← hc]; exact hd
          have HR2 : Kept (R = doubleOn (parts d) ((toL x).drop k) (add acc p)) := ⟨by
            rw [HRx.out]
            conv => lhs; rw [hc]
            rw [doubleOn_go hst, ← hc]⟩
          have hk := step2_le hst
          rw [← hc, toL_length] at hk
          have hwt := step2_wt (parts_wt d) hst
          have hwa := wt_add acc p
          obtain ⟨X, hX⟩ : ∃ X, X = x.extract k x.size := ⟨_, rfl⟩
          have hsl : ∀ W : World, (Instr.slice 9 (.string x) (some (.int .i64 (k : Int))) none none).run Tryd.prog W = .ok (.string X) W := fun W => by rw [hX]; exact str_from hk.2 (by omega) W
          have HXl : Kept (toL X = (toL x).drop k) := ⟨by rw [hX]; exact toL_rest x k⟩
          have hXs : X.size = x.size - k := by rw [hX]; exact size_rest x k
          have HXs : Kept (X.size = x.size - k ∧ 1 ≤ k ∧ k ≤ x.size ∧ wt (add acc p) + 2 * X.size ≤ 50000) := ⟨hXs, hk.1, hk.2, by have := HW.out; omega⟩
          clear hd h36 hc hst hk hwt hwa hX hXs
          go_wp2_with fail
          go_at_call 42
          refine (HDl.out.ok x true wr b acc pv' tv' p k HDd hh hx5 HW HKr.out HA.out HSx).mono ?_
          rintro e w2 ⟨rfl, pv2, tv2, HS2, HF2⟩
          go_wp2_with fail
          go_roundg X.size
          case measure => have := HXs.out; omega
          case rel => exact ⟨X, add acc p, pv2, tv2, rfl, by have := HXs.out; omega, Nat.le_refl _, ⟨by rw [HR2.out, HXl.out]⟩, HS2, ⟨HF.out.trans HF2.out⟩, ⟨HXs.out.2.2.2⟩⟩
      · have z1 : ¬ ((x[0]'h0).toNat : Int) = 36 := fun e => h36 (by apply UInt8.toNat_inj.1; have : (36 : UInt8).toNat = 36 := rfl; omega)
        cases hes : isEsc (toL x) with
        | true =>
          have HEs := Kept.mk hes
          have hst : step2 (parts d) (x[0]'h0 :: (toL x).drop 1) = .ok (txt true (((toL x).drop 1).take 1), 2) := by rw [step2_other h36, ← hc, hes, if_pos rfl]
          have hk := step2_le hst
          rw [← hc, toL_length] at hk
          have HR2 : Kept (R = doubleOn (parts d) ((toL x).drop 2) (add acc (txt true (((toL x).drop 1).take 1)))) := ⟨by
            rw [HRx.out]
            conv => lhs; rw [hc]
            rw [doubleOn_go hst, ← hc]⟩
          obtain ⟨Y, hY⟩ : ∃ Y, Y = x.extract 1 2 := ⟨_, rfl⟩
          have hY2 : ∀ W : World, (Instr.slice 9 (.string x) (some (.int .i64 1)) (some (.int .i64 2)) none).run Tryd.prog W = .ok (.string Y) W := fun W => by
            rw [run_slice_string_if W 9 x .i64 .i64 _ _ Tryd.underlying9, if_pos ⟨by omega, by omega⟩, if_pos ⟨by omega, by omega⟩, hY]; rfl
          have hYl : toL Y = (((toL x).drop 1).take 1) := by
            rw [hY, toL_extract]
          have HY := Kept.mk hYl
          have hYs : Y.size ≤ 1 := by rw [← toL_length, hYl]; first | (simp; done) | (simp; omega)
          have hwa := wt_add acc (txt true (((toL x).drop 1).take 1))
          have hwt := step2_wt (parts_wt d) hst
          obtain ⟨X, hX⟩ : ∃ X, X = x.extract 2 x.size := ⟨_, rfl⟩
          have hsl : ∀ W : World, (Instr.slice 9 (.string x) (some (.int .i64 2)) none none).run Tryd.prog W = .ok (.string X) W := fun W => by rw [hX]; exact str_from (k := 2) hk.2 (by omega) W
          have HXl : Kept (toL X = (toL x).drop 2) := ⟨by rw [hX]; exact toL_rest x 2⟩
          have hXs : X.size = x.size - 2 := by rw [hX]; exact size_rest x 2
          have HXs : Kept (X.size = x.size - 2 ∧ 2 ≤ x.size ∧ wt (add acc (txt true (((toL x).drop 1).take 1))) + 2 * X.size ≤ 50000) := ⟨hXs, hk.2, by have := HW.out; omega⟩
          clear hst hk hwt hwa hX hXs hY hYl hc
          go_wp2_with (go_at_call 72; refine (startsEscape_any x _ true HEs.out.symm).mono ?_; rintro e w2 ⟨rfl, rfl⟩)
          go_at_call 44
          refine (addText_any _ b dep acc pv' tv' Y true HSx (by have := HW.out; omega) (by omega)).mono ?_
          rw [HY.out]
          rintro e w2 ⟨rfl, pv2, tv2, HS2, HF2⟩
          go_wp2_with fail
          go_roundg X.size
          case measure => have := HXs.out; omega
          case rel => exact ⟨X, _, pv2, tv2, rfl, by have := HXs.out; omega, Nat.le_refl _, ⟨by rw [HR2.out, HXl.out]⟩, HS2, ⟨HF.out.trans HF2.out⟩, ⟨HXs.out.2.2⟩⟩
        | false =>
          have HEs := Kept.mk hes
          have hst : step2 (parts d) (x[0]'h0 :: (toL x).drop 1) = .ok (txt true [x[0]'h0], 1) := by rw [step2_other h36, ← hc, hes, if_neg (by simp)]
          have hk := step2_le hst
          rw [← hc, toL_length] at hk
          have HR2 : Kept (R = doubleOn (parts d) ((toL x).drop 1) (add acc (txt true [x[0]'h0]))) := ⟨by
            rw [HRx.out]
            conv => lhs; rw [hc]
            rw [doubleOn_go hst, ← hc]⟩
          obtain ⟨Y, hY⟩ : ∃ Y, Y = x.extract 0 1 := ⟨_, rfl⟩
          have hY2 : ∀ W : World, (Instr.slice 9 (.string x) none (some (.int .i64 1)) none).run Tryd.prog W = .ok (.string Y) W := fun W => by
            rw [hY]; exact str_to (k := 1) hk.2 W
          have hYl : toL Y = [x[0]'h0] := by
            rw [hY, toL_to, hc]; rfl
          have HY := Kept.mk hYl
          have hYs : Y.size ≤ 1 := by rw [← toL_length, hYl]; first | (simp; done) | (simp; omega)
          have hwa := wt_add acc (txt true [x[0]'h0])
          have hwt := step2_wt (parts_wt d) hst
          obtain ⟨X, hX⟩ : ∃ X, X = x.extract 1 x.size := ⟨_, rfl⟩
          have hsl : ∀ W : World, (Instr.slice 9 (.string x) (some (.int .i64 1)) none none).run Tryd.prog W = .ok (.string X) W := fun W => by rw [hX]; exact str_from (k := 1) hk.2 (by omega) W
          have HXl : Kept (toL X = (toL x).drop 1) := ⟨by rw [hX]; exact toL_rest x 1⟩
          have hXs : X.size = x.size - 1 := by rw [hX]; exact size_rest x 1
          have HXs : Kept (X.size = x.size - 1 ∧ 1 ≤ x.size ∧ wt (add acc (txt true [x[0]'h0])) + 2 * X.size ≤ 50000) := ⟨hXs, hk.2, by have := HW.out; omega⟩
          clear hst hk hwt hwa hX hXs hY hYl hc
          go_wp2_with (go_at_call 72; refine (startsEscape_any x _ false HEs.out.symm).mono ?_; rintro e w2 ⟨rfl, rfl⟩)
          go_at_call 44
          refine (addText_any _ b dep acc pv' tv' Y true HSx (by have := HW.out; omega) (by omega)).mono ?_
          rw [HY.out]
          rintro e w2 ⟨rfl, pv2, tv2, HS2, HF2⟩
          go_wp2_with fail
          go_roundg X.size
          case measure => have := HXs.out; omega
          case rel => exact ⟨X, _, pv2, tv2, rfl, by have := HXs.out; omega, Nat.le_refl _, ⟨by rw [HR2.out, HXl.out]⟩, HS2, ⟨HF.out.trans HF2.out⟩, ⟨HXs.out.2.2⟩⟩
    · have hx0 := empty_of (s := x) (by omega)
      subst hx0
      have HE : Kept (R = .ok acc) := ⟨HRx.out⟩
      clear h0
      go_wp2_with fail
      go_ret
      exact .ok _ acc pv' tv' HE.out HSx HF
end Wx
end Go.Proofs.YtphgnjjblpmijaaDoor
