/-
  The program is what the laws ask of it; the rows' arguments, opened.
-/
import Derived.Test.YtkifnabkoidhcaaRows
import Derived.Test.YtkifnabkoidhcaaPl2
import Derived.Test.YtkifnabkoidhcaaPl3
import Derived.Test.YtkifnabkoidhcaaPl4
import Derived.Test.YtkifnabkoidhcaaPl5
import Derived.Test.YtkifnabkoidhcaaPpj
import Derived.Test.YtkifnabkoidhcaaLawPost
import Derived.OpenShut
import Derived.ChangeMaps5
import Derived.Deep.DeepHandedRow
import Derived.Lib.LaidTab
import Derived.SliceStrings
import Derived.SizedLaws
import Derived.LaidLaws
namespace Go.Proofs.Ytkifnabkoidhcaa
open Go.ChangeShapes Go.WideShapes Go.ChangeAt Go.RowKit Tx
namespace Pm
open Pc

theorem prog : PaK (fun _ => True) where
  mat p s w _ hp hs := match_any p s w (by omega) (by omega)
  esc s w _ hs := escape_any s w (by omega)
  plain s w _ hs := plain_any s w (by omega)
  special s w _ hs := special_any s w (by omega)
  rem s p e most w _ hs hp := remove_any s p e most w (by omega) (by omega)
  keep _ _ _ _ := trivial
theorem own : ownKnob Try.prog.godebug = none := by kernel_rfl
theorem laidOut : laidOutB Try.prog = true := by kernel_rfl
theorem cellsByte : Try.prog.cellsOf 5 = 1 := by kernel_rfl
noncomputable def world0 (os : Os) : World := World.holding Try.prog os ⟨#[], #[], []⟩
set_option maxRecDepth 100000 in
/-- A list of bytes that came in. -/
theorem open_bytes {H : Type} {enc : TypeId × Value → H} {W : World} {base : Nat} {v : Value} {d : DataW H} {p : List MemPlace}
    (hv : Value.okWide Try.prog W .any base 25 v) (h : DataW.Trod enc Try.prog W 0 (fun _ => true) true 25 v d p) :
    ∃ A n k, v = .slice A n k ∧ By8 W A n ∧ n ≤ 9223372036854775807 := by
  obtain ⟨a0, len, cap, rfl⟩ := okWide_slice Try.underlying25 hv
  obtain ⟨fuel, hf⟩ := h
  rcases open_ints Try.underlying25 Try.underlying5 cellsByte hf with ⟨hcs, hx⟩ | ⟨a, len', cap', zs, hcs, _, hl, hm, hz, hx, hcell, hwz⟩
  · simp [Value.cells] at hcs
    obtain ⟨rfl, rfl, rfl⟩ := hcs
    exact ⟨none, 0, 0, rfl, fun j hj => by omega, by omega⟩
  · simp [Value.cells] at hcs
    obtain ⟨rfl, rfl, rfl⟩ := hcs
    simp only [if_true] at hz
    unfold maxLen at hm
    refine ⟨some a, len, cap, rfl, fun j hj => ?_, by omega⟩
    have hc := hcell j (by omega)
    obtain ⟨b, off, spot⟩ := a
    have hspot : spot = none := by
      have h0 := hcell 0 (by omega)
      simpa [Addr.add] using World.cell?_spot h0
    subst hspot
    rw [Addr.add_lit] at hc
    have hw := hwz (zs.getD j 0) (by rw [List.getD_eq_getElem?_getD, List.getElem?_eq_getElem (show j < zs.length by omega)]; exact List.getElem_mem _)
    simp only [Lit.wf, Bool.and_eq_true, decide_eq_true_eq] at hw
    have e0 : IntKind.u8.min = 0 := by decide
    have e1 : IntKind.u8.max = 255 := by decide
    rw [e0, e1] at hw
    exact ⟨b, off, zs.getD j 0, rfl, World.block_lt_of_cell? W _ hc, hc, by omega, by omega⟩
theorem wf_u8 {n : Int} (h : (Lit.int .u8 n).wf = true) : 0 ≤ n ∧ n ≤ 255 := by
  simp only [Lit.wf, Bool.and_eq_true, decide_eq_true_eq] at h
  have e0 : IntKind.u8.min = 0 := by decide
  have e1 : IntKind.u8.max = 255 := by decide
  rw [e0, e1] at h
  omega

theorem sets_law (A : Option Addr) (n k : Nat) (c : Int) (w : World) (hl : By8 w A n) (hn : n ≤ 9223372036854775807) (h0 : 0 ≤ c) (h1 : c ≤ 255) :
    Calls Try.prog 10 #[.slice A n k, .int .u8 c] w fun e w' => e = .returned (.bool true) ∧ Below w.heap.size w w' := by
  have e : c = ((UInt8.ofNat c.toNat).toNat : Int) := by simp; omega
  rw [e]
  exact sets_any prog A n k (UInt8.ofNat c.toNat) w trivial hl hn
end Pm
end Go.Proofs.Ytkifnabkoidhcaa
