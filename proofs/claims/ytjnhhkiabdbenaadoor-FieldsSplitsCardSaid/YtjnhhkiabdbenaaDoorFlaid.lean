/-
  The rows' conditions, opened: the library's variable; pieces of numbers; a world in which all lies so.
-/
import Derived.Test.YtjnhhkiabdbenaaDoorCards
import Derived.Test.YtjnhhkiabdbenaaDoorTie
import Derived.Test.YtjnhhkiabdbenaaDoorFl2
import Derived.Test.YtjnhhkiabdbenaaDoorLawPost
import Derived.OpenShut
import Derived.ChangeMaps5
import Derived.ChangeSame
import Derived.Deep.Slices
import Derived.Deep.DeepHandedRow
import Derived.Lib.LaidTab
import Derived.SliceStrings
import Derived.SizedLaws
import Derived.LaidLaws
namespace Go.Proofs.YtjnhhkiabdbenaaDoor
open Go.ChangeShapes Go.WideShapes Go.ChangeAt Go.RowKit Tx
namespace Fd
open Pc (By8)

theorem own : ownKnob Tryd.prog.godebug = none := by kernel_rfl
theorem laidOut : laidOutB Tryd.prog = true := by kernel_rfl
theorem cellsByte : Tryd.prog.cellsOf 5 = 1 := by kernel_rfl
theorem cellsBytes : Tryd.prog.cellsOf 36 = 1 := by kernel_rfl
theorem cellsBit : Tryd.prog.cellsOf 38 = 2 := by kernel_rfl
theorem bytesBit : Tryd.prog.bytesOf 38 = 32 := by kernel_rfl
/-- What the rows list. -/
def laid : List (String × DataW Unit) := [("unicode/utf8.acceptRanges", Rows.laid_unicode_utf8_acceptRanges), ("unicode/utf8.first", Rows.laid_unicode_utf8_first)]
/-- What the rows' conditions give. -/
theorem kit_of {W : World} (_ : laidMetH Tryd.prog laid W) (hsh : W.ShapedOpen Tryd.prog) : Kit W := ⟨Tryd.laysM155.s1_3 W hsh⟩
theorem wf_u8 {n : Int} (h : (Lit.int .u8 n).wf = true) : 0 ≤ n ∧ n < 256 := by
  simp only [Lit.wf, Bool.and_eq_true, decide_eq_true_eq] at h
  have e0 : IntKind.u8.min = 0 := by decide
  have e1 : IntKind.u8.max = 255 := by decide
  rw [e0, e1] at h
  omega
theorem bit_is : ∃ f0 f1 : Field, Tryd.prog.underlying 38 = some (.struct #[f0, f1]) ∧ f0.type = 5 ∧ f1.type = 36 ∧ f0.offset = 0 ∧ f1.offset = 1 :=
  ⟨_, _, Tryd.underlying38, rfl, rfl, rfl, rfl⟩
/-- A list of bytes in a cell. -/
theorem bytes_cell {H : Type} {enc : TypeId × Value → H} {W : World} {base n : Nat} {sp : Nat → Bool} {v : Value} {x : DataW H × List MemPlace} (h : DataW.trod enc Tryd.prog W base sp true n 36 [v] = some x) :
    ∃ B m k, v = .slice B m k ∧ By8 W B m ∧ m ≤ 9223372036854775807 := by
  obtain ⟨d, p⟩ := x
  rcases open_ints Tryd.underlying36 Tryd.underlying5 cellsByte h with ⟨hcs, hx⟩ | ⟨a, len', cap', zs, hcs, _, hl, hm, hz, hx, hcell, hwz⟩
  · obtain rfl : v = .slice none 0 0 := by simpa using hcs
    exact ⟨none, 0, 0, rfl, fun j hj => by omega, by omega⟩
  · obtain rfl : v = .slice (some a) len' cap' := by simpa using hcs
    have hz2 : len' ≤ zs.length := by rw [hz]; split <;> omega
    unfold maxLen at hm
    refine ⟨some a, len', cap', rfl, fun j hj => ?_, by omega⟩
    have hc := hcell j (by omega)
    obtain ⟨b, off, spot⟩ := a
    have hspot : spot = none := by
      have h0 := hcell 0 (by omega)
      simpa [Addr.add] using World.cell?_spot h0
    subst hspot
    rw [Addr.add_lit] at hc
    have hw := wf_u8 (hwz (zs.getD j 0) (by rw [List.getD_eq_getElem?_getD, List.getElem?_eq_getElem (show j < zs.length by omega)]; exact List.getElem_mem _))
    exact ⟨b, off, zs.getD j 0, rfl, World.block_lt_of_cell? W _ hc, hc, by omega, by omega⟩
set_option maxRecDepth 100000 in
/-- Pieces of numbers that come in. -/
theorem open_bits {H : Type} {enc : TypeId × Value → H} {W : World} {base : Nat} {ts : List TypeId} {ds : List (DataW H)} (hsz : (DataW.weightsEach Tryd.prog ts ds).all (· ≤ reachBytes) = true) {j : Nat} {v : Value} {d : DataW H} {p : List MemPlace}
    (ht : ts[j]? = some 22) (hd : ds[j]? = some d) (hv : Value.okWide Tryd.prog W .any base 22 v) (h : DataW.Trod enc Tryd.prog W 0 (fun _ => true) true 22 v d p) :
    ∃ A len cap, v = .slice A len cap ∧ Bits W A len ∧ len ≤ 140737488355328 := by
  obtain ⟨a0, len, cap, rfl⟩ := okWide_slice Tryd.underlying22 hv
  obtain ⟨fuel, hf⟩ := h
  rcases Go.Deep.open_slice Tryd.underlying22 hf with ⟨hcs, hx⟩ | ⟨a, len', cap', m, n, D, Pl, hcs, _, hl, hm, hmm, hx, hall⟩
  · simp [Value.cells] at hcs
    obtain ⟨rfl, rfl, rfl⟩ := hcs
    exact ⟨none, 0, 0, rfl, fun i hi => by omega, by omega⟩
  · simp [Value.cells] at hcs
    obtain ⟨rfl, rfl, rfl⟩ := hcs
    simp only [Prod.mk.injEq] at hx
    obtain ⟨rfl, rfl⟩ := hx
    have hs := sized_slice hsz ht hd Tryd.underlying22
    rw [bytesBit] at hs
    simp only [List.length_map, List.length_range, reachBytes] at hs
    have hlm : len ≤ m := by rw [hmm]; split <;> omega
    refine ⟨some a, len, cap, rfl, ?_, by omega⟩
    intro i hi
    obtain ⟨cs', h1, h2⟩ := hall i (by omega)
    rw [cellsBit] at h1
    obtain ⟨f0, f1, hu, t0, t1, o0, o1⟩ := bit_is
    obtain ⟨xs, n', _, hxe, hcl, hxl, hfs⟩ := DataW.trod_struct hu h2
    rw [cellsBit] at hcl
    obtain ⟨_, _, hc⟩ := World.cells?_some h1
    obtain ⟨g, off, spot⟩ := a
    have hspot : spot = none := by
      obtain ⟨cs0, h1, _⟩ := hall 0 (by omega)
      rw [cellsBit] at h1
      obtain ⟨_, _, hc⟩ := World.cells?_some h1
      obtain ⟨v, hv⟩ : ∃ v, cs0[0]? = some v := ⟨cs0[0]'(by omega), List.getElem?_eq_getElem _⟩
      have k0 := (hc 0 (by omega)).trans hv
      simpa [Addr.add] using World.cell?_spot k0
    subst hspot
    match cs', hcl, xs, hxl with
    | [v0, v1], _, [x0, x1], _ =>
      have g0 := hfs 0 f0 rfl
      have g1 := hfs 1 f1 rfl
      rw [t0, o0, cellsByte] at g0
      rw [t1, o1, cellsBytes] at g1
      obtain ⟨n0, e0, y0, w0⟩ := DataW.trod_int Tryd.underlying5 g0
      simp at e0
      subst e0
      have b0 := wf_u8 w0
      obtain ⟨q0, rfl⟩ := Int.eq_ofNat_of_zero_le b0.1
      obtain ⟨B, mm, kk, e1, hB, hmm⟩ := bytes_cell (v := v1) (by simpa using g1)
      subst e1
      have k0 := hc 0 (by omega)
      have k1 := hc 1 (by omega)
      rw [Addr.add_lit, Addr.add_lit] at k0 k1
      simp only [List.getElem?_cons_zero, List.getElem?_cons_succ, Nat.add_zero] at k0 k1
      exact ⟨g, off, q0, mm, kk, B, rfl, World.block_lt_of_cell? W _ k0, k0, by omega, k1, hB, hmm⟩

/-! ### A world for the witness -/
noncomputable def putRow (h : Array Obj) (g : Nat) (cs : Array Value) : Array Obj := h.modify g fun
  | .cells _ t frozen => .cells cs t frozen
  | o => o
def tabAcc : List Int := [128, 191, 160, 191, 128, 159, 144, 191, 128, 143, 0, 0, 0, 0, 0, 0, 0, 0, 0, 0, 0, 0, 0, 0, 0, 0, 0, 0, 0, 0, 0, 0]
noncomputable def laidWorld (os : Os) : World :=
  let w0 := World.holding Tryd.prog os ⟨#[], #[], []⟩
  { w0 with heap := putRow (putRow w0.heap 2 (tabAcc.map (Value.int .u8)).toArray) 1 (Pinned.utf8FirstZ.map fun (n : Nat) => Value.int .u8 (n : Int)).toArray }
theorem laid_met (os : Os) (args : Array Value) : laidMet Tryd.prog laid ((laidWorld os).forCall (fun _ _ => 0) ⟨#[], args, []⟩).memory :=
  laidMet_of_run' 8 (by kernel_rfl) (by kernel_rfl)
end Fd
end Go.Proofs.YtjnhhkiabdbenaaDoor
