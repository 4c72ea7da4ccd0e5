/-
  The rows' conditions, opened: the library's tables, acts, entries, lists of texts; a world in which all lies so.
-/
import Derived.Test.YtjmblgahoejoiaaGreatDoorCards
import Derived.Test.YtjmblgahoejoiaaGreatDoorTie
import Derived.Test.YtjmblgahoejoiaaGreatDoorSacts
import Derived.Test.YtjmblgahoejoiaaGreatDoorLawPost
import Derived.OpenShut
import Derived.ChangeMaps5
import Derived.ChangeSame
import Derived.Deep.Slices
import Derived.Deep.DeepHandedRow
import Derived.Lib.LaidTab
import Derived.Stop.LaidErr
import Derived.SliceStrings
import Derived.SizedLaws
namespace Go.Proofs.YtjmblgahoejoiaaGreatDoor
open Go.ChangeShapes Go.WideShapes Go.ChangeAt Go.RowKit Tx
namespace St

theorem own : ownKnob Tryz.prog.godebug = none := by kernel_rfl
theorem laidOut : laidOutB Tryz.prog = true := by kernel_rfl
theorem gTab : Tryz.prog.globalNamed "internal/strconv.uint64pow10" = some 1 := by kernel_rfl
theorem gTabType : (Tryz.prog.globals[1]?).map (·.type) = some 158 := by kernel_rfl
theorem cellsTab : Tryz.prog.cellsOf 158 = 20 := by kernel_rfl
theorem cellsNum : Tryz.prog.cellsOf 136 = 1 := by kernel_rfl
theorem cellsStr : Tryz.prog.cellsOf 9 = 1 := by kernel_rfl
theorem cellsByte : Tryz.prog.cellsOf 5 = 1 := by kernel_rfl
theorem cellsInt : Tryz.prog.cellsOf 3 = 1 := by kernel_rfl
theorem cellsAct : Tryz.prog.cellsOf 34 = 5 := by kernel_rfl
theorem bytesAct : Tryz.prog.bytesOf 34 = 5 := by kernel_rfl

/-- What the rows list. -/
def laid : List (String × DataW Unit) := [("math/bits.deBruijn32tab", Rows.laid_math_bits_deBruijn32tab), ("math/bits.deBruijn64tab", Rows.laid_math_bits_deBruijn64tab), ("internal/strconv.uint64pow10", Rows.laid_internal_strconv_uint64pow10)]
/-- What the rows' conditions give. -/
theorem kit_of {W : World} (h : laidMetH Tryz.prog laid W) (hsh : W.ShapedOpen Tryz.prog) : Tup.Kit W := by
  have h1 : laidMet Tryz.prog laid W := h
  exact ⟨Lib.tabIs_of_head (zs := Lib.pow10Tab) gTab gTabType Tryz.underlying158 Tryz.underlying136 cellsNum cellsTab (laidMet.tail (laidMet.tail h1)), Tryz.laysM145.s1_3 W hsh⟩

theorem wf_u8 {n : Int} (h : (Lit.int .u8 n).wf = true) : 0 ≤ n ∧ n < 256 := by
  simp only [Lit.wf, Bool.and_eq_true, decide_eq_true_eq] at h
  have e0 : IntKind.u8.min = 0 := by decide
  have e1 : IntKind.u8.max = 255 := by decide
  rw [e0, e1] at h
  omega
theorem wf_i64 {n : Int} (h : (Lit.int .i64 n).wf = true) : -9223372036854775808 ≤ n ∧ n ≤ 9223372036854775807 := by
  simp only [Lit.wf, Bool.and_eq_true, decide_eq_true_eq] at h
  have e0 : IntKind.i64.min = -9223372036854775808 := by decide
  have e1 : IntKind.i64.max = 9223372036854775807 := by decide
  rw [e0, e1] at h
  exact h
/-- An act's five fields. -/
theorem act_is : ∃ f0 f1 f2 f3 f4 : Field, Tryz.prog.underlying 34 = some (.struct #[f0, f1, f2, f3, f4]) ∧ f0.type = 5 ∧ f1.type = 5 ∧ f2.type = 5 ∧ f3.type = 5 ∧ f4.type = 5 ∧
    f0.offset = 0 ∧ f1.offset = 1 ∧ f2.offset = 2 ∧ f3.offset = 3 ∧ f4.offset = 4 :=
  ⟨_, _, _, _, _, Tryz.underlying34, rfl, rfl, rfl, rfl, rfl, rfl, rfl, rfl, rfl, rfl⟩
set_option maxRecDepth 100000 in
/-- Five cells that read as an act. -/
theorem act_cells {H : Type} {enc : TypeId × Value → H} {W : World} {n base : Nat} {sp : Nat → Bool} {hd : Bool} {cs : List Value} {x : DataW H × List MemPlace} (h2 : DataW.trod enc Tryz.prog W base sp hd n 34 cs = some x) : ∃ a : Act, a.ok ∧ cs = [.int .u8 a.what, .int .u8 a.path, .int .u8 a.kind, .int .u8 a.mode, .int .u8 a.data] := by
  obtain ⟨f0, f1, f2, f3, f4, hu, t0, t1, t2, t3, t4, o0, o1, o2, o3, o4⟩ := act_is
  obtain ⟨xs, n', _, hxe, hcl, hxl, hfs⟩ := DataW.trod_struct hu h2
  rw [cellsAct] at hcl
  match cs, hcl, xs, hxl with
  | [v0, v1, v2, v3, v4], _, [x0, x1, x2, x3, x4], _ =>
    have g0 := hfs 0 f0 rfl
    have g1 := hfs 1 f1 rfl
    have g2 := hfs 2 f2 rfl
    have g3 := hfs 3 f3 rfl
    have g4 := hfs 4 f4 rfl
    rw [t0, o0, cellsByte] at g0
    rw [t1, o1, cellsByte] at g1
    rw [t2, o2, cellsByte] at g2
    rw [t3, o3, cellsByte] at g3
    rw [t4, o4, cellsByte] at g4
    obtain ⟨n0, e0, -, w0⟩ := DataW.trod_int Tryz.underlying5 g0
    obtain ⟨n1, e1, -, w1⟩ := DataW.trod_int Tryz.underlying5 g1
    obtain ⟨n2, e2, -, w2⟩ := DataW.trod_int Tryz.underlying5 g2
    obtain ⟨n3, e3, -, w3⟩ := DataW.trod_int Tryz.underlying5 g3
    obtain ⟨n4, e4, -, w4⟩ := DataW.trod_int Tryz.underlying5 g4
    simp at e0 e1 e2 e3 e4
    subst e0 e1 e2 e3 e4
    have b0 := wf_u8 w0
    have b1 := wf_u8 w1
    have b2 := wf_u8 w2
    have b3 := wf_u8 w3
    have b4 := wf_u8 w4
    obtain ⟨q0, rfl⟩ := Int.eq_ofNat_of_zero_le b0.1
    obtain ⟨q1, rfl⟩ := Int.eq_ofNat_of_zero_le b1.1
    obtain ⟨q2, rfl⟩ := Int.eq_ofNat_of_zero_le b2.1
    obtain ⟨q3, rfl⟩ := Int.eq_ofNat_of_zero_le b3.1
    obtain ⟨q4, rfl⟩ := Int.eq_ofNat_of_zero_le b4.1
    exact ⟨⟨q0, q1, q2, q3, q4⟩, ⟨by show q0 < 256; omega, by show q1 < 256; omega, by show q2 < 256; omega, by show q3 < 256; omega, by show q4 < 256; omega⟩, rfl⟩

set_option maxRecDepth 100000 in
/-- An act that comes in. -/
theorem open_act {H : Type} {enc : TypeId × Value → H} {W : World} {base : Nat} {v : Value} {d : DataW H} {p : List MemPlace} (hv : Value.okWide Tryz.prog W .any base 34 v) (h : DataW.Trod enc Tryz.prog W 0 (fun _ => true) true 34 v d p) :
    ∃ a : Act, v = .agg #[.int .u8 a.what, .int .u8 a.path, .int .u8 a.kind, .int .u8 a.mode, .int .u8 a.data] ∧ a.ok := by
  obtain ⟨cs, rfl, hcs⟩ := okWide_struct Tryz.underlying34 hv
  obtain ⟨fuel, hf⟩ := h
  obtain ⟨a, ha, he⟩ := act_cells hf
  refine ⟨a, ?_, ha⟩
  have e1 : cs.toList = _ := he
  rw [← Array.toArray_toList (xs := cs), e1]

set_option maxRecDepth 100000 in
/-- Acts that come in. -/
theorem open_acts {H : Type} {enc : TypeId × Value → H} {W : World} {base : Nat} {ts : List TypeId} {ds : List (DataW H)} (hsz : (DataW.weightsEach Tryz.prog ts ds).all (· ≤ reachBytes) = true) {j : Nat} {v : Value} {d : DataW H} {p : List MemPlace}
    (ht : ts[j]? = some 22) (hd : ds[j]? = some d) (hv : Value.okWide Tryz.prog W .any base 22 v) (h : DataW.Trod enc Tryz.prog W 0 (fun _ => true) true 22 v d p) :
    ∃ A len cap, v = .slice A len cap ∧ Acts W A len ∧ len ≤ 140737488355328 := by
  obtain ⟨a0, len, cap, rfl⟩ := okWide_slice Tryz.underlying22 hv
  obtain ⟨fuel, hf⟩ := h
  rcases Go.Deep.open_slice Tryz.underlying22 hf with ⟨hcs, hx⟩ | ⟨a, len', cap', m, n, D, Pl, hcs, _, hl, hm, hmm, hx, hall⟩
  · simp [Value.cells] at hcs
    obtain ⟨rfl, rfl, rfl⟩ := hcs
    exact ⟨none, 0, 0, rfl, fun i hi => by omega, by omega⟩
  · simp [Value.cells] at hcs
    obtain ⟨rfl, rfl, rfl⟩ := hcs
    simp only [Prod.mk.injEq] at hx
    obtain ⟨rfl, rfl⟩ := hx
    have hs := sized_slice hsz ht hd Tryz.underlying22
    rw [bytesAct] at hs
    simp only [List.length_map, List.length_range, reachBytes] at hs
    have hlm : len ≤ m := by rw [hmm]; split <;> omega
    refine ⟨some a, len, cap, rfl, ?_, by omega⟩
    intro i hi
    obtain ⟨cs', h1, h2⟩ := hall i (by omega)
    rw [cellsAct] at h1
    obtain ⟨a', ha', rfl⟩ := act_cells h2
    obtain ⟨_, _, hc⟩ := World.cells?_some h1
    obtain ⟨g, off, spot⟩ := a
    have hspot : spot = none := by
      obtain ⟨cs0, h1, _⟩ := hall 0 (by omega)
      rw [cellsAct] at h1
      obtain ⟨_, _, hc⟩ := World.cells?_some h1
      obtain ⟨v, hv⟩ : ∃ v, cs0[0]? = some v := ⟨cs0[0]'(by omega), List.getElem?_eq_getElem _⟩
      have k0 := (hc 0 (by omega)).trans hv
      simpa [Addr.add] using World.cell?_spot k0
    subst hspot
    have k0 := hc 0 (by omega)
    have k1 := hc 1 (by omega)
    have k2 := hc 2 (by omega)
    have k3 := hc 3 (by omega)
    have k4 := hc 4 (by omega)
    rw [Addr.add_lit, Addr.add_lit] at k0 k1 k2 k3 k4
    simp only [List.getElem?_cons_zero, List.getElem?_cons_succ, Nat.add_zero] at k0 k1 k2 k3 k4
    exact ⟨g, off, a', rfl, World.block_lt_of_cell? W _ k0, ha', k0, k1, k2, k3, k4⟩

/-! ### A world for the witness -/
noncomputable def put1 (h : Array Obj) (g : Nat) (cs : Array Value) : Array Obj := h.modify g fun
  | .cells _ t frozen => .cells cs t frozen
  | o => o
def tab32 : List Int := [0, 1, 28, 2, 29, 14, 24, 3, 30, 22, 20, 15, 25, 17, 4, 8, 31, 27, 13, 23, 21, 19, 16, 7, 26, 12, 18, 6, 11, 5, 10, 9]
def tab64 : List Int := [0, 1, 56, 2, 57, 49, 28, 3, 61, 58, 42, 50, 38, 29, 17, 4, 62, 47, 59, 36, 45, 43, 51, 22, 53, 39, 33, 30, 24, 18, 12, 5, 63, 55, 48, 27, 60, 41, 37, 16, 46, 35, 44, 21, 52, 32, 23, 11, 54, 26, 40, 15, 34, 20, 31, 10, 25, 14, 19, 9, 13, 8, 7, 6]
noncomputable def laidWorld (os : Os) : World :=
  let w0 := World.holding Tryz.prog os ⟨#[], #[], []⟩
  { w0 with heap := put1 (put1 (put1 w0.heap 2 (tab32.map (Value.int .u8)).toArray) 3 (tab64.map (Value.int .u8)).toArray) 1 (Lib.pow10Tab.map (Value.int .u64)).toArray }
theorem laid_met (os : Os) (args : Array Value) : laidMet Tryz.prog laid ((laidWorld os).forCall (fun _ _ => 0) ⟨#[], args, []⟩).memory :=
  laidMet_of_run' 8 (by kernel_rfl) (by kernel_rfl)
end St
end Go.Proofs.YtjmblgahoejoiaaGreatDoor
