/-
  The list of acts that comes in, opened.
-/
import Derived.Test.YticgecbgeahijaaPlays
import Derived.OpenShut
import Derived.ChangeMaps5
import Derived.ChangeSame
import Derived.Deep.Slices
import Derived.Deep.DeepHandedRow
import Derived.SizedLaws
namespace Go.Proofs.Yticgecbgeahijaa
open Go.ChangeShapes Go.WideShapes Go.ChangeAt Go.RowKit Tx
namespace Dv

theorem cellsAct : Try.prog.cellsOf 33 = 5 := by kernel_rfl
theorem cellsInt : Try.prog.cellsOf 3 = 1 := by kernel_rfl
theorem cellsU64 : Try.prog.cellsOf 31 = 1 := by kernel_rfl
theorem cellsText : Try.prog.cellsOf 9 = 1 := by kernel_rfl
theorem bytesAct : Try.prog.bytesOf 33 = 48 := by kernel_rfl
/-- An act's five fields. -/
theorem act_is : ∃ f0 f1 f2 f3 f4 : Field, Try.prog.underlying 33 = some (.struct #[f0, f1, f2, f3, f4]) ∧ f0.type = 3 ∧ f1.type = 3 ∧ f2.type = 3 ∧ f3.type = 9 ∧ f4.type = 31 ∧
    f0.offset = 0 ∧ f1.offset = 1 ∧ f2.offset = 2 ∧ f3.offset = 3 ∧ f4.offset = 4 :=
  ⟨_, _, _, _, _, Try.underlying33, rfl, rfl, rfl, rfl, rfl, rfl, rfl, rfl, rfl, rfl⟩

theorem wf_i64 {n : Int} (h : (Lit.int .i64 n).wf = true) : -9223372036854775808 ≤ n ∧ n ≤ 9223372036854775807 := by
  simp only [Lit.wf, Bool.and_eq_true, decide_eq_true_eq] at h
  have e0 : IntKind.i64.min = -9223372036854775808 := by decide
  have e1 : IntKind.i64.max = 9223372036854775807 := by decide
  rw [e0, e1] at h
  exact h
theorem wf_u64 {n : Int} (h : (Lit.int .u64 n).wf = true) : 0 ≤ n ∧ n < 18446744073709551616 := by
  simp only [Lit.wf, Bool.and_eq_true, decide_eq_true_eq] at h
  have e0 : IntKind.u64.min = 0 := by decide
  have e1 : IntKind.u64.max = 18446744073709551615 := by decide
  rw [e0, e1] at h
  omega

theorem open_acts {H : Type} {enc : TypeId × Value → H} {W : World} {base : Nat} {ts : List TypeId} {ds : List (DataW H)} (hsz : (DataW.weightsEach Try.prog ts ds).all (· ≤ reachBytes) = true) {j : Nat} {v : Value} {d : DataW H} {p : List MemPlace}
    (ht : ts[j]? = some 22) (hd : ds[j]? = some d) (hv : Value.okWide Try.prog W .any base 22 v) (h : DataW.Trod enc Try.prog W 0 (fun _ => true) true 22 v d p) :
    ∃ A len cap, v = .slice A len cap ∧ Acts W A len ∧ len ≤ 140737488351232 := by
  obtain ⟨a0, len, cap, rfl⟩ := okWide_slice Try.underlying22 hv
  obtain ⟨fuel, hf⟩ := h
  rcases Go.Deep.open_slice Try.underlying22 hf with ⟨hcs, hx⟩ | ⟨a, len', cap', m, n, D, Pl, hcs, _, hl, hm, hmm, hx, hall⟩
  · simp [Value.cells] at hcs
    obtain ⟨rfl, rfl, rfl⟩ := hcs
    exact ⟨none, 0, 0, rfl, fun i hi => by omega, by omega⟩
  · simp [Value.cells] at hcs
    obtain ⟨rfl, rfl, rfl⟩ := hcs
    simp only [Prod.mk.injEq] at hx
    obtain ⟨rfl, rfl⟩ := hx
    have hs := sized_slice hsz ht hd Try.underlying22
    rw [bytesAct] at hs
    simp only [List.length_map, List.length_range, reachBytes] at hs
    have hlm : len ≤ m := by rw [hmm]; split <;> omega
    refine ⟨some a, len, cap, rfl, ?_, by omega⟩
    intro i hi
    have hspot : a.spot = none := by
      obtain ⟨cs0, h1, _⟩ := hall 0 (by omega)
      rw [cellsAct] at h1
      obtain ⟨_, _, hc⟩ := World.cells?_some h1
      obtain ⟨v, hv⟩ : ∃ v, cs0[0]? = some v := ⟨cs0[0]'(by omega), List.getElem?_eq_getElem _⟩
      have k0 := (hc 0 (by omega)).trans hv
      simpa [Addr.add] using World.cell?_spot k0
    obtain ⟨cs', h1, h2⟩ := hall i (by omega)
    rw [cellsAct] at h1
    obtain ⟨f0, f1, f2, f3, f4, hu, t0, t1, t2, t3, t4, o0, o1, o2, o3, o4⟩ := act_is
    obtain ⟨xs, n', _, hxe, hcl, hxl, hfs⟩ := DataW.trod_struct hu h2
    rw [cellsAct] at hcl
    match cs', hcl, xs, hxl with
    | [v0, v1, v2, v3, v4], _, [x0, x1, x2, x3, x4], _ =>
      have g0 := hfs 0 f0 rfl
      have g1 := hfs 1 f1 rfl
      have g2 := hfs 2 f2 rfl
      have g3 := hfs 3 f3 rfl
      have g4 := hfs 4 f4 rfl
      rw [t0, o0, cellsInt] at g0
      rw [t1, o1, cellsInt] at g1
      rw [t2, o2, cellsInt] at g2
      rw [t3, o3, cellsText] at g3
      rw [t4, o4, cellsU64] at g4
      obtain ⟨n0, e0, -, w0⟩ := DataW.trod_int Try.underlying3 g0
      obtain ⟨n1, e1, -, w1⟩ := DataW.trod_int Try.underlying3 g1
      obtain ⟨n2, e2, -, w2⟩ := DataW.trod_int Try.underlying3 g2
      obtain ⟨s, e3, -, w3⟩ := DataW.trod_string Try.underlying9 g3
      obtain ⟨n4, e4, -, w4⟩ := DataW.trod_int Try.underlying31 g4
      simp at e0 e1 e2 e3 e4
      subst e0 e1 e2 e3 e4
      have b0 := wf_i64 w0
      have b1 := wf_i64 w1
      have b2 := wf_i64 w2
      have b4 := wf_u64 w4
      obtain ⟨_, _, hc⟩ := World.cells?_some h1
      obtain ⟨g, off, spot⟩ := a
      have k0 := hc 0 (by omega)
      simp only at hspot
      subst hspot
      have k1 := hc 1 (by omega)
      have k2 := hc 2 (by omega)
      have k3 := hc 3 (by omega)
      have k4 := hc 4 (by omega)
      rw [Addr.add_lit, Addr.add_lit] at k0 k1 k2 k3 k4
      simp only [List.getElem?_cons_zero, List.getElem?_cons_succ, Nat.add_zero] at k0 k1 k2 k3 k4
      obtain ⟨q, rfl⟩ := Int.eq_ofNat_of_zero_le b4.1
      refine ⟨g, off, n0, n1, n2, s, q, rfl, World.block_lt_of_cell? W _ k0, k0, k1, k2, k3, k4, b1.1, b1.2, b2.1, b2.2, by omega, b0.1, b0.2, ?_⟩
      unfold maxLen at w3
      omega
end Dv
end Go.Proofs.Yticgecbgeahijaa
