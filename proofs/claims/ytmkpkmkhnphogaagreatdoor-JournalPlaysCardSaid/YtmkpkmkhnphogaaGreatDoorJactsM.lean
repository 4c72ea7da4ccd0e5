/-
  The list of a journal's acts that comes in, opened.
-/
import Derived.Test.YtmkpkmkhnphogaaGreatDoorJlaidM
import Derived.Test.YtmkpkmkhnphogaaGreatDoorJplaysM
import Derived.OpenShut
import Derived.ChangeMaps5
import Derived.ChangeSame
import Derived.Deep.Slices
import Derived.SizedLaws
namespace Go.Proofs.YtmkpkmkhnphogaaGreatDoor
open Go.ChangeShapes Go.WideShapes Go.ChangeAt Go.RowKit Tx
namespace Jl

theorem cellsAct : Tryz.prog.cellsOf 29 = 4 := by kernel_rfl
theorem cellsU8 : Tryz.prog.cellsOf 5 = 1 := by kernel_rfl
theorem bytesAct : Tryz.prog.bytesOf 29 = 32 := by kernel_rfl
/-- An act's four fields. -/
theorem act_is : ∃ f0 f1 f2 f3 : Field, Tryz.prog.underlying 29 = some (.struct #[f0, f1, f2, f3]) ∧ f0.type = 5 ∧ f1.type = 5 ∧ f2.type = 9 ∧ f3.type = 27 ∧
    f0.offset = 0 ∧ f1.offset = 1 ∧ f2.offset = 2 ∧ f3.offset = 3 :=
  ⟨_, _, _, _, Tryz.underlying29, rfl, rfl, rfl, rfl, rfl, rfl, rfl, rfl⟩

set_option maxRecDepth 100000 in
theorem open_acts {H : Type} {enc : TypeId × Value → H} {W : World} {base : Nat} {ts : List TypeId} {ds : List (DataW H)} (hsz : (DataW.weightsEach Tryz.prog ts ds).all (· ≤ reachBytes) = true) {j : Nat} {v : Value} {d : DataW H} {p : List MemPlace}
    (ht : ts[j]? = some 22) (hd : ds[j]? = some d) (hv : Value.okWide Tryz.prog W .any base 22 v) (h : DataW.Trod enc Tryz.prog W 0 (fun _ => true) true 22 v d p) :
    ∃ A len cap, v = .slice A len cap ∧ Jr.Acts W A len ∧ len ≤ 140737488351232 := by
  obtain ⟨a0, len, cap, rfl⟩ := okWide_slice Tryz.underlying22 hv
  obtain ⟨fuel, hf⟩ := h
  rcases Go.Deep.open_slice Tryz.underlying22 hf with ⟨hcs, hx⟩ | ⟨a, len', cap', m, n, D, Pl, hcs, _, hl, hm, hmm, hx, hall⟩
  · simp [Value.cells] at hcs
    obtain ⟨rfl, rfl, rfl⟩ := hcs
    exact ⟨none, 0, 0, rfl, fun i hi => by omega, by omega⟩
  · simp [Value.cells] at hcs
    obtain ⟨rfl, rfl, rfl⟩ := hcs
    simp only [Prod.mk.injEq] at hx
    obtain ⟨rfl, rfl⟩ := hx
    have hs := sized_slice hsz ht hd Tryz.underlying22
    rw [bytesAct] at hs
    simp only [List.length_map, List.length_range, reachBytes] at hs
    have hlm : len ≤ m := by rw [hmm]; split <;> omega
    refine ⟨some a, len, cap, rfl, ?_, by omega⟩
    intro i hi
    have hspot : a.spot = none := by
      obtain ⟨cs0, h1, _⟩ := hall 0 (by omega)
      rw [cellsAct] at h1
      obtain ⟨_, _, hc⟩ := World.cells?_some h1
      obtain ⟨v, hv⟩ : ∃ v, cs0[0]? = some v := ⟨cs0[0]'(by omega), List.getElem?_eq_getElem _⟩
      have k0 := (hc 0 (by omega)).trans hv
      simpa [Addr.add] using World.cell?_spot k0
    obtain ⟨cs', h1, h2⟩ := hall i (by omega)
    rw [cellsAct] at h1
    obtain ⟨f0, f1, f2, f3, hu, t0, t1, t2, t3, o0, o1, o2, o3⟩ := act_is
    obtain ⟨xs, n', _, hxe, hcl, hxl, hfs⟩ := DataW.trod_struct hu h2
    rw [cellsAct] at hcl
    match cs', hcl, xs, hxl with
    | [v0, v1, v2, v3], _, [x0, x1, x2, x3], _ =>
      have g0 := hfs 0 f0 rfl
      have g1 := hfs 1 f1 rfl
      have g2 := hfs 2 f2 rfl
      have g3 := hfs 3 f3 rfl
      rw [t0, o0, cellsU8] at g0
      rw [t1, o1, cellsU8] at g1
      rw [t2, o2, cellsStr] at g2
      rw [t3, o3, cellsU64] at g3
      obtain ⟨n0, e0, -, w0⟩ := DataW.trod_int Tryz.underlying5 g0
      obtain ⟨n1, e1, -, w1⟩ := DataW.trod_int Tryz.underlying5 g1
      obtain ⟨s, e2, -, w2⟩ := DataW.trod_string Tryz.underlying9 g2
      obtain ⟨n3, e3, -, w3⟩ := DataW.trod_int Tryz.underlying27 g3
      simp at e0 e1 e2 e3
      subst e0 e1 e2 e3
      have b0 := low_u8 w0
      have b1 := low_u8 w1
      have b3 := low_u64 w3
      obtain ⟨_, _, hc⟩ := World.cells?_some h1
      obtain ⟨g, off, spot⟩ := a
      have k0 := hc 0 (by omega)
      simp only at hspot
      subst hspot
      have k1 := hc 1 (by omega)
      have k2 := hc 2 (by omega)
      have k3 := hc 3 (by omega)
      rw [Addr.add_lit, Addr.add_lit] at k0 k1 k2 k3
      simp only [List.getElem?_cons_zero, List.getElem?_cons_succ, Nat.add_zero] at k0 k1 k2 k3
      obtain ⟨q0, rfl⟩ := Int.eq_ofNat_of_zero_le b0.1
      obtain ⟨q1, rfl⟩ := Int.eq_ofNat_of_zero_le b1.1
      obtain ⟨q3, rfl⟩ := Int.eq_ofNat_of_zero_le b3.1
      refine ⟨g, off, q0, q1, s, q3, rfl, World.block_lt_of_cell? W _ k0, ⟨k0, k1, k2, k3, by omega, by omega, by omega, ?_⟩⟩
      unfold maxLen at w2
      omega
end Jl
end Go.Proofs.YtmkpkmkhnphogaaGreatDoor
