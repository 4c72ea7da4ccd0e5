/-
  A list of numbers that comes in, opened.
-/
import Derived.Test.YtmkpkmkhnphogaaGreatDoorJlaidM
import Derived.Test.YtmkpkmkhnphogaaGreatDoorJfullM
import Derived.OpenShut
import Derived.ChangeMaps5
import Derived.ChangeSame
import Derived.Deep.Slices
import Derived.SizedLaws
namespace Go.Proofs.YtmkpkmkhnphogaaGreatDoor
open Go.ChangeShapes Go.WideShapes Go.ChangeAt Go.RowKit Tx
namespace Jl

theorem cellsU16 : Tryz.prog.cellsOf 48 = 1 := by kernel_rfl
theorem bytesU16 : Tryz.prog.bytesOf 48 = 2 := by kernel_rfl
set_option maxRecDepth 100000 in
theorem open_u16s {H : Type} {enc : TypeId × Value → H} {W : World} {base : Nat} {ts : List TypeId} {ds : List (DataW H)} (hsz : (DataW.weightsEach Tryz.prog ts ds).all (· ≤ reachBytes) = true) {j : Nat} {v : Value} {d : DataW H} {p : List MemPlace}
    (ht : ts[j]? = some 57) (hd : ds[j]? = some d) (hv : Value.okWide Tryz.prog W .any base 57 v) (h : DataW.Trod enc Tryz.prog W 0 (fun _ => true) true 57 v d p) :
    ∃ A len cap, v = .slice A len cap ∧ Jr.U16s W A len ∧ len ≤ 140737488351232 := by
  obtain ⟨a0, len, cap, rfl⟩ := okWide_slice Tryz.underlying57 hv
  obtain ⟨fuel, hf⟩ := h
  rcases Go.Deep.open_slice Tryz.underlying57 hf with ⟨hcs, hx⟩ | ⟨a, len', cap', m, n, D, Pl, hcs, _, hl, hm, hmm, hx, hall⟩
  · simp [Value.cells] at hcs
    obtain ⟨rfl, rfl, rfl⟩ := hcs
    exact ⟨none, 0, 0, rfl, fun i hi => by omega, by omega⟩
  · simp [Value.cells] at hcs
    obtain ⟨rfl, rfl, rfl⟩ := hcs
    simp only [Prod.mk.injEq] at hx
    obtain ⟨rfl, rfl⟩ := hx
    have hs := sized_slice hsz ht hd Tryz.underlying57
    rw [bytesU16] at hs
    simp only [List.length_map, List.length_range, reachBytes] at hs
    have hlm : len ≤ m := by rw [hmm]; split <;> omega
    refine ⟨some a, len, cap, rfl, ?_, by omega⟩
    intro i hi
    have hspot : a.spot = none := by
      obtain ⟨cs0, h1, _⟩ := hall 0 (by omega)
      rw [cellsU16] at h1
      obtain ⟨_, _, hc⟩ := World.cells?_some h1
      obtain ⟨v, hv⟩ : ∃ v, cs0[0]? = some v := ⟨cs0[0]'(by omega), List.getElem?_eq_getElem _⟩
      have k0 := (hc 0 (by omega)).trans hv
      simpa [Addr.add] using World.cell?_spot k0
    obtain ⟨cs', h1, h2⟩ := hall i (by omega)
    rw [cellsU16] at h1
    obtain ⟨n0, e0, -, w0⟩ := DataW.trod_int Tryz.underlying48 h2
    try simp at e0
    subst e0
    have b0 := low_u16 w0
    obtain ⟨_, _, hc⟩ := World.cells?_some h1
    have k0 := hc 0 (by omega)
    simp only [List.getElem?_cons_zero] at k0
    obtain ⟨g, off, spot⟩ := a
    simp only at hspot
    subst hspot
    rw [Addr.add_lit, Addr.add_lit] at k0
    simp only [Nat.add_zero, Nat.mul_one] at k0
    obtain ⟨q0, rfl⟩ := Int.eq_ofNat_of_zero_le b0.1
    exact ⟨g, off, q0, rfl, World.block_lt_of_cell? W _ k0, k0, by omega⟩
end Jl
end Go.Proofs.YtmkpkmkhnphogaaGreatDoor
