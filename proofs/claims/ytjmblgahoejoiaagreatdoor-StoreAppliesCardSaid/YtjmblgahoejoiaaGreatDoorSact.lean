/-
  The laws' acts: which place, which entry.
-/
import Derived.Test.YtjmblgahoejoiaaGreatDoorPsto
import Derived.Test.YtjmblgahoejoiaaGreatDoorEnt
import Derived.StillTail
import Derived.StillTailTactics
namespace Go.Proofs.YtjmblgahoejoiaaGreatDoor
open Go.RowKit Tx
namespace St

/-- What is done: as an act reads. -/
structure Act where
  what : Nat
  path : Nat
  kind : Nat
  mode : Nat
  data : Nat
structure Act.ok (a : Act) : Prop where
  what : a.what < 256
  path : a.path < 256
  kind : a.kind < 256
  mode : a.mode < 256
  data : a.data < 256
def actV (a : Act) : Value := .agg #[.int .u8 a.what, .int .u8 a.path, .int .u8 a.kind, .int .u8 a.mode, .int .u8 a.data]
def places : List ByteArray := [⟨#[]⟩, ⟨#[47, 97]⟩, ⟨#[47, 98]⟩, ⟨#[47, 97, 47, 97]⟩, ⟨#[47, 97, 47, 98]⟩, ⟨#[47, 98, 47, 97]⟩, ⟨#[97]⟩, ⟨#[47, 97, 47, 97, 47, 97]⟩, ⟨#[47]⟩, ⟨#[47, 97, 98]⟩]
def place (n : Nat) : ByteArray := places.getD (n % 10) emp
def xyz : ByteArray := ⟨#[120, 121, 122]⟩
def entA (a : Act) : Ent := ⟨(a.kind % 4 : Nat), (a.mode % 8 : Nat), if a.kind % 4 = 1 ∨ a.kind % 4 = 3 then xyz.extract (a.data % 3) 3 else emp⟩
theorem place_small (n : Nat) : (place n).size ≤ 10 := by
  have : ∀ j : Fin 10, (places.getD j.val emp).size ≤ 10 := by decide +kernel
  exact this ⟨n % 10, Nat.mod_lt _ (by omega)⟩
theorem entA_small (a : Act) : (entA a).data.size ≤ 10 := by
  unfold entA
  simp only
  split
  · rw [ByteArray.size_extract]; simp [xyz]; omega
  · decide

theorem entA_valid (a : Act) (h : a.kind % 4 ≠ 0) : valid (entA a) := by
  unfold valid entA
  simp only
  refine ⟨?_, by omega, by omega⟩
  by_cases h1 : a.kind % 4 = 1
  · exact .inl (by omega)
  · by_cases h3 : a.kind % 4 = 3
    · exact .inr (.inl (by omega))
    · exact .inr (.inr ⟨by omega, by rw [if_neg (by omega)]⟩)
set_option maxRecDepth 100000 in
theorem path_any (n : Nat) (hn : n < 256) (w : World) :
    Calls Tryz.prog 12 #[.int .u8 n] w fun e w' => e = .returned (.string (place n)) ∧ Below w.heap.size w w' := by
  have q1 : IntKind.i64.wrap (n : Int) = (n : Int) := IntWalk.i64_in _ (by omega)
  have q2 : (n : Int).tmod 10 = ((n % 10 : Nat) : Int) := by rw [Int.tmod_eq_emod_of_nonneg (by omega)]; omega
  have hm : n % 10 < 10 := Nat.mod_lt _ (by omega)
  have hA := Own.At.fresh (c := Value.string) w _ 9 places rfl
  have hc := hA.cell (n % 10) (by simpa [places] using hm)
  rw [Nat.zero_add] at hc
  have hp : Kept (places[n % 10]'(by simpa [places] using hm) = place n) := ⟨by unfold place; rw [List.getD_eq_getElem?_getD, List.getElem?_eq_getElem (by simpa [places] using hm), Option.getD_some]⟩
  generalize places[n % 10]'(by simpa [places] using hm) = s at hc hp
  simp only [places, List.map_cons, List.map_nil, List.toArray] at hc
  have z0 : (0 : Int) ≤ ((n % 10 : Nat) : Int) := by omega
  have z1 : ((n % 10 : Nat) : Int) < 10 := by omega
  clear hA
  go_enter Tryz.func12, Tryz.ntmps12
  go_wp2
  go_ret
  exact ⟨by rw [← hp.out]; rfl, (Below.refl _ _).alloc (Nat.le_refl _) _⟩

theorem u8_i64 (n : Nat) (h : n < 256) : IntKind.i64.wrap (n : Int) = (n : Int) := IntWalk.i64_in _ (by omega)

theorem mid_block (w : World) (A B C : Obj) : (((w.alloc A).alloc B).alloc C).heap[w.heap.size + 1]? = some B := by
  rw [Below.heap_alloc _ _ _ (by simp)]
  have := heap_alloc_new (w.alloc A) B
  rwa [World.size_alloc] at this
theorem three_below (w : World) (A B C : Obj) : Below w.heap.size w (((w.alloc A).alloc B).alloc C) := (((Below.refl _ _).alloc (Nat.le_refl _) _).alloc (by simp) _).alloc (by simp; omega) _

set_option maxRecDepth 100000 in
theorem entry_act (a : Act) (ha : a.ok) (w : World) :
    Calls Tryz.prog 13 #[.agg #[.int .u8 a.what, .int .u8 a.path, .int .u8 a.kind, .int .u8 a.mode, .int .u8 a.data]] w fun e w' => e = .returned (entV (entA a)) ∧ Below w.heap.size w w' := by
  obtain ⟨wh, pa, kk, mm, dd⟩ := a
  have hk := ha.kind
  have hm := ha.mode
  have hd := ha.data
  simp only at hk hm hd ⊢
  have q1 := u8_i64 kk hk
  have q2 := u8_i64 mm hm
  have q3 := u8_i64 dd hd
  have z3 : (0 : Int) ≤ (dd : Int) % 3 := by omega
  have hsl : ∀ W : World, (Instr.slice 9 (.string ⟨#[120, 121, 122]⟩) (some (.int .i64 ((dd : Int) % 3))) none none).run Tryz.prog W = .ok (.string (xyz.extract (dd % 3) 3)) W := fun W => by
    rw [run_slice_string_from_if W 9 ⟨#[120, 121, 122]⟩ .i64 _ Tryz.underlying9, if_pos ⟨by omega, by show (dd : Int) % 3 ≤ 3; omega⟩, show ((dd : Int) % 3).toNat = dd % 3 by omega]
    rfl
  by_cases h1 : kk % 4 = 1
  · have b1 : (((kk : Int) % 4) == 1) = true := by rw [beq_iff_eq]; omega
    have HE : Kept (entV (entA ⟨wh, pa, kk, mm, dd⟩) = .agg #[.int .i64 ((kk : Int) % 4), .int .i64 ((mm : Int) % 8), .string (xyz.extract (dd % 3) 3)]) := ⟨by unfold entV entA; simp [h1]; omega⟩
    rw [HE.out]
    clear HE h1 ha
    go_enter Tryz.func13, Tryz.ntmps13
    go_wp2
    refine bodyPost_ret (results_cell_row rfl _ _ (w.heap.size + 1) _ _ (0, 0) _ rfl (mid_block w _ _ _) Tryz.underlying37 rfl (by kernel_rfl)) rfl ?_
    exact ⟨rfl, three_below w _ _ _⟩
  by_cases h3 : kk % 4 = 3
  · have b1 : (((kk : Int) % 4) == 1) = false := by rw [beq_eq_false_iff_ne]; omega
    have b3 : (((kk : Int) % 4) == 3) = true := by rw [beq_iff_eq]; omega
    have HE : Kept (entV (entA ⟨wh, pa, kk, mm, dd⟩) = .agg #[.int .i64 ((kk : Int) % 4), .int .i64 ((mm : Int) % 8), .string (xyz.extract (dd % 3) 3)]) := ⟨by unfold entV entA; simp [h3]; omega⟩
    rw [HE.out]
    clear HE h1 h3 ha
    go_enter Tryz.func13, Tryz.ntmps13
    go_wp2
    refine bodyPost_ret (results_cell_row rfl _ _ (w.heap.size + 1) _ _ (0, 0) _ rfl (mid_block w _ _ _) Tryz.underlying37 rfl (by kernel_rfl)) rfl ?_
    exact ⟨rfl, three_below w _ _ _⟩
  · have b1 : (((kk : Int) % 4) == 1) = false := by rw [beq_eq_false_iff_ne]; omega
    have b3 : (((kk : Int) % 4) == 3) = false := by rw [beq_eq_false_iff_ne]; omega
    have HE : Kept (entV (entA ⟨wh, pa, kk, mm, dd⟩) = .agg #[.int .i64 ((kk : Int) % 4), .int .i64 ((mm : Int) % 8), .string ⟨#[]⟩]) := ⟨by unfold entV entA; simp [h1, h3, emp]⟩
    rw [HE.out]
    clear HE h1 h3 ha
    go_enter Tryz.func13, Tryz.ntmps13
    go_wp2
    refine bodyPost_ret (results_cell_row rfl _ _ (w.heap.size + 1) _ _ (0, 0) _ rfl (mid_block w _ _ _) Tryz.underlying37 rfl (by kernel_rfl)) rfl ?_
    exact ⟨rfl, three_below w _ _ _⟩
end St
end Go.Proofs.YtjmblgahoejoiaaGreatDoor
