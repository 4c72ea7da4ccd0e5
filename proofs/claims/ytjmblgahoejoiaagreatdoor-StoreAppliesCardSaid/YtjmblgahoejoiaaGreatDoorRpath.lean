/-
  The document's store: Paths, where nothing is recorded.
-/
import Derived.Test.YtjmblgahoejoiaaGreatDoorRsto
import Derived.Test.YtjmblgahoejoiaaGreatDoorDec
namespace Go.Proofs.YtjmblgahoejoiaaGreatDoor
open Go.RowKit Tx
namespace St

/-- What the pair at j shows in memory. -/
theorem RL.path {w : World} {q cap n : Nat} {t : Tree} (h : RL w (.slice (some ⟨q, 0, none⟩) n cap) t) {j : Nat} (hj : j < t.length) : w.cell? ⟨q, j * 4, none⟩ = some (.string t[j].1) :=
  h.pair hj 0 _ rfl

structure PathIn (w wr : World) (v : Value) (r : Nat) (lv : Value) (t : Tree) (j : Nat) : Prop where
  below : Below w.heap.size w wr
  es : Own.Es Value.string wr w.heap.size v ((t.map (·.1)).take j)
theorem paths_snoc (t : Tree) {j : Nat} (hj : j < t.length) : (t.map (·.1)).take j ++ [t[j].1] = (t.map (·.1)).take (j + 1) := by
  rw [List.take_succ_eq_append_getElem (by simpa using hj)]
  simp

set_option maxRecDepth 100000 in
theorem refPaths_any (r : Nat) (lv : Value) (t : Tree) (w : World) (h : RSto w r lv t) (ht : t.length ≤ 1000000) :
    Calls Tryz.prog 33 #[.pointer (some ⟨r, 0, none⟩)] w fun e w' => ∃ v, e = .returned v ∧ Kept (Own.Es Value.string w' w.heap.size v (t.map (·.1))) ∧ Below w.heap.size w w' := by
  have H := Kept.mk h
  clear h
  go_enter Tryz.func33, Tryz.ntmps33
  go_wp2
  go_loopw [3, 4] (fun v x wr => ∃ j : Nat, j ≤ t.length ∧ x = .int .i64 j ∧ Kept (PathIn w wr v r lv t j)) (fun _ x _ => t.length - (intOf x).toNat)
  case atStart => exact ⟨0, by omega, rfl, ⟨⟨Below.refl _ _, Own.Es.nil _ _ _⟩⟩⟩
  case round =>
    obtain ⟨j, hj, rfl, hD⟩ := hrel
    have HR := Kept.mk (H.out.below hD.out.below)
    have c0 := HR.out.c0
    have i0 : (0 : Int) ≤ j := by omega
    rcases HR.out.list with ⟨rfl, rfl⟩ | ⟨q, cap, rfl, hcap, -⟩
    · have i1 : ¬ (j : Int) < 0 := by omega
      have hj0 : j = 0 := by simpa using hj
      go_wp2
      go_ret
      exact ⟨_, rfl, ⟨by have := hD.out.es; simpa using this⟩, hD.out.below⟩
    · by_cases hlt : j < t.length
      · have i1 : (j : Int) < (t.length : Int) := by omega
        have c1 := HR.out.list.path hlt
        have HN : Kept (((t.map (·.1)).take j).length ≤ 1000000) := ⟨by rw [List.length_take]; simp; omega⟩
        have HT : Kept ((t.map (·.1)).take j ++ [t[j].1] = (t.map (·.1)).take (j + 1)) := ⟨paths_snoc t hlt⟩
        generalize t[j].1 = s at c1 HT
        go_wp2_with (at_builtin; refine Own.wpList_append1 Tup.strTy Tup.str_one rfl _ _ rfl rfl hD.out.es hD.out.below.size s _ rfl rfl (by have := HN.out; omega) (by have := HN.out; unfold maxLen; omega) ?_; intro v2 w2 hE2 hg2 _; have hE3 : Kept (PathIn w w2 v2 r (Value.slice (some ⟨q, 0, none⟩) t.length cap) t (j + 1)) := ⟨⟨hD.out.below.grown hg2 hD.out.below.size (fun k hk => (hD.out.es.lt k hk).1), by rw [HT.out] at hE2; exact hE2⟩⟩; clear hE2 hg2)
        go_roundw
        case rel => exact ⟨j + 1, by omega, by go_num, hE3⟩
        case measure => simp [intOf]; omega
      · have i1 : ¬ (j : Int) < (t.length : Int) := by omega
        go_wp2
        go_ret
        exact ⟨_, rfl, ⟨by have := hD.out.es; rwa [List.take_of_length_le (by simp; omega)] at this⟩, hD.out.below⟩
end St
end Go.Proofs.YtjmblgahoejoiaaGreatDoor
