/-
  The program's store: Names and Paths, where nothing is recorded.
-/
import Derived.Test.YtjmblgahoejoiaaGreatDoorPnames
import Derived.Test.YtjmblgahoejoiaaGreatDoorTup
namespace Go.Proofs.YtjmblgahoejoiaaGreatDoor
open Go.RowKit Go.Maps Go.Sort Go.Shelf Tx
namespace St

set_option maxRecDepth 100000 in
theorem names_none (g b n : Nat) (t : Tree) (p : ByteArray) (w : World) (h : PSto w g b n lvNone t) (ht : t.length ≤ 100000) (hp : p.size ≤ 1000000000000000) :
    Calls Tryz.prog 16 #[.pointer (some ⟨g, 0, none⟩), .string p] w fun e w' => ∃ v, e = .returned v ∧ Kept (Own.Es Value.string w' w.heap.size v (names t p)) ∧ Below w.heap.size w w' := by
  have H := Kept.mk h
  have c0 := h.c0
  have c1 := h.c1
  clear h
  go_enter Tryz.func16, Tryz.ntmps16
  go_wp2_with (go_at_call 35; refine (namesIn_any b n t p w H.out.own H.out.good ht hp).mono ?_; rintro e w' ⟨v, rfl, hv, hb⟩; have HB := Kept.mk hb; clear hb)
  go_ret
  exact ⟨v, rfl, hv, HB.out⟩

/-- What maps.Keys of the entries hands back, sorted. -/
theorem sortedKeys_any (b n : Nat) (t : Tree) (w : World) (hown : w.ownsMap Tryz.prog 9 entR b n (dat t)) (hs : Sorted t) (ht : t.length ≤ 1000000) :
    Calls Tryz.prog 40 #[.func (.func 63) #[] #[.pointer (some ⟨w.heap.size, 0, none⟩)]] (w.alloc (.cells #[.map (some b)] 56)) fun e w' =>
      ∃ v, e = .returned v ∧ Kept (Own.Es Value.string w' w.heap.size v (t.map (·.1))) ∧ Below w.heap.size w w' := by
  have hbl := hown.lt
  have hsz : Maps.size (dat t) = t.length := size_dat t
  refine (callsIn_wide (n := 5)).1 ?_
  have sorts : ∀ m, AnyZ.SortsIn Tryz.prog Tryz.sorted40_ren Fence.wide m := fun m =>
    ⟨fun blk off cap ss W hH hblk hsz => callsIn_wide.2 (AnyM.slices_Sort_string Tryz.sort56 blk off cap ss W hH hblk hsz),
     fun p cap W => callsIn_wide.2 (AnyM.slices_Sort_string_none Tryz.sort56 p cap W)⟩
  have hseq : SeqGives Fence.wide 2 Tryz.prog 63 #[.pointer (some ⟨w.heap.size, 0, none⟩)] encStr (fun ss => ss.Perm (strKeys (dat t))) (Maps.size (dat t)) (w.alloc (.cells #[.map (some b)] 56)) :=
    AnyZ.keys_gives (ρ := Tryz.keys42_ren) { Tryz.keys42 with } Fence.wide _ trivial rfl (by omega) w.heap.size b n (dat t) _ (by simp) (by simp) (by
      obtain ⟨es, clock, hb, Ft, hs, hD⟩ := hown
      exact ⟨es, clock, (Below.heap_alloc _ _ b hbl).trans hb, Ft, hs, hD⟩)
  refine (AnyZ.sorted_in Tryz.sorted40 Fence.wide 5 trivial trivial trivial trivial rfl (by omega) (sorts _) (enters_of Tryz.func56 (by kernel_rfl) rfl) 63 #[.pointer (some ⟨w.heap.size, 0, none⟩)] trivial (enters_of Tryz.func63 (by kernel_rfl) rfl) _ _ (by rw [hsz]; unfold maxLen; omega) (by omega) _ hseq).mono ?_
  rintro e w' ⟨v, ss, rfl, hS, hrow, -, hb⟩
  have hb1 : Below w.heap.size w w' := ((Below.refl _ _).alloc (Nat.le_refl _) _).trans (hb.mono (by simp))
  refine ⟨v, rfl, ⟨?_⟩, hb1⟩
  rw [keys_dat] at hS
  have hp : (t.map (·.1)).Pairwise lt := by rw [List.pairwise_map]; exact hs
  have e1 := sorted_unique (l := t.map (·.1)) hp (ss := ss) (by rw [List.map_map]; exact hS)
  have e2 : (t.map (·.1)).map Value.string = (ss.mergeSort fun x y => decide (x ≤ y)).map encStr := by
    rw [← e1, List.map_map]
    rfl
  rw [← e2] at hrow
  exact (Own.Es.of_own hrow).more (by simp)

theorem keys_any (b : Option Nat) (w : World) : Calls Tryz.prog 42 #[.map b] w fun e w' => e = .returned (.func (.func 63) #[] #[.pointer (some ⟨w.heap.size, 0, none⟩)]) ∧ w' = w.alloc (.cells #[.map b] 56) :=
  (callsIn_wide (n := 5)).1 (AnyZ.keys_in Tryz.keys42 Fence.wide 5 trivial rfl b w)

set_option maxRecDepth 100000 in
theorem paths_any (g b n : Nat) (lv : Value) (t : Tree) (w : World) (h : PSto w g b n lv t) (ht : t.length ≤ 100000) :
    Calls Tryz.prog 20 #[.pointer (some ⟨g, 0, none⟩)] w fun e w' => ∃ A k, e = .returned (.slice A t.length k) ∧ Kept (Tup.Rd w' A (t.map (·.1))) ∧ Below w.heap.size w w' := by
  have H := Kept.mk h
  have c0 := h.c0
  clear h
  go_enter Tryz.func20, Tryz.ntmps20
  go_wp2_with (first
    | (go_at_call 42; refine (keys_any _ _).mono ?_; rintro e w' ⟨rfl, rfl⟩)
    | (go_at_call 40
       refine (sortedKeys_any b n (all t) w H.out.own H.out.good.all (by show t.length + 1 ≤ _; omega)).mono ?_
       rintro e w2 ⟨v, rfl, hv, hb⟩
       have HB := Kept.mk hb
       have hl : ((all t).map (·.1)).length = t.length + 1 := by rw [List.length_map]; rfl
       obtain ⟨g2, cap, rfl, hg2, hat, hcap⟩ := hv.out.form (by omega)
       rw [hl] at hcap ⊢
       have z1 : ((t.length + 1 : Nat) : Int) = (t.length : Int) + 1 := by omega
       have HA := Kept.mk hat
       clear hb hv hat hl))
  · go_ret
    have h0 : t = [] := List.eq_nil_of_length_eq_zero (by omega)
    subst h0
    exact ⟨_, ⟨_, rfl⟩, ⟨Tup.Rd.nil _ _⟩, HB.out⟩
  · go_ret
    exact ⟨_, ⟨_, rfl⟩, ⟨Tup.Rd.of_at (HA.out.drop 1)⟩, HB.out⟩
end St
end Go.Proofs.YtjmblgahoejoiaaGreatDoor
