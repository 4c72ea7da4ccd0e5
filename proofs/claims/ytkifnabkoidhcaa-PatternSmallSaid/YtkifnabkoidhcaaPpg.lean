/-
  The program's text, backwards; its elements, the last one first.
-/
import Derived.Test.YtkifnabkoidhcaaPpf
import Derived.Test.YtkifnabkoidhcaaPph
namespace Go.Proofs.Ytkifnabkoidhcaa
open Go.RowKit Tx
namespace Pm

theorem byteTyB : By.Ty Try.prog 25 5 := ⟨Try.underlying25, Try.underlying5, by kernel_rfl⟩
/-- Two bytes were written. -/
theorem bs_swap {w : World} {B g n k c d : Nat} {m : List UInt8} {x y : UInt8} (h : By.Bs w B (.slice (some ⟨g, 0, none⟩) n k) m) (hc : c < m.length) (hd : d < m.length) (hcd : c ≠ d) :
    By.Bs ((w.setCell ⟨g, c, none⟩ (.int .u8 (x.toNat : Int))).setCell ⟨g, d, none⟩ (.int .u8 (y.toNat : Int))).drew B (.slice (some ⟨g, 0, none⟩) n k) ((m.set c x).set d y) := by
  rcases h with ⟨h0, _⟩ | ⟨g', cap, e, h1, h2, h3, h4, h5, h6⟩
  · cases h0
  · injection e with e1 e2 e3
    injection e1 with e1
    injection e1 with e1
    subst e1 e2 e3
    have one : ∀ (W : World) (i j : Nat) (u : Value), (W.cell? ⟨g, i, none⟩).isSome = true → (W.setCell ⟨g, i, none⟩ u).cell? ⟨g, j, none⟩ = if i = j then some u else W.cell? ⟨g, j, none⟩ := fun W i j u hs => by
      by_cases e : i = j
      · subst e
        obtain ⟨z, hz⟩ := Option.isSome_iff_exists.1 hs
        rw [if_pos rfl]
        exact World.cell?_setCell_same _ _ _ hz
      · rw [if_neg e]
        exact World.cell?_setCell_other _ _ _ _ (by simp [])
    have hcc := (h5 c (by omega)).1
    have hdd : ((w.setCell ⟨g, c, none⟩ (.int .u8 (x.toNat : Int))).cell? ⟨g, d, none⟩).isSome = true := by
      rw [one _ _ _ _ hcc, if_neg hcd]; exact (h5 d (by omega)).1
    refine .inr ⟨g, k, by rw [List.length_set, List.length_set], h1, ?_, by rw [List.length_set, List.length_set]; exact h3, h4, fun j hj => ⟨?_, ?_⟩, fun j u hu => ?_⟩
    · simp [World.setCell, World.drew]; exact h2
    · show (World.cell? _ _).isSome = true
      change (((w.setCell ⟨g, c, none⟩ (.int .u8 (x.toNat : Int))).setCell ⟨g, d, none⟩ (.int .u8 (y.toNat : Int))).cell? ⟨g, j, none⟩).isSome = true
      rw [one _ _ _ _ hdd, one _ _ _ _ hcc]
      split
      · rfl
      · split
        · rfl
        · exact (h5 j hj).1
    · change ((w.setCell ⟨g, c, none⟩ (.int .u8 (x.toNat : Int))).setCell ⟨g, d, none⟩ (.int .u8 (y.toNat : Int))).frozen? ⟨g, j, none⟩ = false
      rw [World.frozen?_setCell, World.frozen?_setCell]
      exact (h5 j hj).2
    · change ((w.setCell ⟨g, c, none⟩ (.int .u8 (x.toNat : Int))).setCell ⟨g, d, none⟩ (.int .u8 (y.toNat : Int))).cell? ⟨g, j, none⟩ = some u
      rw [one _ _ _ _ hdd, one _ _ _ _ hcc]
      unfold By.cells at hu
      rw [List.getElem?_map, List.getElem?_set, List.getElem?_set] at hu
      by_cases e1 : d = j
      · rw [if_pos e1]
        rw [if_pos e1, if_pos (by rw [List.length_set]; omega)] at hu
        exact hu
      · rw [if_neg e1]
        rw [if_neg e1] at hu
        by_cases e2 : c = j
        · rw [if_pos e2]
          rw [if_pos e2, if_pos (by omega)] at hu
          exact hu
        · rw [if_neg e2]
          rw [if_neg e2, ← List.getElem?_map] at hu
          exact h6 j u hu
set_option maxHeartbeats 2000000 in
set_option maxRecDepth 100000 in
theorem revb_any (w : World) (B : Nat) (v : Value) (l : List UInt8) (h : By.Bs w B v l) (hl : l.length ≤ 2000) : Calls Try.prog 43 #[v] w fun e w' => e = .returned (.tuple #[]) ∧ By.Bs w' B v l.reverse ∧ Below B w w' := by
  obtain ⟨A, k, hv⟩ := h.len
  subst hv
  have H := Kept.mk h
  by_cases h0 : l.length = 0
  · have hl0 : l = [] := List.eq_nil_of_length_eq_zero h0
    subst hl0
    clear h hl h0
    go_enter Try.func43, Try.ntmps43
    go_wp2_with fail
    go_loopw [2, 3] (fun i j wr => i = .int .i64 0 ∧ j = .int .i64 (-1) ∧ wr = w) (fun _ _ _ => 0)
    case atStart => exact ⟨rfl, rfl, rfl⟩
    case round =>
      obtain ⟨rfl, rfl, rfl⟩ := hrel
      go_wp2_with fail
      go_end0
      exact ⟨rfl, H.out, Below.refl _ _⟩
  · obtain ⟨g, hg⟩ : ∃ g, A = some ⟨g, 0, none⟩ := by
      rcases h with ⟨h1, _⟩ | ⟨g, cap, h1, _⟩
      · injection h1 with _ h1 _; exact absurd h1 h0
      · injection h1 with h1 _ _; exact ⟨g, h1⟩
    subst hg
    obtain ⟨n, hn⟩ : ∃ n, n = l.length := ⟨_, rfl⟩
    rw [← hn] at h h0 hl ⊢
    have H := Kept.mk h
    have HN := Kept.mk hn
    have hBg := (h.lt g rfl).1
    have HB := Kept.mk hBg
    have hn0 : (0 : Int) < (n : Int) := by omega
    have hn5 : (n : Int) ≤ 2000 := by omega
    have hw1 : IntKind.i64.wrap ((n : Int) - 1) = (n : Int) - 1 := IntWalk.i64_in _ (by omega)
    clear h hn hBg
    go_enter Try.func43, Try.ntmps43
    go_wp2_with fail
    go_loopw [2, 3] (fun i j wr => ∃ (c d : Nat) (m : List UInt8), i = .int .i64 (c : Int) ∧ j = .int .i64 (d : Int) ∧ c + d + 1 = n ∧ Kept (Rv.R c l m) ∧ Kept (By.Bs wr B (.slice (some ⟨g, 0, none⟩) n k) m) ∧ Kept (Below B w wr)) (fun i _ _ => n - (intOf i).toNat)
    case atStart => exact ⟨0, n - 1, l, rfl, by congr 1; omega, by omega, ⟨Rv.R.start l⟩, H, ⟨Below.refl _ _⟩⟩
    case round =>
      obtain ⟨c, d, m, rfl, rfl, hcd, HR, HM, HBl⟩ := hrel
      have hml : m.length = n := by rw [HR.out.len]; exact HN.out.symm
      by_cases hlt : c < d
      · have hl2 : (c : Int) < (d : Int) := by omega
        have hc0 : (0 : Int) ≤ (c : Int) := by omega
        have hd0 : (0 : Int) ≤ (d : Int) := by omega
        have hcn : (c : Int) < (n : Int) := by omega
        have hdn : (d : Int) < (n : Int) := by omega
        have hne : ¬ c = d := by omega
        have hne2 : ¬ d = c := by omega
        have hwc : IntKind.i64.wrap ((c : Int) + 1) = (c : Int) + 1 := IntWalk.i64_in _ (by omega)
        have hwd : IntKind.i64.wrap ((d : Int) - 1) = (d : Int) - 1 := IntWalk.i64_in _ (by omega)
        obtain ⟨x, hx⟩ : ∃ x, m[d]? = some x := ⟨m[d]'(by omega), List.getElem?_eq_getElem (by omega)⟩
        obtain ⟨y, hy⟩ : ∃ y, m[c]? = some y := ⟨m[c]'(by omega), List.getElem?_eq_getElem (by omega)⟩
        have hcell : ∀ (i : Nat) (z : UInt8), m[i]? = some z → i < n → wr.cell? ⟨g, i, none⟩ = some (.int .u8 (z.toNat : Int)) ∧ wr.frozen? ⟨g, i, none⟩ = false := fun i z hz hi => by
          rcases HM.out with ⟨h1, _⟩ | ⟨g', cap, e, h1, h2, h3, h4, h5, h6⟩
          · cases h1
          · injection e with e1 e2 e3
            injection e1 with e1
            injection e1 with e1
            subst e1
            exact ⟨h6 i _ (by unfold By.cells; rw [List.getElem?_map, hz]; rfl), (h5 i (by omega)).2⟩
        obtain ⟨cc, fc⟩ := hcell c y hy (by omega)
        obtain ⟨cd, fd⟩ := hcell d x hx (by omega)
        have hdc : l.length - 1 - c = d := by have := HN.out; omega
        have HR2 : Kept (Rv.R (c + 1) l ((m.set c x).set d y)) := ⟨by
          have := HR.out.step (by have := HN.out; omega) x y (by rw [hdc]; exact hx) hy
          rwa [hdc] at this⟩
        have HM2 : Kept (By.Bs ((wr.setCell ⟨g, c, none⟩ (.int .u8 (x.toNat : Int))).setCell ⟨g, d, none⟩ (.int .u8 (y.toNat : Int))).drew B (.slice (some ⟨g, 0, none⟩) n k) ((m.set c x).set d y)) := ⟨bs_swap HM.out (by omega) (by omega) hne⟩
        have HB2 : Kept (Below B w ((wr.setCell ⟨g, c, none⟩ (.int .u8 (x.toNat : Int))).setCell ⟨g, d, none⟩ (.int .u8 (y.toNat : Int))).drew) := ⟨((HBl.out.setCell (p := ⟨g, c, none⟩) HB.out _).setCell (p := ⟨g, d, none⟩) HB.out _).drew⟩
        clear hcell hdc hx hy hml HR HM HBl
        go_wp2_with fail
        go_region
        all_goals
          go_wp2_with fail
          go_roundw
          case rel => exact ⟨c + 1, d - 1, _, by go_num, by congr 1; omega, by omega, HR2, HM2, HB2⟩
          case measure => simp [intOf]; omega
      · have hl2 : ¬ (c : Int) < (d : Int) := by omega
        have HE : Kept (m = l.reverse) := ⟨HR.out.done (by have := HN.out; omega)⟩
        clear hml
        go_wp2_with fail
        go_end0
        exact ⟨rfl, by rw [← HE.out]; exact HM.out, HBl.out⟩
set_option maxHeartbeats 2000000 in
set_option maxRecDepth 100000 in
theorem backwards_any (w : World) (s : ByteArray) (hs : s.size ≤ 2000) : Calls Try.prog 35 #[.string s] w fun e w' => e = .returned (.string (bs (toL s).reverse)) ∧ Below w.heap.size w w' := by
  have HS := Kept.mk hs
  clear hs
  go_enter Try.func35, Try.ntmps35
  go_wp2_with (refine By.wpList_bytes byteTyB rfl 9 _ rfl Try.underlying9 s rfl (by unfold maxLen; have := HS.out; omega) ?_; intro v1 w1 h1 g1; have H1 := Kept.mk h1; have G1 := Kept.mk g1; clear h1 g1)
  refine (revb_any _ _ _ _ H1.out (show (toL s).length ≤ 2000 by rw [toL_length]; exact HS.out)).mono ?_
  rintro e w2 ⟨rfl, h2, b2⟩
  have H2 := Kept.mk h2
  have HB2 : Kept (Below w.heap.size w w2) := ⟨Below.trans ⟨G1.out.os, G1.out.tape, G1.out.output, G1.out.size, fun i hi => G1.out.block i hi (by simp)⟩ b2⟩
  clear h2 b2
  go_wp2_with (refine By.wpList_string byteTyB rfl 9 _ rfl Try.underlying9 rfl H2.out ?_)
  go_ret
  exact ⟨rfl, HB2.out⟩
end Pm
end Go.Proofs.Ytkifnabkoidhcaa
