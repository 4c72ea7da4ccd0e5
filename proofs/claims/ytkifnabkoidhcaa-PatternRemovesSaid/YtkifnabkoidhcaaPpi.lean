/-
  The program's elements, the last one first.
-/
import Derived.Test.YtkifnabkoidhcaaPpg
namespace Go.Proofs.Ytkifnabkoidhcaa
open Go.RowKit Tx
namespace Pm

/-- The block g has these elements at its head. -/
structure Row3 (w : World) (g cap : Nat) (ts : List PT) : Prop where
  row : ∃ cur, w.heap[g]? = some (.cells cur 61 (0, 0)) ∧ cur.size = cap * 3 ∧ ∀ (i : Nat) (t : PT), ts[i]? = some t → cur[i * 3]? = some (.int .i64 t.k) ∧ cur[i * 3 + 1]? = some (.int .u8 t.v) ∧ cur[i * 3 + 2]? = some t.ptr
  le : ts.length ≤ cap
section
variable {w : World} {g cap : Nat} {ts : List PT}
theorem Row3.lt (h : Row3 w g cap ts) : g < w.heap.size := by obtain ⟨cur, h1, _⟩ := h.row; exact (Array.getElem?_eq_some_iff.1 h1).1
theorem Row3.cell (h : Row3 w g cap ts) {i : Nat} {t : PT} (hi : ts[i]? = some t) : w.cell? ⟨g, i * 3, none⟩ = some (.int .i64 t.k) ∧ w.cell? ⟨g, i * 3 + 1, none⟩ = some (.int .u8 t.v) ∧ w.cell? ⟨g, i * 3 + 2, none⟩ = some t.ptr := by
  obtain ⟨cur, h1, _, h3⟩ := h.row
  rw [cell_of_row _ _ _ _ _ _ h1, cell_of_row _ _ _ _ _ _ h1, cell_of_row _ _ _ _ _ _ h1]
  exact h3 i t hi
theorem Row3.free (h : Row3 w g cap ts) (i : Nat) : w.frozen? ⟨g, i, none⟩ = false := by obtain ⟨cur, h1, _⟩ := h.row; exact frozen_of_row _ _ _ _ _ h1
theorem Row3.put (h : Row3 w g cap ts) (i : Nat) (t : PT) : Row3 (((w.setCell ⟨g, i * 3, none⟩ (.int .i64 t.k)).setCell ⟨g, i * 3 + 1, none⟩ (.int .u8 t.v)).setCell ⟨g, i * 3 + 2, none⟩ t.ptr) g cap (ts.set i t) := by
  obtain ⟨cur, h1, h2, h3⟩ := h.row
  have a1 := heap_setCell_same w g (i * 3) _ _ (.int .i64 t.k) h1
  have a2 := heap_setCell_same _ g (i * 3 + 1) _ _ (.int .u8 t.v) a1
  have a3 := heap_setCell_same _ g (i * 3 + 2) _ _ t.ptr a2
  refine ⟨⟨_, a3, by simpa using h2, fun j x hx => ?_⟩, by rw [List.length_set]; exact h.le⟩
  rw [List.getElem?_set] at hx
  simp only [Array.getElem?_setIfInBounds, Array.size_setIfInBounds, h2]
  by_cases e : i = j
  · subst e
    have hle := h.le
    rw [if_pos rfl] at hx
    by_cases hi : i < ts.length
    · rw [if_pos hi] at hx
      injection hx with hx
      subst hx
      refine ⟨?_, ?_, ?_⟩
      · rw [if_neg (by omega), if_neg (by omega), if_pos rfl, if_pos (by omega)]
      · rw [if_neg (by omega), if_pos rfl, if_pos (by omega)]
      · rw [if_pos rfl, if_pos (by omega)]
    · rw [if_neg hi] at hx
      cases hx
  · rw [if_neg e] at hx
    obtain ⟨b1, b2, b3⟩ := h3 j x hx
    refine ⟨?_, ?_, ?_⟩
    · rw [if_neg (by omega), if_neg (by omega), if_neg (by omega)]; exact b1
    · rw [if_neg (by omega), if_neg (by omega), if_neg (by omega)]; exact b2
    · rw [if_neg (by omega), if_neg (by omega), if_neg (by omega)]; exact b3
theorem tcss_length (l : List PT) : (tcss l).length = l.length * 3 := by
  induction l with
  | nil => rfl
  | cons p t ih =>
    have : tcss (p :: t) = tcs p ++ tcss t := rfl
    rw [this, List.length_append, ih, List.length_cons, show (tcs p).length = 3 from rfl]; omega
theorem Row3.own (h : Row3 w g cap ts) {B : Nat} (hB : B ≤ g) (hm : cap ≤ maxLen) : w.ownsRow B 61 3 (.slice (some ⟨g, 0, none⟩) ts.length cap) ts.length (tcss ts) := by
  obtain ⟨cur, h1, h2, h3⟩ := h.row
  have hle := h.le
  refine ⟨tcss_length ts, .inr ⟨g, cap, cur, rfl, hB, h1, hle, hm, h2, ?_⟩⟩
  apply List.ext_getElem?
  intro j
  rcases Nat.lt_or_ge j (ts.length * 3) with hj | hj
  · rw [List.getElem?_take, if_pos hj, Array.getElem?_toList]
    have hi : j / 3 < ts.length := by omega
    obtain ⟨b1, b2, b3⟩ := h3 (j / 3) _ (List.getElem?_eq_getElem hi)
    obtain ⟨a1, a2, a3⟩ := tcss_at hi
    have hmod : j % 3 = 0 ∨ j % 3 = 1 ∨ j % 3 = 2 := by omega
    rcases hmod with e | e | e
    · rw [show j = j / 3 * 3 by omega, b1, a1]
    · rw [show j = j / 3 * 3 + 1 by omega, b2, a2]
    · rw [show j = j / 3 * 3 + 2 by omega, b3, a3]
  · rw [List.getElem?_eq_none (by rw [List.length_take]; omega), List.getElem?_eq_none (by rw [tcss_length]; exact hj)]
end
theorem ES.row3 {w : World} {B : Nat} {v : Value} {ts : List PT} {l : List PE} (h : ES w B v ts l) (h0 : 0 < ts.length) : ∃ g cap, v = .slice (some ⟨g, 0, none⟩) ts.length cap ∧ B ≤ g ∧ cap ≤ maxLen ∧ Row3 w g cap ts := by
  rcases h.own.2 with ⟨_, h1⟩ | ⟨g, cap, cur, rfl, hB, hg, hle, hm, hs, htake⟩
  · omega
  · refine ⟨g, cap, rfl, hB, hm, ⟨⟨cur, hg, hs, fun i t hi => ?_⟩, hle⟩⟩
    obtain ⟨hlt, rfl⟩ := List.getElem?_eq_some_iff.1 hi
    obtain ⟨a0, a1, a2⟩ := tcss_at hlt
    have hc : ∀ q u, (tcss ts)[q]? = some u → cur[q]? = some u := fun q u hu => by
      rw [← htake, List.getElem?_take] at hu
      split at hu
      · simpa using hu
      · cases hu
    exact ⟨hc _ _ a0, hc _ _ a1, hc _ _ a2⟩
set_option maxHeartbeats 4000000 in
set_option maxRecDepth 100000 in
theorem reve_any (w : World) (B : Nat) (v : Value) (ts : List PT) (l : List PE) (h : ES w B v ts l) (hl : l.length ≤ 2000) : Calls Try.prog 34 #[v] w fun e w' => e = .returned (.tuple #[]) ∧ ES w' B v ts.reverse l.reverse ∧ Below B w w' := by
  obtain ⟨A, k, hv⟩ := own_shape h.own
  subst hv
  have H := Kept.mk h
  have hlen := h.len
  by_cases h0 : ts.length = 0
  · have ht0 : ts = [] := List.eq_nil_of_length_eq_zero h0
    have hl0 : l = [] := List.eq_nil_of_length_eq_zero (by omega)
    subst ht0 hl0
    clear h hl h0 hlen
    go_enter Try.func34, Try.ntmps34
    go_wp2_with fail
    go_loopw [2, 3] (fun i j wr => i = .int .i64 0 ∧ j = .int .i64 (-1) ∧ wr = w) (fun _ _ _ => 0)
    case atStart => exact ⟨rfl, rfl, rfl⟩
    case round =>
      obtain ⟨rfl, rfl, rfl⟩ := hrel
      go_wp2_with fail
      go_end0
      exact ⟨rfl, H.out, Below.refl _ _⟩
  · obtain ⟨g, cap, hv, hBg, hcap, h3⟩ := h.row3 (by omega)
    injection hv with hv1 hv2 hv3
    subst hv1 hv3
    obtain ⟨n, hn⟩ : ∃ n, n = ts.length := ⟨_, rfl⟩
    rw [← hn] at h h0 hlen ⊢
    have HN := Kept.mk hn
    have HB := Kept.mk hBg
    have HC := Kept.mk hcap
    have H3 := Kept.mk h3
    have hn0 : (0 : Int) < (n : Int) := by omega
    have hn5 : (n : Int) ≤ 2000 := by omega
    have hw1 : IntKind.i64.wrap ((n : Int) - 1) = (n : Int) - 1 := IntWalk.i64_in _ (by omega)
    clear h hn hBg hcap h3 hlen
    go_enter Try.func34, Try.ntmps34
    go_wp2_with fail
    go_loopw [2, 3] (fun i j wr => ∃ (c d : Nat) (m : List PT), i = .int .i64 (c : Int) ∧ j = .int .i64 (d : Int) ∧ c + d + 1 = n ∧ Kept (Rv.R c ts m) ∧ Kept (Row3 wr g k m) ∧ Kept (Only (· = g) w wr)) (fun i _ _ => n - (intOf i).toNat)
    case atStart => exact ⟨0, n - 1, ts, rfl, by congr 1; omega, by omega, ⟨Rv.R.start ts⟩, H3, ⟨Only.refl _ _⟩⟩
    case round =>
      obtain ⟨c, d, m, rfl, rfl, hcd, HR, HM, HO⟩ := hrel
      have hml : m.length = n := by rw [HR.out.len]; exact HN.out.symm
      by_cases hlt : c < d
      · have hl2 : (c : Int) < (d : Int) := by omega
        have hc0 : (0 : Int) ≤ (c : Int) := by omega
        have hd0 : (0 : Int) ≤ (d : Int) := by omega
        have hcn : (c : Int) < (n : Int) := by omega
        have hdn : (d : Int) < (n : Int) := by omega
        have hwc : IntKind.i64.wrap ((c : Int) + 1) = (c : Int) + 1 := IntWalk.i64_in _ (by omega)
        have hwd : IntKind.i64.wrap ((d : Int) - 1) = (d : Int) - 1 := IntWalk.i64_in _ (by omega)
        obtain ⟨x, hx⟩ : ∃ x, m[d]? = some x := ⟨m[d]'(by omega), List.getElem?_eq_getElem (by omega)⟩
        obtain ⟨y, hy⟩ : ∃ y, m[c]? = some y := ⟨m[c]'(by omega), List.getElem?_eq_getElem (by omega)⟩
        obtain ⟨a0, a1, a2⟩ := HM.out.cell hy
        obtain ⟨b0, b1, b2⟩ := HM.out.cell hx
        have f0 := HM.out.free (c * 3)
        have f1 := HM.out.free (c * 3 + 1)
        have f2 := HM.out.free (c * 3 + 2)
        have f3 := HM.out.free (d * 3)
        have f4 := HM.out.free (d * 3 + 1)
        have f5 := HM.out.free (d * 3 + 2)
        have hdc : ts.length - 1 - c = d := by have := HN.out; omega
        have HR2 : Kept (Rv.R (c + 1) ts ((m.set c x).set d y)) := ⟨by
          have := HR.out.step (by have := HN.out; omega) x y (by rw [hdc]; exact hx) hy
          rwa [hdc] at this⟩
        have HM2 := Kept.mk ((HM.out.put c x).put d y)
        have HOx : ∀ (W : World) (z0 z1 z2 : Value) (i : Nat), Only (· = g) w W → Only (· = g) w (((W.setCell ⟨g, i, none⟩ z0).setCell ⟨g, i + 1, none⟩ z1).setCell ⟨g, i + 2, none⟩ z2) := fun W z0 z1 z2 i ho => ((ho.setCell ⟨g, i, none⟩ _ (fun _ => rfl)).setCell ⟨g, i + 1, none⟩ _ (fun _ => rfl)).setCell ⟨g, i + 2, none⟩ _ (fun _ => rfl)
        have HO2 := Kept.mk (HOx _ (.int .i64 y.k) (.int .u8 y.v) y.ptr (d * 3) (HOx _ (.int .i64 x.k) (.int .u8 x.v) x.ptr (c * 3) HO.out))
        obtain ⟨xk, xv, xp⟩ := x
        obtain ⟨yk, yv, yp⟩ := y
        dsimp only [PT.ptr] at a0 a1 a2 b0 b1 b2 HM2 HO2
        obtain ⟨P0, hP0⟩ : ∃ P0, P0 = xp.map (fun q : Nat => (⟨q, 0, none⟩ : Addr)) := ⟨_, rfl⟩
        obtain ⟨P1, hP1⟩ : ∃ P1, P1 = yp.map (fun q : Nat => (⟨q, 0, none⟩ : Addr)) := ⟨_, rfl⟩
        rw [← hP0] at b2 HM2 HO2
        rw [← hP1] at a2 HM2 HO2
        clear hdc hx hy hml HR HM HO HOx hP0 hP1
        go_wp2_with fail
        go_region
        all_goals
          go_wp2_with fail
          go_roundw
          case rel => exact ⟨c + 1, d - 1, _, by go_num, by congr 1; omega, by omega, HR2, ⟨⟨HM2.out.row, HM2.out.le⟩⟩, ⟨HO2.out.drew⟩⟩
          case measure => simp [intOf]; omega
      · have hl2 : ¬ (c : Int) < (d : Int) := by omega
        have HE : Kept (m = ts.reverse) := ⟨HR.out.done (by have := HN.out; omega)⟩
        clear hml
        go_wp2_with fail
        go_end0
        have hM := HM.out
        rw [HE.out] at hM
        have hown := hM.own HB.out HC.out
        rw [List.length_reverse, ← HN.out] at hown
        refine ⟨rfl, ⟨by rw [List.length_reverse, ← HN.out]; exact hown, by rw [List.length_reverse, List.length_reverse]; exact H.out.len, fun i e t he ht => ?_⟩, HO.out.toBelow (fun i hi e => by have e : i = g := e; have := HB.out; omega) (by have := H3.out.lt; have := HB.out; omega)⟩
        have hil : i < l.length := by
          rcases Nat.lt_or_ge i l.length with h1 | h1
          · exact h1
          · rw [List.getElem?_eq_none (by rw [List.length_reverse]; exact h1)] at he; cases he
        have hlen := H.out.len
        have hnt := HN.out
        rw [List.getElem?_reverse hil] at he
        rw [List.getElem?_reverse (by omega)] at ht
        have hE := H.out.ok (l.length - 1 - i) e t he (by rw [show l.length - 1 - i = ts.length - 1 - i by omega]; exact ht)
        refine hE.keep fun q f hq hs => HO.out.block q hs.lt ?_
        obtain ⟨cur, hr, _⟩ := H3.out.row
        exact hs.ne hr (by decide)
end Pm
end Go.Proofs.Ytkifnabkoidhcaa
