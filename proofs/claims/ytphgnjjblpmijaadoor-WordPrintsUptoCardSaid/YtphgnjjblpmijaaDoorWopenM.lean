/-
  A list of parts that comes in, opened.
-/
import Derived.Test.YtphgnjjblpmijaaDoorRows
import Derived.Test.YtphgnjjblpmijaaDoorWr4M
import Derived.OpenShut
import Derived.ChangeMaps5
import Derived.ChangeSame
import Derived.Deep.Slices
import Derived.Deep.DeepHandedRow
import Derived.SizedLaws
namespace Go.Proofs.YtphgnjjblpmijaaDoor
open Go.ChangeShapes Go.WideShapes Go.ChangeAt Go.RowKit Tx
namespace Wx

theorem cellsPart : Tryd.prog.cellsOf 39 = 6 := by kernel_rfl
theorem cellsInt : Tryd.prog.cellsOf 3 = 1 := by kernel_rfl
theorem cellsBool : Tryd.prog.cellsOf 4 = 1 := by kernel_rfl
theorem cellsText : Tryd.prog.cellsOf 9 = 1 := by kernel_rfl
theorem cellsParts : Tryd.prog.cellsOf 26 = 1 := by kernel_rfl
/-- A part's six fields. -/
theorem part_is : ∃ f0 f1 f2 f3 f4 f5 : Field, Tryd.prog.underlying 39 = some (.struct #[f0, f1, f2, f3, f4, f5]) ∧ f0.type = 3 ∧ f1.type = 4 ∧ f2.type = 9 ∧ f3.type = 9 ∧ f4.type = 9 ∧ f5.type = 26 ∧
    f0.offset = 0 ∧ f1.offset = 1 ∧ f2.offset = 2 ∧ f3.offset = 3 ∧ f4.offset = 4 ∧ f5.offset = 5 :=
  ⟨_, _, _, _, _, _, Tryd.underlying39, rfl, rfl, rfl, rfl, rfl, rfl, rfl, rfl, rfl, rfl, rfl, rfl⟩
theorem bulk_append {H : Type} (l r : List (DataW H)) : Rows.uptoBulkAll (l ++ r) = Rows.uptoBulkAll l + Rows.uptoBulkAll r := by
  induction l with
  | nil => simp [Rows.uptoBulkAll]
  | cons x l ih => simp only [List.cons_append, Rows.uptoBulkAll, ih]; omega
theorem bulk_part {H : Type} {d : DataW H} {l : List (DataW H)} (h : d ∈ l) : Rows.uptoBulk d ≤ Rows.uptoBulkAll l := by
  induction l with
  | nil => cases h
  | cons x r ih =>
    simp only [Rows.uptoBulkAll]
    cases List.mem_cons.1 h with
    | inl e => subst e; omega
    | inr e => have := ih e; omega
/-- Part by part. -/
theorem gather {H : Type} {P : Nat → Prop} {W : World} {g off n : Nat} {D : Nat → DataW H} (h : ∀ i, i < n → ∃ k q t nn o wd v, v.oneCell' = true ∧ LV P W v wd ∧ (∀ j u, (pvs k q t nn o v)[j]? = some u → W.cell? ⟨g, off + i * 6 + j, none⟩ = some u) ∧ wtP (.mk k q t nn o wd) ≤ Rows.uptoBulk (D i)) :
    ∀ m, m ≤ n → ∃ xs l, l.length = m ∧ Cs P W xs l ∧ (∀ j u, xs[j]? = some u → W.cell? ⟨g, off + j, none⟩ = some u) ∧ wt l ≤ Rows.uptoBulkAll ((List.range m).map D)
  | 0, _ => ⟨[], [], rfl, .nil, fun j u hu => by simp at hu, by rw [wt]; omega⟩
  | m + 1, hm => by
    obtain ⟨xs, l, hl, hc, hx, hw⟩ := gather h m (by omega)
    obtain ⟨k, q, t, nn, o, wd, v, hv, hwd, hcell, hb⟩ := h m (by omega)
    have h1 : Cs P W (pvs k q t nn o v) [.mk k q t nn o wd] := by
      have := Cs.cons k q t nn o wd v [] [] hv hwd .nil
      rwa [List.append_nil] at this
    refine ⟨xs ++ pvs k q t nn o v, l ++ [.mk k q t nn o wd], by simp [hl], hc.append h1, fun j u hu => ?_, ?_⟩
    · have hxl := hc.length
      rw [hl] at hxl
      by_cases hj : j < xs.length
      · rw [List.getElem?_append_left hj] at hu
        exact hx j u hu
      · rw [List.getElem?_append_right (by omega)] at hu
        have := hcell _ _ hu
        rwa [show off + m * 6 + (j - xs.length) = off + j by omega] at this
    · rw [wt_append, wt_one, List.range_succ, List.map_append, bulk_append]
      simp only [List.map_cons, List.map_nil, Rows.uptoBulkAll]
      omega
set_option maxRecDepth 100000 in
theorem open_list {H : Type} {enc : TypeId × Value → H} {W : World} (N : Nat) : ∀ (fuel : Nat) (cs : List Value) (d : DataW H) (p : List MemPlace), Rows.uptoBulk d = N → DataW.trod enc Tryd.prog W 0 (fun _ => true) true fuel 26 cs = some (d, p) →
    ∃ A n k l, cs = [.slice A n k] ∧ LV (fun _ => True) W (.slice A n k) l ∧ wt l ≤ Rows.uptoBulk d := by
  induction N using Nat.strongRecOn with
  | _ N ih =>
    intro fuel cs d p hN hf
    rcases Go.Deep.open_slice Tryd.underlying26 hf with ⟨hcs, hx⟩ | ⟨a, len, cap, m, n, D, Pl, hcs, _, hl, hm, hmm, hx, hall⟩
    · exact ⟨none, 0, 0, [], hcs, .nil _ _ (fun _ => rfl), by rw [wt]; omega⟩
    · simp only [Prod.mk.injEq] at hx
      obtain ⟨hx, _⟩ := hx
      have hlm : len ≤ m := by rw [hmm]; split <;> omega
      by_cases h0 : len = 0
      · subst h0
        exact ⟨some a, 0, cap, [], hcs, .nil _ _ (fun h => by cases h), by rw [wt]; omega⟩
      have hspot : a.spot = none := by
        obtain ⟨cs0, h1, _⟩ := hall 0 (by omega)
        rw [cellsPart] at h1
        obtain ⟨_, _, hc⟩ := World.cells?_some h1
        obtain ⟨v, hv⟩ : ∃ v, cs0[0]? = some v := ⟨cs0[0]'(by omega), List.getElem?_eq_getElem _⟩
        have k0 := (hc 0 (by omega)).trans hv
        simpa [Addr.add] using World.cell?_spot k0
      obtain ⟨g, off, spot⟩ := a
      simp only at hspot
      subst hspot
      have hbulk : ∀ i, i < len → Rows.uptoBulk (D i) < N := fun i hi => by
        have h1 : D i ∈ (List.range len).map D := List.mem_map.2 ⟨i, List.mem_range.2 hi, rfl⟩
        have h2 := bulk_part h1
        rw [← hN, hx]
        simp only [Rows.uptoBulk]
        omega
      have hpart : ∀ i, i < len → ∃ k q t nn o wd v, v.oneCell' = true ∧ LV (fun _ => True) W v wd ∧ (∀ j u, (pvs k q t nn o v)[j]? = some u → W.cell? ⟨g, off + i * 6 + j, none⟩ = some u) ∧ wtP (.mk k q t nn o wd) ≤ Rows.uptoBulk (D i) := by
        intro i hi
        obtain ⟨cs', h1, h2⟩ := hall i (by omega)
        rw [cellsPart] at h1
        obtain ⟨f0, f1, f2, f3, f4, f5, hu, t0, t1, t2, t3, t4, t5, o0, o1, o2, o3, o4, o5⟩ := part_is
        obtain ⟨xs, n', _, hxe, hcl, hxl, hfs⟩ := DataW.trod_struct hu h2
        rw [cellsPart] at hcl
        match cs', hcl, xs, hxl with
        | [v0, v1, v2, v3, v4, v5], _, [x0, x1, x2, x3, x4, x5], _ =>
          have g0 := hfs 0 f0 rfl
          have g1 := hfs 1 f1 rfl
          have g2 := hfs 2 f2 rfl
          have g3 := hfs 3 f3 rfl
          have g4 := hfs 4 f4 rfl
          have g5 := hfs 5 f5 rfl
          rw [t0, o0, cellsInt] at g0
          rw [t1, o1, cellsBool] at g1
          rw [t2, o2, cellsText] at g2
          rw [t3, o3, cellsText] at g3
          rw [t4, o4, cellsText] at g4
          rw [t5, o5, cellsParts] at g5
          obtain ⟨n0, e0, d0, w0⟩ := DataW.trod_int Tryd.underlying3 g0
          obtain ⟨b1, e1, d1⟩ := DataW.trod_bool Tryd.underlying4 g1
          obtain ⟨s2, e2, d2, w2⟩ := DataW.trod_string Tryd.underlying9 g2
          obtain ⟨s3, e3, d3, w3⟩ := DataW.trod_string Tryd.underlying9 g3
          obtain ⟨s4, e4, d4, w4⟩ := DataW.trod_string Tryd.underlying9 g4
          have hDi : D i = .agg ([x0, x1, x2, x3, x4, x5].map (·.1)) := congrArg Prod.fst hxe
          have hlt5 : Rows.uptoBulk x5.1 < N := by
            have h1 := hbulk i hi
            rw [hDi] at h1
            simp only [List.map_cons, List.map_nil, Rows.uptoBulk, Rows.uptoBulkAll] at h1
            omega
          obtain ⟨A5, n5, k5, l5, e5, hl5, hw5⟩ := ih _ hlt5 n' _ x5.1 x5.2 rfl (by simpa using g5)
          simp at e0 e1 e2 e3 e4 e5
          subst e0 e1 e2 e3 e4 e5
          obtain ⟨_, _, hc⟩ := World.cells?_some h1
          refine ⟨n0, b1, toL s2, toL s3, toL s4, l5, .slice A5 n5 k5, rfl, hl5, fun j u hu => ?_, ?_⟩
          · have hj : j < 6 := by
              have := (List.getElem?_eq_some_iff.1 hu).1
              exact this
            have k0 := hc j hj
            rw [Addr.add_lit, Addr.add_lit] at k0
            rw [k0]
            unfold pvs at hu
            rw [bs_toL, bs_toL, bs_toL] at hu
            exact hu
          · rw [hDi, d0, d1, d2, d3, d4, wtP]
            simp only [List.map_cons, List.map_nil, Rows.uptoBulk, Rows.uptoBulkAll]
            have q2 : (toL s2).length = s2.data.toList.length := rfl
            have q3 : (toL s3).length = s3.data.toList.length := rfl
            have q4 : (toL s4).length = s4.data.toList.length := rfl
            omega
      obtain ⟨xs, l, hll, hcs2, hcell, hw⟩ := gather hpart len (Nat.le_refl _)
      have hg : g < W.heap.size := by
        obtain ⟨k, q, t, nn, o, wd, v, _, _, hc, _⟩ := hpart 0 (by omega)
        exact World.block_lt_of_cell? W _ (hc 0 _ rfl)
      refine ⟨some ⟨g, off, none⟩, len, cap, l, hcs, .at g off len cap xs l hll hl trivial hg hcell hcs2, ?_⟩
      rw [hx]
      simp only [Rows.uptoBulk]
      omega
end Wx
end Go.Proofs.YtphgnjjblpmijaaDoor
