/-
  The document's parts of a text.
-/
import Derived.Test.YtphgnjjblpmijaaDoorWrcM
import Derived.Test.YtphgnjjblpmijaaDoorGx
namespace Go.Proofs.YtphgnjjblpmijaaDoor
open Go.RowKit Tx
namespace Wx
open Lx

section
variable {w : List UInt8 → Except Int (List Pt)} {r : List UInt8} {k : Nat}
theorem step1_none {c : UInt8} (hc : c = 92 ∨ c = 39 ∨ c = 34) (h : unit 30 0 (c :: r) = none) : step1 w (c :: r) = .error 90 := by rw [step1, if_pos hc, h]
theorem step1_92 (h : unit 30 0 (92 :: r) = some k) : step1 w (92 :: r) = .ok ([txt true (r.take 1)], k) ∧ k = 2 := by
  refine ⟨by rw [step1, if_pos (.inl rfl), h]; rfl, ?_⟩
  rw [unit_step 29, if_pos rfl] at h
  split at h
  · cases h
  · exact (Option.some.inj h).symm
theorem step1_39 (h : unit 30 0 (39 :: r) = some k) : step1 w (39 :: r) = .ok ([txt true (r.take (k - 2))], k) ∧ 2 ≤ k := by
  refine ⟨by rw [step1, if_pos (.inr (.inl rfl)), h]; rfl, ?_⟩
  rw [unit_step 29, if_neg (by decide), if_pos ⟨rfl, by decide⟩] at h
  obtain ⟨j, hj, rfl⟩ := Option.map_eq_some_iff.1 h
  have := quoted_le hj
  omega
theorem step1_34 (h : unit 30 0 (34 :: r) = some k) : step1 w (34 :: r) = (double w (r.take (k - 2))).map (fun l => (l, k)) ∧ 2 ≤ k := by
  refine ⟨by rw [step1, if_pos (.inr (.inr rfl)), h]; rfl, ?_⟩
  rw [unit_dq 29] at h
  obtain ⟨j, hj, rfl⟩ := Option.map_eq_some_iff.1 h
  have := nest_le hj
  omega
theorem step1_36 : step1 w (36 :: r) = (dollar w false (36 :: r)).map (fun x => ([x.1], x.2)) := by rw [step1, if_neg (by decide), if_pos rfl]
theorem step1_else {c : UInt8} (h1 : c ≠ 92) (h2 : c ≠ 39) (h3 : c ≠ 34) (h4 : c ≠ 36) : step1 w (c :: r) = .ok ([txt false [c]], 1) := by rw [step1, if_neg (fun h => h.elim h1 (fun h => h.elim h2 h3)), if_neg h4]
end
theorem BoxM.setT {w w1 : World} {kk : Int} {q : Bool} {t n o : ByteArray} {v : Value} (h : BoxM w w1 #[.int .i64 kk, .bool q, .string t, .string n, .string o, v]) (x : ByteArray) : BoxM w (w1.setCell ⟨w.heap.size, 2, none⟩ (.string x)) #[.int .i64 kk, .bool q, .string x, .string n, .string o, v] :=
  ⟨by have := heap_setCell_same w1 w.heap.size 2 _ _ (.string x) h.r; simpa using this, h.bl.setCell (Nat.le_refl _) _⟩
theorem wt_took (l : List Pt) (j : Nat) : wt (l.take j) ≤ wt l := by
  have := wt_append (l.take j) (l.drop j)
  rw [List.take_append_drop] at this
  omega
theorem foldl_take {l : List Pt} {j : Nat} (hj : j < l.length) (acc : List Pt) : (l.take (j + 1)).foldl add acc = add ((l.take j).foldl add acc) l[j] := by
  rw [List.take_succ_eq_append_getElem hj, List.foldl_append, List.foldl_cons, List.foldl_nil]
set_option maxHeartbeats 16000000 in
set_option maxRecDepth 100000 in
theorem parts_next (d : Nat) (HP : Kept (PartsC d)) : PartsC (d + 1) := by
  intro n s w mn hn hmn hs
  subst hmn
  have HN : Kept (n + d = 30) := ⟨by omega⟩
  have n1 : (n : Int) ≤ 30 := by omega
  have HS := Kept.mk hs
  clear hn
  go_enter Tryd.func18, Tryd.ntmps18
  go_wp2_with fail
  go_loopw [0, 6] (fun sv v wr => ∃ (x : ByteArray) (acc : List Pt), sv = .string x ∧ Kept (LV (Nw w.heap.size) wr v acc) ∧ Kept (partsOn (parts d) (toL s) [] = partsOn (parts d) (toL x) acc ∧ wt acc + 2 * x.size ≤ 10000) ∧ Kept (Below w.heap.size w wr)) (fun sv _ _ => szOf sv)
  case atStart => exact ⟨s, [], rfl, ⟨.nil _ _ (fun _ => rfl)⟩, ⟨⟨rfl, by rw [wt_nil]; omega⟩⟩, ⟨Below.refl _ _⟩⟩
  case round =>
    obtain ⟨x, acc, rfl, HA, HD, HB⟩ := hrel
    obtain ⟨Aa, ka, hva⟩ := HA.out.slice
    subst hva
    generalize hal : acc.length = al at *
    have HAl := Kept.mk hal
    clear hal
    have hx5 : x.size ≤ 5000 := by have := HD.out.2; omega
    by_cases hx0 : 0 < x.size
    · have zx : (0 : Int) < x.size := by omega
      have z1 : (1 : Int) ≤ x.size := by omega
      have HX0 := Kept.mk (cons_at hx0)
      obtain ⟨x1, hx1⟩ : ∃ x1, x1 = bs [x[0]'hx0] := ⟨_, rfl⟩
      have hsl1 : ∀ W : World, (Instr.slice 9 (.string x) none (some (.int .i64 1)) none).run Tryd.prog W = .ok (.string x1) W := fun W => by
        rw [run_slice_string_to_if W 9 x .i64 _ Tryd.underlying9, if_pos ⟨by omega, by omega⟩, hx1]
        exact congrArg (fun b => Result.ok (Value.string b) W) (one_ext x 0 hx0)
      have HX1 := Kept.mk hx1
      clear hx1
      have HU : Kept (unitAt 30 0 (toL x) 0 = unit 30 0 (toL x)) := ⟨by unfold unitAt; rw [List.drop_zero]; cases unit 30 0 (toL x) <;> simp⟩
      have HSk : Kept (∀ W, Calls Tryd.prog 24 #[.string x, .int .i64 0, .int .i64 1] W fun e w' => e = .returned (.int .i64 (ansN (unit 30 0 (toL x)))) ∧ w' = W) := ⟨fun W => by
        rw [← HU.out]
        exact (both_any 30).1 1 0 x W 1 0 (by omega) rfl rfl hx0 (by omega)⟩
      have HBx := Kept.mk (BoxM.begin wr #[.int .i64 0, .bool false, .string x1, .string ⟨#[]⟩, .string ⟨#[]⟩, .slice none 0 0])
      clear HU
      by_cases h92 : x[0]'hx0 = 92
      · have y92 : (((x[0]'hx0).toNat : Nat) : Int) = 92 := nat_byte (k := 92) h92 (by omega)
        rw [h92] at HX0
        cases hun : unit 30 0 (toL x) with
        | none =>
          rw [hun] at HSk
          clear h92
          have HBr : Kept (parts (d + 1) (toL s) = .error 90) := ⟨by
            rw [parts_is, HD.out.1]
            have h0 := HX0.out
            rw [h0] at hun ⊢
            exact partsOn_bad (step1_none (.inl rfl) hun)⟩
          clear hun
          go_wp2_with (go_at_call 24; refine (HSk.out _).mono ?_; rintro e w3 ⟨rfl, rfl⟩; dsimp only [ansN])
          go_ret2
          rw [HBr.out]
          exact ⟨rfl, by decide, HB.out.trans (HBx.out.bl.mono HB.out.size)⟩

        | some k =>
          rw [hun] at HSk
          have hun2 := hun
          rw [HX0.out] at hun2
          obtain ⟨hs1, hk2⟩ := step1_92 (w := parts d) hun2
          subst hk2
          have hst : step1 (parts d) (toL x) = .ok ([txt true (((toL x).drop 1).take 1)], 2) := by
            have h0 := HX0.out
            generalize (toL x).drop 1 = r at *
            rw [h0]; exact hs1
          clear hs1 hun2 hun h92
          have hk := step1_le hst
          rw [toL_length] at hk
          have hwp := step1_wt (parts_wt d) hst
          have hwa := wt_foldl [txt true (((toL x).drop 1).take 1)] acc
          have HN2 : Kept (partsOn (parts d) (toL s) [] = partsOn (parts d) (toL (x.extract 2 x.size)) (([txt true (((toL x).drop 1).take 1)]).foldl add acc) ∧ wt (([txt true (((toL x).drop 1).take 1)]).foldl add acc) + 2 * (x.extract 2 x.size).size ≤ 10000) := ⟨⟨by
            rw [HD.out.1, toL_rest]
            rw [HX0.out] at hst ⊢
            exact partsOn_go hst, by rw [size_rest]; have := HD.out.2; omega⟩⟩
          have hms : (x.extract 2 x.size).size < x.size := by rw [size_rest]; omega
          have HSa : Kept (wt acc + wtP (txt true (((toL x).drop 1).take 1)) ≤ 100000) := ⟨by rw [wt_one] at hwp; have := HD.out.2; omega⟩

          obtain ⟨Y, hY⟩ : ∃ Y, Y = x.extract 1 2 := ⟨_, rfl⟩
          have HYl : Kept (bs (((toL x).drop 1).take 1) = Y) := ⟨by rw [← bs_toL Y, hY, toL_extract]⟩
          have hsl2 : ∀ W : World, (Instr.slice 9 (.string x) (some (.int .i64 1)) (some (.int .i64 2)) none).run Tryd.prog W = .ok (.string Y) W := fun W => by
            rw [run_slice_string_if W 9 x .i64 .i64 _ _ Tryd.underlying9, if_pos ⟨by omega, by omega⟩, if_pos ⟨by omega, by omega⟩, hY]; rfl
          obtain ⟨Y0, hY0⟩ : ∃ Y0, Y0 = x.extract 1 1 := ⟨_, rfl⟩
          have hsl3 : ∀ W : World, (Instr.slice 9 (.string x) (some (.int .i64 1)) (some (.int .i64 1)) none).run Tryd.prog W = .ok (.string Y0) W := fun W => by
            rw [run_slice_string_if W 9 x .i64 .i64 _ _ Tryd.underlying9, if_pos ⟨by omega, by omega⟩, if_pos ⟨by omega, by omega⟩, hY0]; rfl
          generalize ((toL x).drop 1).take 1 = t5 at *
          rw [← HYl.out] at hsl2
          clear hst hwp hwa hY hY0
          have HB6 := Kept.mk (HBx.out.row #[.int .i64 0, .bool true, .string Y0, .string ⟨#[]⟩, .string ⟨#[]⟩, .slice none 0 0])
          have c2 := cell_of_row _ _ 2 _ _ _ HB6.out.r
          have f2 := frozen_of_row _ _ 2 _ _ HB6.out.r
          have HB7 := Kept.mk (HB6.out.setT (bs t5))
          have HNw : ∀ W, LV (Nw w.heap.size) W (.slice none 0 0) [] := fun W => .nil _ _ (fun _ => rfl)
          have HNw := Kept.mk HNw
          go_wp2_with (first
            | (go_at_call 24; refine (HSk.out _).mono ?_; rintro e w3 ⟨rfl, rfl⟩; dsimp only [ansN])
            | (refine wpList_store_row rfl 39 _ _ rfl _ _ rfl rfl 39 _ HBx.out.r (by kernel_rfl) rfl (by simp [Value.oneCell']) ?_)
            | (refine wpList_load_row rfl 39 _ rfl wr.heap.size rfl 39 #[.int .i64 0, .bool true, .string (bs t5), .string ⟨#[]⟩, .string ⟨#[]⟩, .slice none 0 0] (0, 0) _ HB7.out.r Tryd.underlying39 rfl (by kernel_rfl) ?_))
          go_at_call 26
          refine (add_any acc _ 0 true t5 [] [] [] rfl (.slice none 0 0) Aa al ka _ (HA.out.keep HB7.out.bl) HSa.out rfl (HNw.out _)).mono ?_
          rintro e w8 ⟨v8, rfl, h8, hb8⟩
          have HA8 : Kept (LV (Nw w.heap.size) w8 v8 (add acc (.mk 0 true t5 [] [] []))) := ⟨h8.out.up2 (Nat.le_refl _) (by have h1 := HB7.out.bl.size; have h2 := HB.out.size; omega)⟩
          have HB8 : Kept (Below w.heap.size w w8) := ⟨HB.out.trans ((HB7.out.bl.trans (hb8.mono HB7.out.bl.size)).mono HB.out.size)⟩
          clear h8 hb8
          go_wp2_with fail

          go_roundw
          case rel => exact ⟨_, _, rfl, HA8, HN2, HB8⟩
          case measure => simp only [szOf]; omega

      have y92 : ((((x[0]'hx0).toNat : Nat) : Int) == 92) = false := nat_nbyte (k := 92) h92 (by omega)
      by_cases h39 : x[0]'hx0 = 39
      · have y39 : (((x[0]'hx0).toNat : Nat) : Int) = 39 := nat_byte (k := 39) h39 (by omega)
        rw [h39] at HX0
        clear h92
        cases hun : unit 30 0 (toL x) with
        | none =>
          rw [hun] at HSk
          clear h39
          have HBr : Kept (parts (d + 1) (toL s) = .error 90) := ⟨by
            rw [parts_is, HD.out.1]
            have h0 := HX0.out
            rw [h0] at hun ⊢
            exact partsOn_bad (step1_none (.inr (.inl rfl)) hun)⟩
          clear hun
          go_wp2_with (go_at_call 24; refine (HSk.out _).mono ?_; rintro e w3 ⟨rfl, rfl⟩; dsimp only [ansN])
          go_ret2
          rw [HBr.out]
          exact ⟨rfl, by decide, HB.out.trans (HBx.out.bl.mono HB.out.size)⟩

        | some k =>
          rw [hun] at HSk
          have hun2 := hun
          rw [HX0.out] at hun2
          obtain ⟨hs1, hk2⟩ := step1_39 (w := parts d) hun2
          have hst : step1 (parts d) (toL x) = .ok ([txt true (((toL x).drop 1).take (k - 2))], k) := by
            have h0 := HX0.out
            generalize (toL x).drop 1 = r at *
            rw [h0]; exact hs1
          clear hs1 hun2 hun h39
          have hk := step1_le hst
          rw [toL_length] at hk
          have hwp := step1_wt (parts_wt d) hst
          have hwa := wt_foldl [txt true (((toL x).drop 1).take (k - 2))] acc
          have HN2 : Kept (partsOn (parts d) (toL s) [] = partsOn (parts d) (toL (x.extract k x.size)) (([txt true (((toL x).drop 1).take (k - 2))]).foldl add acc) ∧ wt (([txt true (((toL x).drop 1).take (k - 2))]).foldl add acc) + 2 * (x.extract k x.size).size ≤ 10000) := ⟨⟨by
            rw [HD.out.1, toL_rest]
            rw [HX0.out] at hst ⊢
            exact partsOn_go hst, by rw [size_rest]; have := HD.out.2; omega⟩⟩
          have hms : (x.extract k x.size).size < x.size := by rw [size_rest]; omega
          have HSa : Kept (wt acc + wtP (txt true (((toL x).drop 1).take (k - 2))) ≤ 100000) := ⟨by rw [wt_one] at hwp; have := HD.out.2; omega⟩

          have kb : (k : Int) ≤ 5000 := by omega
          have k0 : (0 : Int) ≤ k := by omega
          obtain ⟨Y, hY⟩ : ∃ Y, Y = x.extract 1 (k - 1) := ⟨_, rfl⟩
          have hYl : toL Y = ((toL x).drop 1).take (k - 2) := by rw [hY, toL_extract, show k - 1 - 1 = k - 2 by omega]
          have hsl2 : ∀ W : World, (Instr.slice 9 (.string x) (some (.int .i64 1)) (some (.int .i64 ((k : Int) - 1))) none).run Tryd.prog W = .ok (.string Y) W := fun W => by
            rw [run_slice_string_if W 9 x .i64 .i64 _ _ Tryd.underlying9, if_pos ⟨by omega, by omega⟩, if_pos ⟨by omega, by omega⟩, hY, show ((k : Int) - 1).toNat = k - 1 by omega]; rfl
          have hsl := fun W => str_from hk.2 (by omega) (s := x) W

          have HYl : Kept (bs (((toL x).drop 1).take (k - 2)) = Y) := ⟨by rw [← hYl, bs_toL]⟩
          generalize ((toL x).drop 1).take (k - 2) = t5 at *
          rw [← HYl.out] at hsl2
          clear hst hwp hwa hY hYl
          generalize x.extract k x.size = x2 at *
          have HB6 := Kept.mk (HBx.out.row #[.int .i64 0, .bool true, .string (bs t5), .string ⟨#[]⟩, .string ⟨#[]⟩, .slice none 0 0])
          have HNw : ∀ W, LV (Nw w.heap.size) W (.slice none 0 0) [] := fun W => .nil _ _ (fun _ => rfl)
          have HNw := Kept.mk HNw
          go_wp2_with (first
            | (go_at_call 24; refine (HSk.out _).mono ?_; rintro e w3 ⟨rfl, rfl⟩; dsimp only [ansN])
            | (refine wpList_store_row rfl 39 _ _ rfl _ _ rfl rfl 39 _ HBx.out.r (by kernel_rfl) rfl (by simp [Value.oneCell']) ?_)
            | (refine wpList_load_row rfl 39 _ rfl wr.heap.size rfl 39 #[.int .i64 0, .bool true, .string (bs t5), .string ⟨#[]⟩, .string ⟨#[]⟩, .slice none 0 0] (0, 0) _ HB6.out.r Tryd.underlying39 rfl (by kernel_rfl) ?_))
          go_at_call 26
          refine (add_any acc _ 0 true t5 [] [] [] rfl (.slice none 0 0) Aa al ka _ (HA.out.keep HB6.out.bl) HSa.out rfl (HNw.out _)).mono ?_
          rintro e w8 ⟨v8, rfl, h8, hb8⟩
          have HA8 : Kept (LV (Nw w.heap.size) w8 v8 (add acc (.mk 0 true t5 [] [] []))) := ⟨h8.out.up2 (Nat.le_refl _) (by have h1 := HB6.out.bl.size; have h2 := HB.out.size; omega)⟩
          have HB8 : Kept (Below w.heap.size w w8) := ⟨HB.out.trans ((HB6.out.bl.trans (hb8.mono HB6.out.bl.size)).mono HB.out.size)⟩
          clear h8 hb8
          go_wp2_with fail

          go_roundw
          case rel => exact ⟨_, _, rfl, HA8, HN2, HB8⟩
          case measure => simp only [szOf]; omega

      have y39 : ((((x[0]'hx0).toNat : Nat) : Int) == 39) = false := nat_nbyte (k := 39) h39 (by omega)
      by_cases h34 : x[0]'hx0 = 34
      · have y34 : (((x[0]'hx0).toNat : Nat) : Int) = 34 := nat_byte (k := 34) h34 (by omega)
        rw [h34] at HX0
        clear h92 h39
        cases hun : unit 30 0 (toL x) with
        | none =>
          rw [hun] at HSk
          clear h34
          have HBr : Kept (parts (d + 1) (toL s) = .error 90) := ⟨by
            rw [parts_is, HD.out.1]
            have h0 := HX0.out
            rw [h0] at hun ⊢
            exact partsOn_bad (step1_none (.inr (.inr rfl)) hun)⟩
          clear hun
          go_wp2_with (go_at_call 24; refine (HSk.out _).mono ?_; rintro e w3 ⟨rfl, rfl⟩; dsimp only [ansN])
          go_ret2
          rw [HBr.out]
          exact ⟨rfl, by decide, HB.out.trans (HBx.out.bl.mono HB.out.size)⟩

        | some k =>
          rw [hun] at HSk
          have hun2 := hun
          rw [HX0.out] at hun2
          have hkl := unit_le _ hun
          rw [toL_length] at hkl
          obtain ⟨hs1, hk2⟩ := step1_34 (w := parts d) hun2
          have hk : 1 ≤ k ∧ k ≤ x.size := hkl
          have kb : (k : Int) ≤ 5000 := by omega
          have k0 : (0 : Int) ≤ k := by omega
          obtain ⟨Y, hY⟩ : ∃ Y, Y = x.extract 1 (k - 1) := ⟨_, rfl⟩
          have hYl : toL Y = ((toL x).drop 1).take (k - 2) := by rw [hY, toL_extract, show k - 1 - 1 = k - 2 by omega]
          have hsl2 : ∀ W : World, (Instr.slice 9 (.string x) (some (.int .i64 1)) (some (.int .i64 ((k : Int) - 1))) none).run Tryd.prog W = .ok (.string Y) W := fun W => by
            rw [run_slice_string_if W 9 x .i64 .i64 _ _ Tryd.underlying9, if_pos ⟨by omega, by omega⟩, if_pos ⟨by omega, by omega⟩, hY, show ((k : Int) - 1).toNat = k - 1 by omega]; rfl
          have hsl := fun W => str_from hk.2 (by omega) (s := x) W

          have hst : step1 (parts d) (toL x) = (double (parts d) (toL Y)).map (fun l => (l, k)) := by
            have h0 := HX0.out
            rw [hYl]
            generalize (toL x).drop 1 = r at h0 hs1 ⊢
            rw [h0]; exact hs1
          have HYs : Kept (Y.size ≤ 5000) := ⟨by rw [hY, ByteArray.size_extract]; omega⟩
          clear hs1 hun2 hun h34 hY hYl hkl
          have HB6 := Kept.mk (HBx.out.row #[.int .i64 0, .bool true, .string Y, .string ⟨#[]⟩, .string ⟨#[]⟩, .slice none 0 0])
          have c2 := cell_of_row _ _ 2 _ _ _ HB6.out.r
          have HPc := Kept.mk (double_any d HP n Y ((wr.alloc (.cells #[.int .i64 0, .bool false, .string x1, .string ⟨#[]⟩, .string ⟨#[]⟩, .slice none 0 0] 39)).setRow wr.heap.size #[.int .i64 0, .bool true, .string Y, .string ⟨#[]⟩, .string ⟨#[]⟩, .slice none 0 0]) n HN.out rfl HYs.out)
          unfold PEnd at HPc
          cases hp : double (parts d) (toL Y) with
          | error ce =>
            rw [hp] at HPc hst
            have HBr : Kept (parts (d + 1) (toL s) = .error ce) := ⟨by
              rw [parts_is, HD.out.1]
              rw [HX0.out] at hst ⊢
              exact partsOn_bad hst⟩
            clear hp hst
            go_wp2_with (first
              | (go_at_call 24; refine (HSk.out _).mono ?_; rintro e w3 ⟨rfl, rfl⟩; dsimp only [ansN])
              | (refine wpList_store_row rfl 39 _ _ rfl _ _ rfl rfl 39 _ HBx.out.r (by kernel_rfl) rfl (by simp [Value.oneCell']) ?_)
              | (go_at_call 27; refine HPc.out.mono ?_; rintro e w5 ⟨rfl, hce, hb5⟩; have HB7 := Kept.mk (HB6.out.below hb5); have HCe := Kept.mk hce; clear hb5))
            go_ret2
            rw [HBr.out]
            exact ⟨rfl, HCe.out, HB.out.trans (HB7.out.bl.mono HB.out.size)⟩
          | ok l =>
            rw [hp] at HPc hst
            have hst : step1 (parts d) (toL x) = .ok (l, k) := hst
            clear hp hk
            have hk := step1_le hst
            rw [toL_length] at hk
            have hwp := step1_wt (parts_wt d) hst
            have hwa := wt_foldl l acc
            have HN2 : Kept (partsOn (parts d) (toL s) [] = partsOn (parts d) (toL (x.extract k x.size)) ((l).foldl add acc) ∧ wt ((l).foldl add acc) + 2 * (x.extract k x.size).size ≤ 10000) := ⟨⟨by
              rw [HD.out.1, toL_rest]
              rw [HX0.out] at hst ⊢
              exact partsOn_go hst, by rw [size_rest]; have := HD.out.2; omega⟩⟩
            have hms : (x.extract k x.size).size < x.size := by rw [size_rest]; omega

            have HWl : Kept (wt acc + wt l ≤ 20000) := ⟨by have := HD.out.2; omega⟩
            clear hst hwp hwa
            generalize x.extract k x.size = x2 at *
            go_upto_block 3 with (first
              | (go_at_call 24; refine (HSk.out _).mono ?_; rintro e w3 ⟨rfl, rfl⟩; dsimp only [ansN])
              | (refine wpList_store_row rfl 39 _ _ rfl _ _ rfl rfl 39 _ HBx.out.r (by kernel_rfl) rfl (by simp [Value.oneCell']) ?_)
              | (go_at_call 27; refine HPc.out.mono ?_; rintro e w5 ⟨A5, k5, rfl, hl5, hb5⟩; have HB7 := Kept.mk (HB6.out.below hb5); have HL5 := Kept.mk (hl5.out.nw (n := w.heap.size) (by have := HB.out.size; have := HB6.out.bl.size; omega)); generalize hll : l.length = ll at *; have HLL := Kept.mk hll; clear hb5 hl5 hll))
            go_cut [6, 11] (fun v _ wz => Kept (LV (Nw w.heap.size) wz v (l.foldl add acc)) ∧ Kept (Below w.heap.size w wz))
            case first =>
              go_wp2_with fail
              go_loopw [6, 11] (fun v i wz => ∃ j : Nat, j ≤ ll ∧ i = .int .i64 (j : Int) ∧ Kept (LV (Nw w.heap.size) wz v ((l.take j).foldl add acc)) ∧ Kept (Below w5.heap.size w5 wz)) (fun _ i _ => ll - (intOf i).toNat)
              case atStart => exact ⟨0, by omega, rfl, ⟨by rw [List.take_zero]; exact HA.out.keep HB7.out.bl⟩, ⟨Below.refl _ _⟩⟩
              case round =>
                obtain ⟨j, hj, rfl, HAj, HBj⟩ := hrel
                obtain ⟨Aj, kj, hvj⟩ := HAj.out.slice
                subst hvj
                generalize ((l.take j).foldl add acc).length = aj at *
                by_cases hlt : j < ll
                · have zj : (j : Int) < ll := by omega
                  have j0 : (0 : Int) ≤ j := by omega
                  have jb : (j : Int) ≤ 20000 := by have := wt_len l; have := HWl.out; have := HLL.out; omega
                  have hjl : j < l.length := by have := HLL.out; omega
                  obtain ⟨g, off, kk, qq, t, nn, o, wd, v, e, hg, hp5, hv, hwd, c0, c1, c2, c3, c4, c5⟩ := (HL5.out.keep HBj.out).get hjl
                  subst e
                  obtain ⟨A2, k2, rfl⟩ := hwd.slice
                  have HNx : Kept ((l.take (j + 1)).foldl add acc = add ((l.take j).foldl add acc) (.mk kk qq t nn o wd)) := ⟨by rw [foldl_take hjl, hp5]⟩
                  have HSj : Kept (wt ((l.take j).foldl add acc) + wtP (.mk kk qq t nn o wd) ≤ 100000) := ⟨by
                    have h1 := wt_foldl (l.take j) acc
                    have h2 := wt_took l j
                    have h3 := wt_drop hjl
                    have h4 := wt_append (l.take j) (l.drop j)
                    rw [List.take_append_drop] at h4
                    rw [hp5] at h3
                    have := HWl.out
                    omega⟩
                  have HWd := Kept.mk hwd
                  clear hp5 hwd hjl
                  generalize wd.length = wl at *
                  go_wp2_with fail
                  go_at_call 26
                  refine (add_any _ _ kk qq t nn o wd rfl (.slice A2 wl k2) Aj aj kj _ HAj.out HSj.out rfl HWd.out).mono ?_
                  rintro e w8 ⟨v8, rfl, h8, hb8⟩
                  have HA8 : Kept (LV (Nw w.heap.size) w8 v8 ((l.take (j + 1)).foldl add acc)) := ⟨by rw [HNx.out]; exact h8.out.up2 (Nat.le_refl _) (by have h1 := HB7.out.bl.size; have h2 := HB.out.size; have h3 := HBj.out.size; omega)⟩
                  have HB8 : Kept (Below w5.heap.size w5 w8) := ⟨HBj.out.trans (hb8.mono HBj.out.size)⟩
                  clear h8 hb8
                  go_wp2_with fail
                  go_roundw
                  case rel => exact ⟨j + 1, by omega, by go_num, HA8, HB8⟩
                  case measure => simp [intOf]; omega
                · have zj : ¬ (j : Int) < ll := by omega
                  have HE : Kept (l.take j = l) := ⟨List.take_of_length_le (by have := HLL.out; omega)⟩
                  clear hlt
                  go_wp2_with fail
                  go_meet
                  exact ⟨⟨by rw [← HE.out]; exact HAj.out⟩, ⟨HB.out.trans ((HB7.out.bl.trans (HBj.out.mono HB7.out.bl.size)).mono HB.out.size)⟩⟩
            case rest =>
              obtain ⟨HA8, HB8⟩ := hcut
              go_wp2_with fail
              go_roundw
              case rel => exact ⟨_, _, rfl, HA8, HN2, HB8⟩
              case measure => simp only [szOf]; omega

      have y34 : ((((x[0]'hx0).toNat : Nat) : Int) == 34) = false := nat_nbyte (k := 34) h34 (by omega)
      by_cases h36 : x[0]'hx0 = 36
      · have y36 : (((x[0]'hx0).toNat : Nat) : Int) = 36 := nat_byte (k := 36) h36 (by omega)
        have hst0 : step1 (parts d) (toL x) = (dollar (parts d) false (toL x)).map (fun x => ([x.1], x.2)) := by
          have h0 := HX0.out
          rw [h36] at h0
          generalize (toL x).drop 1 = r at h0
          rw [h0]; exact step1_36
        have HPc := Kept.mk (dollar_any d HP n x false (wr.alloc (.cells #[.int .i64 0, .bool false, .string x1, .string ⟨#[]⟩, .string ⟨#[]⟩, .slice none 0 0] 39)) n HN.out rfl hx5 hx0 h36)
        unfold DEnd at HPc
        clear h92 h39 h34 h36 HSk
        cases hp : dollar (parts d) false (toL x) with
        | error ce =>
          rw [hp] at HPc hst0
          have HBr : Kept (parts (d + 1) (toL s) = .error ce) := ⟨by
            rw [parts_is, HD.out.1]
            rw [HX0.out] at hst0 ⊢
            exact partsOn_bad hst0⟩
          clear hp hst0
          go_wp2_with (first
            | (go_at_call 25; refine HPc.out.mono ?_; rintro e w5 ⟨kk, q5, t5, n5, o5, k5, rfl, hce, hb5⟩; have HCe := Kept.mk hce; have HB5 := Kept.mk (HBx.out.below hb5); clear hb5)
            | (refine wpList_store_row rfl 39 _ _ rfl _ _ rfl rfl 39 _ HB5.out.r (by kernel_rfl) rfl (by simp [Value.oneCell']) ?_; have HB6 := Kept.mk (HB5.out.row #[.int .i64 kk, .bool q5, .string t5, .string n5, .string o5, .slice none 0 0])))
          go_ret2
          rw [HBr.out]
          exact ⟨rfl, HCe.out, HB.out.trans (HB6.out.bl.mono HB.out.size)⟩
        | ok xp =>
          obtain ⟨p, k⟩ := xp
          rw [hp] at HPc hst0
          have hst : step1 (parts d) (toL x) = .ok ([p], k) := hst0
          have hk := step1_le hst
          rw [toL_length] at hk
          have hwp := step1_wt (parts_wt d) hst
          have hwa := wt_foldl [p] acc
          have HN2 : Kept (partsOn (parts d) (toL s) [] = partsOn (parts d) (toL (x.extract k x.size)) (([p]).foldl add acc) ∧ wt (([p]).foldl add acc) + 2 * (x.extract k x.size).size ≤ 10000) := ⟨⟨by
            rw [HD.out.1, toL_rest]
            rw [HX0.out] at hst ⊢
            exact partsOn_go hst, by rw [size_rest]; have := HD.out.2; omega⟩⟩
          have hms : (x.extract k x.size).size < x.size := by rw [size_rest]; omega
          have HSa : Kept (wt acc + wtP (p) ≤ 100000) := ⟨by rw [wt_one] at hwp; have := HD.out.2; omega⟩

          have hsl := fun W => str_from hk.2 (by omega) (s := x) W
          generalize x.extract k x.size = x2 at *
          clear hp hst hst0 hwp hwa
          go_wp2_with (first
            | (go_at_call 25
               refine HPc.out.mono ?_
               rintro e w5 ⟨kk, q5, t5, n5, o5, wd, A5, k5, hp5, rfl, hl5, hb5⟩
               dsimp only at hp5
               rw [hp5] at HSa HN2
               have HB5 := Kept.mk (HBx.out.below hb5)
               have HL5 := Kept.mk (hl5.out)
               generalize wd.length = wl at *
               have HB6 := Kept.mk (HB5.out.row #[.int .i64 kk, .bool q5, .string (bs t5), .string (bs n5), .string (bs o5), .slice A5 wl k5])
               have HL6 := Kept.mk ((HL5.out.ahead (w := wr) (by simp) #[.int .i64 kk, .bool q5, .string (bs t5), .string (bs n5), .string (bs o5), .slice A5 wl k5]).nw (n := w.heap.size) (by have := HB.out.size; simp; omega))
               clear hb5 hl5 hp5)
            | (refine wpList_store_row rfl 39 _ _ rfl _ _ rfl rfl 39 _ HB5.out.r (by kernel_rfl) rfl (by simp [Value.oneCell']) ?_)
            | (refine wpList_load_row rfl 39 _ rfl wr.heap.size rfl 39 #[.int .i64 kk, .bool q5, .string (bs t5), .string (bs n5), .string (bs o5), .slice A5 wl k5] (0, 0) _ HB6.out.r Tryd.underlying39 rfl (by kernel_rfl) ?_))
          go_at_call 26
          refine (add_any acc _ kk q5 t5 n5 o5 wd rfl (.slice A5 wl k5) Aa al ka _ (HA.out.keep HB6.out.bl) HSa.out rfl HL6.out).mono ?_
          rintro e w8 ⟨v8, rfl, h8, hb8⟩
          have HA8 : Kept (LV (Nw w.heap.size) w8 v8 (add acc (.mk kk q5 t5 n5 o5 wd))) := ⟨h8.out.up2 (Nat.le_refl _) (by have h1 := HB6.out.bl.size; have h2 := HB.out.size; omega)⟩
          have HB8 : Kept (Below w.heap.size w w8) := ⟨HB.out.trans ((HB6.out.bl.trans (hb8.mono HB6.out.bl.size)).mono HB.out.size)⟩
          clear h8 hb8
          go_wp2_with fail

          go_roundw
          case rel => exact ⟨_, _, rfl, HA8, HN2, HB8⟩
          case measure => simp only [szOf]; omega

      have y36 : ((((x[0]'hx0).toNat : Nat) : Int) == 36) = false := nat_nbyte (k := 36) h36 (by omega)
      have hst : step1 (parts d) (toL x) = .ok ([txt false [x[0]'hx0]], 1) := by
        have h0 := HX0.out
        generalize (toL x).drop 1 = r at h0
        rw [h0]; exact step1_else h92 h39 h34 h36
      clear h92 h39 h34 h36 HSk
      have hk := step1_le hst
      rw [toL_length] at hk
      have hwp := step1_wt (parts_wt d) hst
      have hwa := wt_foldl [txt false [x[0]'hx0]] acc
      have HN2 : Kept (partsOn (parts d) (toL s) [] = partsOn (parts d) (toL (x.extract 1 x.size)) (([txt false [x[0]'hx0]]).foldl add acc) ∧ wt (([txt false [x[0]'hx0]]).foldl add acc) + 2 * (x.extract 1 x.size).size ≤ 10000) := ⟨⟨by
        rw [HD.out.1, toL_rest]
        rw [HX0.out] at hst ⊢
        exact partsOn_go hst, by rw [size_rest]; have := HD.out.2; omega⟩⟩
      have hms : (x.extract 1 x.size).size < x.size := by rw [size_rest]; omega
      have HSa : Kept (wt acc + wtP (txt false [x[0]'hx0]) ≤ 100000) := ⟨by rw [wt_one] at hwp; have := HD.out.2; omega⟩

      have hx1 := HX1.out
      generalize [x[0]'hx0] = t5 at *
      subst hx1
      clear hst hwp hwa
      have HNw : ∀ W, LV (Nw w.heap.size) W (.slice none 0 0) [] := fun W => .nil _ _ (fun _ => rfl)
      have HNw := Kept.mk HNw
      go_wp2_with (first
        | (refine wpList_load_row rfl 39 _ rfl wr.heap.size rfl 39 #[.int .i64 0, .bool false, .string (bs t5), .string ⟨#[]⟩, .string ⟨#[]⟩, .slice none 0 0] (0, 0) _ HBx.out.r Tryd.underlying39 rfl (by kernel_rfl) ?_))
      go_at_call 26
      refine (add_any acc _ 0 false t5 [] [] [] rfl (.slice none 0 0) Aa al ka _ (HA.out.keep HBx.out.bl) HSa.out rfl (HNw.out _)).mono ?_
      rintro e w8 ⟨v8, rfl, h8, hb8⟩
      have HA8 : Kept (LV (Nw w.heap.size) w8 v8 (add acc (.mk 0 false t5 [] [] []))) := ⟨h8.out.up2 (Nat.le_refl _) (by have h1 := HBx.out.bl.size; have h2 := HB.out.size; omega)⟩
      have HB8 : Kept (Below w.heap.size w w8) := ⟨HB.out.trans ((HBx.out.bl.trans (hb8.mono HBx.out.bl.size)).mono HB.out.size)⟩
      clear h8 hb8
      go_wp2_with fail

      go_roundw
      case rel => exact ⟨_, _, rfl, HA8, HN2, HB8⟩
      case measure => simp only [szOf]; omega

    · have zx : ¬ (0 : Int) < x.size := by omega
      have HBr : Kept (parts (d + 1) (toL s) = .ok acc) := ⟨by
        rw [parts_is, HD.out.1, show toL x = [] from List.eq_nil_of_length_eq_zero (by rw [toL_length]; omega), partsOn_nil]⟩
      clear hx0
      go_wp2_with fail
      go_ret2
      rw [HBr.out]
      exact ⟨Aa, ka, by rw [HAl.out]; rfl, ⟨by rw [HAl.out]; exact HA.out⟩, HB.out⟩
set_option maxRecDepth 100000 in
theorem parts_last : PartsC 0 := by
  intro n s w mn hn hmn hs
  subst hmn
  obtain rfl : n = 31 := by omega
  have HBr : Kept (parts 0 (toL s) = .error 2) := ⟨by rw [parts]⟩
  clear hn
  go_enter Tryd.func18, Tryd.ntmps18
  go_wp2_with fail
  go_ret2
  rw [HBr.out]
  exact ⟨rfl, by decide, Below.refl _ _⟩
theorem parts_any : ∀ d, PartsC d
  | 0 => parts_last
  | d + 1 => parts_next d ⟨parts_any d⟩
end Wx
end Go.Proofs.YtphgnjjblpmijaaDoor
