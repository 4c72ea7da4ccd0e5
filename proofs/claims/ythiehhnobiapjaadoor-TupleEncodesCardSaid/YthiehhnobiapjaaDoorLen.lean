/-
  lengthOf: the number that digits tell.
-/
import Derived.Test.YthiehhnobiapjaaDoorTup
namespace Go.Proofs.YthiehhnobiapjaaDoor
open Go.RowKit Net
namespace Tup

theorem kit_bytes {w : World} (h : Kit w) (t : ByteArray) : Kit (Lib.bytesWorld w 5 t) := h.below (Lib.bytesWorld_below w _ t)

set_option maxRecDepth 100000 in
theorem lengthOf_any (d : ByteArray) (w : World) (hd : d.size ≤ 9223372036854775807) (hK : Kit w) :
    Calls Tryd.prog 20 #[.string d] w fun e w' => ∃ (n : Nat) (b : Bool), e = .returned (.tuple #[.int .i64 n, .bool b]) ∧ Below w.heap.size w w' ∧ Kept (num (toL d) = if b then some n else none) := by
  have HK := Kept.mk hK
  clear hK
  by_cases h9 : 9 < d.size
  · have hF : Kept (num (toL d) = none) := ⟨num_long (by rw [toL_length]; exact h9)⟩
    go_enter Tryd.func20, Tryd.ntmps20
    go_wp2
    go_ret2
    exact ⟨0, false, rfl, Below.refl _ _, hF⟩
  · have h18 : d.size ≤ 18 := by omega
    have H9 : Kept (d.size ≤ 9) := ⟨by omega⟩
    cases ha : Lib.atoi d.data.toList with
    | none =>
      have hF : Kept (num (toL d) = none) := ⟨num_atoi_none ha⟩
      have HA := Kept.mk ha
      clear ha
      obtain ⟨tp, p, hv⟩ := HK.out.err
      have HV := Kept.mk hv
      clear hv
      go_enter Tryd.func20, Tryd.ntmps20
      go_wp2_with (go_at_call 23; refine (Tryd.strconv_Atoi_err_var d h18 HA.out tp p _ HV.out).mono ?_; rintro e w1 ⟨N, rfl, _, _, hb⟩)
      go_ret2
      exact ⟨0, false, rfl, hb, hF⟩
    | some v =>
      have HA := Kept.mk ha
      have hv1 := Lib.atoi_bound ha (by rw [← toL_length] at h18; exact h18)
      obtain ⟨hv1, hv2⟩ := hv1
      clear ha
      by_cases h0 : v < 0
      · have hF : Kept (num (toL d) = none) := ⟨num_atoi_other HA.out (.inr h0)⟩
        go_enter Tryd.func20, Tryd.ntmps20
        go_wp2_with (go_at_call 23; refine (Tryd.strconv_Atoi d v h18 HA.out _).mono ?_; rintro e w1 ⟨rfl, t, rfl⟩)
        go_ret2
        exact ⟨0, false, rfl, Lib.bytesWorld_below w _ t, hF⟩
      · have hI : ∀ w2, Kit w2 → Calls Tryd.prog 24 #[.int .i64 v] w2 fun e w' => ∃ x : ByteArray, e = .returned (.string x) ∧ Below w2.heap.size w2 w' ∧ Kept (x = bs (Lib.itoa v)) := by
          intro w2 h2
          refine (Tryd.strconv_Itoa v (by omega) (by omega) w2 h2.tab).mono ?_
          rintro e w' ⟨rfl, k, os, rfl⟩
          exact ⟨_, rfl, Lib.below_grow _ _ (Nat.le_refl _) _ _, ⟨rfl⟩⟩
        have HI := Kept.mk hI
        clear hI
        have h0' : 0 ≤ v := by omega
        by_cases he : Lib.itoa v = toL d
        · have hT : Kept (num (toL d) = some v.toNat) := ⟨num_atoi (by rw [toL_length]; exact H9.out) h0' he⟩
          have hE : Kept (∀ x : ByteArray, Kept (x = bs (Lib.itoa v)) → (x.toList == d.toList) = true) := ⟨fun x hx => by rw [beq_str, decide_eq_true]; rw [hx.out, he, bs_toL]⟩
          clear he
          go_enter Tryd.func20, Tryd.ntmps20
          go_wp2_with (first
            | (go_at_call 23; refine (Tryd.strconv_Atoi d v h18 HA.out _).mono ?_; rintro e w1 ⟨rfl, t, rfl⟩; have hK1 := Kept.mk (kit_bytes HK.out t); have hB1 := Kept.mk (Lib.bytesWorld_below w 5 t); generalize Lib.bytesWorld w 5 t = w1 at *)
            | (go_at_call 24; refine (HI.out _ hK1.out).mono ?_; rintro e w2 ⟨x, rfl, hb2, hx⟩; have hE2 := hE.out x hx; have hB2 := Kept.mk hb2; clear hb2))
          go_ret2
          exact ⟨v.toNat, true, by rw [Int.toNat_of_nonneg h0']; rfl, hB1.out.trans (hB2.out.mono hB1.out.size), hT⟩
        · have hF : Kept (num (toL d) = none) := ⟨num_atoi_other HA.out (.inl he)⟩
          have hE : Kept (∀ x : ByteArray, Kept (x = bs (Lib.itoa v)) → (x.toList == d.toList) = false) := ⟨fun x hx => by rw [beq_str, decide_eq_false]; rw [hx.out]; intro e; exact he (by rw [← e, toL_bs])⟩
          clear he
          go_enter Tryd.func20, Tryd.ntmps20
          go_wp2_with (first
            | (go_at_call 23; refine (Tryd.strconv_Atoi d v h18 HA.out _).mono ?_; rintro e w1 ⟨rfl, t, rfl⟩; have hK1 := Kept.mk (kit_bytes HK.out t); have hB1 := Kept.mk (Lib.bytesWorld_below w 5 t); generalize Lib.bytesWorld w 5 t = w1 at *)
            | (go_at_call 24; refine (HI.out _ hK1.out).mono ?_; rintro e w2 ⟨x, rfl, hb2, hx⟩; have hE2 := hE.out x hx; have hB2 := Kept.mk hb2; clear hb2))
          go_ret2
          exact ⟨0, false, rfl, hB1.out.trans (hB2.out.mono hB1.out.size), hF⟩
end Tup
end Go.Proofs.YthiehhnobiapjaaDoor
