/-
  The program's device: Write, each way.
-/
import Derived.Test.YticgecbgeahijaaPwrite
import Derived.Test.YticgecbgeahijaaRwrite
namespace Go.Proofs.Yticgecbgeahijaa
open Go.RowKit Tx Dv
namespace Pd

set_option maxRecDepth 100000 in
theorem write_out (w : World) (g r : Nat) (D : Disk) (lim : Bool) (pw : Int) (h : DevAt w g r D lim pw) (k : Int) (s : ByteArray) (hs : s.size ≤ 1000000) (hh : ¬ (D.has k ∧ (toL s).length ≤ 64)) :
    Calls Try.prog 11 #[.pointer (some ⟨g, 0, none⟩), .int .i64 k, .string s] w fun e w' => e = .returned (.int .i64 1) ∧ w' = w := by
  have c0 := h.c0
  clear h
  by_cases hk : D.has k
  · have h64 : ¬ (s.size : Int) ≤ 64 := fun e => hh ⟨hk, by rw [toL_length]; omega⟩
    have z2 : (64 : Int) < s.size := by omega
    obtain ⟨h0, h1⟩ := hk
    obtain ⟨j, rfl⟩ := Int.eq_ofNat_of_zero_le h0
    have hj : j < D.S.length := by omega
    clear hh h64 h0 h1
    generalize D.S.length = n at *
    go_enter Try.func11, Try.ntmps11
    go_wp2_with (go_at_call 22; refine (has_yes _ g r n (by assumption) j hj).mono ?_; rintro e w' ⟨rfl, rfl⟩)
    go_ret
    exact ⟨rfl, rfl⟩
  · have HK := Kept.mk hk
    clear hh hk
    go_enter Try.func11, Try.ntmps11
    go_wp2_with (go_at_call 22; refine (has_no _ g r _ (by assumption) k HK.out).mono ?_; rintro e w' ⟨rfl, rfl⟩)
    go_ret
    exact ⟨rfl, rfl⟩

/-- What Write leaves. -/
structure Wrote (w w' : World) (g r : Nat) (D : Disk) : Prop where
  is : ∃ lim p, DevAt w' g r D lim p
  only : Only (blocks g r) w w'

theorem Wrote.mk' {w w1 w2 : World} {g r : Nat} {D E : Disk} {lim : Bool} {p : Int} (h : DevAt w2 g r D lim p) (hb : Below w.heap.size w w1) (ho : Only (blocks g r) w1 w2) (e : E = D) : Wrote w w2 g r E := by
  subst e
  exact ⟨⟨lim, p, h⟩, ((Only.refl _ w).below hb).trans ho (fun _ _ h => h)⟩
theorem Tore.blocks {w w' : World} {r o : Nat} {l : List UInt8} (h : Tore w w' r o l) (g : Nat) : Only (blocks g r) w w' := h.only.mono fun _ _ e => .inr e

set_option maxHeartbeats 1000000 in
set_option maxRecDepth 100000 in
theorem write_torn (w : World) (g r : Nat) (D : Disk) (lim : Bool) (pw : Int) (h : DevAt w g r D lim pw) (j : Nat) (hj : j < D.S.length) (s : ByteArray) (hs : s.size ≤ 64) (hpw : D.power = 0) :
    Calls Try.prog 11 #[.pointer (some ⟨g, 0, none⟩), .int .i64 j, .string s] w fun e w' => e = .returned (.int .i64 13) ∧ Wrote w w' g r (D.write j (toL s)).2 := by
  have hl : lim = true := by
    have := h.power
    cases lim
    · simp at this; omega
    · rfl
  subst hl
  have hp0 : pw = 0 := by have := h.power; simp at this; omega
  subst hp0
  have c0 := h.c0
  have hmx := h.ok.few
  have HR : Kept ((D.write j (toL s)).2 = ⟨D.S.set j (torn D.mask (pad (toL s)) (D.at j)), D.power, 0⟩) := ⟨by
    rw [Disk.write_dead ⟨⟨by omega, by omega⟩, by rw [toL_length]; exact hs⟩ hpw, hpw]
    rfl⟩
  have H := Kept.mk h
  have HJ := Kept.mk hj
  clear h hpw
  obtain ⟨m, hm⟩ : ∃ m, D.mask = m := ⟨_, rfl⟩
  have HM := Kept.mk hm
  have hmm := H.out.ok.mask
  rw [hm] at hmm
  have HMM := Kept.mk hmm
  obtain ⟨n, hn⟩ : ∃ n, D.S.length = n := ⟨_, rfl⟩
  rw [hn] at c0 hmx hj
  have HN := Kept.mk hn
  clear hm hn hmm
  have z0 : (0 : Int) ≤ j := by omega
  have z1 : (j : Int) < n := by omega
  have z2 : ¬ (64 : Int) < s.size := by omega
  go_enter Try.func11, Try.ntmps11
  go_wp2_with (first
    | (go_at_call 22; refine (has_yes _ g r n (by assumption) j hj).mono ?_; rintro e w' ⟨rfl, hw⟩; obtain rfl := hw.symm)
    | (go_at_call 23; refine (spend_none _ g (by assumption) (by assumption)).mono ?_; rintro e w' ⟨rfl, hw⟩; obtain rfl := hw.symm)
    | (refine wpList_copy_pad rfl _ _ rfl s hs rfl rfl _ (by kernel_rfl) ?_
       intro n1 w1 hb1 hf1
       have HB1 := Kept.mk hb1
       have HF1 := Kept.mk hf1
       have H1 := Kept.mk (H.out.below hb1)
       have d0 : w1.cell? ⟨g, 0, none⟩ = some (.slice (some ⟨r, 0, none⟩) n n) := by rw [← HN.out]; exact H1.out.c0
       have d1 := H1.out.c1
       have d2 := H1.out.c2
       have d3 : w1.cell? ⟨g, 3, none⟩ = some (.int .u64 m) := by rw [← HM.out]; exact H1.out.c3
       clear hb1 hf1))
  have hfr : w.heap.size ≠ r := by have := H.out.rlt; omega
  have HFR := Kept.mk hfr
  have HPL := Kept.mk (pad_length (toL s) (by rw [toL_length]; exact hs))
  have HD1 : Kept (DevAt w1.drew g r D true 0) := ⟨H1.out.below ((Below.refl _ _).drew)⟩
  have HE1 : Kept (Fresh w1.drew w.heap.size (pad (toL s))) := ⟨HF1.out.below rfl (Nat.le_refl _)⟩
  clear hfr
  refine wp_region_still_tail 10 (by kernel_rfl) (by kernel_rfl) ?_
  simp only [List.take_succ_cons, List.take_zero, List.drop_succ_cons, List.drop_zero]
  repeat still_step
  refine wpStill_nil ?_
  go_wp2_with (go_at_call 24
               refine (tear_any w1.drew r (j * 64) w.heap.size (D.at j) (pad (toL s)) m HMM.out HFR.out HE1.out.lt (HD1.out.spot HJ.out) HE1.out.row (fun i hi => HD1.out.soft j i HJ.out hi)).mono ?_
               rintro e w2 ⟨rfl, ht⟩
               rw [← HM.out] at ht
               have HT := Kept.mk ht
               have H2 := Kept.mk (HD1.out.tore HJ.out (torn_length _ _ _) ht)
               have e0 : w2.cell? ⟨g, 3, none⟩ = some (.int .u64 m) := by rw [← HM.out]; exact H2.out.c3
               have e1 := H2.out.free 3 (by omega)
               clear ht)
  go_ret
  exact ⟨rfl, Wrote.mk' (H2.out.setMask 0 (by decide)) HB1.out ((((Only.refl _ w1).drew).trans (HT.out.blocks g) (fun _ _ h => h)).setCell _ _ (fun _ => .inl rfl)) HR.out⟩

set_option maxHeartbeats 1000000 in
set_option maxRecDepth 100000 in
theorem write_free (w : World) (g r : Nat) (D : Disk) (pw : Int) (h : DevAt w g r D false pw) (j : Nat) (hj : j < D.S.length) (s : ByteArray) (hs : s.size ≤ 64) :
    Calls Try.prog 11 #[.pointer (some ⟨g, 0, none⟩), .int .i64 j, .string s] w fun e w' => e = .returned (.int .i64 0) ∧ Wrote w w' g r (D.write j (toL s)).2 := by
  have c0 := h.c0
  have hmx := h.ok.few
  have HR : Kept ((D.write j (toL s)).2 = ⟨D.S.set j (pad (toL s)), D.power, D.mask⟩) := ⟨by
    have hp : D.power = -1 := h.power
    rw [Disk.write_on ⟨⟨by omega, by omega⟩, by rw [toL_length]; exact hs⟩ (by rw [hp]; decide), hp]
    rfl⟩
  have H := Kept.mk h
  have HJ := Kept.mk hj
  clear h
  obtain ⟨n, hn⟩ : ∃ n, D.S.length = n := ⟨_, rfl⟩
  rw [hn] at c0 hmx hj
  have HN := Kept.mk hn
  clear hn
  have z0 : (0 : Int) ≤ j := by omega
  have z1 : (j : Int) < n := by omega
  have z2 : ¬ (64 : Int) < s.size := by omega
  go_enter Try.func11, Try.ntmps11
  go_wp2_with (first
    | (go_at_call 22; refine (has_yes _ g r n (by assumption) j hj).mono ?_; rintro e w' ⟨rfl, hw⟩; obtain rfl := hw.symm)
    | (go_at_call 23; refine (spend_free _ g (by assumption)).mono ?_; rintro e w' ⟨rfl, hw⟩; obtain rfl := hw.symm)
    | (refine wpList_copy_pad rfl _ _ rfl s hs rfl rfl _ (by kernel_rfl) ?_
       intro n1 w1 hb1 hf1
       have HB1 := Kept.mk hb1
       have HF1 := Kept.mk hf1
       have H1 := Kept.mk (H.out.below hb1)
       have d0 : w1.cell? ⟨g, 0, none⟩ = some (.slice (some ⟨r, 0, none⟩) n n) := by rw [← HN.out]; exact H1.out.c0
       have d1 := H1.out.c1
       clear hb1 hf1))
  have HPL := Kept.mk (pad_length (toL s) (by rw [toL_length]; exact hs))
  have HD1 : Kept (DevAt w1.drew g r D false pw) := ⟨H1.out.below ((Below.refl _ _).drew)⟩
  have HE1 : Kept (Fresh w1.drew w.heap.size (pad (toL s))) := ⟨HF1.out.below rfl (Nat.le_refl _)⟩
  refine wp_region_still_tail 7 (by kernel_rfl) (by kernel_rfl) ?_
  simp only [List.take_succ_cons, List.take_zero, List.drop_succ_cons, List.drop_zero]
  repeat (first | (refine still_load_row rfl 53 _ rfl _ (load_sector HE1.out HPL.out) ?_) | still_step)
  refine wpStill_nil ?_
  refine wpList_store_sector rfl _ _ rfl r (j * 64) (pad (toL s)) HPL.out rfl rfl (HD1.out.place HJ.out) ?_
  intro w2 ht
  have HT := Kept.mk ht
  have H2 := Kept.mk (HD1.out.tore HJ.out HPL.out ht)
  clear ht
  go_wp2
  go_ret
  exact ⟨rfl, Wrote.mk' H2.out HB1.out (((Only.refl _ w1).drew).trans (HT.out.blocks g) (fun _ _ h => h)) HR.out⟩

set_option maxHeartbeats 1000000 in
set_option maxRecDepth 100000 in
theorem write_some (w : World) (g r : Nat) (D : Disk) (pw : Int) (h : DevAt w g r D true pw) (h0 : 0 < pw) (j : Nat) (hj : j < D.S.length) (s : ByteArray) (hs : s.size ≤ 64) :
    Calls Try.prog 11 #[.pointer (some ⟨g, 0, none⟩), .int .i64 j, .string s] w fun e w' => e = .returned (.int .i64 0) ∧ Wrote w w' g r (D.write j (toL s)).2 := by
  have c0 := h.c0
  have hmx := h.ok.few
  have HR : Kept ((D.write j (toL s)).2 = ⟨D.S.set j (pad (toL s)), pw - 1, D.mask⟩) := ⟨by
    have hp : D.power = pw := h.power
    rw [Disk.write_on ⟨⟨by omega, by omega⟩, by rw [toL_length]; exact hs⟩ (by rw [hp]; omega), hp, if_pos h0]
    rfl⟩
  have hp1 := h.pw1
  have H := Kept.mk h
  have HJ := Kept.mk hj
  have H00 := Kept.mk h0
  have H01 := Kept.mk hp1
  clear h h0 hp1
  obtain ⟨n, hn⟩ : ∃ n, D.S.length = n := ⟨_, rfl⟩
  rw [hn] at c0 hmx hj
  have HN := Kept.mk hn
  clear hn
  have z0 : (0 : Int) ≤ j := by omega
  have z1 : (j : Int) < n := by omega
  have z2 : ¬ (64 : Int) < s.size := by omega
  go_enter Try.func11, Try.ntmps11
  go_wp2_with (first
    | (go_at_call 22; refine (has_yes _ g r n (by assumption) j hj).mono ?_; rintro e w' ⟨rfl, hw⟩; obtain rfl := hw.symm)
    | (go_at_call 23
       refine (spend_one _ g pw (by assumption) (by assumption) (by assumption) H00.out H01.out).mono ?_
       rintro e w2 ⟨rfl, hw⟩
       have H2 : Kept (DevAt w2 g r ⟨D.S, pw - 1, D.mask⟩ true (pw - 1)) := ⟨by rw [hw]; exact H1.out.setPow (pw - 1) (pw - 1) (by have := H00.out; omega) (by have := H01.out; omega) rfl⟩
       have HO2 : Kept (Only (blocks g r) w1 w2) := ⟨by rw [hw]; exact (Only.refl _ _).setCell _ _ (fun _ => .inl rfl)⟩
       have HF2 : Kept (Fresh w2 w.heap.size (pad (toL s))) := ⟨HF1.out.below (by rw [hw]; exact heap_setCell_other _ _ _ _ (by have := H.out.lt; simp only; omega)) HO2.out.size⟩
       have e0 : w2.cell? ⟨g, 0, none⟩ = some (.slice (some ⟨r, 0, none⟩) n n) := by rw [← HN.out]; exact H2.out.c0
       clear hw)
    | (refine wpList_copy_pad rfl _ _ rfl s hs rfl rfl _ (by kernel_rfl) ?_
       intro n1 w1 hb1 hf1
       have HB1 := Kept.mk hb1
       have HF1 := Kept.mk hf1
       have H1 := Kept.mk (H.out.below hb1)
       have d0 : w1.cell? ⟨g, 0, none⟩ = some (.slice (some ⟨r, 0, none⟩) n n) := by rw [← HN.out]; exact H1.out.c0
       have d1 := H1.out.c1
       have d2 := H1.out.c2
       have f2 := H1.out.free 2 (by omega)
       clear hb1 hf1))
  have HPL := Kept.mk (pad_length (toL s) (by rw [toL_length]; exact hs))
  have HD2 : Kept (DevAt w2.drew g r ⟨D.S, pw - 1, D.mask⟩ true (pw - 1)) := ⟨H2.out.below ((Below.refl _ _).drew)⟩
  have HE2 : Kept (Fresh w2.drew w.heap.size (pad (toL s))) := ⟨HF2.out.below rfl (Nat.le_refl _)⟩
  refine wp_region_still_tail 7 (by kernel_rfl) (by kernel_rfl) ?_
  simp only [List.take_succ_cons, List.take_zero, List.drop_succ_cons, List.drop_zero]
  repeat (first | (refine still_load_row rfl 53 _ rfl _ (load_sector HE2.out HPL.out) ?_) | still_step)
  refine wpStill_nil ?_
  refine wpList_store_sector rfl _ _ rfl r (j * 64) (pad (toL s)) HPL.out rfl rfl (HD2.out.place HJ.out) ?_
  intro w3 ht
  have HT := Kept.mk ht
  have H3 := Kept.mk (HD2.out.tore HJ.out HPL.out ht)
  clear ht
  go_wp2
  go_ret
  exact ⟨rfl, Wrote.mk' H3.out HB1.out ((HO2.out.drew).trans (HT.out.blocks g) (fun _ _ h => h)) HR.out⟩
end Pd
end Go.Proofs.Yticgecbgeahijaa
