/-
  The document's device: a write that is torn.
-/
import Derived.Test.YticgecbgeahijaaRwrite
import Derived.IntWalk
import Derived.WalkKit
import Derived.BigCall
import Derived.StillTailTactics
import Derived.Laws.BitsAllLaws
namespace Go.Proofs.Yticgecbgeahijaa
open Go.RowKit Tx
namespace Dv

/-- A mask's bit. -/
theorem mask_bit (m q : Nat) (hm : m < 18446744073709551616) : bits .and .u64 ((m : Int) / 2 ^ q) 1 = ((m / 2 ^ q % 2 : Nat) : Int) := by
  have h := u64_and_nat (m / 2 ^ q) 1 (Nat.lt_of_le_of_lt (Nat.div_le_self _ _) hm) (by decide)
  rw [Nat.and_one_is_mod] at h
  rw [← h]
  congr 1
theorem torn_next (m : Nat) (t old : List UInt8) (q : Nat) (hq : q < 64) (b : UInt8) (hb : (torn m t old).getD q 0 = b) : (torn m t old).take q ++ [b] = (torn m t old).take (q + 1) := by
  have hl : q < (torn m t old).length := by rw [torn_length]; exact hq
  rw [List.take_succ_eq_append_getElem hl, ← hb, List.getD_eq_getElem?_getD, List.getElem?_eq_getElem hl]
  rfl
theorem getD_at (s : ByteArray) (q : Nat) (h : q < s.size) : (toL s).getD q 0 = s[q]'h := by
  rw [List.getD_eq_getElem?_getD, List.getElem?_eq_getElem (by rw [toL_length]; exact h)]
  rfl
structure TornIn (w wr : World) (v : Value) (l : List UInt8) : Prop where
  below : Below w.heap.size w wr
  row : By.Bs wr w.heap.size v l

theorem TornIn.push {w wr w2 : World} {v v2 : Value} {m q : Nat} {t old : List UInt8} (h : TornIn w wr v ((torn m t old).take q)) (hq : q < 64) {b : UInt8} (he : By.Bs w2 w.heap.size v2 ((torn m t old).take q ++ [b])) (hg : wr.grownBy w2 v.ownBlock) (hb : (torn m t old).getD q 0 = b) : TornIn w w2 v2 ((torn m t old).take (q + 1)) :=
  ⟨h.below.grown hg h.below.size (fun k hk => (h.row.lt k hk).1), by rw [← torn_next m t old q hq b hb]; exact he⟩

set_option maxHeartbeats 2000000 in
set_option maxRecDepth 100000 in
theorem write_torn (w : World) (b g r n cap : Nat) (D : Disk) (h : RefAt w b g (.slice (some ⟨r, 0, none⟩) n cap) D) (hn : D.S.length = n) (j : Nat) (hj : j < n) (s : ByteArray) (hs : s.size ≤ 64) (hpw : D.power = 0) (m : Nat) (hm : D.mask = m) (hm0 : m ≠ 0) :
    Calls Try.prog 20 #[.pointer (some ⟨g, 0, none⟩), .int .i64 j, .string s] w fun e w' => e = .returned (.int .i64 13) ∧ Written b g (.slice (some ⟨r, 0, none⟩) n cap) w w' (D.write j (toL s)).2 := by
  have hr : r ≠ g := fun e => h.apart (by rw [e]; rfl)
  have hr2 : g ≠ r := fun e => hr e.symm
  have c0 := h.c0
  have c1 := h.c1
  have c2 := h.c2
  rw [hpw] at c1
  rw [hm] at c2
  have hmx := h.ok.few
  rw [hn] at hmx
  have hmm := h.ok.mask
  rw [hm] at hmm
  have HN := Kept.mk hn
  have H := Kept.mk h
  clear h hn
  have z0 : ¬ (j : Int) < 0 := by omega
  have z1 : ¬ (n : Int) ≤ j := by omega
  have z2 : ¬ (64 : Int) < s.size := by omega
  have z3 : (j : Int) < n := by omega
  have z4 : (0 : Int) ≤ j := by omega
  have z5 : ((m : Int) == 0) = false := by simpa using hm0
  have y2 : (64 - (s.size : Int) + 9223372036854775808) % 18446744073709551616 - 9223372036854775808 = 64 - (s.size : Int) := by omega
  have hz : ∀ w, Calls Try.prog 15 #[.int .i64 (64 - (s.size : Int))] w fun e w' => ∃ t : ByteArray, e = .returned (.string t) ∧ Below w.heap.size w w' ∧ Kept (t = bs (List.replicate (64 - s.size) 0)) := fun w => by
    rw [show (64 - (s.size : Int)) = ((64 - s.size : Nat) : Int) by omega]
    exact zeros_any _ w (by omega)
  have HZ := Kept.mk hz
  have HP := Kept.mk hpw
  have HM := Kept.mk hm
  clear hz hpw hm
  go_enter Try.func20, Try.ntmps20
  go_wp2_with (go_at_call 15
               refine (HZ.out _).mono ?_
               rintro e w1 ⟨t, rfl, hb1, ht⟩
               have HB1 := Kept.mk hb1
               have H1 := Kept.mk (H.out.below hb1)
               have d0 := H1.out.c0
               have d1 : w1.cell? ⟨g, 1, none⟩ = some (.int .i64 0) := by rw [← HP.out]; exact H1.out.c1
               have hts : t.size ≤ 64 := by rw [ht.out, bs_size, List.length_replicate]; omega
               have hSm : ¬ 9223372036854775807 < s.size + t.size := by omega
               have HT := Kept.mk (pad_bs s t ht.out)
               clear hb1 ht)
  obtain ⟨u, hu⟩ := H1.out.some j (by rw [HN.out]; exact hj)
  have hux : Kept (u = bs (D.at j) ∧ u.size = 64) := ⟨by
    obtain ⟨r', cap', e, _, _, hc⟩ := H1.out.form (by rw [HN.out]; omega)
    injection e with e1
    injection e1 with e1
    injection e1 with e1
    subst e1
    have h1 := hc j (by rw [HN.out]; exact hj)
    rw [hu] at h1
    injection h1 with h1
    injection h1 with h1
    have h2 : D.at j = D.S[j]'(by rw [HN.out]; exact hj) := by unfold Disk.at; simp [show j < D.S.length by rw [HN.out]; exact hj]
    refine ⟨by rw [h1, h2], ?_⟩
    rw [h1, bs_size, ← h2]
    exact H.out.ok.at ⟨by omega, by rw [HN.out]; omega⟩⟩
  have HU := Kept.mk hu
  have hus := hux.out.2
  obtain ⟨x, hx⟩ : ∃ x, s ++ t = x := ⟨_, rfl⟩
  have hxs : x.size = 64 := by rw [← hx, HT.out, bs_size, pad_length _ (by rw [toL_length]; exact hs)]
  have HX : Kept (x = bs (pad (toL s))) := ⟨by rw [← hx]; exact HT.out⟩
  simp only [hx]
  clear hu hx hSm HT d0 d1
  go_loopw [8, 9] (fun v i wr => ∃ q : Nat, q ≤ 64 ∧ i = .int .i64 q ∧ Kept (TornIn w1 wr v ((torn m (toL x) (toL u)).take q))) (fun _ i _ => 64 - (intOf i).toNat)
  case atStart => exact ⟨0, by omega, rfl, ⟨⟨Below.refl _ _, By.Bs.nil _ _⟩⟩⟩
  case round =>
    obtain ⟨q, hq, rfl, hI⟩ := hrel
    have H2 := Kept.mk (H1.out.below hI.out.below)
    have d0 := H2.out.c0
    have d2 : wr.cell? ⟨g, 2, none⟩ = some (.int .u64 m) := by rw [← HM.out]; exact H2.out.c2
    have hu : wr.cell? ⟨r, j, none⟩ = some (.string u) := (hI.out.below.cell (World.block_lt_of_cell? w1 _ HU.out)).trans HU.out
    by_cases hlt : q < 64
    · have hqx : q < x.size := by omega
      have hqu : q < u.size := by omega
      have y3 : (0 : Int) ≤ q := by omega
      have y4 : (q : Int) ≤ 64 := by omega
      have hbit := mask_bit m q hmm
      have hat := torn_at m (toL x) (toL u) q hlt
      have hlen : ((torn m (toL x) (toL u)).take q).length + 1 ≤ 140737488355328 := by rw [List.length_take, torn_length]; omega
      have HLn := Kept.mk hlen
      by_cases hb : m / 2 ^ q % 2 = 1
      · rw [if_pos hb, getD_at x q hqx] at hat
        have HA := Kept.mk hat
        rw [hb] at hbit
        clear hat hb hlen
        go_wp2_with (at_builtin; refine By.wpList_append1 byteTy rfl _ _ rfl rfl hI.out.row hI.out.below.size (x[q]'hqx) _ rfl rfl HLn.out ?_; intro v2 w2 hE2 hg2)
        have HI2 := Kept.mk (hI.out.push hlt hE2 hg2 HA.out)
        clear hE2 hg2
        go_wp2
        go_roundw
        case rel => exact ⟨q + 1, by omega, by go_num, HI2⟩
        case measure => simp [intOf]; omega
      · have hb0 : m / 2 ^ q % 2 = 0 := by omega
        rw [if_neg hb, getD_at u q hqu] at hat
        have HA := Kept.mk hat
        rw [hb0] at hbit
        clear hat hb hb0 hlen
        go_wp2_with (at_builtin; refine By.wpList_append1 byteTy rfl _ _ rfl rfl hI.out.row hI.out.below.size (u[q]'hqu) _ rfl rfl HLn.out ?_; intro v2 w2 hE2 hg2)
        have HI2 := Kept.mk (hI.out.push hlt hE2 hg2 HA.out)
        clear hE2 hg2
        go_wp2
        go_roundw
        case rel => exact ⟨q + 1, by omega, by go_num, HI2⟩
        case measure => simp [intOf]; omega
    · have hq64 : q = 64 := by omega
      subst hq64
      have hall : Kept (By.Bs wr w1.heap.size u8 (torn m (toL x) (toL u))) := ⟨by have := hI.out.row; rw [List.take_of_length_le (by rw [torn_length]; exact Nat.le_refl _)] at this; exact this⟩
      have hstr : (convert 54 9 u8).run Try.prog wr.drew = .ok (.string (bs (torn m (toL x) (toL u)))) wr.drew := By.run_string byteTy 9 Try.underlying9 hall.out.drew
      have fr := H2.out.row j (by rw [HN.out]; exact hj)
      have f2 := H2.out.free 2 (by omega)
      have hud : wr.drew.cell? ⟨r, j, none⟩ = some (.string u) := hu
      have frd : wr.drew.frozen? ⟨r, j, none⟩ = false := fr
      have cm : (wr.drew.setCell ⟨r, j, none⟩ (.string (bs (torn m (toL x) (toL u))))).cell? ⟨g, 2, none⟩ = some (.int .u64 m) := (World.cell?_setCell_other wr.drew _ _ _ (fun e => hr (by injection e))).trans d2
      have HR : Kept ((D.write j (toL s)).2 = ⟨D.S.set j (torn m (toL x) (toL u)), 0, 0⟩) := ⟨by
        rw [Disk.write_dead ⟨⟨by omega, by rw [HN.out]; omega⟩, by rw [toL_length]; exact hs⟩ HP.out, HM.out, HX.out, hux.out.1, toL_bs, toL_bs]
        rfl⟩
      have HB : Kept (Only (blocks g (.slice (some ⟨r, 0, none⟩) n cap)) w wr) := ⟨((Only.refl _ w).below HB1.out).below hI.out.below⟩
      generalize hy : bs (torn m (toL x) (toL u)) = y at hstr cm
      have HY := Kept.mk hy
      clear hy
      go_wp2
      refine wp_region_still_tail 8 (by kernel_rfl) (by kernel_rfl) ?_
      simp only [List.take_succ_cons, List.take_zero, List.drop_succ_cons, List.drop_zero]
      repeat still_step
      refine wpStill_nil ?_
      go_wp2
      go_ret
      refine ⟨rfl, ?_, ((HB.out.setCell ⟨r, j, none⟩ (.string y) (fun _ => .inr rfl)).setCell ⟨g, 2, none⟩ (.int .u64 0) (fun _ => .inl rfl)).drew⟩
      rw [HR.out, ← HY.out]
      have h4 := (H2.out.setSector j (by rw [HN.out]; exact hj) _ (torn_length m (toL x) (toL u))).setMask 0 (by decide)
      rw [HP.out] at h4
      exact h4.below ((Below.refl _ _).drew)
end Dv
end Go.Proofs.Yticgecbgeahijaa
