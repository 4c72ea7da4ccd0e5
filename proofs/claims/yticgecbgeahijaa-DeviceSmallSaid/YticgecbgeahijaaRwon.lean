/-
  The document's device: a write for which there is power.
-/
import Derived.Test.YticgecbgeahijaaRwrite
import Derived.IntWalk
namespace Go.Proofs.Yticgecbgeahijaa
open Go.RowKit Tx
namespace Dv

set_option maxHeartbeats 1000000 in
set_option maxRecDepth 100000 in
theorem write_on (w : World) (b g r n cap : Nat) (D : Disk) (h : RefAt w b g (.slice (some ⟨r, 0, none⟩) n cap) D) (hn : D.S.length = n) (j : Nat) (hj : j < n) (s : ByteArray) (hs : s.size ≤ 64) (hpw : D.power ≠ 0) :
    Calls Try.prog 20 #[.pointer (some ⟨g, 0, none⟩), .int .i64 j, .string s] w fun e w' => e = .returned (.int .i64 0) ∧ Written b g (.slice (some ⟨r, 0, none⟩) n cap) w w' (D.write j (toL s)).2 := by
  have hW : Kept ((D.write j (toL s)).2 = ⟨D.S.set j (pad (toL s)), if 0 < D.power then D.power - 1 else D.power, D.mask⟩) := ⟨by
    rw [Disk.write_on ⟨⟨by omega, by omega⟩, by rw [toL_length]; exact hs⟩ hpw]
    rfl⟩
  have hr : r ≠ g := fun e => h.apart (by rw [e]; rfl)
  have hr2 : g ≠ r := fun e => hr e.symm
  have c0 := h.c0
  have c1 := h.c1
  have c2 := h.c2
  have hmx := h.ok.few
  rw [hn] at hmx
  have HN := Kept.mk hn
  clear hn
  have hlow := h.ok.low
  have hhigh := h.ok.high
  have H := Kept.mk h
  clear h
  have z0 : ¬ (j : Int) < 0 := by omega
  have z1 : ¬ (n : Int) ≤ j := by omega
  have z2 : ¬ (64 : Int) < s.size := by omega
  have z3 : (j : Int) < n := by omega
  have z4 : (0 : Int) ≤ j := by omega
  have hz : ∀ w, Calls Try.prog 15 #[.int .i64 (64 - (s.size : Int))] w fun e w' => ∃ t : ByteArray, e = .returned (.string t) ∧ Below w.heap.size w w' ∧ Kept (t = bs (List.replicate (64 - s.size) 0)) := fun w => by
    rw [show (64 - (s.size : Int)) = ((64 - s.size : Nat) : Int) by omega]
    exact zeros_any _ w (by omega)
  have HZ := Kept.mk hz
  clear hz
  obtain ⟨p, hp⟩ : ∃ p, D.power = p := ⟨_, rfl⟩
  rw [hp] at c1 hpw hlow hhigh
  have HP := Kept.mk hp
  clear hp
  have y1 : IntKind.i64.wrap (64 - (s.size : Int)) = 64 - (s.size : Int) := IntWalk.i64_in _ (by omega)
  have y2 : (64 - (s.size : Int) + 9223372036854775808) % 18446744073709551616 - 9223372036854775808 = 64 - (s.size : Int) := by omega
  by_cases hp0 : 0 < p
  · have hpe : (p == 0) = false := by simpa using hpw
    have hpn : (p != 0) = true := by simpa using hpw
    have y3 : (p - 1 + 9223372036854775808) % 18446744073709551616 - 9223372036854775808 = p - 1 := by omega
    go_enter Try.func20, Try.ntmps20
    go_wp2_with (go_at_call 15
                 refine (HZ.out _).mono ?_
                 rintro e w1 ⟨t, rfl, hb1, ht⟩
                 have HB1 := Kept.mk hb1
                 have H1 := Kept.mk (H.out.below hb1)
                 have d0 := H1.out.c0
                 have d1 : w1.cell? ⟨g, 1, none⟩ = some (.int .i64 p) := by rw [← HP.out]; exact H1.out.c1
                 have f1 := H1.out.free 1 (by omega)
                 have fr := H1.out.row j (by rw [HN.out]; exact hj)
                 obtain ⟨u, cr⟩ := H1.out.some j (by rw [HN.out]; exact hj)
                 have HT := Kept.mk (pad_bs s t ht.out)
                 have hts : t.size ≤ 64 := by rw [ht.out, bs_size, List.length_replicate]; omega
                 have hSm : ¬ 9223372036854775807 < s.size + t.size := by omega
                 have cr2 : (w1.setCell ⟨g, 1, none⟩ (.int .i64 (p - 1))).cell? ⟨r, j, none⟩ = some (.string u) := (World.cell?_setCell_other w1 _ _ _ (fun e => hr2 (by injection e))).trans cr
                 clear hb1 ht)
    go_ret
    refine ⟨rfl, ?_, ?_⟩
    · rw [hW.out, HP.out, if_pos hp0, HT.out]
      exact (H1.out.setPower (p - 1) (by omega) (by omega)).setSector j (by rw [HN.out]; exact hj) _ (pad_length _ (by rw [toL_length]; exact hs))
    · exact (((Only.refl _ w).below HB1.out).setCell _ _ (fun _ => .inl rfl)).setCell _ _ (fun _ => .inr rfl)
  · have hp1 : p = -1 := by omega
    subst hp1
    clear hp0 hpw hlow hhigh
    go_enter Try.func20, Try.ntmps20
    go_wp2_with (go_at_call 15
                 refine (HZ.out _).mono ?_
                 rintro e w1 ⟨t, rfl, hb1, ht⟩
                 have HB1 := Kept.mk hb1
                 have H1 := Kept.mk (H.out.below hb1)
                 have d0 := H1.out.c0
                 have d1 : w1.cell? ⟨g, 1, none⟩ = some (.int .i64 (-1)) := by rw [← HP.out]; exact H1.out.c1
                 have f1 := H1.out.free 1 (by omega)
                 have fr := H1.out.row j (by rw [HN.out]; exact hj)
                 obtain ⟨u, cr⟩ := H1.out.some j (by rw [HN.out]; exact hj)
                 have HT := Kept.mk (pad_bs s t ht.out)
                 have hts : t.size ≤ 64 := by rw [ht.out, bs_size, List.length_replicate]; omega
                 have hSm : ¬ 9223372036854775807 < s.size + t.size := by omega
                 clear hb1 ht)
    go_ret
    refine ⟨rfl, ?_, ?_⟩
    · rw [hW.out, HP.out, if_neg (by decide), HT.out]
      have := H1.out.setSector j (by rw [HN.out]; exact hj) _ (pad_length (toL s) (by rw [toL_length]; exact hs))
      rw [HP.out] at this
      exact this
    · exact ((Only.refl _ w).below HB1.out).setCell _ _ (fun _ => .inr rfl)
end Dv
end Go.Proofs.Yticgecbgeahijaa
