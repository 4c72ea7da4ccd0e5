/-
  does: an act at both devices.
-/
import Derived.Test.YticgecbgeahijaaDoesw
namespace Go.Proofs.Yticgecbgeahijaa
open Go.RowKit Tx
namespace Dv

set_option maxHeartbeats 2000000 in
set_option maxRecDepth 100000 in
theorem does_any {Dev : World → (Nat → Prop) → Value → Disk → Prop} (M : Means Dev) (n : Nat) (w : World) (d r : Value) (D : Disk) (B C : Nat → Prop) (h : Two Dev n w d r D D B C) (hn : n ≤ w.heap.size)
    (what k p : Int) (s : ByteArray) (m : Nat) (hs : s.size ≤ 1000000) (hk0 : -9223372036854775808 ≤ k) (hk1 : k ≤ 9223372036854775807) (hp0 : -9223372036854775808 ≤ p) (hp1 : p ≤ 9223372036854775807) (hm : m < 18446744073709551616) :
    Calls Try.prog 9 #[d, r, .agg #[.int .i64 what, .int .i64 k, .int .i64 p, .string s, .int .u64 m]] w fun e w' => e = .returned (.bool true) ∧ (∃ B' C' D', Two Dev n w' d r D' D' B' C') ∧ Below n w w' := by
  have H0 := Kept.mk (DoesIn.start (what := what) (k := k) (p := p) (s := s) (m := m) h M hn 33)
  have MM := Kept.mk M
  clear h hn M
  have HK0 := Kept.mk hk0
  have HK1 := Kept.mk hk1
  have HP0 := Kept.mk hp0
  have HP1 := Kept.mk hp1
  have HMm := Kept.mk hm
  have HSs := Kept.mk hs
  clear hk0 hk1 hp0 hp1 hm hs
  obtain ⟨c, hc⟩ : ∃ c, bits .and .i64 what 7 = c := ⟨_, rfl⟩
  by_cases h5 : c = 5
  · subst h5
    go_enter Try.func9, Try.ntmps9
    go_wp2_with (first
      | (go_at_call 13
         refine (MM.out.limit H0.out.two.dev p m HP0.out HP1.out HMm.out).mono ?_
         rintro e w1 ⟨B1, rfl, hd, ho, hB⟩
         have H1 := Kept.mk (H0.out.byDev hd ho hB)
         obtain ⟨_, _, _, a2, _, a4⟩ := H1.out.act
         clear hd ho hB)
      | (go_at_call 17
         refine (H1.out.two.ref.limit p m HP1.out HMm.out).mono ?_
         rintro e w2 ⟨rfl, hd, ho⟩
         have H2 := Kept.mk (H1.out.byRef MM.out hd ho)
         clear hd ho))
    go_ret
    exact ⟨rfl, ⟨_, _, _, H2.out.two⟩, H2.out.below⟩
  · by_cases h6 : c = 6
    · subst h6
      clear h5
      go_enter Try.func9, Try.ntmps9
      go_wp2_with (first
        | (go_at_call 14
           refine (MM.out.restart H0.out.two.dev).mono ?_
           rintro e w1 ⟨B1, rfl, hd, ho, hB⟩
           have H1 := Kept.mk (H0.out.byDev hd ho hB)
           clear hd ho hB)
        | (go_at_call 18
           refine (H1.out.two.ref.restart).mono ?_
           rintro e w2 ⟨rfl, hd, ho⟩
           have H2 := Kept.mk (H1.out.byRef MM.out hd ho)
           clear hd ho))
      go_ret
      exact ⟨rfl, ⟨_, _, _, H2.out.two⟩, H2.out.below⟩
    · by_cases h7 : c = 7
      · subst h7
        clear h5 h6
        obtain ⟨x, hx⟩ : ∃ x, D.read k = x := ⟨_, rfl⟩
        obtain ⟨x1, x2⟩ := x
        have HX := Kept.mk hx
        clear hx
        go_enter Try.func9, Try.ntmps9
        go_wp2_with (first
          | (go_at_call 12
             refine (MM.out.read H0.out.two.dev k HK0.out HK1.out).mono ?_
             rintro e w1 ⟨t, rfl, ht, hb⟩
             rw [HX.out] at ht ⊢
             have H1 := Kept.mk (H0.out.byBelow MM.out hb)
             obtain ⟨_, _, a1, _, _, _⟩ := H1.out.act
             clear hb)
          | (go_at_call 19
             refine (H1.out.two.ref.read k HK0.out HK1.out).mono ?_
             rintro e w2 ⟨u, rfl, hu, rfl⟩
             rw [HX.out] at hu ⊢
             have hE : (t.toList == u.toList) = true := by rw [beq_str, decide_eq_true (ht.out.trans hu.out.symm)]
             clear hu))
        go_ret
        exact ⟨rfl, ⟨_, _, _, H1.out.two⟩, H1.out.below⟩
      · exact does_write MM n w d r D B C what k p s m H0 HSs HK0 HK1 c hc h5 h6 h7
end Dv
end Go.Proofs.Yticgecbgeahijaa
