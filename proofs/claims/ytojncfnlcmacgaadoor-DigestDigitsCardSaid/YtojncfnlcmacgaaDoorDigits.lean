/-
  A sum has 64 digits: the law's call.
-/
import Derived.Test.YtojncfnlcmacgaaDoorAwake
namespace Go.Proofs.YtojncfnlcmacgaaDoor
open Go.RowKit
namespace Sha

theorem digits_small (d : Nat) (hd : d < 16) : (48 ≤ (digits.getD d 0).toNat ∧ (digits.getD d 0).toNat ≤ 57) ∨ (97 ≤ (digits.getD d 0).toNat ∧ (digits.getD d 0).toNat ≤ 102) := by
  have all : ∀ j : Fin 16, (48 ≤ (digits.getD j.val 0).toNat ∧ (digits.getD j.val 0).toNat ≤ 57) ∨ (97 ≤ (digits.getD j.val 0).toNat ∧ (digits.getD j.val 0).toNat ≤ 102) := by decide +kernel
  exact all ⟨d, hd⟩
def Digit (b : UInt8) : Prop := (48 ≤ b.toNat ∧ b.toNat ≤ 57) ∨ (97 ≤ b.toNat ∧ b.toNat ≤ 102)
theorem hex8_digits (x : UInt32) : ∀ b ∈ hex8 x, Digit b := by
  intro b hb
  obtain ⟨j, _, rfl⟩ := List.mem_map.1 hb
  exact digits_small _ (Nat.mod_lt _ (by omega))
theorem sum_digits (l : List UInt8) : ∀ b ∈ sum l, Digit b := by
  intro b hb
  unfold sum inHex at hb
  obtain ⟨x, _, hx⟩ := List.mem_flatMap.1 hb
  exact hex8_digits x b hx
theorem inHex_length (s : St) : (inHex s).length = 64 := by unfold inHex; rw [flat_length]; rfl
theorem sum_length (l : List UInt8) : (sum l).length = 64 := inHex_length _

theorem digits_any (s : ByteArray) (w : World) (hm : s.size ≤ maxLen) (hK : Tab w) :
    Calls Tryd.prog 5 #[.string s] w fun e w' => e = .returned (.bool true) ∧ Below w.heap.size w w' := by
  have HK := Kept.mk hK
  have HM := Kept.mk hm
  have hs : s.size ≤ 9223372036854775807 := by unfold maxLen at hm; omega
  clear hK hm
  by_cases hlt : 300 < s.size
  · go_enter Tryd.func5, Tryd.ntmps5
    go_wp2_with (go_at_call 6; refine (awake_any _ HK.out).mono ?_; rintro e w1 ⟨rfl, hb⟩)
    go_ret
    exact ⟨rfl, hb⟩
  · go_enter Tryd.func5, Tryd.ntmps5
    go_wp2_with (first
      | (go_at_call 6; refine (awake_any _ HK.out).mono ?_; rintro e w1 ⟨rfl, hb⟩)
      | (go_at_call 7; refine (sum_kept s _ HM.out (HK.out.below hb)).mono ?_; rintro e w2 ⟨t, rfl, hb2, ht⟩))
    have hd : ∀ k (h : k < t.size), Digit t[k] := by
      rw [ht.out]
      intro k h
      exact sum_digits s.data.toList _ (List.getElem_mem _)
    have hl : t.size = 64 := by rw [ht.out]; exact sum_length _
    have HD := Kept.mk hd
    have HL := Kept.mk hl
    have HB := Kept.mk (hb.trans (hb2.mono hb.size))
    have hl1 : t.size ≤ 64 := by omega
    have hl2 : 64 ≤ t.size := by omega
    clear hd hl hb hb2 ht
    go_loop [5] (fun i => ∃ k : Nat, k ≤ 64 ∧ i = .int .i64 k) (fun i => 64 - (intOf i).toNat)
    case atStart => exact ⟨0, by omega, rfl⟩
    case round =>
      obtain ⟨k, hk, rfl⟩ := hrel
      by_cases hk64 : k < 64
      · have hks : k < t.size := by omega
        have hD := HD.out k hks
        unfold Digit at hD
        rcases hD with ⟨h1, h2⟩ | ⟨h1, h2⟩
        · have g1 : (48 : Int) ≤ (t[k].toNat : Int) := by omega
          have g2 : (t[k].toNat : Int) ≤ 57 := by omega
          go_wp2
          go_round
          case rel => exact ⟨k + 1, by omega, by go_num⟩
          case measure => simp [intOf]; omega
        · have g0 : (48 : Int) ≤ (t[k].toNat : Int) := by omega
          have g1 : (97 : Int) ≤ (t[k].toNat : Int) := by omega
          have g2 : (t[k].toNat : Int) ≤ 102 := by omega
          have g3 : ¬ (t[k].toNat : Int) ≤ 57 := by omega
          go_wp2
          go_round
          case rel => exact ⟨k + 1, by omega, by go_num⟩
          case measure => simp [intOf]; omega
      · have hs64 : (t.size : Int) = 64 := by omega
        have hnk : ¬ k < t.size := by omega
        go_wp2
        go_ret
        exact ⟨rfl, HB.out⟩
end Sha
end Go.Proofs.YtojncfnlcmacgaaDoor
