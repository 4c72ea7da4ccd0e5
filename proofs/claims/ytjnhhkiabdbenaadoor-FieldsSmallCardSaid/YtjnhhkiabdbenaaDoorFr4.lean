/-
  The document's Joined.
-/
import Derived.Test.YtjnhhkiabdbenaaDoorFr1
import Derived.Test.YtjnhhkiabdbenaaDoorFs
namespace Go.Proofs.YtjnhhkiabdbenaaDoor
open Go.RowKit Tx
namespace Fd
open Pm (esc toL_app)

set_option maxHeartbeats 4000000 in
set_option maxRecDepth 100000 in
theorem refJoined_any (l : List Sg) (A : Option Addr) (n k : Nat) (t : Bool) (w : World) (hR : Rg w A l) (hn : l.length = n) (hw : wt l ≤ 1900) (hn2 : n ≤ 100000) :
    Calls Tryd.prog 13 #[.slice A n k, .bool t] w fun e w' => e = .returned (.string (bs (joined t l))) ∧ w = w' := by
  have HR := Kept.mk hR
  have HN := Kept.mk hn
  have HW := Kept.mk hw
  clear hR hn hw
  go_enter Tryd.func13, Tryd.ntmps13
  go_wp2_with fail
  go_loop [5, 6] (fun o i => ∃ (j : Nat) (x : ByteArray), j ≤ n ∧ i = .int .i64 (j : Int) ∧ o = .string x ∧ Kept (toL x = joined t (l.take j))) (fun _ i => n - (intOf i).toNat)
  case atStart => exact ⟨0, ⟨#[]⟩, by omega, rfl, rfl, ⟨rfl⟩⟩
  case round =>
    obtain ⟨j, x, hj, rfl, rfl, HX⟩ := hrel
    by_cases hlt : j < n
    · have hl2 : (j : Int) < (n : Int) := by omega
      have hj0 : (0 : Int) ≤ (j : Int) := by omega
      have hlj : j < l.length := by rw [HN.out]; exact hlt
      obtain ⟨g, hA, hg, c0, c1⟩ := HR.out j hlj
      subst hA
      have HJ : Kept (∀ y, toL y = told t l[j] → toL (x ++ y) = joined t (l.take (j + 1))) := ⟨fun y hy => by rw [toL_app, HX.out, hy, joined_take t l j hlj]⟩
      have HT0 : Kept (x.size ≤ 1900 ∧ l[j].text.length ≤ 950) := ⟨by
        have h1 := joined_length t (l.take j)
        have h2 := wt_take l j
        have h3 := wt_at hlj
        have := HW.out
        rw [← toL_length, HX.out]
        omega⟩
      generalize l[j] = gg at c0 c1 HJ HT0
      obtain ⟨kd, tx⟩ := gg
      simp only at c0 c1 HT0
      obtain ⟨T, hT⟩ : ∃ T, T = bs tx := ⟨_, rfl⟩
      have HTx : Kept (toL T = tx ∧ T.size = tx.length) := ⟨by rw [hT, toL_bs, bs_size]; exact ⟨rfl, rfl⟩⟩
      rw [← hT] at c1
      have hTs : T.size ≤ 950 := by rw [HTx.out.2]; exact HT0.out.2
      have HTs := Kept.mk hTs
      have hxs : x.size ≤ 1900 := HT0.out.1
      clear hT
      by_cases h3 : kd = 3
      · subst h3
        have HS : Kept (toL (x ++ (⟨#[32]⟩ : ByteArray)) = joined t (l.take (j + 1))) := ⟨HJ.out _ rfl⟩
        have h1 : ¬ 9223372036854775807 < x.size + 1 := by omega
        go_wp2_with fail
        go_round
        case rel => exact ⟨j + 1, _, by omega, by go_num, rfl, HS⟩
        case measure => simp [intOf]; omega
      · have z3 : ¬ (kd : Int) = 3 := by omega
        cases t with
        | false =>
          have HS : Kept (toL (x ++ T) = joined false (l.take (j + 1))) := ⟨HJ.out _ (by unfold told; rw [if_neg h3, HTx.out.1]; rfl)⟩
          have h1 : ¬ 9223372036854775807 < x.size + T.size := by omega
          clear h3
          go_wp2_with fail
          go_round
          case rel => exact ⟨j + 1, _, by omega, by go_num, rfl, HS⟩
          case measure => simp [intOf]; omega
        | true =>
          by_cases h1 : kd = 1
          · subst h1
            have HA := Kept.mk (Pm.refEsc_any T w (by omega))
            rw [HTx.out.1] at HA
            obtain ⟨z, hz9⟩ : ∃ z, z = bs (esc tx) := ⟨_, rfl⟩
            rw [← hz9] at HA
            have HS : Kept (toL (x ++ z) = joined true (l.take (j + 1))) := ⟨HJ.out _ (by rw [hz9, toL_bs]; rfl)⟩
            have h1 : ¬ 9223372036854775807 < x.size + z.size := by have : z.size ≤ 1900 := (by rw [hz9, bs_size, esc_len]; have := HT0.out.2; omega); omega
            clear h3 hz9
            go_wp2_with fail
            go_at_call 19
            refine HA.out.mono ?_
            rintro e w2 ⟨rfl, rfl⟩
            go_wp2_with fail
            go_round
            case rel => exact ⟨j + 1, _, by omega, by go_num, rfl, HS⟩
            case measure => simp [intOf]; omega
          · have z1 : ¬ (kd : Int) = 1 := by omega
            have HA := Kept.mk (active_any T w (by omega))
            rw [HTx.out.1] at HA
            obtain ⟨z, hz9⟩ : ∃ z, z = bs (dbl tx) := ⟨_, rfl⟩
            rw [← hz9] at HA
            have HS : Kept (toL (x ++ z) = joined true (l.take (j + 1))) := ⟨HJ.out _ (by unfold told; rw [if_neg h3, hz9, toL_bs, if_pos rfl, if_neg h1])⟩
            have h2 : ¬ 9223372036854775807 < x.size + z.size := by have : z.size ≤ 1900 := (by have := (dbl_length tx).1; rw [hz9, bs_size]; have := HT0.out.2; omega); omega
            clear h3 hz9 h1
            go_wp2_with fail
            go_at_call 18
            refine HA.out.mono ?_
            rintro e w2 ⟨rfl, rfl⟩
            go_wp2_with fail
            go_round
            case rel => exact ⟨j + 1, _, by omega, by go_num, rfl, HS⟩
            case measure => simp [intOf]; omega
    · obtain rfl : j = n := by omega
      have HT : Kept (bs (joined t l) = x) := ⟨by
        have := HX.out
        rw [List.take_of_length_le (by rw [HN.out]; exact Nat.le_refl _)] at this
        rw [← this, bs_toL]⟩
      clear HX hlt
      go_wp2_with fail
      go_ret
      exact ⟨by rw [HT.out]; rfl, rfl⟩
end Fd
end Go.Proofs.YtjnhhkiabdbenaaDoor
