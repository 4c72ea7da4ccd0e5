/-
  few: does a list of texts take at most 2000 bytes and places.
-/
import Derived.Test.YthiehhnobiapjaaDoorTup
namespace Go.Proofs.YthiehhnobiapjaaDoor
open Go.RowKit Net
namespace Tup

theorem few_any (l : List ByteArray) (A : Option Addr) (n k : Nat) (w : World) (hR : Rd w A l) (hn : l.length = n) (hm : n ≤ 140737488351232) (hs : ∀ s ∈ l, s.size ≤ 140737488351232) :
    Calls Tryd.prog 6 #[.slice A n k] w fun e w' => e = .returned (.bool (decide (much l ≤ 2000))) ∧ w' = w := by
  have HR := Kept.mk hR
  have HN := Kept.mk hn
  have HS := Kept.mk hs
  clear hR hn hs
  go_enter Tryd.func6, Tryd.ntmps6
  go_wp2
  go_loop [3, 4] (fun x i => ∃ t j : Nat, j ≤ n ∧ x = .int .i64 t ∧ i = .int .i64 j ∧ t ≤ 140737488355328 ∧ Kept (t = much (l.take j))) (fun _ i => n - (intOf i).toNat)
  case atStart => exact ⟨0, 0, by omega, rfl, rfl, by omega, ⟨by simp [much]⟩⟩
  case round =>
    obtain ⟨t, j, hj, rfl, rfl, hb, ht⟩ := hrel
    by_cases hlt : j < n
    · by_cases h2 : t ≤ 2000
      · obtain ⟨g, off, rfl, hg, hc⟩ := HR.out j (by rw [HN.out]; exact hlt)
        have hsz : l[j]'(by rw [HN.out]; exact hlt) ∈ l := List.getElem_mem _
        have hs2 := HS.out _ hsz
        have hu : Kept (t + ((l[j]'(by rw [HN.out]; exact hlt)).size + 1) = much (l.take (j + 1))) := ⟨by rw [much_take_succ l j (by rw [HN.out]; exact hlt), ← ht.out]⟩
        clear hsz
        generalize l[j]'(by rw [HN.out]; exact hlt) = s at hc hs2 hu
        go_wp2
        go_round
        case rel => exact ⟨t + (s.size + 1), j + 1, by omega, by go_num, by go_num, by omega, hu⟩
        case measure => simp [intOf]; omega
      · have hF : Kept (decide ((t : Int) ≤ 2000) = decide (much l ≤ 2000)) := ⟨by
          have := much_take_le l j
          have := ht.out
          rw [decide_eq_false (by omega), decide_eq_false (by omega)]⟩
        clear ht
        go_wp2
        go_ret
        exact ⟨congrArg (fun b => Ending.returned (Value.bool b)) hF.out, rfl⟩
    · have hF : Kept (decide ((t : Int) ≤ 2000) = decide (much l ≤ 2000)) := ⟨by
        have := ht.out
        rw [List.take_of_length_le (by rw [HN.out]; omega)] at this
        subst this
        by_cases h : much l ≤ 2000
        · rw [decide_eq_true h, decide_eq_true (by omega)]
        · rw [decide_eq_false h, decide_eq_false (by omega)]⟩
      clear ht
      go_wp2
      go_ret
      exact ⟨congrArg (fun b => Ending.returned (Value.bool b)) hF.out, rfl⟩
end Tup
end Go.Proofs.YthiehhnobiapjaaDoor
