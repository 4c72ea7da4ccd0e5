/-
  Same: are two lists of texts alike.
-/
import Derived.Test.YtjmblgahoejoiaaGreatDoorTup
namespace Go.Proofs.YtjmblgahoejoiaaGreatDoor
open Go.RowKit Net
namespace Tup

theorem take_same {l m : List ByteArray} {j : Nat} (h : l.take j = m.take j) (hl : j < l.length) (hm : j < m.length) (he : l[j] = m[j]) : l.take (j + 1) = m.take (j + 1) := by
  rw [List.take_succ_eq_append_getElem hl, List.take_succ_eq_append_getElem hm, h, he]

set_option maxRecDepth 100000 in
theorem same_any (l m : List ByteArray) (A C : Option Addr) (n k p q : Nat) (w : World) (hR : Rd w A l) (hQ : Rd w C m) (hn : l.length = n) (hp : m.length = p) (hn2 : n ≤ 140737488351232) (hp2 : p ≤ 140737488351232) :
    Calls Tryz.prog 21 #[.slice A n k, .slice C p q] w fun e w' => e = .returned (.bool (decide (l = m))) ∧ Below w.heap.size w w' := by
  have HR := Kept.mk hR
  have HQ := Kept.mk hQ
  have HN := Kept.mk hn
  have HP := Kept.mk hp
  clear hR hQ hn hp
  by_cases hnp : n = p
  · subst hnp
    go_enter Tryz.func21, Tryz.ntmps21
    go_wp2
    go_loopw [5] (fun i wr => ∃ j : Nat, j ≤ n ∧ i = .int .i64 j ∧ Below w.heap.size w wr ∧ Kept (l.take j = m.take j)) (fun i _ => n - (intOf i).toNat)
    case atStart => exact ⟨0, by omega, rfl, Below.refl _ _, ⟨rfl⟩⟩
    case round =>
      obtain ⟨j, hj, rfl, hb, ht⟩ := hrel
      by_cases hlt : j < n
      · obtain ⟨g, off, rfl, hg, hc⟩ := (HR.out.below hb) j (by rw [HN.out]; exact hlt)
        obtain ⟨g2, off2, rfl, hg2, hc2⟩ := (HQ.out.below hb) j (by rw [HP.out]; exact hlt)
        have hne : Kept (l[j]'(by rw [HN.out]; exact hlt) ≠ m[j]'(by rw [HP.out]; exact hlt) → l ≠ m) := ⟨fun h e => h (by subst e; rfl)⟩
        have heq : Kept (l[j]'(by rw [HN.out]; exact hlt) = m[j]'(by rw [HP.out]; exact hlt) → l.take (j + 1) = m.take (j + 1)) := ⟨fun h => take_same ht.out _ _ h⟩
        generalize l[j]'(by rw [HN.out]; exact hlt) = s at hc hne heq
        generalize m[j]'(by rw [HP.out]; exact hlt) = u at hc2 hne heq
        have HB := Kept.mk hb
        clear hb ht
        have z0 : (0 : Int) ≤ (j : Int) := by omega
        have z1 : (j : Int) < n := by omega
        by_cases hsu : s = u
        · have hE : (s.toList == u.toList) = true := by rw [beq_str, decide_eq_true hsu]
          have hT := Kept.mk (heq.out hsu)
          clear heq hne hsu
          go_wp2
          refine wp_region_still_lit (by kernel_rfl) (by kernel_rfl) ?_
          repeat (first | still_step)
          refine wpStill_nil ?_
          go_wp2
          go_roundw
          case rel => exact ⟨j + 1, by omega, by go_num, HB.out.drew, hT⟩
          case measure => simp [intOf]; omega
        · have hE : (s.toList == u.toList) = false := by rw [beq_str, decide_eq_false hsu]
          have hF : Kept (decide (l = m) = false) := ⟨decide_eq_false (hne.out hsu)⟩
          clear heq hne hsu
          go_wp2
          refine wp_region_still_lit (by kernel_rfl) (by kernel_rfl) ?_
          repeat (first | still_step)
          refine wpStill_nil ?_
          go_wp2
          go_ret
          exact ⟨by rw [hF.out]; rfl, HB.out.drew⟩
      · have hT : Kept (decide (l = m) = true) := ⟨by
          have := ht.out
          rw [List.take_of_length_le (by rw [HN.out]; omega), List.take_of_length_le (by rw [HP.out]; omega)] at this
          exact decide_eq_true this⟩
        clear ht
        go_wp2
        go_ret
        exact ⟨by rw [hT.out]; rfl, hb⟩
  · have hF : Kept (decide (l = m) = false) := ⟨decide_eq_false (fun e => hnp (by rw [← HN.out, ← HP.out, e]))⟩
    go_enter Tryz.func21, Tryz.ntmps21
    go_wp2
    go_ret
    exact ⟨by rw [hF.out]; rfl, Below.refl _ _⟩
end Tup
end Go.Proofs.YtjmblgahoejoiaaGreatDoor
