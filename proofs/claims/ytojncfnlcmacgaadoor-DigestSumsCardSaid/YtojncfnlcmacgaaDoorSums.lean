/-
  The sum of any text is the document's: the law's call.
-/
import Derived.Test.YtojncfnlcmacgaaDoorAwake
import Derived.Test.YtojncfnlcmacgaaDoorRefT
namespace Go.Proofs.YtojncfnlcmacgaaDoor
open Go.RowKit
namespace Sha

set_option maxHeartbeats 1000000 in
theorem sums_any (s : ByteArray) (w : World) (hm : s.size ≤ maxLen) (hK : Tab w) :
    Calls Tryd.prog 3 #[.string s] w fun e w' => e = .returned (.bool true) ∧ Below w.heap.size w w' := by
  have HK := Kept.mk hK
  have HM := Kept.mk hm
  have hs : s.size ≤ 9223372036854775807 := by unfold maxLen at hm; omega
  clear hK hm
  by_cases hlt : 300 < s.size
  · have hz : (300 : Int) < s.size := by omega
    go_enter Tryd.func3, Tryd.ntmps3
    go_wp2_with (go_at_call 6; refine (awake_any _ HK.out).mono ?_; rintro e w1 ⟨rfl, hb⟩)
    go_ret
    exact ⟨rfl, hb⟩
  · have hz : ¬ (300 : Int) < s.size := by omega
    have hz2 : decide ((300 : Int) < s.size) = false := decide_eq_false hz
    have hs3 : s.size ≤ 300 := by omega
    have H3 := Kept.mk hs3
    clear hs3
    go_enter Tryd.func3, Tryd.ntmps3
    go_wp2_with (first
      | (go_at_call 6; refine (awake_any _ HK.out).mono ?_; rintro e w1 ⟨rfl, hb⟩)
      | (go_at_call 7; refine (sum_kept s _ HM.out (HK.out.below hb)).mono ?_; rintro e w2 ⟨t, rfl, hb2, ht⟩)
      | (go_at_call 8; refine (refSum_any s _ H3.out).mono ?_; rintro e w3 ⟨t2, rfl, hb3, ht2⟩; obtain rfl : t2 = t := ht2.out.trans ht.out.symm))
    go_ret
    exact ⟨rfl, hb.trans ((hb2.trans (hb3.mono hb2.size)).mono hb.size)⟩
end Sha
end Go.Proofs.YtojncfnlcmacgaaDoor
