/-
  What any right program answers: the sum of abc.
-/
import Derived.Test.YtojncfnlcmacgaaDoorSum
namespace Go.Proofs.YtojncfnlcmacgaaDoor
open Go.RowKit
namespace Sha

theorem abc_any (w : World) (hK : Tab w) :
    Calls Tryd.prog 7 #[.string ⟨#[97, 98, 99]⟩] w fun e w' => e = .returned (.string ⟨#[98, 97, 55, 56, 49, 54, 98, 102, 56, 102, 48, 49, 99, 102, 101, 97, 52, 49, 52, 49, 52, 48, 100, 101, 53, 100, 97, 101, 50, 50, 50, 51, 98, 48, 48, 51, 54, 49, 97, 51, 57, 54, 49, 55, 55, 97, 57, 99, 98, 52, 49, 48, 102, 102, 54, 49, 102, 50, 48, 48, 49, 53, 97, 100]⟩) ∧ Below w.heap.size w w' :=
  (sum_any ⟨#[97, 98, 99]⟩ w (by unfold maxLen; decide) hK).mono fun e w' ⟨h, hb⟩ => ⟨h.trans (by
    show Ending.returned (Value.string ⟨(sum [97, 98, 99]).toArray⟩) = _
    rw [sum_abc]
    rfl), hb⟩

theorem awake_any (w : World) (hK : Tab w) :
    Calls Tryd.prog 6 #[] w fun e w' => e = .returned (.bool true) ∧ Below w.heap.size w w' := by
  have HK := Kept.mk hK
  clear hK
  go_enter Tryd.func6, Tryd.ntmps6
  go_wp2_with (go_at_call 7; refine (abc_any _ HK.out).mono ?_; rintro e w1 ⟨rfl, hb⟩)
  go_ret
  exact ⟨rfl, hb⟩

theorem sum_kept (s : ByteArray) (w : World) (hm : s.size ≤ maxLen) (hK : Tab w) :
    Calls Tryd.prog 7 #[.string s] w fun e w' => ∃ t : ByteArray, e = .returned (.string t) ∧ Below w.heap.size w w' ∧ Kept (t = ⟨(sum s.data.toList).toArray⟩) :=
  (sum_any s w hm hK).mono fun _ _ ⟨h, b⟩ => ⟨_, h, b, ⟨rfl⟩⟩
end Sha
end Go.Proofs.YtojncfnlcmacgaaDoor
