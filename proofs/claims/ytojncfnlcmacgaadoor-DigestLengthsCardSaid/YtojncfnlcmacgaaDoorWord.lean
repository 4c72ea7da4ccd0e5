/-
  The word that stands at a place of a text.
-/
import Derived.Test.YtojncfnlcmacgaaDoorScal
import Derived.Test.YtojncfnlcmacgaaDoorMem
import Derived.Deep.QuietTactic
import Derived.BigQuiet
import Derived.Outline
import Derived.IntWalk
namespace Go.Proofs.YtojncfnlcmacgaaDoor
open Go.RowKit
namespace Sha

theorem word_any (s : ByteArray) (i : Nat) (w : World) (hs : s.size ≤ maxLen) (hi : i + 3 < s.size) :
    Calls Tryd.prog 24 #[.string s, .int .i64 i] w fun e w' => e = .returned (.int .u32 (wordAt s.data.toList i).toNat) ∧ ∃ n, w' = w.drewN n := by
  unfold maxLen at hs
  have h0 : (0 : Int) ≤ i := by omega
  have h1 : (i : Int) + 3 < s.size := by omega
  have h2 : (i : Int) < s.size := by omega
  have h3 : (i : Int) + 1 < s.size := by omega
  have h4 : (i : Int) + 2 < s.size := by omega
  have n1 : (0 : Int) ≤ (i : Int) + 1 := by omega
  have n2 : (0 : Int) ≤ (i : Int) + 2 := by omega
  have n3 : (0 : Int) ≤ (i : Int) + 3 := by omega
  have t1 : ((i : Int) + 1).toNat = i + 1 := by omega
  have t2 : ((i : Int) + 2).toNat = i + 2 := by omega
  have t3 : ((i : Int) + 3).toNat = i + 3 := by omega
  have e1 : IntKind.i64.wrap ((i : Int) + 1) = (i : Int) + 1 := IntWalk.i64_in _ (by omega)
  have e2 : IntKind.i64.wrap ((i : Int) + 2) = (i : Int) + 2 := IntWalk.i64_in _ (by omega)
  have e3 : IntKind.i64.wrap ((i : Int) + 3) = (i : Int) + 3 := IntWalk.i64_in _ (by omega)
  go_enter Tryd.func24, Tryd.ntmps24
  go_wp2
  go_quiet (fail)
  go_wp2
  go_ret
  refine ⟨ret_eq ((word_val s[i] s[i + 1] s[i + 2] s[i + 3]).trans ?_), _, rfl⟩
  unfold wordAt
  rw [list_at s i (by omega), list_at s (i + 1) (by omega), list_at s (i + 2) (by omega), list_at s (i + 3) (by omega)]
end Sha
end Go.Proofs.YtojncfnlcmacgaaDoor
