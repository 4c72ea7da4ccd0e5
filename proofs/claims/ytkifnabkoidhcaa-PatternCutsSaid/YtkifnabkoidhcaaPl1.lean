/-
  The laws of patterns over any program that answers as the chapter says: what is asked of it; awake; signs; stars.
-/
import Derived.Test.YtkifnabkoidhcaaPr4
import Derived.Test.YtkifnabkoidhcaaPieces
namespace Go.Proofs.Ytkifnabkoidhcaa
open Go.RowKit Tx
namespace Pm
open Pc

/-- What is asked of the program, in a world of which K holds. -/
structure PaK (K : World → Prop) : Prop where
  mat : ∀ (p s : ByteArray) (w : World), K w → p.size ≤ 300 → s.size ≤ 300 → Calls Try.prog 13 #[.string p, .string s] w fun e w' => e = .returned (.bool (mat (toL p) (toL s))) ∧ Below w.heap.size w w'
  esc : ∀ (s : ByteArray) (w : World), K w → s.size ≤ 300 → Calls Try.prog 23 #[.string s] w fun e w' => e = .returned (.string (bs (esc (toL s)))) ∧ Below w.heap.size w w'
  plain : ∀ (s : ByteArray) (w : World), K w → s.size ≤ 300 → Calls Try.prog 17 #[.string s] w fun e w' => e = .returned (.string (bs (plain (toL s)))) ∧ Below w.heap.size w w'
  special : ∀ (s : ByteArray) (w : World), K w → s.size ≤ 300 → Calls Try.prog 19 #[.string s] w fun e w' => e = .returned (.bool (special (toL s))) ∧ Below w.heap.size w w'
  rem : ∀ (s p : ByteArray) (e most : Bool) (w : World), K w → s.size ≤ 300 → p.size ≤ 300 → Calls Try.prog 21 #[.string s, .string p, .bool e, .bool most] w fun x w' => x = .returned (.string (bs (rem (toL s) (toL p) e most))) ∧ Below w.heap.size w w'
  keep : ∀ (w w' : World), K w → Below w.heap.size w w' → K w'
variable {K : World → Prop}
/-- The same, with a letter for the answer. -/
theorem PaK.mat1 (M : PaK K) {b : Bool} (p s : ByteArray) (w : World) (hK : K w) (hp : p.size ≤ 300) (hs : s.size ≤ 300) (hb : b = Pm.mat (toL p) (toL s)) : Calls Try.prog 13 #[.string p, .string s] w fun e w' => e = .returned (.bool b) ∧ Below w.heap.size w w' := by rw [hb]; exact M.mat p s w hK hp hs
theorem PaK.esc1 (M : PaK K) {x : ByteArray} (s : ByteArray) (w : World) (hK : K w) (hs : s.size ≤ 300) (hb : x = bs (Pm.esc (toL s))) : Calls Try.prog 23 #[.string s] w fun e w' => e = .returned (.string x) ∧ Below w.heap.size w w' := by rw [hb]; exact M.esc s w hK hs
theorem PaK.plain1 (M : PaK K) {x : ByteArray} (s : ByteArray) (w : World) (hK : K w) (hs : s.size ≤ 300) (hb : x = bs (Pm.plain (toL s))) : Calls Try.prog 17 #[.string s] w fun e w' => e = .returned (.string x) ∧ Below w.heap.size w w' := by rw [hb]; exact M.plain s w hK hs
theorem PaK.special1 (M : PaK K) {b : Bool} (s : ByteArray) (w : World) (hK : K w) (hs : s.size ≤ 300) (hb : b = Pm.special (toL s)) : Calls Try.prog 19 #[.string s] w fun e w' => e = .returned (.bool b) ∧ Below w.heap.size w w' := by rw [hb]; exact M.special s w hK hs
theorem PaK.rem1 (M : PaK K) {x : ByteArray} (s p : ByteArray) (e most : Bool) (w : World) (hK : K w) (hs : s.size ≤ 300) (hp : p.size ≤ 300) (hb : x = bs (Pm.rem (toL s) (toL p) e most)) : Calls Try.prog 21 #[.string s, .string p, .bool e, .bool most] w fun z w' => z = .returned (.string x) ∧ Below w.heap.size w w' := by rw [hb]; exact M.rem s p e most w hK hs hp
set_option maxHeartbeats 1000000 in
set_option maxRecDepth 100000 in
theorem awake_any (M : PaK K) (w : World) (hK : K w) : Calls Try.prog 11 #[] w fun e w' => e = .returned (.bool true) ∧ Below w.heap.size w w' := by
  have HK := Kept.mk hK
  clear hK
  go_enter Try.func11, Try.ntmps11
  go_wp2_with fail
  go_at_call 13
  refine (M.mat1 (b := true) _ _ w HK.out (by decide) (by decide) (by decide)).mono ?_
  rintro e w1 ⟨rfl, hb⟩
  have HB1 := Kept.mk hb
  clear hb
  go_wp2_with fail
  go_at_call 13
  refine (M.mat1 (b := false) _ _ w1 (M.keep _ _ HK.out HB1.out) (by decide) (by decide) (by decide)).mono ?_
  rintro e w2 ⟨rfl, hb⟩
  have HB2 := Kept.mk (HB1.out.trans (hb.mono HB1.out.size))
  clear hb
  go_wp2_with fail
  go_at_call 21
  refine (M.rem1 (x := ⟨#[97]⟩) _ _ _ _ w2 (M.keep _ _ HK.out HB2.out) (by decide) (by decide) (by decide)).mono ?_
  rintro e w3 ⟨rfl, hb⟩
  have HB3 := Kept.mk (HB2.out.trans (hb.mono HB2.out.size))
  clear hb
  go_wp2_with fail
  go_at_call 23
  refine (M.esc1 (x := ⟨#[92, 97]⟩) _ w3 (M.keep _ _ HK.out HB3.out) (by decide) (by decide)).mono ?_
  rintro e w4 ⟨rfl, hb⟩
  have HB4 := Kept.mk (HB3.out.trans (hb.mono HB3.out.size))
  clear hb
  go_wp2_with fail
  go_at_call 17
  refine (M.plain1 (x := ⟨#[97]⟩) _ w4 (M.keep _ _ HK.out HB4.out) (by decide) (by decide)).mono ?_
  rintro e w5 ⟨rfl, hb⟩
  have HB5 := Kept.mk (HB4.out.trans (hb.mono HB4.out.size))
  clear hb
  go_wp2_with fail
  go_at_call 19
  refine (M.special1 (b := true) _ w5 (M.keep _ _ HK.out HB5.out) (by decide) (by decide)).mono ?_
  rintro e w6 ⟨rfl, hb⟩
  have HB6 := Kept.mk (HB5.out.trans (hb.mono HB5.out.size))
  clear hb
  go_wp2_with fail
  go_ret
  exact ⟨rfl, HB6.out⟩
end Pm
end Go.Proofs.Ytkifnabkoidhcaa
