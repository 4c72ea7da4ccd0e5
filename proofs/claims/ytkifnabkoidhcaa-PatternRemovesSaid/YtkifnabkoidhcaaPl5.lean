/-
  The laws of patterns over any program: of a set, with the document's answer.
-/
import Derived.Test.YtkifnabkoidhcaaPl4
import Derived.Test.YtkifnabkoidhcaaBytes
namespace Go.Proofs.Ytkifnabkoidhcaa
open Go.RowKit Tx
namespace Pm
open Pc
variable {K : World → Prop}

theorem byteTy : By.Ty Try.prog 25 5 := ⟨Try.underlying25, Try.underlying5, by kernel_rfl⟩
theorem bs_one (w : World) (c : UInt8) : By.Bs (w.alloc (.cells #[.int .u8 (c.toNat : Int)] 5)) w.heap.size (.slice (some ⟨w.heap.size, 0, none⟩) 1 1) [c] :=
  By.Bs.of_own (e := 5) (n := 1) ⟨rfl, .inr ⟨w.heap.size, 1, _, rfl, Nat.le_refl _, heap_alloc_new w _, Nat.le_refl _, by decide, rfl, rfl⟩⟩
set_option maxHeartbeats 2000000 in
set_option maxRecDepth 100000 in
theorem sets_any (M : PaK K) (A : Option Addr) (n k : Nat) (c : UInt8) (w : World) (hK : K w) (hl : By8 w A n) (hn : n ≤ 9223372036854775807) :
    Calls Try.prog 10 #[.slice A n k, .int .u8 (c.toNat : Int)] w fun e w' => e = .returned (.bool true) ∧ Below w.heap.size w w' := by
  have HK := Kept.mk hK
  clear hK
  have HL := Kept.mk hl
  clear hl
  go_enter Try.func10, Try.ntmps10
  go_wp2_with fail
  go_at_call 15
  refine (pieces_any 1 (by decide) A n k w.heap.size 11 11 _ (HL.out.below ((Below.refl _ _).alloc (Nat.le_refl _) _)) hn (few_of (M := 1) (heap_alloc_new w _) (by decide +kernel)) (by omega) (by omega)).mono ?_
  rintro e w1 ⟨x, rfl, hxz, hv⟩
  have HB1 : Kept (Below w.heap.size w w1) := ⟨hv ▸ (Below.refl _ _).alloc (Nat.le_refl _) _⟩
  have hx14 : x.size ≤ 14 := by omega
  clear hv hxz
  have g1 : ¬ 9223372036854775807 < 1 + x.size := by omega
  go_wp2_with (refine By.wpList_string byteTy rfl 9 _ rfl Try.underlying9 rfl (bs_one w1 c) ?_)
  have HB2 := Kept.mk (HB1.out.alloc HB1.out.size (.cells #[.int .u8 (c.toNat : Int)] 5))
  generalize w1.alloc (.cells #[.int .u8 (c.toNat : Int)] 5) = w2 at *
  have hPz : ((⟨#[91]⟩ : ByteArray) ++ x).size ≤ 15 := by rw [ByteArray.size_append]; show 1 + x.size ≤ 15; omega
  have hSz : (⟨[c].toArray⟩ : ByteArray).size ≤ 1 := Nat.le_refl _
  generalize (⟨#[91]⟩ : ByteArray) ++ x = P at *
  generalize (⟨[c].toArray⟩ : ByteArray) = S at *
  have g2 : ¬ 9223372036854775807 < P.size + 1 := by omega
  have g3 : ¬ 9223372036854775807 < P.size + 2 := by omega
  have g4 : ¬ 9223372036854775807 < S.size + 1 := by omega
  have hP2 : (P ++ (⟨#[93]⟩ : ByteArray)).size ≤ 17 := by rw [ByteArray.size_append]; show P.size + 1 ≤ 17; omega
  have hP3 : (P ++ (⟨#[93, 42]⟩ : ByteArray)).size ≤ 17 := by rw [ByteArray.size_append]; show P.size + 2 ≤ 17; omega
  have hS3 : (S ++ (⟨#[97]⟩ : ByteArray)).size ≤ 2 := by rw [ByteArray.size_append]; show S.size + 1 ≤ 2; omega
  obtain ⟨b1, hb1⟩ : ∃ b, b = mat (toL P) (toL S) := ⟨_, rfl⟩
  obtain ⟨b2, hb2⟩ : ∃ b, b = mat (toL (P ++ (⟨#[93]⟩ : ByteArray))) (toL S) := ⟨_, rfl⟩
  obtain ⟨b3, hb3⟩ : ∃ b, b = mat (toL (P ++ (⟨#[93, 42]⟩ : ByteArray))) (toL (S ++ (⟨#[97]⟩ : ByteArray))) := ⟨_, rfl⟩
  have HM1 := Kept.mk hb1
  have HM2 := Kept.mk hb2
  have HM3 := Kept.mk hb3
  clear hb1 hb2 hb3
  go_wp2_with fail
  go_at_call 11
  refine (awake_any M w2 (M.keep _ _ HK.out HB2.out)).mono ?_
  rintro e w3 ⟨rfl, hb⟩
  have HB3 := Kept.mk (HB2.out.trans (hb.mono HB2.out.size))
  clear hb
  go_wp2_with fail
  go_at_call 13
  refine (M.mat1 (b := b1) P S w3 (M.keep _ _ HK.out HB3.out) (by omega) (by omega) HM1.out).mono ?_
  rintro e w4 ⟨rfl, hb⟩
  have HB4 := Kept.mk (HB3.out.trans (hb.mono HB3.out.size))
  clear hb
  go_wp2_with fail
  go_at_call 14
  refine ((refMat_any P S w4 (by omega) (by omega) b1 HM1.out).mono fun e uu h => (⟨h.1, h.2.below⟩ : e = .returned (.bool b1) ∧ Below w4.heap.size w4 uu)).mono ?_
  rintro e w5 ⟨rfl, hb⟩
  have HB5 := Kept.mk (HB4.out.trans (hb.mono HB4.out.size))
  clear hb
  go_wp2_with fail
  go_at_call 13
  refine (M.mat1 (b := b2) _ S w5 (M.keep _ _ HK.out HB5.out) (by omega) (by omega) HM2.out).mono ?_
  rintro e w6 ⟨rfl, hb⟩
  have HB6 := Kept.mk (HB5.out.trans (hb.mono HB5.out.size))
  clear hb
  go_wp2_with fail
  go_at_call 14
  refine ((refMat_any _ S w6 (by omega) (by omega) b2 HM2.out).mono fun e uu h => (⟨h.1, h.2.below⟩ : e = .returned (.bool b2) ∧ Below w6.heap.size w6 uu)).mono ?_
  rintro e w7 ⟨rfl, hb⟩
  have HB7 := Kept.mk (HB6.out.trans (hb.mono HB6.out.size))
  clear hb
  go_wp2_with fail
  go_at_call 13
  refine (M.mat1 (b := b3) _ _ w7 (M.keep _ _ HK.out HB7.out) (by omega) (by omega) HM3.out).mono ?_
  rintro e w8 ⟨rfl, hb⟩
  have HB8 := Kept.mk (HB7.out.trans (hb.mono HB7.out.size))
  clear hb
  go_wp2_with fail
  go_at_call 14
  refine ((refMat_any _ _ w8 (by omega) (by omega) b3 HM3.out).mono fun e uu h => (⟨h.1, h.2.below⟩ : e = .returned (.bool b3) ∧ Below w8.heap.size w8 uu)).mono ?_
  rintro e w9 ⟨rfl, hb⟩
  have HB9 := Kept.mk (HB8.out.trans (hb.mono HB8.out.size))
  clear hb
  go_wp2_with fail
  go_ret
  exact ⟨rfl, HB9.out⟩
end Pm
end Go.Proofs.Ytkifnabkoidhcaa
