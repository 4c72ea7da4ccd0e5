/-
  The law of few pieces.
-/
import Derived.Test.YtjnhhkiabdbenaaDoorFl5
import Derived.Test.YtjnhhkiabdbenaaDoorFr4
namespace Go.Proofs.YtjnhhkiabdbenaaDoor
open Go.RowKit Tx
namespace Fd

def signsL : List ByteArray := [⟨#[32, 9, 10]⟩, ⟨#[58]⟩, ⟨#[32, 58]⟩, ⟨#[]⟩, ⟨#[58, 9]⟩, ⟨#[97]⟩, ⟨#[92, 32]⟩]
theorem signs_small (j : Nat) (h : j < signsL.length) : signsL[j].size ≤ 3 := by
  have h2 : ∀ x ∈ signsL, x.size ≤ 3 := by decide +kernel
  exact h2 _ (List.getElem_mem h)
set_option maxHeartbeats 4000000 in
set_option maxRecDepth 100000 in
theorem small_any (A : Option Addr) (n k : Nat) (m : Nat) (w : World) (hK : Kit w) (hl : Bits w A n) (hn : n ≤ 140737488355328) (hm : m < 256) :
    Calls Tryd.prog 3 #[.slice A n k, .int .u8 (m : Int)] w fun e w' => e = .returned (.bool true) ∧ Below w.heap.size w w' := by
  have HK := Kept.mk hK
  have HL := Kept.mk hl
  have HN := Kept.mk hn
  have q1 : IntKind.i64.wrap (m : Int) = (m : Int) := IntWalk.i64_in _ (by omega)
  have q2 : (m : Int).tmod 7 = ((m % 7 : Nat) : Int) := by rw [Int.tmod_eq_emod_of_nonneg (by omega)]; omega
  obtain ⟨z, hz⟩ : ∃ z, z = m % 7 := ⟨_, rfl⟩
  rw [← hz] at q2
  have hz7 : z < 7 := by omega
  have z0 : (0 : Int) ≤ (z : Int) := by omega
  have z1 : (z : Int) < 7 := by omega
  clear hK hl hn hm hz
  go_enter Tryd.func3, Tryd.ntmps3
  go_wp2_with fail
  go_at_call 7
  refine (made_any A n k w HL.out HN.out).mono ?_
  rintro e w1 ⟨l, C, q, rfl, hR, hM, hb⟩
  have HM := hM
  obtain ⟨N, hN⟩ : ∃ N, l.length = N := ⟨_, rfl⟩
  have HNl := Kept.mk hN
  rw [hN]
  have hb2 : Below w1.heap.size w1 (w1.alloc (.cells (signsL.map Value.string).toArray 9)) := (Below.refl _ _).alloc (Nat.le_refl _) _
  have HR := Kept.mk (hR.out.below hb2)
  have HB2 := Kept.mk (hb.trans (hb2.mono hb.size))
  have hc := (Own.At.fresh (c := Value.string) w1 _ 9 signsL rfl).cell z (by simpa [signsL] using hz7)
  rw [Nat.zero_add] at hc
  have HF0 := Kept.mk (signs_small z (by simpa [signsL] using hz7))
  generalize signsL[z]'(by simpa [signsL] using hz7) = f at hc HF0
  simp only [signsL, List.map_cons, List.map_nil, List.toArray] at hc
  have HFs : Kept (f.size ≤ 2000) := ⟨by have := HF0.out; omega⟩
  obtain ⟨r1, hr1⟩ : ∃ r1, fieldsOf (toL f) l = r1 := ⟨_, rfl⟩
  obtain ⟨N1, hN1⟩ : ∃ N1, r1.length = N1 := ⟨_, rfl⟩
  have HNk : Kept (N1 ≤ 100000 ∧ N ≤ 100000) := ⟨by
    have h1 := fields_size (toL f) l
    have h2 := HM.out.wt
    have h3 := HM.out.few
    rw [hr1, hN1] at h1
    omega⟩
  have Hr1 := Kept.mk hr1
  have HN1 := Kept.mk hN1
  obtain ⟨j1, hj1⟩ : ∃ j1, joined true l = j1 := ⟨_, rfl⟩
  obtain ⟨j2, hj2⟩ : ∃ j2, joined false l = j2 := ⟨_, rfl⟩
  have HJ1 := Kept.mk hj1
  have HJ2 := Kept.mk hj2
  have HKd : Kept (∀ g ∈ l, g.kind ≤ 3) := ⟨fun g hg => (HM.out.each g hg).1⟩
  have HW : Kept (wt l ≤ 1900) := ⟨by have := HM.out.wt; omega⟩
  have HW3 : Kept (wt l ≤ 3000) := ⟨by have := HM.out.wt; omega⟩
  clear hb hb2 hR hM hN hr1 hN1 hj1 hj2
  go_wp2_with fail
  go_at_call 8
  refine (awake_any _ (HK.out.below HB2.out)).mono ?_
  rintro e w2 ⟨rfl, hb⟩
  have HB3 := Kept.mk (HB2.out.trans (hb.mono HB2.out.size))
  have HR3 := Kept.mk (HR.out.below hb)
  clear hb HR HB2 hc
  go_wp2_with fail
  go_at_call 10
  refine (fields_lit2 l r1 C N q N1 f w2 Hr1 HN1.out (HK.out.below HB3.out) HR3.out HNl.out HKd.out HW3.out HFs.out HNk.out.2).mono ?_
  rintro e w3 ⟨C1, q1, rfl, hR, hb⟩
  have HB4 := Kept.mk (HB3.out.trans (hb.mono HB3.out.size))
  have HR4 := Kept.mk (HR3.out.below hb)
  have HA := hR
  clear hb HR3 hR
  go_wp2_with fail
  go_at_call 11
  refine (refFields_lit l r1 C N q N1 f w3 Hr1 HN1.out HR4.out HNl.out HKd.out HW.out HFs.out HNk.out.2).mono ?_
  rintro e w4 ⟨D1, p1, rfl, hR, hb⟩
  have HB5 := Kept.mk (HB4.out.trans (hb.mono HB4.out.size))
  have HR5 := Kept.mk (HR4.out.below hb)
  have HA2 := Kept.mk (And.intro (HA.out.below hb) hR.out)
  clear hb HR4 hR HA
  go_wp2_with fail
  go_at_call 9
  refine (same_lit r1 C1 D1 N1 q1 p1 w4 HN1.out HA2.out.1 HA2.out.2 HNk.out.1).mono ?_
  rintro e w5 ⟨rfl, hb⟩
  have HB6 := Kept.mk (HB5.out.trans (hb.mono HB5.out.size))
  have HR6 := Kept.mk (HR5.out.below hb)
  clear hb HR5 HA2
  go_wp2_with fail
  go_at_call 12
  refine (joined_any l C N q true w5 (HK.out.below HB6.out) HR6.out HNl.out HW3.out HNk.out.2).mono ?_
  rintro e w6 ⟨rfl, hb⟩
  rw [HJ1.out]
  have HB7 := Kept.mk (HB6.out.trans (hb.mono HB6.out.size))
  have HR7 := Kept.mk (HR6.out.below hb)
  clear hb HR6
  go_wp2_with fail
  go_at_call 13
  refine (refJoined_any l C N q true w6 HR7.out HNl.out HW.out HNk.out.2).mono ?_
  rintro e w7 ⟨rfl, rfl⟩
  rw [HJ1.out]
  have hE1 : ((bs j1).toList == (bs j1).toList) = true := by simp
  go_wp2_with fail
  go_at_call 12
  refine (joined_any l C N q false w6 (HK.out.below HB7.out) HR7.out HNl.out HW3.out HNk.out.2).mono ?_
  rintro e w8 ⟨rfl, hb⟩
  rw [HJ2.out]
  have HB8 := Kept.mk (HB7.out.trans (hb.mono HB7.out.size))
  have HR8 := Kept.mk (HR7.out.below hb)
  clear hb HR7
  go_wp2_with fail
  go_at_call 13
  refine (refJoined_any l C N q false w8 HR8.out HNl.out HW.out HNk.out.2).mono ?_
  rintro e w9 ⟨rfl, rfl⟩
  rw [HJ2.out]
  have hE2 : ((bs j2).toList == (bs j2).toList) = true := by simp
  go_wp2_with fail
  go_ret
  exact ⟨rfl, HB8.out⟩
end Fd
end Go.Proofs.YtjnhhkiabdbenaaDoor
