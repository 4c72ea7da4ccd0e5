/-
  The program's Special; does an element match a byte.
-/
import Derived.Test.YtkifnabkoidhcaaPp9
namespace Go.Proofs.Ytkifnabkoidhcaa
open Go.RowKit Tx
namespace Pm

set_option maxHeartbeats 2000000 in
set_option maxRecDepth 100000 in
theorem sign1_any (w : World) (u : Un) : Calls Try.prog 32 #[.agg #[.int .u8 (u.1.toNat : Int), .bool u.2]] w fun e w' => e = .returned (.bool (signU u)) ∧ Below w.heap.size w w' := by
  obtain ⟨t1, h1⟩ : ∃ t, t = isU 42 u := ⟨_, rfl⟩
  obtain ⟨t2, h2⟩ : ∃ t, t = isU 63 u := ⟨_, rfl⟩
  obtain ⟨t3, h3⟩ : ∃ t, t = isU 91 u := ⟨_, rfl⟩
  have HI1 : Kept (t1 = ((u.1.toNat : Int) == 42 && !u.2)) := ⟨by rw [h1, isU_int]; rfl⟩
  have HI2 : Kept (t2 = ((u.1.toNat : Int) == 63 && !u.2)) := ⟨by rw [h2, isU_int]; rfl⟩
  have HI3 : Kept (t3 = ((u.1.toNat : Int) == 91 && !u.2)) := ⟨by rw [h3, isU_int]; rfl⟩
  have HS : Kept (signU u = (t1 || t2 || t3)) := ⟨by unfold signU; rw [h1, h2, h3]⟩
  have HA := Kept.mk (Below.alloc (Below.refl w.heap.size w) (Nat.le_refl _) (.cells #[.int .u8 (u.1.toNat : Int), .bool u.2] 50))
  have HR := Kept.mk (heap_alloc_new w (.cells #[.int .u8 (u.1.toNat : Int), .bool u.2] 50))
  have HF : ∀ w1, Below (w.alloc (.cells #[.int .u8 (u.1.toNat : Int), .bool u.2] 50)).heap.size (w.alloc (.cells #[.int .u8 (u.1.toNat : Int), .bool u.2] 50)) w1 → w1.cell? ⟨w.heap.size, 0, none⟩ = some (.int .u8 (u.1.toNat : Int)) ∧ w1.cell? ⟨w.heap.size, 1, none⟩ = some (.bool u.2) := fun w1 hb => by
    have hr := (hb.block w.heap.size (by simp)).trans HR.out
    exact ⟨cell_of_row _ _ 0 _ _ _ hr, cell_of_row _ _ 1 _ _ _ hr⟩
  have HFk := Kept.mk HF
  clear h1 h2 h3 HF
  go_enter Try.func32, Try.ntmps32
  cases t1 with
  | true =>
    go_wp2_with fail
    go_at_call 33
    refine (is_any _ _ _ _ true HI1.out).mono ?_
    rintro e w1 ⟨rfl, hb⟩
    have HB := Kept.mk (HA.out.trans (hb.mono HA.out.size))
    clear hb
    go_wp2_with fail
    go_ret
    exact ⟨by rw [HS.out]; rfl, HB.out⟩
  | false =>
    go_wp2_with fail
    go_at_call 33
    refine (is_any _ _ _ _ false HI1.out).mono ?_
    rintro e w1 ⟨rfl, hb⟩
    obtain ⟨c0, c1⟩ := HFk.out w1 hb
    have HB1 := Kept.mk hb
    clear hb HI1
    cases t2 with
    | true =>
      go_wp2_with fail
      go_at_call 33
      refine (is_any _ _ _ _ true HI2.out).mono ?_
      rintro e w2 ⟨rfl, hb⟩
      have HB := Kept.mk (HA.out.trans ((HB1.out.trans (hb.mono HB1.out.size)).mono HA.out.size))
      clear hb c0 c1
      go_wp2_with fail
      go_ret
      exact ⟨by rw [HS.out]; rfl, HB.out⟩
    | false =>
      go_wp2_with fail
      go_at_call 33
      refine (is_any _ _ _ _ false HI2.out).mono ?_
      rintro e w2 ⟨rfl, hb⟩
      have HB2 := Kept.mk (HB1.out.trans (hb.mono HB1.out.size))
      clear hb c0 c1
      obtain ⟨c0, c1⟩ := HFk.out w2 HB2.out
      go_wp2_with fail
      go_at_call 33
      refine (is_any _ _ _ _ t3 HI3.out).mono ?_
      rintro e w3 ⟨rfl, hb⟩
      have HB := Kept.mk (HA.out.trans ((HB2.out.trans (hb.mono HB2.out.size)).mono HA.out.size))
      clear hb c0 c1
      go_wp2_with fail
      go_ret
      exact ⟨by rw [HS.out]; simp, HB.out⟩
/-- Where the first sign stands. -/
def firstSign : Nat → List Un → Int
  | _, [] => -1
  | k, u :: r => if signU u then (k : Int) else firstSign (k + 1) r
theorem firstSign_any : ∀ (k : Nat) (l : List Un), decide (0 ≤ firstSign k l) = l.any signU
  | _, [] => rfl
  | k, u :: r => by
    rw [firstSign, List.any_cons]
    cases h : signU u with
    | true => rw [if_pos rfl]; simp
    | false => rw [if_neg (by decide), firstSign_any (k + 1) r]; rfl
set_option maxHeartbeats 2000000 in
set_option maxRecDepth 100000 in
theorem index_any (w : World) (A : Option Addr) (k : Nat) (us : List Un) (h : US w w.heap.size A k us) (n : Nat) (hn : n = us.length) :
    Calls Try.prog 42 #[.slice A n k, .func (.func 32) #[] #[]] w fun e w' => e = .returned (.int .i64 (firstSign 0 us)) ∧ Kept (Below w.heap.size w w') := by
  have HU := Kept.mk h
  have HN := Kept.mk hn
  clear h hn
  go_enter Try.func42, Try.ntmps42
  go_wp2_with fail
  go_loopw [8] (fun i wr => ∃ j : Nat, j ≤ n ∧ i = .int .i64 (j : Int) ∧ Kept (firstSign 0 us = firstSign j (us.drop j)) ∧ Kept (Below w.heap.size w wr)) (fun i _ => n - (intOf i).toNat)
  case atStart => exact ⟨0, by omega, rfl, ⟨rfl⟩, ⟨Below.refl _ _⟩⟩
  case round =>
    obtain ⟨j, hj, rfl, HX, HB⟩ := hrel
    by_cases hlt : j < n
    · have hl2 : (j : Int) < (n : Int) := by omega
      have hj5 : (j : Int) ≤ 2000 := by have := HU.out.few; have := HN.out; omega
      have hju : j < us.length := by have := HN.out; omega
      obtain ⟨g, off, hA, hg, c0, c1⟩ := (HU.out.below HB.out).at hju
      obtain ⟨v, hv⟩ : ∃ v, v = us[j] := ⟨_, rfl⟩
      rw [← hv] at c0 c1
      have hd : us.drop j = v :: us.drop (j + 1) := by rw [hv]; exact List.drop_eq_getElem_cons hju
      obtain ⟨t, ht⟩ : ∃ t, t = signU v := ⟨_, rfl⟩
      have HT := Kept.mk ht
      have HD : Kept (firstSign 0 us = if t then (j : Int) else firstSign (j + 1) (us.drop (j + 1))) := ⟨by rw [HX.out, hd, firstSign, ht]⟩
      have HSg := Kept.mk (sign1_any wr v)
      clear hv hju hg hd ht HX
      subst hA
      cases t with
      | true =>
        go_wp2_with fail
        refine HSg.out.mono ?_
        rintro e w3 ⟨rfl, hb⟩
        rw [← HT.out]
        have HB3 := Kept.mk (HB.out.trans (hb.mono HB.out.size))
        clear hb
        go_wp2_with fail
        go_ret
        exact ⟨by rw [HD.out]; rfl, HB3⟩
      | false =>
        go_wp2_with fail
        refine HSg.out.mono ?_
        rintro e w3 ⟨rfl, hb⟩
        rw [← HT.out]
        have HB3 := Kept.mk (HB.out.trans (hb.mono HB.out.size))
        clear hb
        go_wp2_with fail
        go_roundw
        case rel => exact ⟨j + 1, by omega, by go_num, ⟨HD.out⟩, HB3⟩
        case measure => simp [intOf]; omega
    · obtain rfl : j = n := by omega
      have HE : Kept (firstSign 0 us = -1) := ⟨by rw [HX.out, List.drop_eq_nil_of_le (by have := HN.out; omega)]; rfl⟩
      clear HX hlt
      go_wp2_with fail
      go_ret
      exact ⟨by rw [HE.out]; rfl, HB⟩
set_option maxHeartbeats 1000000 in
set_option maxRecDepth 100000 in
theorem contains_any (w : World) (A : Option Addr) (k : Nat) (us : List Un) (h : US w w.heap.size A k us) (n : Nat) (hn : n = us.length) :
    Calls Try.prog 31 #[.slice A n k, .func (.func 32) #[] #[]] w fun e w' => e = .returned (.bool (us.any signU)) ∧ Kept (Below w.heap.size w w') := by
  have HI := Kept.mk (index_any w A k us h n hn)
  have HD : Kept (decide (0 ≤ firstSign 0 us) = us.any signU) := ⟨firstSign_any 0 us⟩
  clear h hn
  generalize firstSign 0 us = z at *
  go_enter Try.func31, Try.ntmps31
  go_wp2_with fail
  refine HI.out.mono ?_
  rintro e w3 ⟨rfl, HB⟩
  clear HI
  go_wp2_with fail
  go_ret
  exact ⟨by rw [← HD.out]; rfl, HB⟩
set_option maxHeartbeats 1000000 in
set_option maxRecDepth 100000 in
theorem special_any (s : ByteArray) (w : World) (hs : s.size ≤ 2000) : Calls Try.prog 19 #[.string s] w fun e w' => e = .returned (.bool (special (toL s))) ∧ Below w.heap.size w w' := by
  have HS := Kept.mk hs
  clear hs
  go_enter Try.func19, Try.ntmps19
  go_wp2_with fail
  go_at_call 28
  refine (units_any s w HS.out).mono ?_
  rintro e w1 ⟨⟨A0, k0, rfl, hU0⟩, hB1⟩
  have HC := Kept.mk (contains_any w1 A0 k0 _ hU0 _ rfl)
  have HB := Kept.mk hB1
  clear hU0 hB1
  go_wp2_with fail
  refine HC.out.mono ?_
  rintro e w3 ⟨rfl, HB3⟩
  clear HC
  go_wp2_with fail
  go_ret
  exact ⟨by rw [special_un]; rfl, HB.out.trans (HB3.out.mono HB.out.size)⟩
set_option maxHeartbeats 1000000 in
set_option maxRecDepth 100000 in
theorem ematches_any (w : World) (e : PE) (t : PT) (h : EOk w e t) (c : UInt8) (f : UInt8 → Bool) (hf : e.fn = some f) :
    Calls Try.prog 44 #[t.val, .int .u8 (c.toNat : Int)] w fun r w' => r = .returned (.bool (f c)) ∧ Below w.heap.size w w' := by
  cases e with
  | star => cases hf
  | any =>
    have h : t = ⟨1, 0, none⟩ := h
    subst h
    injection hf with hf
    subst hf
    dsimp only [PT.val, PT.ptr, Option.map_none]
    go_enter Try.func44, Try.ntmps44
    go_wp2_with fail
    go_ret
    exact ⟨rfl, (Below.refl _ _).alloc (Nat.le_refl _) _⟩
  | one d =>
    have h : t = ⟨0, (d.toNat : Int), none⟩ := h
    subst h
    injection hf with hf
    subst hf
    dsimp only [PT.val, PT.ptr, Option.map_none]
    have HE : Kept (((d.toNat : Int) == (c.toNat : Int)) = (d == c)) := ⟨by
      rw [Bool.eq_iff_iff, beq_iff_eq, beq_iff_eq]
      exact ⟨fun h => UInt8.toNat_inj.1 (by omega), fun h => by rw [h]⟩⟩
    go_enter Try.func44, Try.ntmps44
    go_wp2_with fail
    go_ret
    exact ⟨by rw [← HE.out]; rfl, (Below.refl _ _).alloc (Nat.le_refl _) _⟩
  | set l =>
    obtain ⟨q, rfl, hq⟩ := h
    injection hf with hf
    subst hf
    dsimp only [PT.val, PT.ptr, Option.map_some]
    have hc := UInt8.toNat_lt c
    have hq2 := hq.below ((Below.refl w.heap.size w).alloc (Nat.le_refl _) (.cells #[.int .i64 3, .int .u8 0, .pointer (some ⟨q, 0, none⟩)] 61))
    have c0 := hq2.cell (i := c.toNat) (by omega)
    have hcc : UInt8.ofNat c.toNat = c := by simp
    rw [hcc] at c0
    have hc0 : (0 : Int) ≤ (c.toNat : Int) := by omega
    have hc1 : (c.toNat : Int) < 256 := by omega
    clear hq hq2 hc hcc
    generalize c.toNat = cn at *
    go_enter Try.func44, Try.ntmps44
    go_wp2_with fail
    go_ret
    exact ⟨rfl, (Below.refl _ _).alloc (Nat.le_refl _) _⟩
end Pm
end Go.Proofs.Ytkifnabkoidhcaa
