/-
  The document's side: Digits and Encode.
-/
import Derived.Test.YtjmblgahoejoiaaDoorEnc
import Derived.Deep.RegionHeld3
namespace Go.Proofs.YtjmblgahoejoiaaDoor
open Go.RowKit Net
namespace Tup

theorem byteTy' : By.Ty Tryd.prog 82 5 := ⟨Tryd.underlying82, Tryd.underlying5, by kernel_rfl⟩

theorem bs_append (a b : List UInt8) : bs a ++ bs b = bs (a ++ b) := by
  apply toL_inj
  rw [toL_bs]
  unfold toL bs
  simp
theorem digit_byte (d : Nat) (h : d < 10) : IntKind.u8.wrap (48 + (d : Int)) = ((UInt8.ofNat (48 + d)).toNat : Int) := by
  rw [toNat_dig d h]
  exact IntWalk.u8_in _ (by omega)

theorem one_digit (d : Nat) (h : d < 10) : (⟨#[48 + UInt8.ofNat d]⟩ : ByteArray) = bs [UInt8.ofNat (48 + d)] := by
  have all : ∀ j : Fin 10, (⟨#[48 + UInt8.ofNat j.val]⟩ : ByteArray) = bs [UInt8.ofNat (48 + j.val)] := by
    intro j
    unfold bs
    have e : (48 + UInt8.ofNat j.val : UInt8) = UInt8.ofNat (48 + j.val) := by
      revert j
      decide +kernel
    rw [e]
  exact all ⟨d, h⟩
theorem dig_small {n : Nat} (h : n < 10) : dig n = [UInt8.ofNat (48 + n % 10)] := by
  rw [dig, if_pos h, Nat.mod_eq_of_lt h]
theorem dig_big {n : Nat} (h : ¬ n < 10) : dig n = dig (n / 10) ++ [UInt8.ofNat (48 + n % 10)] := by
  rw [dig, if_neg h]

theorem one_bs (n : Nat) (w : World) : By.Bs (w.alloc (.cells #[.int .u8 (48 + (n : Int) % 10)] 5)) 0 (.slice (some ⟨w.heap.size, 0, none⟩) 1 1) [UInt8.ofNat (48 + n % 10)] := by
  refine Row.Is.bs (E := 5) ⟨rfl, .inr ⟨w.heap.size, 1, _, rfl, Nat.zero_le _, heap_alloc_new w _, Nat.le_refl _, by decide, rfl, ?_⟩⟩
  have h := toNat_dig (n % 10) (Nat.mod_lt _ (by omega))
  simp only [List.length_singleton, List.take_succ_cons, Nat.mul_one, List.take_zero, By.cells, By.cell, List.map_cons, List.map_nil]
  rw [h, show ((48 + n % 10 : Nat) : Int) = 48 + (n : Int) % 10 by omega]

set_option maxRecDepth 100000 in
theorem digits_any : ∀ (n : Nat) (w : World), n ≤ 9223372036854775807 →
    Calls Tryd.prog 31 #[.int .i64 n] w fun e w' => ∃ t : ByteArray, e = .returned (.string t) ∧ Below w.heap.size w w' ∧ Kept (t = bs (dig n)) := by
  intro n
  induction n using Nat.strongRecOn with
  | _ n ih =>
    intro w hn
    have hm : n % 10 < 10 := Nat.mod_lt _ (by omega)
    by_cases h10 : n < 10
    · have HT : Kept ((⟨#[48 + UInt8.ofNat (n % 10)]⟩ : ByteArray) = bs (dig n)) := ⟨by rw [one_digit _ hm, dig_small h10]⟩
      clear ih
      go_enter Tryd.func31, Tryd.ntmps31
      go_wp2_with (refine By.wpList_string byteTy' rfl 9 _ rfl Tryd.underlying9 rfl (one_bs n w) ?_)
      go_ret
      exact ⟨_, rfl, (Below.refl _ _).alloc (Nat.le_refl _) _, HT⟩
    · have HT : Kept (∀ t : ByteArray, t = bs (dig (n / 10)) → t ++ (⟨#[48 + UInt8.ofNat (n % 10)]⟩ : ByteArray) = bs (dig n)) := ⟨fun t ht => by rw [one_digit _ hm, dig_big h10, ht, bs_append]⟩
      have HI : Kept (∀ w, Calls Tryd.prog 31 #[.int .i64 ((n : Int) / 10)] w fun e w' => ∃ t : ByteArray, e = .returned (.string t) ∧ Below w.heap.size w w' ∧ Kept (t = bs (dig (n / 10))) ∧ t.size ≤ 19) := ⟨fun w => by
        rw [show ((n : Int) / 10) = ((n / 10 : Nat) : Int) by omega]
        refine (ih (n / 10) (by omega) w (by omega)).mono ?_
        rintro e w' ⟨t, he, hb, ht⟩
        refine ⟨t, he, hb, ht, ?_⟩
        rw [ht.out, bs_size]
        exact dig_length (n / 10) 18 (by omega)⟩
      clear ih
      go_enter Tryd.func31, Tryd.ntmps31
      go_wp2_with (first
        | (refine By.wpList_string byteTy' rfl 9 _ rfl Tryd.underlying9 rfl (one_bs n w) ?_)
        | (go_at_call 31; refine (HI.out _).mono ?_; rintro e w2 ⟨t, rfl, hb, ht, h12⟩; have HB := Kept.mk hb; clear hb; have hSm : ¬ 9223372036854775807 < t.size + 1 := by omega))
      go_ret
      exact ⟨_, rfl, ((Below.refl _ _).alloc (Nat.le_refl _) _).trans (HB.out.mono (by simp)), ⟨HT.out t ht.out⟩⟩

/-- One text more. -/
theorem cat_one (o t s : ByteArray) (l : List ByteArray) (ho : o = bs (enc (l.map toL))) (ht : t = bs (dig s.size)) : o ++ t ++ ⟨#[58]⟩ ++ s ++ ⟨#[44]⟩ = bs (enc ((l ++ [s]).map toL)) := by
  obtain ⟨x, rfl⟩ : ∃ x, s = bs x := ⟨toL s, (bs_toL s).symm⟩
  have e1 : (⟨#[58]⟩ : ByteArray) = bs [58] := rfl
  have e2 : (⟨#[44]⟩ : ByteArray) = bs [44] := rfl
  rw [enc_snoc, ho, ht, e1, e2, bs_append, bs_append, bs_append, bs_append, toL_bs, bs_size]
  unfold Net.one
  simp

set_option maxHeartbeats 1000000 in
set_option maxRecDepth 100000 in
theorem refEnc_any (l : List ByteArray) (A : Option Addr) (n k : Nat) (w : World) (hR : Rd w A l) (hn : l.length = n) (hn2 : n ≤ 100000) (hs : ∀ s ∈ l, s.size ≤ 1000000) :
    Calls Tryd.prog 30 #[.slice A n k] w fun e w' => ∃ t : ByteArray, e = .returned (.string t) ∧ Below w.heap.size w w' ∧ Kept (t = bs (enc (l.map toL))) := by
  have HR := Kept.mk hR
  have HN := Kept.mk hn
  have HS := Kept.mk hs
  clear hR hn hs
  go_enter Tryd.func30, Tryd.ntmps30
  go_wp2
  go_loopw [3, 4] (fun v i wr => ∃ (j : Nat) (o : ByteArray), j ≤ n ∧ i = .int .i64 j ∧ v = .string o ∧ Kept (Below w.heap.size w wr) ∧ Kept (o = bs (enc ((l.take j).map toL)))) (fun _ i _ => n - (intOf i).toNat)
  case atStart => exact ⟨0, ⟨#[]⟩, by omega, rfl, rfl, ⟨Below.refl _ _⟩, ⟨rfl⟩⟩
  case round =>
    obtain ⟨j, o, hj, rfl, rfl, hB, hO⟩ := hrel
    by_cases hlt : j < n
    · obtain ⟨g, off, rfl, hg, hc⟩ := (HR.out.below hB.out) j (by rw [HN.out]; exact hlt)
      have hsz := HS.out _ (List.getElem_mem (l := l) (n := j) (by rw [HN.out]; exact hlt))
      have HT : Kept (l.take (j + 1) = l.take j ++ [l[j]'(by rw [HN.out]; exact hlt)]) := ⟨List.take_succ_eq_append_getElem _⟩
      have hos : o.size ≤ 1000000000000 := by
        have := enc_take HS.out n (by rw [HN.out]; exact Nat.le_refl _) j
        rw [hO.out, bs_size]
        omega
      generalize l[j]'(by rw [HN.out]; exact hlt) = s at hc hsz HT
      have hcd : wr.drew.cell? ⟨g, off + j, none⟩ = some (.string s) := hc
      have HG : Kept (g < wr.heap.size) := ⟨hg⟩
      have HC := Kept.mk hc
      have z0 : (0 : Int) ≤ (j : Int) := by omega
      have z1 : (j : Int) < n := by omega
      clear hg
      go_wp2
      go_region_with (go_at_call 31
                      refine (digits_any s.size _ (by omega)).mono ?_
                      rintro e w2 ⟨t, rfl, hb2, ht⟩
                      have hts : t.size ≤ 12 := by rw [ht.out, bs_size]; exact dig_length s.size 11 (by omega)
                      have hc2 : w2.cell? ⟨g, off + j, none⟩ = some (.string s) := (hb2.cell HG.out).trans HC.out
                      have HB2 : Kept (Below w.heap.size w w2) := ⟨hB.out.drew.trans (hb2.mono hB.out.size)⟩
                      have hS1 : ¬ 9223372036854775807 < o.size + t.size := by omega
                      have hS2 : ¬ 9223372036854775807 < o.size + t.size + 1 := by omega
                      have hS3 : ¬ 9223372036854775807 < o.size + t.size + 1 + s.size := by omega
                      have hS4 : ¬ 9223372036854775807 < o.size + t.size + 1 + s.size + 1 := by omega
                      clear hb2)
      all_goals
        go_wp2
        go_roundw
        case rel => exact ⟨j + 1, _, by omega, by go_num, rfl, HB2, ⟨by rw [HT.out]; exact cat_one o t s _ hO.out ht.out⟩⟩
        case measure => simp [intOf]; omega
    · have HE : Kept (l.take j = l) := ⟨List.take_of_length_le (by rw [HN.out]; omega)⟩
      go_wp2
      go_ret
      exact ⟨_, rfl, hB.out, ⟨by have := hO.out; rw [HE.out] at this; exact this⟩⟩
end Tup
end Go.Proofs.YtjmblgahoejoiaaDoor
