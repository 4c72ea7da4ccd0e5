/-
  What is told is read, and what is read is told as it was: the law's call.
-/
import Derived.Test.YthiehhnobiapjaaDoorTawake
import Derived.Test.YthiehhnobiapjaaDoorFew
namespace Go.Proofs.YthiehhnobiapjaaDoor
open Go.RowKit Net
namespace Tup

theorem enc_mem {l : List (List UInt8)} {x : List UInt8} (h : x ∈ l) : x.length ≤ (enc l).length := by
  obtain ⟨a, b, rfl⟩ := List.append_of_mem h
  rw [enc_append, enc_cons]
  simp only [List.length_append, one]
  omega
theorem enc_count (l : List (List UInt8)) : l.length ≤ (enc l).length := by
  induction l with
  | nil => simp
  | cons x l ih =>
    have := one_pos x
    rw [enc_cons, List.length_append, List.length_cons]
    omega
theorem few_mem {l : List ByteArray} (h : much l ≤ 2000) : l.length ≤ 2000 ∧ ∀ s ∈ l, s.size ≤ 2000 := by
  refine ⟨Nat.le_trans (much_length l) h, fun s hs => ?_⟩
  have := much_mem hs
  omega
theorem few_enc {l : List ByteArray} (h : much l ≤ 2000) : (enc (l.map toL)).length ≤ 12000 := by
  have h1 := enc_length (l.map toL) (by
    intro x hx
    obtain ⟨s, hs, rfl⟩ := List.mem_map.1 hx
    have := (few_mem h).2 s hs
    rw [toL_length]
    omega)
  have h2 : ((l.map toL).map fun x => x.length + 1).sum = much l := by
    unfold much
    rw [List.map_map]
    exact congrArg List.sum (List.map_congr_left fun s _ => by simp [toL_length])
  omega
theorem few_dec {l : List ByteArray} (h : much l ≤ 2000) : dec (toL (bs (enc (l.map toL)))) = some (l.map toL) := by
  rw [toL_bs]
  refine dec_enc _ fun x hx => ?_
  obtain ⟨s, hs, rfl⟩ := List.mem_map.1 hx
  have := (few_mem h).2 s hs
  rw [toL_length]
  omega

/-- few, where the answer is known. -/
theorem few_is (l : List ByteArray) (A : Option Addr) (n k : Nat) (w : World) (b : Bool) (hR : Rd w A l) (hn : l.length = n) (hm : n ≤ 140737488351232) (hs : ∀ s ∈ l, s.size ≤ 140737488351232) (h : decide (much l ≤ 2000) = b) :
    Calls Tryd.prog 6 #[.slice A n k] w fun e w' => e = .returned (.bool b) ∧ w' = w :=
  (few_any l A n k w hR hn hm hs).mono fun e w' ⟨he, hw⟩ => ⟨by rw [he, h], hw⟩
/-- Encode of few texts. -/
theorem encode_few (l : List ByteArray) (A : Option Addr) (n k : Nat) (w : World) (hK : Kit w) (hR : Rd w A l) (hn : l.length = n) (h : much l ≤ 2000) :
    Calls Tryd.prog 10 #[.slice A n k] w fun e w' => ∃ t : ByteArray, e = .returned (.string t) ∧ Below w.heap.size w w' ∧ Kept (t = bs (enc (l.map toL))) :=
  encode_any l A n k w hK hR hn (by have := (few_mem h).1; omega) (fun s hs => by have := (few_mem h).2 s hs; omega)

/-- What a law's list is. -/
structure Arg (w : World) (A : Option Addr) (n k : Nat) (l : List ByteArray) : Prop where
  rd : Rd w A l
  len : l.length = n
  lim : n ≤ 140737488351232
  each : ∀ s ∈ l, s.size ≤ 140737488351232
  nil : A = none → n = 0 ∧ k = 0

set_option maxHeartbeats 1000000 in
set_option maxRecDepth 100000 in
theorem back_any (l : List ByteArray) (A : Option Addr) (n k : Nat) (s : ByteArray) (w : World) (hK : Kit w) (hl : Arg w A n k l) (hs : s.size ≤ 9223372036854775807) :
    Calls Tryd.prog 4 #[.slice A n k, .string s] w fun e w' => e = .returned (.bool true) ∧ Below w.heap.size w w' := by
  have HK := Kept.mk hK
  have HL := Kept.mk hl
  clear hK hl
  by_cases hF : much l ≤ 2000
  · have HD := Kept.mk (few_dec hF)
    have hcnt := (few_mem hF).1
    have HC : Kept (n ≤ 2000) := ⟨by rw [← HL.out.len]; exact hcnt⟩
    have HF := Kept.mk hF
    clear hF hcnt
    by_cases hS : s.size ≤ 2000
    · have H1 : Kept (∀ t A C m q w, Kept (t = bs (enc (l.map toL))) → Rd w A l → Rd w C l → l.length = m → Calls Tryd.prog 12 #[.slice A n k, .slice C m q] w fun e w' => e = .returned (.bool true) ∧ Below w.heap.size w w') :=
        ⟨fun t A C m q w _ h1 h2 h3 => (same_any l l A C n k m q w h1 h2 HL.out.len h3 (by have := HC.out; omega) (by have := HC.out; have := HL.out.len; omega)).mono fun e w' ⟨he, hb⟩ => ⟨by rw [he, decide_eq_true rfl], hb⟩⟩
      cases hd : dec (toL s) with
      | none =>
        have HDs := Kept.mk hd
        clear hd
        have T1 : Kept True := ⟨trivial⟩
        have T2 : Kept True := ⟨trivial⟩
        go_enter Tryd.func4, Tryd.ntmps4
        go_wp2_with (first
          | (go_at_call 7; refine (awake_any w HK.out).mono ?_; rintro e w1 ⟨rfl, hb1⟩; have HB1 := Kept.mk hb1; clear hb1)
          | (go_at_call 6; refine (few_is l A n k w1 true (HL.out.rd.below HB1.out) HL.out.len HL.out.lim HL.out.each (decide_eq_true HF.out)).mono ?_; rintro e w2 ⟨rfl, rfl⟩)
          | (have := T1; go_at_call 10; clear T1; refine (encode_few l A n k _ (HK.out.below HB1.out) (HL.out.rd.below HB1.out) HL.out.len HF.out).mono ?_; rintro e w3 ⟨t, rfl, hb3, ht⟩; have HB3 : Kept (Below w.heap.size w w3) := ⟨HB1.out.trans (hb3.mono HB1.out.size)⟩; clear hb3)
          | (have := T2; go_at_call 8; clear T2; refine (decode_some t l w3 (by rw [ht.out, bs_size]; have := few_enc HF.out; omega) (HK.out.below HB3.out) (by rw [ht.out]; exact HD.out)).mono ?_; rintro e w4 ⟨C, q, rfl, hb4, hr4⟩; have HB4 : Kept (Below w.heap.size w w4) := ⟨HB3.out.trans (hb4.mono HB3.out.size)⟩; clear hb4)
          | (go_at_call 12; refine (H1.out t _ _ _ _ w4 ht (HL.out.rd.below HB4.out) hr4.out rfl).mono ?_; rintro e w5 ⟨rfl, hb5⟩; have HB5 : Kept (Below w.heap.size w w5) := ⟨HB4.out.trans (hb5.mono HB4.out.size)⟩; clear hb5)
          | (go_at_call 8; refine (decode_none s w5 (by omega) (HK.out.below HB5.out) HDs.out).mono ?_; rintro e w6 ⟨rfl, hb6⟩; have HB6 : Kept (Below w.heap.size w w6) := ⟨HB5.out.trans (hb6.mono HB5.out.size)⟩; clear hb6))
        go_ret
        exact ⟨rfl, HB6.out⟩
      | some m0 =>
        obtain ⟨m, rfl⟩ : ∃ m : List ByteArray, m0 = m.map toL := ⟨m0.map bs, (map_bs_toL m0).symm⟩
        have hds := dec_some hd
        have HDs := Kept.mk hd
        have hsz : (enc (m.map toL)).length ≤ 2000 := by rw [hds, toL_length]; exact hS
        have hm1 : m.length ≤ 2000 := by have := enc_count (m.map toL); rw [List.length_map] at this; omega
        have hm2 : ∀ x ∈ m, x.size ≤ 1000000 := fun x hx => by have := enc_mem (List.mem_map_of_mem (f := toL) hx); rw [toL_length] at this; omega
        have H2 : Kept (∀ A q w, Kit w → Rd w A m → Calls Tryd.prog 10 #[.slice A m.length q] w fun e w' => e = .returned (.string s) ∧ Below w.heap.size w w') :=
          ⟨fun A q w h hr => (encode_any m A m.length q w h hr rfl (by omega) hm2).mono fun e w' ⟨t, he, hb, ht⟩ => ⟨by rw [he, ht.out, hds, bs_toL], hb⟩⟩
        clear hd hds hsz hm1 hm2
        have T1 : Kept True := ⟨trivial⟩
        have T2 : Kept True := ⟨trivial⟩
        go_enter Tryd.func4, Tryd.ntmps4
        go_wp2_with (first
          | (go_at_call 7; refine (awake_any w HK.out).mono ?_; rintro e w1 ⟨rfl, hb1⟩; have HB1 := Kept.mk hb1; clear hb1)
          | (go_at_call 6; refine (few_is l A n k w1 true (HL.out.rd.below HB1.out) HL.out.len HL.out.lim HL.out.each (decide_eq_true HF.out)).mono ?_; rintro e w2 ⟨rfl, rfl⟩)
          | (have := T1; go_at_call 10; clear T1; refine (encode_few l A n k _ (HK.out.below HB1.out) (HL.out.rd.below HB1.out) HL.out.len HF.out).mono ?_; rintro e w3 ⟨t, rfl, hb3, ht⟩; have HB3 : Kept (Below w.heap.size w w3) := ⟨HB1.out.trans (hb3.mono HB1.out.size)⟩; clear hb3)
          | (have := T2; go_at_call 8; clear T2; refine (decode_some t l w3 (by rw [ht.out, bs_size]; have := few_enc HF.out; omega) (HK.out.below HB3.out) (by rw [ht.out]; exact HD.out)).mono ?_; rintro e w4 ⟨C, q, rfl, hb4, hr4⟩; have HB4 : Kept (Below w.heap.size w w4) := ⟨HB3.out.trans (hb4.mono HB3.out.size)⟩; clear hb4)
          | (go_at_call 12; refine (H1.out t _ _ _ _ w4 ht (HL.out.rd.below HB4.out) hr4.out rfl).mono ?_; rintro e w5 ⟨rfl, hb5⟩; have HB5 : Kept (Below w.heap.size w w5) := ⟨HB4.out.trans (hb5.mono HB4.out.size)⟩; clear hb5)
          | (go_at_call 8; refine (decode_some s m w5 (by omega) (HK.out.below HB5.out) HDs.out).mono ?_; rintro e w6 ⟨D, p, rfl, hb6, hr6⟩; have HB6 : Kept (Below w.heap.size w w6) := ⟨HB5.out.trans (hb6.mono HB5.out.size)⟩; clear hb6)
          | (go_at_call 10; refine (H2.out D p w6 (HK.out.below HB6.out) hr6.out).mono ?_; rintro e w7 ⟨rfl, hb7⟩; have HB7 : Kept (Below w.heap.size w w7) := ⟨HB6.out.trans (hb7.mono HB6.out.size)⟩; clear hb7))
        go_ret
        exact ⟨rfl, HB7.out⟩
    · have hz : (2000 : Int) < s.size := by omega
      go_enter Tryd.func4, Tryd.ntmps4
      go_wp2_with (first
        | (go_at_call 7; refine (awake_any w HK.out).mono ?_; rintro e w1 ⟨rfl, hb1⟩; have HB1 := Kept.mk hb1; clear hb1)
        | (go_at_call 6; refine (few_is l A n k w1 true (HL.out.rd.below HB1.out) HL.out.len HL.out.lim HL.out.each (decide_eq_true HF.out)).mono ?_; rintro e w2 ⟨rfl, rfl⟩))
      go_ret
      exact ⟨rfl, HB1.out⟩
  · have HF := Kept.mk hF
    clear hF
    go_enter Tryd.func4, Tryd.ntmps4
    go_wp2_with (first
      | (go_at_call 7; refine (awake_any w HK.out).mono ?_; rintro e w1 ⟨rfl, hb1⟩; have HB1 := Kept.mk hb1; clear hb1)
      | (go_at_call 6; refine (few_is l A n k w1 false (HL.out.rd.below HB1.out) HL.out.len HL.out.lim HL.out.each (decide_eq_false HF.out)).mono ?_; rintro e w2 ⟨rfl, rfl⟩))
    go_ret
    exact ⟨rfl, HB1.out⟩
end Tup
end Go.Proofs.YthiehhnobiapjaaDoor
