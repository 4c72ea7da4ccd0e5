/-
  The law of tokens that are told again.
-/
import Derived.Test.YtnafecdionhnfaaDoorLw3
namespace Go.Proofs.YtnafecdionhnfaaDoor
open Go.RowKit Tx
namespace Lx

theorem glue_snoc {ts : List Tok} {j : Nat} (hj : j < ts.length) : glue (ts.take (j + 1)) = glue (ts.take j) ++ (ts[j].text ++ [32]) := by
  rw [List.take_succ_eq_append_getElem hj]
  unfold glue
  rw [List.flatMap_append]
  congr 1
  simp
theorem glue_take (ts : List Tok) (j : Nat) : (glue (ts.take j)).length ≤ (glue ts).length := by
  conv => rhs; rw [← List.take_append_drop j ts]
  unfold glue
  rw [List.flatMap_append, List.length_append]
  omega
theorem blank_append (a b : List UInt8) : bs a ++ bs b ++ (⟨#[32]⟩ : ByteArray) = bs (a ++ (b ++ [32])) := by
  rw [show (⟨#[32]⟩ : ByteArray) = bs [32] from rfl, bs_append, bs_append, List.append_assoc]
set_option maxHeartbeats 2000000 in
set_option maxRecDepth 100000 in
theorem again_any (raw : ByteArray) (A : Option Addr) (n k : Nat) (sm : Bool) (w : World) (hK : Kit w) (hl : By8 w A n) (hn : n ≤ 9223372036854775807) (hraw : raw.size ≤ 9223372036854775807) :
    Calls Tryd.prog 5 #[.string raw, .slice A n k, .bool sm] w fun e w' => e = .returned (.bool true) ∧ Below w.heap.size w w' := by
  have HK := Kept.mk hK
  have HL := Kept.mk hl
  clear hK hl
  cases sm with
  | true =>
    go_enter Tryd.func5, Tryd.ntmps5
    go_wp2_with (first
      | (go_at_call 11; refine (awake_any w HK.out).mono ?_; rintro e w0 ⟨rfl, hb⟩; have HB0 := Kept.mk hb; clear hb)
      | (go_at_call 8; refine (signs_any _).mono ?_; rintro e w1 ⟨g, rfl, hg, hf, hb⟩; have HB1 := Kept.mk (HB0.out.trans (hb.mono HB0.out.size)); have HF := hf; clear hg hf hb)
      | (go_at_call 7; refine (pieces_any A n k g 24 24 w1 (HL.out.below HB1.out) hn HF.out (by omega) (by omega)).mono ?_; rintro e w2 ⟨x, rfl, hx, rfl⟩; have HB2 := HB1; have hxs : x.size ≤ 1000 := (by omega); have hxi : ¬ (1000 : Int) < x.size := (by omega)))
    clear hx
    cases ht : toks (toL x) with
    | none =>
      have HT := Kept.mk ht
      clear ht
      go_wp2_with (go_at_call 9; refine (tokens_no x w2 (HK.out.below HB2.out) (by omega) HT).mono ?_; rintro e w3 ⟨rfl, hb⟩; have HB3 := Kept.mk (HB2.out.trans (hb.mono HB2.out.size)); clear hb)
      go_ret
      exact ⟨rfl, HB3.out⟩
    | some ts =>
      have HT := Kept.mk ht
      have HGo := goes_iff.1 ht
      have hsz := goes_size HGo
      rw [toL_length] at hsz
      have HAg : Kept (toks (toL (bs (glue ts))) = some ts) := ⟨by rw [toL_bs]; exact (goes_again HGo).toks⟩
      have HGs : Kept ((glue ts).length ≤ 2000) := ⟨by omega⟩
      have HTs : Kept (ts.length ≤ 1000000) := ⟨by omega⟩
      have htl : ts.length ≤ 1000 := by omega
      clear ht HGo hsz
      go_wp2_with (go_at_call 9; refine (tokens_ok x w2 ts (HK.out.below HB2.out) (by omega) HT).mono ?_; rintro e w3 ⟨C, p, rfl, hR, hb⟩; have HR3 := hR; have HB3 := Kept.mk (HB2.out.trans (hb.mono HB2.out.size)); clear hR hb)
      generalize hnn : ts.length = nn at *
      have HN := Kept.mk hnn
      clear hnn
      go_loop [11, 12] (fun v i => ∃ j : Nat, j ≤ nn ∧ i = .int .i64 (j : Int) ∧ v = .string (bs (glue (ts.take j)))) (fun _ i => nn - (intOf i).toNat)
      case atStart => exact ⟨0, by omega, rfl, rfl⟩
      case round =>
        obtain ⟨j, hj, rfl, rfl⟩ := hrel
        have j0 : (0 : Int) ≤ j := by omega
        by_cases hlt : j < nn
        · have j1 : (j : Int) < (nn : Int) := by omega
          have hjl : j < ts.length := by have := HN.out; omega
          obtain ⟨g2, e1, hg2, c0, c1⟩ := HR3.out j hjl
          subst e1
          have h1 := glue_snoc hjl
          have h2 := glue_take ts (j + 1)
          have h3 := HGs.out
          rw [h1, List.length_append, List.length_append] at h2
          have HE : Kept (bs (glue (ts.take j)) ++ bs ts[j].text ++ (⟨#[32]⟩ : ByteArray) = bs (glue (ts.take (j + 1)))) := ⟨by rw [h1, blank_append]⟩
          have s1 : (bs (glue (ts.take j))).size + (bs ts[j].text).size ≤ 2000 := by rw [bs_size, bs_size]; simp at h2; omega
          clear h1 h2 h3 hg2 c0
          generalize bs (glue (ts.take j)) = y1 at *
          generalize bs ts[j].text = y2 at *
          have s2 : ¬ 9223372036854775807 < y1.size + y2.size := by omega
          have s3 : ¬ 9223372036854775807 < (y1 ++ y2).size + (⟨#[32]⟩ : ByteArray).size := by rw [ByteArray.size_append]; show ¬ _ < _ + 1; omega
          go_wp2_with fail
          go_round
          case rel => exact ⟨j + 1, by omega, by go_num, by rw [HE.out]⟩
          case measure => simp [intOf]; omega
        · have j1 : ¬ (j : Int) < (nn : Int) := by omega
          have HE : Kept (bs (glue (ts.take j)) = bs (glue ts)) := ⟨by rw [List.take_of_length_le (by have := HN.out; omega)]⟩
          rw [HE.out]
          have HGz : Kept ((bs (glue ts)).size ≤ 20000) := ⟨by rw [bs_size]; have := HGs.out; omega⟩
          clear hlt HE
          generalize bs (glue ts) = y at *
          go_wp2_with (first
            | (go_at_call 9; refine (tokens_ok y w3 ts (HK.out.below HB3.out) HGz.out HAg).mono ?_; rintro e w4 ⟨D, q, rfl, hR, hb⟩; have HR4 := Kept.mk (And.intro (HR3.out.below hb) hR.out); have HB4 := Kept.mk (HB3.out.trans (hb.mono HB3.out.size)); clear hR hb)
            | (go_at_call 12; refine (same_any ts _ _ C D p q w4 HR4.out.1 HR4.out.2 (by have := HTs.out; have := HN.out; omega) HN.out.symm rfl).mono ?_; rintro e w6 ⟨rfl, hb⟩; have HB6 := Kept.mk (HB4.out.trans (hb.mono HB4.out.size)); clear hb))
          go_ret
          exact ⟨rfl, HB6.out⟩
  | false =>
    by_cases hxs : raw.size ≤ 1000
    · have hxi : ¬ (1000 : Int) < raw.size := by omega
      go_enter Tryd.func5, Tryd.ntmps5
      go_wp2_with (go_at_call 11; refine (awake_any w HK.out).mono ?_; rintro e w2 ⟨rfl, hb⟩; have HB2 := Kept.mk hb; clear hb)
      cases ht : toks (toL raw) with
      | none =>
        have HT := Kept.mk ht
        clear ht
        go_wp2_with (go_at_call 9; refine (tokens_no raw w2 (HK.out.below HB2.out) (by omega) HT).mono ?_; rintro e w3 ⟨rfl, hb⟩; have HB3 := Kept.mk (HB2.out.trans (hb.mono HB2.out.size)); clear hb)
        go_ret
        exact ⟨rfl, HB3.out⟩
      | some ts =>
        have HT := Kept.mk ht
        have HGo := goes_iff.1 ht
        have hsz := goes_size HGo
        rw [toL_length] at hsz
        have HAg : Kept (toks (toL (bs (glue ts))) = some ts) := ⟨by rw [toL_bs]; exact (goes_again HGo).toks⟩
        have HGs : Kept ((glue ts).length ≤ 2000) := ⟨by omega⟩
        have HTs : Kept (ts.length ≤ 1000000) := ⟨by omega⟩
        have htl : ts.length ≤ 1000 := by omega
        clear ht HGo hsz
        go_wp2_with (go_at_call 9; refine (tokens_ok raw w2 ts (HK.out.below HB2.out) (by omega) HT).mono ?_; rintro e w3 ⟨C, p, rfl, hR, hb⟩; have HR3 := hR; have HB3 := Kept.mk (HB2.out.trans (hb.mono HB2.out.size)); clear hR hb)
        generalize hnn : ts.length = nn at *
        have HN := Kept.mk hnn
        clear hnn
        go_loop [11, 12] (fun v i => ∃ j : Nat, j ≤ nn ∧ i = .int .i64 (j : Int) ∧ v = .string (bs (glue (ts.take j)))) (fun _ i => nn - (intOf i).toNat)
        case atStart => exact ⟨0, by omega, rfl, rfl⟩
        case round =>
          obtain ⟨j, hj, rfl, rfl⟩ := hrel
          have j0 : (0 : Int) ≤ j := by omega
          by_cases hlt : j < nn
          · have j1 : (j : Int) < (nn : Int) := by omega
            have hjl : j < ts.length := by have := HN.out; omega
            obtain ⟨g2, e1, hg2, c0, c1⟩ := HR3.out j hjl
            subst e1
            have h1 := glue_snoc hjl
            have h2 := glue_take ts (j + 1)
            have h3 := HGs.out
            rw [h1, List.length_append, List.length_append] at h2
            have HE : Kept (bs (glue (ts.take j)) ++ bs ts[j].text ++ (⟨#[32]⟩ : ByteArray) = bs (glue (ts.take (j + 1)))) := ⟨by rw [h1, blank_append]⟩
            have s1 : (bs (glue (ts.take j))).size + (bs ts[j].text).size ≤ 2000 := by rw [bs_size, bs_size]; simp at h2; omega
            clear h1 h2 h3 hg2 c0
            generalize bs (glue (ts.take j)) = y1 at *
            generalize bs ts[j].text = y2 at *
            have s2 : ¬ 9223372036854775807 < y1.size + y2.size := by omega
            have s3 : ¬ 9223372036854775807 < (y1 ++ y2).size + (⟨#[32]⟩ : ByteArray).size := by rw [ByteArray.size_append]; show ¬ _ < _ + 1; omega
            go_wp2_with fail
            go_round
            case rel => exact ⟨j + 1, by omega, by go_num, by rw [HE.out]⟩
            case measure => simp [intOf]; omega
          · have j1 : ¬ (j : Int) < (nn : Int) := by omega
            have HE : Kept (bs (glue (ts.take j)) = bs (glue ts)) := ⟨by rw [List.take_of_length_le (by have := HN.out; omega)]⟩
            rw [HE.out]
            have HGz : Kept ((bs (glue ts)).size ≤ 20000) := ⟨by rw [bs_size]; have := HGs.out; omega⟩
            clear hlt HE
            generalize bs (glue ts) = y at *
            go_wp2_with (first
              | (go_at_call 9; refine (tokens_ok y w3 ts (HK.out.below HB3.out) HGz.out HAg).mono ?_; rintro e w4 ⟨D, q, rfl, hR, hb⟩; have HR4 := Kept.mk (And.intro (HR3.out.below hb) hR.out); have HB4 := Kept.mk (HB3.out.trans (hb.mono HB3.out.size)); clear hR hb)
              | (go_at_call 12; refine (same_any ts _ _ C D p q w4 HR4.out.1 HR4.out.2 (by have := HTs.out; have := HN.out; omega) HN.out.symm rfl).mono ?_; rintro e w6 ⟨rfl, hb⟩; have HB6 := Kept.mk (HB4.out.trans (hb.mono HB4.out.size)); clear hb))
            go_ret
            exact ⟨rfl, HB6.out⟩
    · have hxi : (1000 : Int) < raw.size := by omega
      clear hxs
      go_enter Tryd.func5, Tryd.ntmps5
      go_wp2_with (go_at_call 11; refine (awake_any w HK.out).mono ?_; rintro e w2 ⟨rfl, hb⟩; have HB2 := Kept.mk hb; clear hb)
      go_ret
      exact ⟨rfl, HB2.out⟩
end Lx
end Go.Proofs.YtnafecdionhnfaaDoor
