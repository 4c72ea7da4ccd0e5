/-
  The laws of what is told again, and of what is quoted, over any program that parses and prints as the chapter says.
-/
import Derived.Test.YtphgnjjblpmijaaDoorWw2M
namespace Go.Proofs.YtphgnjjblpmijaaDoor
open Go.RowKit Tx
namespace Wx
open Lx
variable {K : World → Prop}

set_option maxHeartbeats 4000000 in
set_option maxRecDepth 100000 in
theorem back_any (M : PrK K) (raw : ByteArray) (A : Option Addr) (n k : Nat) (small : Bool) (w : World) (hK : K w) (hr : raw.size ≤ 9223372036854775807) (hl : By8 w A n) (hn : n ≤ 9223372036854775807) :
    Calls Tryd.prog 6 #[.string raw, .slice A n k, .bool small] w fun e w' => e = .returned (.bool true) ∧ Below w.heap.size w w' := by
  have HK := Kept.mk hK
  have HL := Kept.mk hl
  clear hK hl
  go_enter Tryd.func6, Tryd.ntmps6
  go_wp2_with fail
  go_at_call 12
  refine (awake_any M _ HK.out).mono ?_
  rintro e w1 ⟨rfl, hb⟩
  have HB1 := Kept.mk hb
  clear hb
  cases small with
  | false =>
    by_cases h40 : raw.size ≤ 40
    · have z1 : ¬ (40 : Int) < raw.size := by omega
      cases ht : parts 30 (toL raw) with
      | error c =>
        have HT := Kept.mk ht
        clear ht
        go_wp2_with fail
        go_at_call 10
        refine (M.no raw _ (M.keep _ _ HK.out HB1.out) (by omega) c HT).mono ?_
        rintro e w3 ⟨A3, k3, rfl, hn3, hc, hb⟩
        have HB3 := Kept.mk (HB1.out.trans (hb.mono HB1.out.size))
        clear hb hn3
        go_wp2_with fail
        go_ret
        exact ⟨rfl, HB3.out⟩
      | ok l =>
        have HT := Kept.mk ht
        have hwl := parts_wt 30 _ _ ht
        rw [toL_length] at hwl
        have HWl : Kept (wt l ≤ 80) := ⟨by omega⟩
        have HCl : Kept (cnt l ≤ 100000) := ⟨by have := cnt_wt l; omega⟩
        have hpl := print_len l
        have HPs : Kept ((bs (print l)).size ≤ 5000) := ⟨by rw [bs_size]; omega⟩
        have HT2 : Kept (parts 30 (toL (bs (print l))) = .ok l) := ⟨by rw [toL_bs]; exact parts_back ht (by rw [toL_length]; omega)⟩
        clear ht hwl hpl
        go_wp2_with fail
        go_at_call 10
        refine (M.ok raw _ (M.keep _ _ HK.out HB1.out) (by omega) l HT).mono ?_
        rintro e w3 ⟨A3, k3, rfl, hl3, hb⟩
        have HL3 := hl3
        have HB3 := Kept.mk (HB1.out.trans (hb.mono HB1.out.size))
        clear hb hl3
        go_wp2_with fail
        go_at_call 14
        refine (M.print _ l A3 _ k3 _ (M.keep _ _ HK.out HB3.out) HL3.out (by have := HWl.out; omega)).mono ?_
        rintro e w4 ⟨rfl, hb⟩
        have HL3 := Kept.mk (HL3.out.keep hb)
        have HB4 := Kept.mk (HB3.out.trans (hb.mono HB3.out.size))
        clear hb
        go_wp2_with fail
        go_at_call 10
        refine (M.ok (bs (print l)) _ (M.keep _ _ HK.out HB4.out) HPs.out l HT2).mono ?_
        rintro e w5 ⟨A5, k5, rfl, hl5, hb⟩
        have HL3 := Kept.mk (HL3.out.keep hb)
        have HL5 := hl5
        have HB5 := Kept.mk (HB4.out.trans (hb.mono HB4.out.size))
        clear hb hl5
        generalize l.length = ll at *
        go_wp2_with fail
        go_at_call 13
        refine (same_any _ _ _ l A3 A5 ll ll k3 k5 _ rfl HL3.out HL5.out HCl.out).mono ?_
        rintro e w6 ⟨rfl, hb⟩
        have HL5 := Kept.mk (HL5.out.keep hb)
        have HB6 := Kept.mk (HB5.out.trans (hb.mono HB5.out.size))
        clear hb
        go_wp2_with fail
        go_at_call 14
        refine (M.print _ l A5 ll k5 _ (M.keep _ _ HK.out HB6.out) HL5.out (by have := HWl.out; omega)).mono ?_
        rintro e w7 ⟨rfl, hb⟩
        have HB7 := Kept.mk (HB6.out.trans (hb.mono HB6.out.size))
        clear hb HPs HT2
        generalize bs (print l) = y
        go_wp2_with fail
        go_ret
        exact ⟨rfl, HB7.out⟩
    · have z1 : (40 : Int) < raw.size := by omega
      clear h40
      go_wp2_with fail
      go_ret
      exact ⟨rfl, HB1.out⟩

  | true =>
    go_upto_region 7 with (first
      | (go_at_call 9; refine (signs_any _).mono ?_; rintro e w2 ⟨g, rfl, hg, hf, hb⟩; have HB2 := Kept.mk (HB1.out.trans (hb.mono HB1.out.size)); have HF := hf; clear hg hf hb)
      | (go_at_call 8; refine (pieces_any A n k g 24 24 w2 (HL.out.below HB2.out) hn HF.out (by omega) (by omega)).mono ?_; rintro e w2 ⟨x, rfl, hx, rfl⟩; have hxs : x.size ≤ 112 := hx))
    by_cases h40 : x.size ≤ 40
    · have z1 : ¬ (40 : Int) < x.size := by omega
      cases ht : parts 30 (toL x) with
      | error c =>
        have HT := Kept.mk ht
        clear ht
        go_wp2_with fail
        go_at_call 10
        refine (M.no x _ (M.keep _ _ HK.out HB2.out) (by omega) c HT).mono ?_
        rintro e w3 ⟨A3, k3, rfl, hn3, hc, hb⟩
        have HB3 := Kept.mk (HB2.out.trans (hb.mono HB2.out.size))
        clear hb hn3
        go_wp2_with fail
        go_ret
        exact ⟨rfl, HB3.out⟩
      | ok l =>
        have HT := Kept.mk ht
        have hwl := parts_wt 30 _ _ ht
        rw [toL_length] at hwl
        have HWl : Kept (wt l ≤ 80) := ⟨by omega⟩
        have HCl : Kept (cnt l ≤ 100000) := ⟨by have := cnt_wt l; omega⟩
        have hpl := print_len l
        have HPs : Kept ((bs (print l)).size ≤ 5000) := ⟨by rw [bs_size]; omega⟩
        have HT2 : Kept (parts 30 (toL (bs (print l))) = .ok l) := ⟨by rw [toL_bs]; exact parts_back ht (by rw [toL_length]; omega)⟩
        clear ht hwl hpl
        go_wp2_with fail
        go_at_call 10
        refine (M.ok x _ (M.keep _ _ HK.out HB2.out) (by omega) l HT).mono ?_
        rintro e w3 ⟨A3, k3, rfl, hl3, hb⟩
        have HL3 := hl3
        have HB3 := Kept.mk (HB2.out.trans (hb.mono HB2.out.size))
        clear hb hl3
        go_wp2_with fail
        go_at_call 14
        refine (M.print _ l A3 _ k3 _ (M.keep _ _ HK.out HB3.out) HL3.out (by have := HWl.out; omega)).mono ?_
        rintro e w4 ⟨rfl, hb⟩
        have HL3 := Kept.mk (HL3.out.keep hb)
        have HB4 := Kept.mk (HB3.out.trans (hb.mono HB3.out.size))
        clear hb
        go_wp2_with fail
        go_at_call 10
        refine (M.ok (bs (print l)) _ (M.keep _ _ HK.out HB4.out) HPs.out l HT2).mono ?_
        rintro e w5 ⟨A5, k5, rfl, hl5, hb⟩
        have HL3 := Kept.mk (HL3.out.keep hb)
        have HL5 := hl5
        have HB5 := Kept.mk (HB4.out.trans (hb.mono HB4.out.size))
        clear hb hl5
        generalize l.length = ll at *
        go_wp2_with fail
        go_at_call 13
        refine (same_any _ _ _ l A3 A5 ll ll k3 k5 _ rfl HL3.out HL5.out HCl.out).mono ?_
        rintro e w6 ⟨rfl, hb⟩
        have HL5 := Kept.mk (HL5.out.keep hb)
        have HB6 := Kept.mk (HB5.out.trans (hb.mono HB5.out.size))
        clear hb
        go_wp2_with fail
        go_at_call 14
        refine (M.print _ l A5 ll k5 _ (M.keep _ _ HK.out HB6.out) HL5.out (by have := HWl.out; omega)).mono ?_
        rintro e w7 ⟨rfl, hb⟩
        have HB7 := Kept.mk (HB6.out.trans (hb.mono HB6.out.size))
        clear hb HPs HT2
        generalize bs (print l) = y
        go_wp2_with fail
        go_ret
        exact ⟨rfl, HB7.out⟩
    · have z1 : (40 : Int) < x.size := by omega
      clear h40
      go_wp2_with fail
      go_ret
      exact ⟨rfl, HB2.out⟩

/-! ### Quotes -/
/-- A text, each byte behind a backslash. -/
def esc (l : List UInt8) : List UInt8 := l.flatMap fun c => [92, c]
theorem esc_cons (c : UInt8) (l : List UInt8) : esc (c :: l) = 92 :: c :: esc l := by unfold esc; rw [List.flatMap_cons]; rfl
theorem esc_len (l : List UInt8) : (esc l).length = 2 * l.length := by
  induction l with
  | nil => rfl
  | cons c l ih => rw [esc_cons, List.length_cons, List.length_cons, List.length_cons, ih]; omega
theorem esc_snoc {s : ByteArray} {j : Nat} (hj : j < s.size) : esc ((toL s).take (j + 1)) = esc ((toL s).take j) ++ [92, s[j]'hj] := by
  unfold esc
  rw [List.take_succ_eq_append_getElem (by rw [toL_length]; exact hj), List.flatMap_append]
  congr 1
theorem parts_esc {w : List UInt8 → Except Int (List Pt)} : ∀ (l t : List UInt8), partsOn w (esc l ++ [39, 39]) [txt true t] = .ok [txt true (t ++ l)]
  | [], t => by
    have := step1_single (w := w) [] [] (by simp)
    rw [show esc [] ++ [39, 39] = 39 :: ([] ++ 39 :: []) from rfl, partsOn_go this, List.foldl_cons, List.foldl_nil]
    have e := add_join [] true t []
    rw [List.nil_append] at e
    rw [e, List.append_nil]
    rfl
  | c :: l, t => by
    rw [esc_cons, List.cons_append, List.cons_append, partsOn_go (step1_bslash c _), List.foldl_cons, List.foldl_nil]
    have e := add_join [] true t [c]
    rw [List.nil_append] at e
    rw [e, show t ++ c :: l = t ++ [c] ++ l by simp]
    exact parts_esc l (t ++ [c])
theorem parts_escaped (l : List UInt8) : parts 30 (esc l ++ [39, 39]) = .ok [txt true l] := by
  rw [parts_is]
  cases l with
  | nil =>
    have := step1_single (w := parts 29) [] [] (by simp)
    rw [show esc [] ++ [39, 39] = 39 :: ([] ++ 39 :: []) from rfl, partsOn_go this]
    rfl
  | cons c l =>
    rw [esc_cons, List.cons_append, List.cons_append, partsOn_go (step1_bslash c _), List.foldl_cons, List.foldl_nil]
    exact parts_esc l [c]
theorem parts_quoted1 (l : List UInt8) : parts 30 (print [txt true l]) = .ok [txt true l] :=
  parts_told (b := false) (canL_cons.2 ⟨canP_txt.2 ⟨rfl, rfl, rfl, fun h => by cases h⟩, fun r hr => (by cases hr), canL_nil _⟩) (by rw [need_cons, need_nil, show needP (txt true l) = 1 from needP_txt ..]; decide)
set_option maxHeartbeats 4000000 in
set_option maxRecDepth 100000 in
theorem quotes_law (M : PrK K) (s : ByteArray) (w : World) (hK : K w) (hr : s.size ≤ 9223372036854775807) :
    Calls Tryd.prog 7 #[.string s] w fun e w' => e = .returned (.bool true) ∧ Below w.heap.size w w' := by
  have HK := Kept.mk hK
  clear hK
  go_enter Tryd.func7, Tryd.ntmps7
  go_wp2_with fail
  go_at_call 12
  refine (awake_any M _ HK.out).mono ?_
  rintro e w1 ⟨rfl, hb⟩
  have HB1 := Kept.mk hb
  clear hb
  by_cases h300 : s.size ≤ 300
  · have z1 : ¬ (300 : Int) < s.size := by omega
    have hpl := print_len [txt true (toL s)]
    rw [wt_one, show wtP (txt true (toL s)) = 1 + (toL s).length + 0 + 0 + wt [] from wtP_mk .., wt_nil, toL_length] at hpl
    have HPs : Kept ((bs (print [txt true (toL s)])).size ≤ 5000) := ⟨by rw [bs_size]; omega⟩
    have HT1 : Kept (parts 30 (toL (bs (print [txt true (toL s)]))) = .ok [txt true (toL s)]) := ⟨by rw [toL_bs]; exact parts_quoted1 _⟩
    have HT2 : Kept (parts 30 (toL (bs (esc (toL s) ++ [39, 39]))) = .ok [txt true (toL s)]) := ⟨by rw [toL_bs]; exact parts_escaped _⟩
    have HWt : Kept (wt [txt true (toL s)] ≤ 20000 ∧ cnt [txt true (toL s)] ≤ 100000) := ⟨by
      have h1 := cnt_wt [txt true (toL s)]
      rw [wt_one, show wtP (txt true (toL s)) = 1 + (toL s).length + 0 + 0 + wt [] from wtP_mk .., wt_nil, toL_length] at h1 ⊢
      omega⟩
    have HLit : ∀ W : World, Kept (LV (fun _ => True) (W.alloc (.cells #[.int .i64 0, .bool true, .string s, .string ⟨#[]⟩, .string ⟨#[]⟩, .slice none 0 0] 39)) (.slice (some ⟨W.heap.size, 0, none⟩) 1 1) [txt true (toL s)]) := fun W => ⟨LV.lit 1 (heap_alloc_new W _) trivial (by
      have : bs (toL s) = s := bs_toL s
      show _ = #[Value.int .i64 0, .bool true, .string (bs (toL s)), .string ⟨#[]⟩, .string ⟨#[]⟩, .slice none 0 0]
      rw [this]) (Cs.txt 0 true (toL s) [] [] .nil) rfl⟩
    have HLit := Kept.mk HLit
    clear hpl
    go_wp2_with fail
    go_at_call 14
    refine (M.print _ [txt true (toL s)] _ 1 1 _ (M.keep _ _ HK.out (HB1.out.alloc HB1.out.size _)) (HLit.out w1).out HWt.out.1).mono ?_
    rintro e w2 ⟨rfl, hb⟩
    have HB2 : Kept (Below w.heap.size w w2) := ⟨(HB1.out.alloc HB1.out.size _).trans (hb.mono (by have := HB1.out.size; simp; omega))⟩
    clear hb
    go_wp2_with fail
    go_at_call 10
    refine (M.ok (bs (print [txt true (toL s)])) _ (M.keep _ _ HK.out HB2.out) HPs.out [txt true (toL s)] HT1).mono ?_
    rintro e w3 ⟨A3, k3, rfl, hl3, hb⟩
    have HL3 := hl3
    have HB3 := Kept.mk (HB2.out.trans (hb.mono HB2.out.size))
    clear hb hl3
    go_wp2_with fail
    go_loopw [6, 7] (fun v i wr => ∃ j : Nat, j ≤ s.size ∧ i = .int .i64 (j : Int) ∧ v = .string (bs (esc ((toL s).take j))) ∧ wr = w3) (fun _ i _ => s.size - (intOf i).toNat)
    case atStart => exact ⟨0, by omega, rfl, rfl, rfl⟩
    case round =>
      obtain ⟨j, hj, rfl, rfl, hwr⟩ := hrel
      subst hwr
      have hl := esc_len ((toL s).take j)
      have hl2 : ((toL s).take j).length ≤ s.size := by rw [List.length_take, toL_length]; omega
      have hb : (bs (esc ((toL s).take j))).size ≤ 600 := by rw [bs_size]; omega
      by_cases hlt : j < s.size
      · have z : (j : Int) < s.size := by omega
        have HR : Kept (bs (esc ((toL s).take j)) ++ (⟨#[92]⟩ : ByteArray) ++ s.extract j (j + 1) = bs (esc ((toL s).take (j + 1)))) := ⟨by
          rw [one_ext s j hlt, show (⟨#[92]⟩ : ByteArray) = bs [92] from rfl, bs_append, bs_append, esc_snoc hlt, List.append_assoc]; rfl⟩
        have hx : (s.extract j (j + 1)).size = 1 := by rw [one_ext s j hlt]; rfl
        have hsl : ∀ W : World, (Instr.slice 9 (.string s) (some (.int .i64 (j : Int))) (some (.int .i64 ((j : Int) + 1))) none).run Tryd.prog W = .ok (.string (s.extract j (j + 1))) W := fun W => by
          rw [run_slice_string_if W 9 s .i64 .i64 _ _ Tryd.underlying9, if_pos ⟨by omega, by omega⟩, if_pos ⟨by omega, by omega⟩, Int.toNat_natCast]
          rw [show ((j : Int) + 1).toNat = j + 1 by omega]
        clear hl hl2
        generalize bs (esc ((toL s).take j)) = x at *
        generalize s.extract j (j + 1) = x2 at *
        have q1 : ¬ 9223372036854775807 < x.size + (⟨#[92]⟩ : ByteArray).size := by show ¬ _ < x.size + 1; omega
        have q2 : ¬ 9223372036854775807 < (x ++ (⟨#[92]⟩ : ByteArray)).size + x2.size := by rw [ByteArray.size_append]; show ¬ _ < x.size + 1 + x2.size; omega
        go_wp2_with fail
        go_roundw
        case rel => exact ⟨j + 1, by omega, by go_num, by rw [HR.out], by simp⟩
        case measure => simp [intOf]; omega
      · have z : ¬ (j : Int) < s.size := by omega
        have HR : Kept (bs (esc ((toL s).take j)) ++ (⟨#[39, 39]⟩ : ByteArray) = bs (esc (toL s) ++ [39, 39])) := ⟨by
          rw [show (⟨#[39, 39]⟩ : ByteArray) = bs [39, 39] from rfl, bs_append, List.take_of_length_le (by rw [toL_length]; omega)]⟩
        have HSz : Kept ((bs (esc (toL s) ++ [39, 39])).size ≤ 5000) := ⟨by rw [bs_size, List.length_append, esc_len, toL_length]; show _ + 2 ≤ _; omega⟩
        clear hl hl2 hlt
        generalize bs (esc ((toL s).take j)) = x at *
        have q1 : ¬ 9223372036854775807 < x.size + (⟨#[39, 39]⟩ : ByteArray).size := by show ¬ _ < x.size + 2; omega
        go_wp2_with fail
        rw [HR.out]
        go_at_call 10
        refine (M.ok _ _ (M.keep _ _ HK.out HB3.out) HSz.out [txt true (toL s)] HT2).mono ?_
        rintro e w4 ⟨A4, k4, rfl, hl4, hb4⟩
        have HL3 := Kept.mk (HL3.out.keep hb4)
        have HL4 := hl4
        have HB4 := Kept.mk (HB3.out.trans (hb4.mono HB3.out.size))
        clear hb4 hl4
        go_wp2_with fail
        go_at_call 13
        refine (same_any _ _ _ [txt true (toL s)] A3 _ _ 1 k3 1 _ rfl (HL3.out.keep ((Below.refl _ _).alloc (Nat.le_refl _) _)) (HLit.out w4).out HWt.out.2).mono ?_
        rintro e w5 ⟨rfl, hb5⟩
        have HL3 := Kept.mk ((HL3.out.keep ((Below.refl _ _).alloc (Nat.le_refl _) _)).keep hb5)
        have HL4 := Kept.mk ((HL4.out.keep ((Below.refl _ _).alloc (Nat.le_refl _) _)).keep hb5)
        have HB5 : Kept (Below w.heap.size w w5) := ⟨(HB4.out.alloc HB4.out.size _).trans (hb5.mono (by have := HB4.out.size; simp; omega))⟩
        clear hb5
        go_wp2_with fail
        go_at_call 13
        refine (same_any _ _ _ [txt true (toL s)] A3 A4 _ _ k3 k4 _ rfl HL3.out HL4.out HWt.out.2).mono ?_
        rintro e w6 ⟨rfl, hb6⟩
        have HB6 : Kept (Below w.heap.size w w6) := ⟨HB5.out.trans (hb6.mono HB5.out.size)⟩
        clear hb6
        go_wp2_with fail
        go_ret
        exact ⟨rfl, HB6.out⟩
  · have z1 : (300 : Int) < s.size := by omega
    clear h300
    go_wp2_with fail
    go_ret
    exact ⟨rfl, HB1.out⟩
end Wx
end Go.Proofs.YtphgnjjblpmijaaDoor
