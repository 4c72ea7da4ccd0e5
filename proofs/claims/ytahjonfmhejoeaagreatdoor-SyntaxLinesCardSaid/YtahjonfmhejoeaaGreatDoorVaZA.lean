/-
  PROVED: line ends ahead of a script and behind it, and a comment, change nothing (the law SyntaxLines answers true, and leaves its arguments as they were).
  Conditions: the two tables of operators lie at the start as the program's text lays them (the card ties this).
-/
import Derived.Test.YtahjonfmhejoeaaGreatDoorVa47
import Derived.Test.YtahjonfmhejoeaaGreatDoorVa48
namespace Go.Proofs.YtahjonfmhejoeaaGreatDoor
section
open Go.RowKit Tx
namespace Sy
open Lx (Tok toks)
open Wx (Pt LV Cs pvs Nw wt cnt txt)
open Pc (By8 Few)
set_option maxHeartbeats 4000000 in
set_option maxRecDepth 100000 in
theorem lines_law (A : Option Addr) (n k : Nat) (raw : ByteArray) (pk : Bool) (w : World) (hK : KS w) (hl : By8 w A n) (hn : n ≤ 9223372036854775807) (hr : raw.size ≤ 9223372036854775807) :
   Calls Tryz.prog 6 #[.slice A n k, .string raw, .bool pk] w fun e w' => e = .returned (.bool true) ∧ Below w.heap.size w w' := by
 have HK := Kept.mk hK
 have HL := Kept.mk hl
 clear hK hl
 cases pk with
 | false =>
   go_enter Tryz.func6, Tryz.ntmps6
   go_upto_region 7 with (first
     | (go_at_call 15; refine (awake_any w HK.out).mono ?_; rintro e w1 ⟨rfl, hb⟩; have HB1 := Kept.mk hb; clear hb)
     | (go_at_call 12; refine (phrases_any _).mono ?_; rintro e w2 ⟨g, rfl, hg, hf, hb⟩; have HB2 := Kept.mk (HB1.out.trans (hb.mono HB1.out.size)); have HF := hf; clear hg hf hb)
     | (go_at_call 11; refine (Pc.pieces_any 41 (by omega) A n k g 20 20 w2 (HL.out.below HB2.out) hn HF.out (by omega) (by omega)).mono ?_; rintro e w3 ⟨x, rfl, hx, rfl⟩; have HXs := Kept.mk hx; clear hx))
   have hx := HXs.out
   by_cases h5 : x.size ≤ 500
   · have hi : ¬ (500 : Int) < x.size := by omega
     have hsum1 : ¬ 9223372036854775807 < (⟨#[10, 32, 35, 32, 120, 32, 40, 32, 10]⟩ : ByteArray).size + x.size := by show ¬ 9223372036854775807 < 9 + x.size; omega
     have hsum2 : ¬ 9223372036854775807 < (⟨#[10, 32, 35, 32, 120, 32, 40, 32, 10]⟩ ++ x : ByteArray).size + (⟨#[10, 10, 35, 32, 39]⟩ : ByteArray).size := by rw [ByteArray.size_append]; show ¬ 9223372036854775807 < 9 + x.size + 5; omega
     have hY : (⟨#[10, 32, 35, 32, 120, 32, 40, 32, 10]⟩ ++ x ++ ⟨#[10, 10, 35, 32, 39]⟩ : ByteArray).size ≤ 1250 := by rw [ByteArray.size_append, ByteArray.size_append]; show 9 + x.size + 5 ≤ 1250; omega
     have HY := Kept.mk hY
     have hX : x.size ≤ 1250 := by omega
     have HX := Kept.mk hX
     clear hY hX
     cases hs : script (toL x) with
     | error d =>
       have HS := Kept.mk hs
       have hd1 : (d == 0) = false := script_nz hs
       have hd2 : (d != 0) = true := by unfold bne; rw [hd1]; rfl
       clear hs
       go_wp2_with fail
       go_at_call 13
       refine (prog_no x _ (HK.out.below HB2.out) HX.out d HS).mono ?_
       rintro e w5 ⟨rfl, hb⟩
       have HB5 := Kept.mk ((HB2.out.trans (hb.out.mono HB2.out.size)).alloc (HB2.out.trans (hb.out.mono HB2.out.size)).size (.cells #[.int .i64 0, .bool false, .string ⟨#[]⟩, .slice none 0 0, .slice none 0 0, .slice none 0 0, .slice none 0 0, .slice none 0 0] 31))
       clear hb
       go_wp2_with fail
       generalize w5.alloc (.cells #[.int .i64 0, .bool false, .string ⟨#[]⟩, .slice none 0 0, .slice none 0 0, .slice none 0 0, .slice none 0 0, .slice none 0 0] 31) = w6 at *
       generalize w5.heap.size = p5 at *
       cases ht : script (toL (⟨#[10, 32, 35, 32, 120, 32, 40, 32, 10]⟩ ++ x ++ ⟨#[10, 10, 35, 32, 39]⟩)) with
       | error f =>
         have HT := Kept.mk ht
         clear ht
         go_at_call 13
         refine (prog_no _ _ (HK.out.below HB5.out) HY.out f HT).mono ?_
         rintro e w7 ⟨rfl, hb⟩
         have HB7 := Kept.mk (HB5.out.trans (hb.out.mono HB5.out.size))
         clear hb
         go_wp2_with fail
         go_ret
         exact ⟨rfl, HB7.out.alloc HB7.out.size _⟩
       | ok n =>
         have HT := Kept.mk ht
         clear ht
         go_at_call 13
         refine (prog_ok _ _ (HK.out.below HB5.out) HY.out n HT).mono ?_
         rintro e w7 ⟨kb, qb, mb, Ab1, nb1, cb1, Ab2, nb2, cb2, Ab3, nb3, cb3, Ab4, nb4, cb4, Ab5, nb5, cb5, rfl, _, hb⟩
         have HB7 := Kept.mk (HB5.out.trans (hb.out.mono HB5.out.size))
         clear hb
         go_wp2_with fail
         go_ret
         exact ⟨rfl, HB7.out.alloc HB7.out.size _⟩
     | ok n =>
       have HS := Kept.mk hs
       have HT : Kept (script (toL (⟨#[10, 32, 35, 32, 120, 32, 40, 32, 10]⟩ ++ x ++ ⟨#[10, 10, 35, 32, 39]⟩)) = .ok n) := ⟨by
         have e : toL (⟨#[10, 32, 35, 32, 120, 32, 40, 32, 10]⟩ ++ x ++ ⟨#[10, 10, 35, 32, 39]⟩) = [10, 32, 35, 32, 120, 32, 40, 32, 10] ++ toL x ++ [10, 10, 35, 32, 39] := by simp [toL]
         rw [e]
         exact script_lines hs⟩
       have HFw : Kept (Few9 n) := ⟨few_of _ (by have := script_few hs (by omega); omega)⟩
       clear hs
       go_wp2_with fail
       go_at_call 13
       refine (prog_ok x _ (HK.out.below HB2.out) HX.out n HS).mono ?_
       rintro e w5 ⟨ka, qa, ma, Aa1, na1, ca1, Aa2, na2, ca2, Aa3, na3, ca3, Aa4, na4, ca4, Aa5, na5, ca5, rfl, hn, hb⟩
       have HR5 := Kept.mk (heap_alloc_new w5 (.cells #[.int .i64 ka, .bool qa, .string (bs ma), .slice Aa1 na1 ca1, .slice Aa2 na2 ca2, .slice Aa3 na3 ca3, .slice Aa4 na4 ca4, .slice Aa5 na5 ca5] 31))
       have HG5 : Kept (w5.heap.size < (w5.alloc (.cells #[.int .i64 ka, .bool qa, .string (bs ma), .slice Aa1 na1 ca1, .slice Aa2 na2 ca2, .slice Aa3 na3 ca3, .slice Aa4 na4 ca4, .slice Aa5 na5 ca5] 31)).heap.size) := ⟨by simp⟩
       have HN5 := Kept.mk (hn.out.keep ((Below.refl _ _).alloc (Nat.le_refl _) (.cells #[.int .i64 ka, .bool qa, .string (bs ma), .slice Aa1 na1 ca1, .slice Aa2 na2 ca2, .slice Aa3 na3 ca3, .slice Aa4 na4 ca4, .slice Aa5 na5 ca5] 31)))
       have HB5 := Kept.mk ((HB2.out.trans (hb.out.mono HB2.out.size)).alloc (HB2.out.trans (hb.out.mono HB2.out.size)).size (.cells #[.int .i64 ka, .bool qa, .string (bs ma), .slice Aa1 na1 ca1, .slice Aa2 na2 ca2, .slice Aa3 na3 ca3, .slice Aa4 na4 ca4, .slice Aa5 na5 ca5] 31))
       clear hb hn
       go_wp2_with fail
       generalize w5.alloc (.cells #[.int .i64 ka, .bool qa, .string (bs ma), .slice Aa1 na1 ca1, .slice Aa2 na2 ca2, .slice Aa3 na3 ca3, .slice Aa4 na4 ca4, .slice Aa5 na5 ca5] 31) = w6 at *
       generalize w5.heap.size = p5 at *
       go_at_call 13
       refine (prog_ok _ _ (HK.out.below HB5.out) HY.out n HT).mono ?_
       rintro e w7 ⟨kb, qb, mb, Ab1, nb1, cb1, Ab2, nb2, cb2, Ab3, nb3, cb3, Ab4, nb4, cb4, Ab5, nb5, cb5, rfl, hn, hb⟩
       have hbl : Below w6.heap.size w6 (w7.alloc (.cells #[.int .i64 kb, .bool qb, .string (bs mb), .slice Ab1 nb1 cb1, .slice Ab2 nb2 cb2, .slice Ab3 nb3 cb3, .slice Ab4 nb4 cb4, .slice Ab5 nb5 cb5] 31)) := hb.out.alloc hb.out.size _
       have HR7 := Kept.mk ((hbl.block _ HG5.out).trans HR5.out)
       have HN7 := Kept.mk (HN5.out.keep hbl)
       have HQ7 := Kept.mk (heap_alloc_new w7 (.cells #[.int .i64 kb, .bool qb, .string (bs mb), .slice Ab1 nb1 cb1, .slice Ab2 nb2 cb2, .slice Ab3 nb3 cb3, .slice Ab4 nb4 cb4, .slice Ab5 nb5 cb5] 31))
       have HM7 := Kept.mk (hn.out.keep ((Below.refl _ _).alloc (Nat.le_refl _) (.cells #[.int .i64 kb, .bool qb, .string (bs mb), .slice Ab1 nb1 cb1, .slice Ab2 nb2 cb2, .slice Ab3 nb3 cb3, .slice Ab4 nb4 cb4, .slice Ab5 nb5 cb5] 31)))
       have HB7 := Kept.mk (HB5.out.trans (hbl.mono HB5.out.size))
       clear hb hn hbl HR5 HN5 HG5 HB5
       have hff : ∀ ww, (Instr.loadAt 31 (.pointer (some ⟨p5, 0, none⟩))).run Tryz.prog ww = (Instr.loadAt 31 (.pointer (some ⟨p5, 0, none⟩))).run Tryz.prog ww := fun _ => rfl
       clear hff
       have x0 := cell_of_row _ _ 0 _ _ _ HR7.out
       have x1 := cell_of_row _ _ 1 _ _ _ HR7.out
       have x2 := cell_of_row _ _ 2 _ _ _ HR7.out
       have x3 := cell_of_row _ _ 3 _ _ _ HR7.out
       have x4 := cell_of_row _ _ 4 _ _ _ HR7.out
       have x5 := cell_of_row _ _ 5 _ _ _ HR7.out
       have x6 := cell_of_row _ _ 6 _ _ _ HR7.out
       have x7 := cell_of_row _ _ 7 _ _ _ HR7.out
       have y0 := cell_of_row _ _ 0 _ _ _ HQ7.out
       have y1 := cell_of_row _ _ 1 _ _ _ HQ7.out
       have y2 := cell_of_row _ _ 2 _ _ _ HQ7.out
       have y3 := cell_of_row _ _ 3 _ _ _ HQ7.out
       have y4 := cell_of_row _ _ 4 _ _ _ HQ7.out
       have y5 := cell_of_row _ _ 5 _ _ _ HQ7.out
       have y6 := cell_of_row _ _ 6 _ _ _ HQ7.out
       have y7 := cell_of_row _ _ 7 _ _ _ HQ7.out
       go_wp2_with (first
         | (go_at_call 16; refine (same_any HFw.out _ _ _ _ _ HN7.out HM7.out).mono ?_; rintro e w8 ⟨rfl, hb⟩; have HB8 := Kept.mk (HB7.out.trans (hb.mono HB7.out.size)); clear hb))
       go_ret
       exact ⟨rfl, HB8.out⟩
   · have hi : (500 : Int) < x.size := by omega
     clear h5 hx
     go_wp2_with fail
     go_ret
     exact ⟨rfl, HB2.out⟩
 | true =>
   go_enter Tryz.func6, Tryz.ntmps6
   go_upto_region 7 with (first
     | (go_at_call 15; refine (awake_any w HK.out).mono ?_; rintro e w1 ⟨rfl, hb⟩; have HB1 := Kept.mk hb; clear hb)
     | (go_at_call 12; refine (phrases_any _).mono ?_; rintro e w2 ⟨g, rfl, hg, hf, hb⟩; have HB2 := Kept.mk (HB1.out.trans (hb.mono HB1.out.size)); have HF := hf; clear hg hf hb)
     | (go_at_call 11; refine (Pc.pieces_any 41 (by omega) A n k g 20 20 w2 (HL.out.below HB2.out) hn HF.out (by omega) (by omega)).mono ?_; rintro e w3 ⟨x, rfl, hx, rfl⟩; have HXs := Kept.mk hx; clear hx))
   clear HXs
   by_cases h5 : raw.size ≤ 500
   · have hi : ¬ (500 : Int) < raw.size := by omega
     have hsum1 : ¬ 9223372036854775807 < (⟨#[10, 32, 35, 32, 120, 32, 40, 32, 10]⟩ : ByteArray).size + raw.size := by show ¬ 9223372036854775807 < 9 + raw.size; omega
     have hsum2 : ¬ 9223372036854775807 < (⟨#[10, 32, 35, 32, 120, 32, 40, 32, 10]⟩ ++ raw : ByteArray).size + (⟨#[10, 10, 35, 32, 39]⟩ : ByteArray).size := by rw [ByteArray.size_append]; show ¬ 9223372036854775807 < 9 + raw.size + 5; omega
     have hY : (⟨#[10, 32, 35, 32, 120, 32, 40, 32, 10]⟩ ++ raw ++ ⟨#[10, 10, 35, 32, 39]⟩ : ByteArray).size ≤ 1250 := by rw [ByteArray.size_append, ByteArray.size_append]; show 9 + raw.size + 5 ≤ 1250; omega
     have HY := Kept.mk hY
     have hX : raw.size ≤ 1250 := by omega
     have HX := Kept.mk hX
     clear hY hX
     cases hs : script (toL raw) with
     | error d =>
       have HS := Kept.mk hs
       have hd1 : (d == 0) = false := script_nz hs
       have hd2 : (d != 0) = true := by unfold bne; rw [hd1]; rfl
       clear hs
       go_wp2_with fail
       go_at_call 13
       refine (prog_no raw _ (HK.out.below HB2.out) HX.out d HS).mono ?_
       rintro e w5 ⟨rfl, hb⟩
       have HB5 := Kept.mk ((HB2.out.trans (hb.out.mono HB2.out.size)).alloc (HB2.out.trans (hb.out.mono HB2.out.size)).size (.cells #[.int .i64 0, .bool false, .string ⟨#[]⟩, .slice none 0 0, .slice none 0 0, .slice none 0 0, .slice none 0 0, .slice none 0 0] 31))
       clear hb
       go_wp2_with fail
       generalize w5.alloc (.cells #[.int .i64 0, .bool false, .string ⟨#[]⟩, .slice none 0 0, .slice none 0 0, .slice none 0 0, .slice none 0 0, .slice none 0 0] 31) = w6 at *
       generalize w5.heap.size = p5 at *
       cases ht : script (toL (⟨#[10, 32, 35, 32, 120, 32, 40, 32, 10]⟩ ++ raw ++ ⟨#[10, 10, 35, 32, 39]⟩)) with
       | error f =>
         have HT := Kept.mk ht
         clear ht
         go_at_call 13
         refine (prog_no _ _ (HK.out.below HB5.out) HY.out f HT).mono ?_
         rintro e w7 ⟨rfl, hb⟩
         have HB7 := Kept.mk (HB5.out.trans (hb.out.mono HB5.out.size))
         clear hb
         go_wp2_with fail
         go_ret
         exact ⟨rfl, HB7.out.alloc HB7.out.size _⟩
       | ok n =>
         have HT := Kept.mk ht
         clear ht
         go_at_call 13
         refine (prog_ok _ _ (HK.out.below HB5.out) HY.out n HT).mono ?_
         rintro e w7 ⟨kb, qb, mb, Ab1, nb1, cb1, Ab2, nb2, cb2, Ab3, nb3, cb3, Ab4, nb4, cb4, Ab5, nb5, cb5, rfl, _, hb⟩
         have HB7 := Kept.mk (HB5.out.trans (hb.out.mono HB5.out.size))
         clear hb
         go_wp2_with fail
         go_ret
         exact ⟨rfl, HB7.out.alloc HB7.out.size _⟩
     | ok n =>
       have HS := Kept.mk hs
       have HT : Kept (script (toL (⟨#[10, 32, 35, 32, 120, 32, 40, 32, 10]⟩ ++ raw ++ ⟨#[10, 10, 35, 32, 39]⟩)) = .ok n) := ⟨by
         have e : toL (⟨#[10, 32, 35, 32, 120, 32, 40, 32, 10]⟩ ++ raw ++ ⟨#[10, 10, 35, 32, 39]⟩) = [10, 32, 35, 32, 120, 32, 40, 32, 10] ++ toL raw ++ [10, 10, 35, 32, 39] := by simp [toL]
         rw [e]
         exact script_lines hs⟩
       have HFw : Kept (Few9 n) := ⟨few_of _ (by have := script_few hs (by omega); omega)⟩
       clear hs
       go_wp2_with fail
       go_at_call 13
       refine (prog_ok raw _ (HK.out.below HB2.out) HX.out n HS).mono ?_
       rintro e w5 ⟨ka, qa, ma, Aa1, na1, ca1, Aa2, na2, ca2, Aa3, na3, ca3, Aa4, na4, ca4, Aa5, na5, ca5, rfl, hn, hb⟩
       have HR5 := Kept.mk (heap_alloc_new w5 (.cells #[.int .i64 ka, .bool qa, .string (bs ma), .slice Aa1 na1 ca1, .slice Aa2 na2 ca2, .slice Aa3 na3 ca3, .slice Aa4 na4 ca4, .slice Aa5 na5 ca5] 31))
       have HG5 : Kept (w5.heap.size < (w5.alloc (.cells #[.int .i64 ka, .bool qa, .string (bs ma), .slice Aa1 na1 ca1, .slice Aa2 na2 ca2, .slice Aa3 na3 ca3, .slice Aa4 na4 ca4, .slice Aa5 na5 ca5] 31)).heap.size) := ⟨by simp⟩
       have HN5 := Kept.mk (hn.out.keep ((Below.refl _ _).alloc (Nat.le_refl _) (.cells #[.int .i64 ka, .bool qa, .string (bs ma), .slice Aa1 na1 ca1, .slice Aa2 na2 ca2, .slice Aa3 na3 ca3, .slice Aa4 na4 ca4, .slice Aa5 na5 ca5] 31)))
       have HB5 := Kept.mk ((HB2.out.trans (hb.out.mono HB2.out.size)).alloc (HB2.out.trans (hb.out.mono HB2.out.size)).size (.cells #[.int .i64 ka, .bool qa, .string (bs ma), .slice Aa1 na1 ca1, .slice Aa2 na2 ca2, .slice Aa3 na3 ca3, .slice Aa4 na4 ca4, .slice Aa5 na5 ca5] 31))
       clear hb hn
       go_wp2_with fail
       generalize w5.alloc (.cells #[.int .i64 ka, .bool qa, .string (bs ma), .slice Aa1 na1 ca1, .slice Aa2 na2 ca2, .slice Aa3 na3 ca3, .slice Aa4 na4 ca4, .slice Aa5 na5 ca5] 31) = w6 at *
       generalize w5.heap.size = p5 at *
       go_at_call 13
       refine (prog_ok _ _ (HK.out.below HB5.out) HY.out n HT).mono ?_
       rintro e w7 ⟨kb, qb, mb, Ab1, nb1, cb1, Ab2, nb2, cb2, Ab3, nb3, cb3, Ab4, nb4, cb4, Ab5, nb5, cb5, rfl, hn, hb⟩
       have hbl : Below w6.heap.size w6 (w7.alloc (.cells #[.int .i64 kb, .bool qb, .string (bs mb), .slice Ab1 nb1 cb1, .slice Ab2 nb2 cb2, .slice Ab3 nb3 cb3, .slice Ab4 nb4 cb4, .slice Ab5 nb5 cb5] 31)) := hb.out.alloc hb.out.size _
       have HR7 := Kept.mk ((hbl.block _ HG5.out).trans HR5.out)
       have HN7 := Kept.mk (HN5.out.keep hbl)
       have HQ7 := Kept.mk (heap_alloc_new w7 (.cells #[.int .i64 kb, .bool qb, .string (bs mb), .slice Ab1 nb1 cb1, .slice Ab2 nb2 cb2, .slice Ab3 nb3 cb3, .slice Ab4 nb4 cb4, .slice Ab5 nb5 cb5] 31))
       have HM7 := Kept.mk (hn.out.keep ((Below.refl _ _).alloc (Nat.le_refl _) (.cells #[.int .i64 kb, .bool qb, .string (bs mb), .slice Ab1 nb1 cb1, .slice Ab2 nb2 cb2, .slice Ab3 nb3 cb3, .slice Ab4 nb4 cb4, .slice Ab5 nb5 cb5] 31)))
       have HB7 := Kept.mk (HB5.out.trans (hbl.mono HB5.out.size))
       clear hb hn hbl HR5 HN5 HG5 HB5
       have hff : ∀ ww, (Instr.loadAt 31 (.pointer (some ⟨p5, 0, none⟩))).run Tryz.prog ww = (Instr.loadAt 31 (.pointer (some ⟨p5, 0, none⟩))).run Tryz.prog ww := fun _ => rfl
       clear hff
       have x0 := cell_of_row _ _ 0 _ _ _ HR7.out
       have x1 := cell_of_row _ _ 1 _ _ _ HR7.out
       have x2 := cell_of_row _ _ 2 _ _ _ HR7.out
       have x3 := cell_of_row _ _ 3 _ _ _ HR7.out
       have x4 := cell_of_row _ _ 4 _ _ _ HR7.out
       have x5 := cell_of_row _ _ 5 _ _ _ HR7.out
       have x6 := cell_of_row _ _ 6 _ _ _ HR7.out
       have x7 := cell_of_row _ _ 7 _ _ _ HR7.out
       have y0 := cell_of_row _ _ 0 _ _ _ HQ7.out
       have y1 := cell_of_row _ _ 1 _ _ _ HQ7.out
       have y2 := cell_of_row _ _ 2 _ _ _ HQ7.out
       have y3 := cell_of_row _ _ 3 _ _ _ HQ7.out
       have y4 := cell_of_row _ _ 4 _ _ _ HQ7.out
       have y5 := cell_of_row _ _ 5 _ _ _ HQ7.out
       have y6 := cell_of_row _ _ 6 _ _ _ HQ7.out
       have y7 := cell_of_row _ _ 7 _ _ _ HQ7.out
       go_wp2_with (first
         | (go_at_call 16; refine (same_any HFw.out _ _ _ _ _ HN7.out HM7.out).mono ?_; rintro e w8 ⟨rfl, hb⟩; have HB8 := Kept.mk (HB7.out.trans (hb.mono HB7.out.size)); clear hb))
       go_ret
       exact ⟨rfl, HB8.out⟩
   · have hi : (500 : Int) < raw.size := by omega
     clear h5
     go_wp2_with fail
     go_ret
     exact ⟨rfl, HB2.out⟩
end Sy
end
section
open Go.ChangeShapes Go.WideShapes Go.ChangeAt Go.RowKit Tx
namespace Sy
set_option maxRecDepth 100000 in
theorem clines_contract (H : Type) (enc : TypeId × Value → H) (W : World) (base : Nat) (args : Array Value) (ds gs : List (DataW H)) (before : List MemPlace)
   (hval : ∀ (j : Nat) t v, Tryz.f6.params[j]? = some t → args[j]? = some v → Value.okWide Tryz.prog W .any base t v)
   (hW : DataW.Whole enc Tryz.prog Tryz.f6.params.toList Rows.syntaxLinesSpec.vars false W args.toList ds gs before)
   (hsz : (DataW.weightsEach Tryz.prog (Tryz.f6.params.toList ++ (OpenSpec.ofChange Rows.syntaxLinesSpec).bare.plain.varTypes Tryz.prog) (ds ++ gs)).all (· ≤ reachBytes) = true)
   (hL : laidMetH Tryz.prog Rows.syntaxLinesRow.laid W) (hsh : W.ShapedOpen Tryz.prog) :
   Calls Tryz.prog 6 args W fun e W' => ∃ v, e = .returned v ∧ Rows.syntaxLinesSpec.post enc Tryz.prog Tryz.f6 false true false false W args v W' := by
 have hW' := hW
 obtain ⟨p, q, hA0, hV, rfl, hfz, hnd⟩ := hW
 obtain ⟨rfl, rfl⟩ := trodVars_none hV
 have hA : DataW.TrodAll enc Tryz.prog W 0 (fun _ => true) true Tryz.f6.params.toList args.toList ds p := hA0
 rw [Tryz.params6] at hA hval hsz
 obtain ⟨v0, vs0, d0, ds0, p0, q0, hargs, rfl, rfl, h0, r0⟩ := trodAll_cons hA
 obtain ⟨v1, vs1, d1, ds1, p1, q1, rfl, rfl, rfl, h1, r1⟩ := trodAll_cons r0
 obtain ⟨v2, vs2, d2, ds2, p2, q2, rfl, rfl, rfl, h2, r2⟩ := trodAll_cons r1
 obtain ⟨rfl, rfl, rfl⟩ := trodAll_nil r2
 obtain rfl : args = #[v0, v1, v2] := by cases args; simp_all
 obtain ⟨Al, nl, kl, rfl, hll, hnl⟩ := open_bytes (hval 0 22 v0 rfl rfl) h0
 obtain ⟨s, rfl, rfl, rfl, hs⟩ := ChangeMaps.open_string Tryz.underlying9 (hval 1 9 v1 rfl rfl) h1
 unfold maxLen at hs
 obtain ⟨pk, rfl, rfl, rfl⟩ := open_bool Tryz.underlying4 (hval 2 4 v2 rfl rfl) h2
 refine (lines_law Al nl kl s pk W (kit_of hL hsh) hll hnl (by omega)).mono fun e W' ⟨he, hb⟩ => ?_
 subst he
 exact ⟨_, rfl, Law.post laidOut (by kernel_rfl) (by kernel_rfl) Tryz.underlying4 rfl rfl hW' hb⟩
theorem clines_laid_met (os : Os) : laidMet Tryz.prog Rows.syntaxLinesRow.laid ((laidWorld os).forCall (fun _ _ => 0) ⟨#[], #[Value.slice none 0 0, Value.string ⟨#[]⟩, Value.bool false], []⟩).memory :=
 laid_met os _
theorem clines_reads (os : Os) {H : Type} (enc : TypeId × Value → H) : ∃ places, DataW.whole enc Tryz.prog ((laidWorld os).forCall (fun _ _ => 0) ⟨#[], #[Value.slice none 0 0, Value.string ⟨#[]⟩, Value.bool false], []⟩).memory Tryz.f6.params.toList Rows.syntaxLinesSpec.vars false #[Value.slice none 0 0, Value.string ⟨#[]⟩, Value.bool false].toList 8 = some ([.nil, .lit (.string []), .lit (.bool false)], [], places) :=
 ⟨[], by kernel_rfl⟩
set_option maxRecDepth 100000 in
theorem clines_lifted (os : Os) (started : os.Started) (H : Type) (enc : TypeId × Value → H) (F : Stop.Interp) :
   ReturnsInHanded {} Tryz.checked os 6 .any ((OpenSpec.ofChange Rows.syntaxLinesSpec).preRow enc Tryz.prog Tryz.f6 Rows.syntaxLinesRow.domain false Rows.syntaxLinesRow.laid)
     (((OpenSpec.ofChange Rows.syntaxLinesSpec).at F).post enc Tryz.prog Tryz.f6 false true false false) := by
 obtain ⟨places, hx⟩ := clines_reads os enc
 refine returnsInHanded_of_row (C := Tryz.checked) (s := OpenSpec.ofChange Rows.syntaxLinesSpec) own started (by kernel_rfl) Tryz.func6
   (witness_row_at (enc := enc) (C := Tryz.checked) false (laidWorld os) #[Value.slice none 0 0, Value.string ⟨#[]⟩, Value.bool false] rfl (by kernel_rfl) (by kernel_rfl) (by kernel_rfl)
     (OpenSpec.preRow_of_cond 8 hx (by kernel_rfl) (fun k hk => by cases hk) (by kernel_rfl) (clines_laid_met os))) ?_
 intro W base args ds gs before hval hW _ _ hsz hL hsh _
 exact clines_contract H enc W base args ds gs before hval hW hsz hL hsh
theorem clines_said : Rows.SyntaxLinesSaid :=
 OpenClaim.holds_of_cond 6 Tryz.f6 rfl rfl rfl rfl rfl rfl rfl ⟨rfl, rfl, rfl, rfl, rfl⟩ rfl rfl rfl rfl rfl (by kernel_rfl) Tryz.func6 (by kernel_rfl)
   (of_decide_eq_true (by kernel_rfl)) (by unfold Func.isWrapper; first | (rw [if_pos (by decide +kernel)]; kernel_rfl) | (rw [if_neg (by decide +kernel)]; exact ⟨rfl, rfl⟩))
   (fun os started H enc _ F => by rw [OpenClaim.pre_eq_preRow]; exact clines_lifted os started H enc F)
theorem clines_plain (f : FuncId) (fn : Func) (hf : Tryz.pinned.checked.prog.funcNamed "scullion/scullionlaw09.SyntaxLines" = some f) (hfn : Tryz.pinned.checked.prog.funcs[f]? = some fn) :
   true = Tryz.pinned.checked.prog.looks [] ∧ ∀ (j : Nat) t, fn.params[j]? = some t → Tryz.pinned.checked.prog.wantsStandIn t = false := by
 obtain rfl : f = 6 := Option.some.inj ((show Tryz.prog.funcNamed "scullion/scullionlaw09.SyntaxLines" = some 6 by kernel_rfl).symm.trans hf) |>.symm
 obtain rfl : fn = Tryz.f6 := (Option.some.inj (Tryz.func6.symm.trans hfn)).symm
 refine ⟨by kernel_rfl, fun j t ht => ?_⟩
 rw [Tryz.params6] at ht
 have hm := Array.mem_of_getElem? ht
 simp at hm
 rcases hm with rfl | rfl | rfl
 · exact (show Tryz.prog.wantsStandIn 22 = false by kernel_rfl)
 · exact (show Tryz.prog.wantsStandIn 9 = false by kernel_rfl)
 · exact (show Tryz.prog.wantsStandIn 4 = false by kernel_rfl)
theorem clines_card : Rows.SyntaxLinesCardSaid :=
 Claim7.holds_tied_plain_at .later [] _ _ _ _ clines_said (fun _ h => by cases h) (by kernel_rfl) (fun _ h => by cases h) syntaxLines_row_tie rfl ⟨rfl, rfl⟩ (by kernel_rfl) rfl clines_plain (by kernel_rfl)
end Sy
end
end Go.Proofs.YtahjonfmhejoeaaGreatDoor
