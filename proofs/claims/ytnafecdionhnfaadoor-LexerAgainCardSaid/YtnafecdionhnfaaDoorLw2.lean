/-
  What any right program answers; the law of few pieces.
-/
import Derived.Test.YtnafecdionhnfaaDoorLw1
namespace Go.Proofs.YtnafecdionhnfaaDoor
open Go.RowKit Tx
namespace Lx

theorem tokens_ok (s : ByteArray) (w : World) (ts : List Tok) (hK : Kit w) (hs : s.size ≤ 20000) (h : Kept (toks (toL s) = some ts)) :
    Calls Tryd.prog 9 #[.string s] w fun e w' => ∃ A k, e = .returned (.tuple #[.slice A ts.length k, .int .i64 0]) ∧ Kept (Rt w' A ts) ∧ Below w.heap.size w w' :=
  (tokens_any s w hK hs (some ts) ⟨h.out.symm⟩).mono fun e w' ⟨⟨A, k, he, hR, _⟩, hb⟩ => ⟨A, k, he, hR, hb⟩
theorem tokens_ok2 (s : ByteArray) (w : World) (ts : List Tok) (hK : Kit w) (hs : s.size ≤ 20000) (h : Kept (toks (toL s) = some ts)) :
    Calls Tryd.prog 9 #[.string s] w fun e w' => ∃ A k, e = .returned (.tuple #[.slice A ts.length k, .int .i64 0]) ∧ Kept (Rt w' A ts) ∧ Kept (A = none → k = 0) ∧ Below w.heap.size w w' :=
  (tokens_any s w hK hs (some ts) ⟨h.out.symm⟩).mono fun e w' ⟨⟨A, k, he, hR, hn⟩, hb⟩ => ⟨A, k, he, hR, hn, hb⟩
theorem tokens_no (s : ByteArray) (w : World) (hK : Kit w) (hs : s.size ≤ 20000) (h : Kept (toks (toL s) = none)) :
    Calls Tryd.prog 9 #[.string s] w fun e w' => e = .returned (.tuple #[.slice none 0 0, .int .i64 80]) ∧ Below w.heap.size w w' :=
  (tokens_any s w hK hs none ⟨h.out.symm⟩).mono fun e w' h => h
theorem ref_ok (s : ByteArray) (w : World) (ts : List Tok) (hs : s.size ≤ 20000) (h : Kept (toks (toL s) = some ts)) :
    Calls Tryd.prog 10 #[.string s] w fun e w' => ∃ A k, e = .returned (.tuple #[.slice A ts.length k, .int .i64 0]) ∧ Kept (Rt w' A ts) ∧ Below w.heap.size w w' :=
  (refTokens_any s w hs (some ts) ⟨h.out.symm⟩).mono fun e w' ⟨⟨A, k, he, hR, _⟩, hb⟩ => ⟨A, k, he, hR, hb⟩
theorem ref_no (s : ByteArray) (w : World) (hs : s.size ≤ 20000) (h : Kept (toks (toL s) = none)) :
    Calls Tryd.prog 10 #[.string s] w fun e w' => e = .returned (.tuple #[.slice none 0 0, .int .i64 80]) ∧ Below w.heap.size w w' :=
  (refTokens_any s w hs none ⟨h.out.symm⟩).mono fun e w' h => h
def firstT : ByteArray := ⟨#[97, 32, 39, 98, 32, 99, 39, 38, 38, 36, 40, 100, 32, 40, 101, 41, 41, 32, 35, 32, 102]⟩
def wantT : List Tok := [⟨0, [97]⟩, ⟨0, [39, 98, 32, 99, 39]⟩, ⟨1, [38, 38]⟩, ⟨0, [36, 40, 100, 32, 40, 101, 41, 41]⟩]
theorem first_toks : toks (toL firstT) = some wantT := by decide +kernel
theorem quote_toks : toks (toL ⟨#[39]⟩) = none := by decide +kernel
theorem Rt.fresh (w : World) (t : TypeId) (l : List Tok) : Rt (w.alloc (.cells (tvs l).toArray t)) (some ⟨w.heap.size, 0, none⟩) l := fun j hj => by
  have h := tvs_at hj
  refine ⟨w.heap.size, rfl, by simp, ?_, ?_⟩
  · rw [cell_of_row _ _ _ _ _ (0, 0) (heap_alloc_new w _)]; simpa using h.1
  · rw [cell_of_row _ _ _ _ _ (0, 0) (heap_alloc_new w _)]; simpa using h.2
theorem same_any (l : List Tok) (n m : Nat) (A C : Option Addr) (k q : Nat) (w : World) (h1 : Rt w A l) (h2 : Rt w C l) (hl : l.length ≤ 1000000) (hn : n = l.length) (hm : m = l.length) :
    Calls Tryd.prog 12 #[.slice A n k, .slice C m q] w fun e w' => e = .returned (.bool true) ∧ Below w.heap.size w w' := by
  subst hn hm
  exact (same_true l A C k q w h1 h2 hl).mono fun e w' ⟨he, hq⟩ => ⟨he, hq.below⟩
set_option maxHeartbeats 1000000 in
set_option maxRecDepth 100000 in
theorem awake_any (w : World) (hK : Kit w) : Calls Tryd.prog 11 #[] w fun e w' => e = .returned (.bool true) ∧ Below w.heap.size w w' := by
  have HK := Kept.mk hK
  have H1 : Kept (toks (toL firstT) = some wantT) := ⟨first_toks⟩
  have H2 : Kept (toks (toL ⟨#[39]⟩) = none) := ⟨quote_toks⟩
  have T1 : Kept True := ⟨trivial⟩
  clear hK
  go_enter Tryd.func11, Tryd.ntmps11
  go_wp2_with (first
    | (go_at_call 9; have := T1; refine (tokens_ok firstT _ wantT HK.out (by decide) H1).mono ?_; rintro e w1 ⟨A, k, rfl, hR, hb⟩; have HB1 := Kept.mk hb; have HR1 := hR; clear T1 this hb hR)
    | (go_at_call 9; refine (tokens_no ⟨#[39]⟩ w1 (HK.out.below HB1.out) (by decide) H2).mono ?_; rintro e w2 ⟨rfl, hb⟩; have HB2 := Kept.mk (HB1.out.trans (hb.mono HB1.out.size)); have HR2 := Kept.mk (HR1.out.below hb); clear hb)
    | (go_at_call 12; refine (same_any wantT _ _ A (some ⟨w2.heap.size, 0, none⟩) _ _ (w2.alloc (.cells (tvs wantT).toArray 35)) (HR2.out.below ((Below.refl _ _).alloc (Nat.le_refl _) _)) (Rt.fresh w2 _ wantT) (by decide) rfl rfl).mono ?_; rintro e w3 ⟨rfl, hb⟩; have HB3 : Kept (Below w.heap.size w w3) := ⟨(HB2.out.alloc HB2.out.size _).trans (hb.mono (by have := HB2.out.size; simp; omega))⟩; clear hb))
  go_ret
  exact ⟨rfl, HB3.out⟩
theorem errno_eq (n : Int) (w : World) : (binOp .eql 27 (.int .i64 n) (.int .i64 n)).run Tryd.prog w = .ok (.bool true) w := by
  go_simp
set_option maxHeartbeats 1000000 in
set_option maxRecDepth 100000 in
theorem small_any (A : Option Addr) (n k : Nat) (w : World) (hK : Kit w) (hl : By8 w A n) (hn : n ≤ 9223372036854775807) :
    Calls Tryd.prog 3 #[.slice A n k] w fun e w' => e = .returned (.bool true) ∧ Below w.heap.size w w' := by
  have HK := Kept.mk hK
  have HL := Kept.mk hl
  clear hK hl
  go_enter Tryd.func3, Tryd.ntmps3
  go_wp2_with (first
    | (go_at_call 8; refine (signs_any _).mono ?_; rintro e w1 ⟨g, rfl, hg, hf, hb⟩; have HB1 := Kept.mk hb; have HF := hf; have HG := Kept.mk hg; clear hg hf hb)
    | (go_at_call 7; refine (pieces_any A n k g 24 24 w1 (HL.out.below HB1.out) hn HF.out (by omega) (by omega)).mono ?_; rintro e w2 ⟨x, rfl, hx, rfl⟩; have HB2 := HB1; have hxs : x.size ≤ 20000 := (by omega)))
  cases ht : toks (toL x) with
  | none =>
    have HT := Kept.mk ht
    clear ht
    go_wp2_with (first
      | (go_at_call 9; refine (tokens_no x w2 (HK.out.below HB2.out) hxs HT).mono ?_; rintro e w3 ⟨rfl, hb⟩; have HB3 := Kept.mk (HB2.out.trans (hb.mono HB2.out.size)); clear hb)
      | (go_at_call 10; refine (ref_no x w3 hxs HT).mono ?_; rintro e w4 ⟨rfl, hb⟩; have HB4 := Kept.mk (HB3.out.trans (hb.mono HB3.out.size)); clear hb)
      | (go_at_call 11; refine (awake_any w4 (HK.out.below HB4.out)).mono ?_; rintro e w5 ⟨rfl, hb⟩; have HB5 := Kept.mk (HB4.out.trans (hb.mono HB4.out.size)); clear hb)
      | (go_at_call 12; refine (same_any [] 0 0 none none 0 0 w5 (Rt.nil _ _) (Rt.nil _ _) (by decide) rfl rfl).mono ?_; rintro e w6 ⟨rfl, hb⟩; have HB6 := Kept.mk (HB5.out.trans (hb.mono HB5.out.size)); clear hb))
    go_ret
    exact ⟨rfl, HB6.out⟩
  | some ts =>
    have HT := Kept.mk ht
    have HTs : Kept (ts.length ≤ 1000000) := ⟨by have := (goes_size (goes_iff.1 ht)).2; rw [toL_length] at this; omega⟩
    clear ht
    go_wp2_with (first
      | (go_at_call 9; refine (tokens_ok x w2 ts (HK.out.below HB2.out) hxs HT).mono ?_; rintro e w3 ⟨C, p, rfl, hR, hb⟩; have HR3 := hR; have HB3 := Kept.mk (HB2.out.trans (hb.mono HB2.out.size)); clear hR hb)
      | (go_at_call 10; refine (ref_ok x w3 ts hxs HT).mono ?_; rintro e w4 ⟨D, q, rfl, hR, hb⟩; have HR4 := Kept.mk (And.intro (HR3.out.below hb) hR.out); have HB4 := Kept.mk (HB3.out.trans (hb.mono HB3.out.size)); clear hR hb HR3)
      | (go_at_call 11; refine (awake_any w4 (HK.out.below HB4.out)).mono ?_; rintro e w5 ⟨rfl, hb⟩; have HR5 := Kept.mk (And.intro (HR4.out.1.below hb) (HR4.out.2.below hb)); have HB5 := Kept.mk (HB4.out.trans (hb.mono HB4.out.size)); clear hb HR4)
      | (go_at_call 12; refine (same_any ts _ _ C D p q w5 HR5.out.1 HR5.out.2 HTs.out rfl rfl).mono ?_; rintro e w6 ⟨rfl, hb⟩; have HB6 := Kept.mk (HB5.out.trans (hb.mono HB5.out.size)); clear hb))
    go_ret
    exact ⟨rfl, HB6.out⟩
end Lx
end Go.Proofs.YtnafecdionhnfaaDoor
