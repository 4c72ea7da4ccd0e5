/-
  StoreNames: the names below a place, those below the root, and all places, are those of the document.
-/
import Derived.Test.YtjmblgahoejoiaaDoorSawake
import Derived.Test.YtjmblgahoejoiaaDoorPlist
import Derived.Test.YtjmblgahoejoiaaDoorRputw
import Derived.Test.YtjmblgahoejoiaaDoorSame
import Derived.Test.YtjmblgahoejoiaaDoorSopen
import Derived.Deep.DeepCutAuto
import Derived.Deep.CutBlock
namespace Go.Proofs.YtjmblgahoejoiaaDoor
open Go.RowKit Tx
namespace St

structure NIn (w wr : World) (g b n r : Nat) (lv : Value) (tp t : Tree) : Prop where
  p : PSto wr g b n lvNone tp
  s : RSto wr r lv t
  below : Below w.heap.size w wr
  hb : w.heap.size ≤ b
  hr : w.heap.size ≤ r
  rg : r ≠ g
  rb : r ≠ b
  lb : ∀ k, lv.ownBlock = some k → k ≠ b
  cnt : tp.length ≤ n
section
variable {w wr w2 : World} {g b n r m : Nat} {lv lv' : Value} {tp t tp' t' : Tree}
theorem NIn.on (h : NIn w wr g b n r lv tp t) (hb : Below wr.heap.size wr w2) : NIn w w2 g b n r lv tp t :=
  ⟨h.p.below hb, h.s.below hb, h.below.trans (hb.mono h.below.size), h.hb, h.hr, h.rg, h.rb, h.lb, h.cnt⟩
theorem NIn.drew (h : NIn w wr g b n r lv tp t) : NIn w wr.drew g b n r lv tp t := h.on (Below.refl _ _).drew
theorem NIn.putP (h : NIn w wr g b n r lv tp t) (hp : PSto w2 g b m lvNone tp') (ho : Only (· = b) wr w2) (hc : tp'.length ≤ m) : NIn w w2 g b m r lv tp' t :=
  ⟨hp, h.s.only ho h.rb h.lb, h.below.trans (ho.toBelow (fun k hk e => by have := h.hb; omega) h.below.size), h.hb, h.hr, h.rg, h.rb, h.lb, hc⟩
theorem NIn.putR (h : NIn w wr g b n r lv tp t) (hs : RSto w2 r lv' t') (hl : lv' = lv ∨ ∀ k, lv'.ownBlock = some k → wr.heap.size ≤ k) (ho : Only (· = r) wr w2) : NIn w w2 g b n r lv' tp t' := by
  refine ⟨h.p.only ho (fun e => h.rg e.symm) (fun e => h.rb e.symm), hs, h.below.trans (ho.toBelow (fun k hk e => by have := h.hr; omega) h.below.size), h.hb, h.hr, h.rg, h.rb, fun k hk => ?_, h.cnt⟩
  rcases hl with rfl | hl
  · exact h.lb k hk
  · have := hl k hk
    have := h.p.own.lt
    omega
end

theorem putOne (g b n : Nat) (t : Tree) (s : ByteArray) (w : World) (h : PSto w g b n lvNone t) (hs : s.size ≤ maxLen) (hn : n < 100000) :
    Calls Tryd.prog 14 #[.pointer (some ⟨g, 0, none⟩), .string s, .agg #[.int .i64 1, .int .i64 0, .string ⟨#[]⟩]] w fun e w' => e = .returned (.tuple #[]) ∧ Kept (PSto w' g b (n + 1) lvNone (put t s ⟨1, 0, emp⟩)) ∧ Only (· = b) w w' :=
  put_none g b n t s ⟨1, 0, emp⟩ w h hs hn

theorem rd_len {w : World} {v : Value} {l : List ByteArray} {B n : Nat} (hn : l.length = n) (h : Own.Es Value.string w B v l) : ∃ A k, v = .slice A n k ∧ Kept (Tup.Rd w A l) := by
  subst hn
  obtain ⟨A, k, e, hr⟩ := Tup.Rd.of_es h
  exact ⟨A, k, e, ⟨hr⟩⟩

set_option maxHeartbeats 4000000 in
set_option maxRecDepth 100000 in
theorem names_any (A : Option Addr) (len cap : Nat) (l : List ByteArray) (pl : ByteArray) (w : World) (hK : Tup.Kit w) (hA : Arg w A len cap l) (hp : pl.size ≤ 140737488351232) :
    Calls Tryd.prog 6 #[.slice A len cap, .string pl] w fun e w' => e = .returned (.bool true) ∧ Below w.heap.size w w' := by
  have HK := Kept.mk hK
  have HA := Kept.mk hA
  have hlen := hA.lim
  clear hK hA
  go_enter Tryd.func6, Tryd.ntmps6
  go_upto_block 0 with (first
    | (go_at_call 7
       refine (awake_any _ HK.out).mono ?_
       rintro e w1 ⟨rfl, hb1⟩
       have HB1 := Kept.mk hb1
       clear hb1)
    | (go_at_call 13
       refine (new_any w1).mono ?_
       rintro e w2 ⟨g, b, rfl, hg, hb, hp2, hB⟩
       have HP2 := Kept.mk hp2.out
       have HB2 := Kept.mk hB
       have Hb := Kept.mk hb
       clear hp2 hB hg hb)
    | (go_at_call 17
       refine (refNew_any w2).mono ?_
       rintro e w3 ⟨rfl, hs3, hb3⟩
       have H0 : Kept (NIn w w3 g b 1 w2.heap.size (.slice none 0 0) [] []) := ⟨⟨HP2.out.below hb3, hs3.out, (HB1.out.trans (HB2.out.mono HB1.out.size)).trans (hb3.mono (Nat.le_trans HB1.out.size HB2.out.size)), Nat.le_trans HB1.out.size Hb.out, Nat.le_trans HB1.out.size HB2.out.size, fun e => by have := HP2.out.lt; omega, fun e => by have := HP2.out.own.lt; omega, fun k hk => (by cases hk), Nat.zero_le _⟩⟩
       clear hs3 hb3))
  generalize w2.heap.size = r at *
  go_cut [8, 9] (fun x _ wx => ∃ (N : Int) (n : Nat) (t : Tree) (lv : Value), x = .int .i64 N ∧ Kept (NIn w wx g b n r lv t t ∧ n ≤ 21))
  case first =>
    go_wp2_with fail
    go_loopw [8, 9] (fun x i wr => ∃ (j : Nat) (N : Int) (t : Tree) (lv : Value), j ≤ 20 ∧ i = .int .i64 j ∧ x = .int .i64 N ∧ 0 ≤ N ∧ N ≤ 281474976710656 ∧ Kept (NIn w wr g b (1 + j) r lv t t)) (fun _ i _ => 20 - (intOf i).toNat)
    case atStart => exact ⟨0, pl.size, [], _, by omega, rfl, rfl, by omega, by omega, H0⟩
    case round =>
      clear H0 HP2 HB2
      obtain ⟨j, N, t, lv, hj, rfl, rfl, N0, N1, H⟩ := hrel
      have i0 : (0 : Int) ≤ j := by omega
      by_cases hlt : j < len
      · have i2 : (j : Int) < len := by omega
        by_cases h20 : j < 20
        · have i3 : (j : Int) < 20 := by omega
          by_cases hN : N ≤ 300
          · obtain ⟨ga, off, rfl, hga, hc⟩ := HA.out.rd j (by rw [HA.out.len]; exact hlt)
            have hS : Kept ((l[j]'(by rw [HA.out.len]; exact hlt)).size ≤ 140737488351232) := ⟨HA.out.each _ (List.getElem_mem _)⟩
            generalize l[j]'(by rw [HA.out.len]; exact hlt) = s at hc hS
            have hsz := hS.out
            have hO : Kept (∀ w', Below w.heap.size w w' → w'.cell? ⟨ga, off + j, none⟩ = some (.string s)) := ⟨fun w' hb => (hb.cell hga).trans hc⟩
            have c0 := hO.out _ H.out.below
            have HC := Kept.mk H.out.cnt
            clear hc hlt h20
            go_wp2_with (first
              | (go_at_call 14
                 refine (putOne g b (1 + j) t s _ H.out.p (by unfold maxLen; omega) (by omega)).mono ?_
                 rintro e w5 ⟨rfl, hp5, ho5⟩
                 have H5 := Kept.mk (H.out.putP hp5.out ho5 (by have := length_put t s ⟨1, 0, emp⟩; have := HC.out; omega))
                 clear c0 hp5 ho5
                 have c0 := hO.out _ H5.out.below)
              | (go_at_call 18
                 refine (refPut_any r lv t s 1 0 emp _ H5.out.s (by have := HC.out; omega) (by unfold maxLen; omega) (by decide)).mono ?_
                 rintro e w6 ⟨rfl, lv', hs6, hl6, ho6⟩
                 have H6 := Kept.mk (H5.out.putR hs6.out hl6 ho6)
                 clear c0 hs6 hl6 ho6))
            go_roundw
            case rel => exact ⟨j + 1, _, _, _, by omega, by go_num, rfl, by omega, by omega, H6⟩
            case measure => simp [intOf]; omega
          · clear h20
            go_wp2
            go_meet
            exact ⟨N, _, t, lv, rfl, ⟨H.out, by omega⟩⟩
        · have i3 : ¬ (j : Int) < 20 := by omega
          clear h20
          go_wp2
          go_meet
          exact ⟨N, _, t, lv, rfl, ⟨H.out, by omega⟩⟩
      · have i2 : ¬ (j : Int) < len := by omega
        go_wp2
        go_meet
        exact ⟨N, _, t, lv, rfl, ⟨H.out, by omega⟩⟩
  case rest =>
    clear H0 HP2 HB2
    obtain ⟨N, n, t, lv, rfl, H⟩ := hcut
    by_cases hN : 300 < N
    · go_wp2
      go_ret
      exact ⟨rfl, H.out.1.below⟩
    · have HT : Kept (t.length ≤ 21) := ⟨by have := H.out.1.cnt; have := H.out.2; omega⟩
      have HNm : ∀ (pl : ByteArray), pl.size ≤ 140737488351232 → ∃ (l1 : List ByteArray) (n1 : Nat), l1.length = n1 ∧ n1 ≤ 21 ∧
          (∀ w, PSto w g b n lvNone t → Calls Tryd.prog 20 #[.pointer (some ⟨g, 0, none⟩), .string pl] w fun e w' => ∃ A k, e = .returned (.slice A n1 k) ∧ Kept (Tup.Rd w' A l1) ∧ Below w.heap.size w w') ∧
          (∀ w, RSto w r lv t → Calls Tryd.prog 21 #[.pointer (some ⟨r, 0, none⟩), .string pl] w fun e w' => ∃ A k, e = .returned (.slice A n1 k) ∧ Kept (Tup.Rd w' A l1) ∧ Below w.heap.size w w') := by
        intro pl hpl
        have h1 : (names t pl).length ≤ t.length := List.length_filterMap_le _ _
        have h2 := HT.out
        refine ⟨names t pl, (names t pl).length, rfl, by omega, fun w h => ?_, fun w h => ?_⟩
        · refine (names_none g b n t pl w h (by omega) (by omega)).mono ?_
          rintro e w' ⟨v, rfl, hv, hb⟩
          obtain ⟨A, k, rfl, hr⟩ := rd_len rfl hv.out
          exact ⟨A, k, rfl, hr, hb⟩
        · refine (refNames_any r lv t pl w h (by omega) (by omega)).mono ?_
          rintro e w' ⟨v, rfl, hv, hb⟩
          obtain ⟨A, k, rfl, hr⟩ := rd_len rfl hv.out
          exact ⟨A, k, rfl, hr, hb⟩
      have HPm : ∃ (l1 : List ByteArray) (n1 : Nat), l1.length = n1 ∧ n1 ≤ 21 ∧
          (∀ w, PSto w g b n lvNone t → Calls Tryd.prog 22 #[.pointer (some ⟨g, 0, none⟩)] w fun e w' => ∃ A k, e = .returned (.slice A n1 k) ∧ Kept (Tup.Rd w' A l1) ∧ Below w.heap.size w w') ∧
          (∀ w, RSto w r lv t → Calls Tryd.prog 23 #[.pointer (some ⟨r, 0, none⟩)] w fun e w' => ∃ A k, e = .returned (.slice A n1 k) ∧ Kept (Tup.Rd w' A l1) ∧ Below w.heap.size w w') := by
        have h2 := HT.out
        refine ⟨t.map (·.1), t.length, by simp, h2, fun w h => paths_any g b n lvNone t w h (by omega), fun w h => ?_⟩
        refine (refPaths_any r lv t w h (by omega)).mono ?_
        rintro e w' ⟨v, rfl, hv, hb⟩
        obtain ⟨A, k, rfl, hr⟩ := rd_len (n := t.length) (by simp) hv.out
        exact ⟨A, k, rfl, hr, hb⟩
      have HSm : ∀ (l1 : List ByteArray) (n1 : Nat) (_ : l1.length = n1) (_ : n1 ≤ 21) A k C q w, Tup.Rd w A l1 → Tup.Rd w C l1 → Calls Tryd.prog 19 #[.slice A n1 k, .slice C n1 q] w fun e w' => e = .returned (.bool true) ∧ Below w.heap.size w w' := by
        intro l1 n1 h1 h2 A k C q w ha hc
        have := Tup.same_any l1 l1 A C n1 k n1 q w ha hc h1 h1 (by omega) (by omega)
        rw [decide_eq_true rfl] at this
        exact this
      obtain ⟨la, na, ea, fa, Pa, Ra⟩ := HNm pl hp
      obtain ⟨lb, nb, eb, fb, Pb, Rb⟩ := HNm emp (by decide)
      obtain ⟨lc, nc, ec, fc, Pc, Rc⟩ := HPm
      have Sa := Kept.mk (HSm la na ea fa)
      have Sb := Kept.mk (HSm lb nb eb fb)
      have Sc := Kept.mk (HSm lc nc ec fc)
      have HPa := Kept.mk Pa
      have HPb := Kept.mk Pb
      have HPc := Kept.mk Pc
      have HRa := Kept.mk Ra
      have HRb := Kept.mk Rb
      have HRc := Kept.mk Rc
      have T1 : Kept True := ⟨trivial⟩
      have T2 : Kept True := ⟨trivial⟩
      have T3 : Kept True := ⟨trivial⟩
      have T4 : Kept True := ⟨trivial⟩
      clear HNm HSm Pa Pb Pc Ra Rb Rc ea eb ec fa fb fc
      go_wp2_with (first
        | (go_at_call 20
           have := T1
           refine (HPa.out _ H.out.1.p).mono ?_
           rintro e w1' ⟨A1, k1, rfl, r1, hb⟩
           have H1 := Kept.mk (H.out.1.on hb)
           clear T1 this hb)
        | (go_at_call 21
           have := T2
           refine (HRa.out _ H1.out.s).mono ?_
           rintro e w2' ⟨A2, k2, rfl, r2, hb⟩
           have H2 := Kept.mk (H1.out.on hb)
           have r3 := Kept.mk (r1.out.below hb)
           clear T2 this hb)
        | (go_at_call 19
           have := T3
           refine (Sa.out _ _ _ _ _ r3.out r2.out).mono ?_
           rintro e w3' ⟨rfl, hb⟩
           have H3 := Kept.mk (H2.out.on hb)
           clear T3 this hb)
        | (go_at_call 20
           refine (HPb.out _ H3.out.p).mono ?_
           rintro e w4' ⟨A4, k4, rfl, r4, hb⟩
           have H4 := Kept.mk (H3.out.on hb)
           clear hb)
        | (go_at_call 21
           refine (HRb.out _ H4.out.s).mono ?_
           rintro e w5' ⟨A5, k5, rfl, r5, hb⟩
           have H5 := Kept.mk (H4.out.on hb)
           have r6 := Kept.mk (r4.out.below hb)
           clear hb)
        | (go_at_call 19
           have := T4
           refine (Sb.out _ _ _ _ _ r6.out r5.out).mono ?_
           rintro e w6' ⟨rfl, hb⟩
           have H6 := Kept.mk (H5.out.on hb)
           clear T4 this hb)
        | (go_at_call 22
           refine (HPc.out _ H6.out.p).mono ?_
           rintro e w7' ⟨A7, k7, rfl, r7, hb⟩
           have H7 := Kept.mk (H6.out.on hb)
           clear hb)
        | (go_at_call 23
           refine (HRc.out _ H7.out.s).mono ?_
           rintro e w8' ⟨A8, k8, rfl, r8, hb⟩
           have H8 := Kept.mk (H7.out.on hb)
           have r9 := Kept.mk (r7.out.below hb)
           clear hb)
        | (go_at_call 19
           refine (Sc.out _ _ _ _ _ r9.out r8.out).mono ?_
           rintro e w9' ⟨rfl, hb⟩
           have H9 := Kept.mk (H8.out.on hb)
           clear hb))
      go_ret
      exact ⟨rfl, H9.out.below⟩
end St
end Go.Proofs.YtjmblgahoejoiaaDoor
