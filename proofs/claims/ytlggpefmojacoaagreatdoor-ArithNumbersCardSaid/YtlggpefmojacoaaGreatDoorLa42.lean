/-
  Parts of the proof, merged.
-/
import Derived.Test.YtlggpefmojacoaaGreatDoorLa33
import Derived.Test.YtlggpefmojacoaaGreatDoorLa38
import Derived.Test.YtlggpefmojacoaaGreatDoorLa39
import Derived.Test.YtlggpefmojacoaaGreatDoorLa40
import Derived.Test.YtlggpefmojacoaaGreatDoorLa41
namespace Go.Proofs.YtlggpefmojacoaaGreatDoor
section
open Go.RowKit Tx
namespace Wx
open Lx
theorem pbraces_any (d : Nat) (dep : Int) (hd0 : 0 ≤ dep) (hd1 : dep ≤ 30) (HPa : ParseC d (dep + 1)) (s : ByteArray) (q : Bool) (w : World) (b : Nat) (acc : List Pt) (pv tv : Value) (hs : s.size ≤ 1500000) (hw : wt acc ≤ 27000000) (hK : Kit w) (hS : St w b dep acc pv tv) :
   Calls Tryz.prog 161 #[.pointer (some ⟨b, 0, none⟩), .string s, .bool q] w (WEnd ((braces (parts d) q (toL s)).map (add acc)) w b dep pv tv) := by
 cases hl : lenB (toL s) with
 | true => exact braces_len d dep s q w b acc pv tv hs hw hS hl _
 | false =>
   by_cases h35 : (toL s).head? = some 35
   · have h0 : 0 < s.size := by
       rw [← toL_length]
       cases h : toL s with
       | nil => rw [h] at h35; cases h35
       | cons c r => simp
     by_cases h1 : s.size = 1
     · exact braces_b d dep hd0 hd1 HPa s q w b acc pv tv hs hw hK hS hl h35 h1
     · exact braces_c d dep hd0 hd1 HPa s q w b acc pv tv hs hw hK hS hl h35 (by omega)
   · exact braces_a d dep hd0 hd1 HPa s q w b acc pv tv hs hw hK hS hl h35
theorem Fr.quiet {w w1 : World} {b : Nat} (pv tv : Value) (hb : Below w.heap.size w w1) (hl : b < w.heap.size) : Fr b pv tv pv tv w w1 :=
 ⟨hb.mono (Nat.le_of_lt hl), fun g hg hgl => ⟨hg, hb.block g hgl⟩⟩
inductive DoEnd (r : Except Int (Pt × Nat)) (acc : List Pt) (w : World) (b : Nat) (dep : Int) (pv tv : Value) : Ending → World → Prop
 | ok (w' : World) (p : Pt) (k : Nat) (pv' tv' : Value) (h : r = .ok (p, k)) (hs : Kept (St w' b dep (add acc p) pv' tv')) (hf : Kept (Fr b pv tv pv' tv' w w')) : DoEnd r acc w b dep pv tv (.returned (.tuple #[.int .i64 (k : Int), .int .i64 0])) w'
 | no (w' : World) (c n : Int) (h : r = .error c) (hc : (c == 0) = false) (hb : Kept (Below b w w')) : DoEnd r acc w b dep pv tv (.returned (.tuple #[.int .i64 n, .int .i64 c])) w'
theorem DoEnd.of {r : Except Int (Pt × Nat)} {acc : List Pt} {w w' : World} {b : Nat} {dep : Int} {pv tv pv' tv' : Value} {p : Pt} {k : Nat} {i : Int} (h : r = .ok (p, k)) (hs : Kept (St w' b dep (add acc p) pv' tv')) (hf : Kept (Fr b pv tv pv' tv' w w')) (hi : i = (k : Int)) : DoEnd r acc w b dep pv tv (.returned (.tuple #[.int .i64 i, .int .i64 0])) w' := by
 subst hi; exact .ok w' p k pv' tv' h hs hf
theorem dollar_paren {w : List UInt8 → Except Int (List Pt)} {q : Bool} {s : List UInt8} {k : Nat} (h : (s.drop 1).head? = some 40) (hu : unit 30 0 s = some k) (hk : 3 ≤ k) : dollar w q s = .ok (parenP q (s.take k), k) := by
 have hle := unit_le _ hu
 have hl : (s.take k).length = k := by rw [List.length_take]; omega
 rw [dollar_unit (.inl h), hu]
 simp only []
 rw [if_neg (by rw [h]; decide)]
 unfold parenP
 have e2 : (s.take k)[2]? = s[2]? := by rw [List.getElem?_take, if_pos (by omega)]
 have e3 : (s.take k)[k - 2]? = s[k - 2]? := by rw [List.getElem?_take, if_pos (by omega)]
 rw [hl, List.take_take, List.take_take, Nat.min_eq_left (by omega), Nat.min_eq_left (by omega), e2, e3]
 by_cases h4 : 4 < k ∧ s[2]? = some 40 ∧ s[k - 2]? = some 41
 · rw [if_pos h4, if_pos h4]
 · rw [if_neg h4, if_neg h4]
theorem paren_last {s : List UInt8} {r : List UInt8} {k : Nat} (hs : s = 36 :: 40 :: r) (hu : unit 30 0 s = some k) : ∃ a, s.take k = 36 :: 40 :: (a ++ [41]) := by
 rw [hs, unit_par] at hu
 obtain ⟨j, hj, rfl⟩ := Option.map_eq_some_iff.1 hu
 obtain ⟨a, z, hr, rfl⟩ := nest_last _ r j (Nat.le_refl _) hj
 refine ⟨a, ?_⟩
 rw [hs, hr, show 2 + (a.length + 1) = (a.length + 1) + 1 + 1 by omega, List.take_succ_cons, List.take_succ_cons]
 congr 2
 rw [show a ++ 41 :: z = (a ++ [41]) ++ z by simp]
 exact List.take_left' (by simp)
set_option maxHeartbeats 2000000 in
set_option maxRecDepth 100000 in
theorem pdollar_any (d : Nat) (dep : Int) (hd0 : 0 ≤ dep) (hd1 : dep ≤ 30) (HPa : ParseC d (dep + 1)) (s : ByteArray) (q : Bool) (w : World) (b : Nat) (acc : List Pt) (pv tv : Value) (hh : (toL s).head? = some 36) (hs : s.size ≤ 1500000) (hw : wt acc ≤ 27000000) (hK : Kit w) (HS : Kept (St w b dep acc pv tv)) :
   Calls Tryz.prog 155 #[.pointer (some ⟨b, 0, none⟩), .string s, .bool q] w (DoEnd (dollar (parts d) q (toL s)) acc w b dep pv tv) := by
 have HPa := Kept.mk HPa
 have HK := Kept.mk hK
 have hblt := HS.out.lt
 obtain ⟨r, hr⟩ : ∃ r, r = (toL s).drop 1 := ⟨_, rfl⟩
 have hl : toL s = 36 :: r := by
   rw [hr]
   cases h : toL s with
   | nil => rw [h] at hh; cases hh
   | cons c t => rw [h] at hh; injection hh with hh; rw [hh]; rfl
 have h0 : 0 < s.size := by rw [← toL_length, hl]; simp
 have hrl : r.length = s.size - 1 := by rw [hr, List.length_drop, toL_length]
 have HPre : Kept (∀ W : World, Calls Tryz.prog 100 #[.string s, .string ⟨#[36, 40]⟩] W (fun e w' => e = .returned (.bool (decide (r.head? = some 40))) ∧ W = w') ∧ Calls Tryz.prog 100 #[.string s, .string ⟨#[36, 123]⟩] W (fun e w' => e = .returned (.bool (decide (r.head? = some 123))) ∧ W = w')) := ⟨fun W => by
   have hd : ∀ z, decide (r.head? = some z) = [36, z].isPrefixOf (toL s) := fun z => by
     rw [hl, prefix_two]; simp
   exact ⟨(prefix_any s [36, 40] W _ (hd 40)).mono (fun e w' h => ⟨h.1, h.2.symm⟩), (prefix_any s [36, 123] W _ (hd 123)).mono (fun e w' h => ⟨h.1, h.2.symm⟩)⟩⟩
 have T1 : Kept True := ⟨trivial⟩
 obtain ⟨R, hR⟩ : ∃ R, R = dollar (parts d) q (toL s) := ⟨_, rfl⟩
 rw [← hR]
 by_cases hu : r.head? = some 40 ∨ r.head? = some 123
 · obtain ⟨n, hn⟩ : ∃ n, n = (unit 30 0 (toL s)).getD 0 := ⟨_, rfl⟩
   have HU := Kept.mk (unitLength_any s w h0 hs hK n hn)
   have hdu := dollar_unit (w := parts d) (q := q) (s := toL s) (by rw [← hr]; exact hu)
   rw [← hr] at hdu
   cases hk : unit 30 0 (toL s) with
   | none =>
     have HE : Kept (R = .error 90) := ⟨by rw [hR, hdu, hk]⟩
     obtain rfl : n = 0 := by rw [hn, hk]; rfl
     clear hdu hn hk hR hl hr hh hK hrl HPa
     rcases hu with h | h
     · rw [decide_eq_true h] at HPre
       clear h T1
       go_enter Tryz.func155, Tryz.ntmps155
       go_wp2_with (first
         | (go_at_call 100; refine (HPre.out _).1.mono ?_; rintro e1 w1 ⟨rfl, rfl⟩)
         | (go_at_call 159; refine HU.out.mono ?_; rintro e1 w1 ⟨rfl, hb⟩; have HB : Kept (Below b w w1) := ⟨hb.mono (Nat.le_of_lt hblt)⟩; clear hb))
       go_ret2
       exact .no _ 90 _ HE.out rfl HB
     · rw [decide_eq_true h, decide_eq_false (by rw [h]; decide)] at HPre
       clear h
       go_enter Tryz.func155, Tryz.ntmps155
       go_wp2_with (first
         | (go_at_call 100; have := T1; refine (HPre.out _).1.mono ?_; rintro e1 w1 ⟨rfl, rfl⟩; clear T1 this)
         | (go_at_call 100; refine (HPre.out _).2.mono ?_; rintro e1 w1 ⟨rfl, rfl⟩)
         | (go_at_call 159; refine HU.out.mono ?_; rintro e1 w1 ⟨rfl, hb⟩; have HB : Kept (Below b w w1) := ⟨hb.mono (Nat.le_of_lt hblt)⟩; clear hb))
       go_ret2
       exact .no _ 90 _ HE.out rfl HB
   | some k =>
     obtain rfl : n = k := by rw [hn, hk]; rfl
     have hle := unit_le _ hk
     rw [toL_length] at hle
     have h1 : 1 < s.size := by
       rw [← toL_length, hl, List.length_cons]
       cases r with
       | nil => rcases hu with h | h <;> cases h
       | cons c t => simp
     have hk3 : 3 ≤ n := by
       cases r with
       | nil => rcases hu with h | h <;> cases h
       | cons c t =>
         rw [hl] at hk
         exact unit_three hk (hu.imp (fun h => Option.some.inj h) (fun h => Option.some.inj h))
     have hn5 : (n : Int) ≤ 1500000 := by omega
     have hn3 : (3 : Int) ≤ (n : Int) := by omega
     have hns : (n : Int) ≤ (s.size : Int) := by omega
     have hn0 : ¬ (n : Int) = 0 := by omega
     have hwr : IntKind.i64.wrap ((n : Int) - 1) = (n : Int) - 1 := IntWalk.i64_in _ (by omega)
     have hs1 : ∃ c t, r = c :: t ∧ s[1]'h1 = c := by
       cases r with
       | nil => rcases hu with h | h <;> cases h
       | cons c t =>
         refine ⟨c, t, rfl, ?_⟩
         have e : (toL s)[1]'(by rw [toL_length]; exact h1) = s[1]'h1 := rfl
         rw [← e]
         simp only [hl]
         rfl
     obtain ⟨c, t, hct, hsc⟩ := hs1
     by_cases h40 : r.head? = some 40
     · have hc : c = 40 := by rw [hct] at h40; exact Option.some.inj h40
       obtain ⟨a, ha⟩ := paren_last (r := t) (by rw [hl, hct, hc]) hk
       have HE : Kept (R = .ok (parenP q ((toL s).take n), n)) := ⟨by rw [hR]; exact dollar_paren (by rw [← hr]; exact h40) hk hk3⟩
       obtain ⟨u, hue⟩ : ∃ u, u = s.extract 0 n := ⟨_, rfl⟩
       have hul : toL u = (toL s).take n := by rw [hue, toL_to]
       have hus : ∀ W : World, (Instr.slice 9 (.string s) none (some (.int .i64 (n : Int))) none).run Tryz.prog W = .ok (.string u) W := fun W => by rw [hue]; exact str_to hle.2 W
       have huz : u.size ≤ 1500000 := by rw [hue, size_to s n hle.2]; omega
       have z1 : ¬ ((s[1]'h1).toNat : Int) = 123 := by rw [hsc, hc]; decide
       rw [decide_eq_true h40] at HPre
       rw [← hul] at HE ha
       have HA := Kept.mk ha
       obtain ⟨pp, hpp⟩ : ∃ pp, pp = parenP q (toL u) := ⟨_, rfl⟩
       have HPp := Kept.mk hpp
       rw [← hpp] at HE
       clear hdu hn hk hR hl hr hh hK hrl HPa hct hsc hc h40 hu hul hue hle ha T1 hk3 hpp
       go_enter Tryz.func155, Tryz.ntmps155
       go_wp2_with (first
         | (go_at_call 100; refine (HPre.out _).1.mono ?_; rintro e1 w1 ⟨rfl, rfl⟩)
         | (go_at_call 159; refine HU.out.mono ?_; rintro e1 w1 ⟨rfl, hb⟩; have HB := Kept.mk hb; clear hb))
       go_at_call 162
       refine (parens_any u q _ b dep acc pv tv a HA.out huz hw ⟨HS.out.keep HB.out⟩ _ HPp).mono ?_
       rintro e1 w2 ⟨rfl, pv2, tv2, HS2, HF2⟩
       have HF3 : Kept (Fr b pv tv pv2 tv2 w w2) := ⟨(Fr.quiet pv tv HB.out hblt).trans HF2.out⟩
       go_wp2_with fail
       go_ret2
       exact .of HE.out HS2 HF3 rfl
     · have h123 : r.head? = some 123 := hu.resolve_left h40
       have hc : c = 123 := by rw [hct] at h123; exact Option.some.inj h123
       obtain ⟨C, hC⟩ : ∃ C, C = s.extract 2 (n - 1) := ⟨_, rfl⟩
       have hCl : toL C = ((toL s).take (n - 1)).drop 2 := by rw [hC, toL_cut]
       have HM : Kept (R = (braces (parts d) q (toL C)).map fun p => (p, n)) := ⟨by rw [hR, hdu, hk, hCl]; simp only []; rw [if_pos h123]⟩
       have hCs : ∀ W : World, (Instr.slice 9 (.string s) (some (.int .i64 2)) (some (.int .i64 ((n : Int) - 1))) none).run Tryz.prog W = .ok (.string C) W := fun W => by
         have := str_cut (s := s) (i := 2) (j := n - 1) (by omega) (by omega) (by omega) W
         rw [show ((n - 1 : Nat) : Int) = (n : Int) - 1 by omega] at this
         rw [hC]; exact this
       have hCz : C.size ≤ 1500000 := by rw [hC, ByteArray.size_extract]; omega
       have z1 : ((s[1]'h1).toNat : Int) = 123 := by rw [hsc, hc]; rfl
       rw [decide_eq_true h123, decide_eq_false h40] at HPre
       have z3 : (2 : Int) ≤ (n : Int) - 1 := by omega
       clear hdu hn hk hR hl hr hh hK hrl hct hsc hc h40 hu hCl hC hle hk3 h123
       go_enter Tryz.func155, Tryz.ntmps155
       go_wp2_with (first
         | (go_at_call 100; have := T1; refine (HPre.out _).1.mono ?_; rintro e1 w1 ⟨rfl, rfl⟩; clear T1 this)
         | (go_at_call 100; refine (HPre.out _).2.mono ?_; rintro e1 w1 ⟨rfl, rfl⟩)
         | (go_at_call 159; refine HU.out.mono ?_; rintro e1 w1 ⟨rfl, hb⟩; have HB := Kept.mk hb; clear hb))
       go_at_call 161
       refine (pbraces_any d dep hd0 hd1 HPa.out C q _ b acc pv tv hCz hw (HK.out.below HB.out) (HS.out.keep HB.out)).mono ?_
       intro e w2 hE
       cases hE with
       | no w2 c2 h hc0 hb =>
         have HE : Kept (R = .error c2) := ⟨by
           rw [HM.out]
           cases hb2 : braces (parts d) q (toL C) with
           | error x => rw [hb2] at h; cases h; rfl
           | ok x => rw [hb2] at h; cases h⟩
         have HB2 : Kept (Below b w w2) := ⟨(HB.out.mono (Nat.le_of_lt hblt)).trans hb.out⟩
         have hc1 := neq_zero hc0
         clear h hb
         go_wp2_with fail
         go_ret2
         exact .no _ c2 _ HE.out hc0 HB2
       | ok w2 l pv2 tv2 h hs2 hf2 =>
         have HE : Kept (∃ p, R = .ok (p, n) ∧ l = add acc p) := ⟨by
           rw [HM.out]
           cases hb2 : braces (parts d) q (toL C) with
           | error x => rw [hb2] at h; cases h
           | ok x => rw [hb2] at h; cases h; exact ⟨x, rfl, rfl⟩⟩
         have HF3 : Kept (Fr b pv tv pv2 tv2 w w2) := ⟨(Fr.quiet pv tv HB.out hblt).trans hf2.out⟩
         have HS2 := hs2
         clear h hf2 hs2
         go_wp2_with fail
         go_ret2
         obtain ⟨p, hp1, rfl⟩ := HE.out
         exact .of hp1 HS2 HF3 rfl
 · obtain ⟨X, hX⟩ : ∃ X, X = s.extract 1 s.size := ⟨_, rfl⟩
   have hXl : toL X = r := by rw [hX, toL_rest, hr]
   have hXs : X.size = s.size - 1 := by rw [hX, size_rest]
   have hsl : ∀ W : World, (Instr.slice 9 (.string s) (some (.int .i64 1)) none none).run Tryz.prog W = .ok (.string X) W := fun W => by rw [hX]; exact str_from (k := 1) (by omega) (by omega) W
   obtain ⟨m, hm⟩ : ∃ m, m = dName r := ⟨_, rfl⟩
   have hmle := dName_le r
   obtain ⟨M, hM⟩ : ∃ M, M = X.extract 0 m := ⟨_, rfl⟩
   have hMs : M.size = m := by rw [hM, size_to X m (by omega)]
   have hMl : toL M = r.take m := by rw [hM, toL_to, hXl]
   have hN := nameAfter_any X w (by omega) m (by rw [hm, hXl])
   rw [← hM] at hN
   have HN := Kept.mk hN
   have hdn := dollar_name (w := parts d) (q := q) (s := toL s) (by rw [← hr]; exact hu)
   rw [← hr, ← hm] at hdn
   rw [decide_eq_false (fun h => hu (.inl h)), decide_eq_false (fun h => hu (.inr h))] at HPre
   by_cases hm0 : m = 0
   · have HE : Kept (R = .ok (txt q [36], 1)) := ⟨by rw [hR, hdn, if_pos hm0]⟩
     obtain rfl := empty_of (s := M) (by omega)
     clear hdn hN hM hMs hMl hm hmle hX hXl hXs hR hl hr hh hK hrl HPa hu hm0
     go_enter Tryz.func155, Tryz.ntmps155
     go_wp2_with (first
       | (go_at_call 100; have := T1; refine (HPre.out _).1.mono ?_; rintro e1 w1 ⟨rfl, rfl⟩; clear T1 this)
       | (go_at_call 100; refine (HPre.out _).2.mono ?_; rintro e1 w1 ⟨rfl, rfl⟩)
       | (go_at_call 163; refine HN.out.mono ?_; rintro e1 w1 ⟨rfl, hb⟩; have HB := Kept.mk hb; clear hb))
     go_at_call 157
     refine (addText_any _ b dep acc pv tv ⟨#[36]⟩ q ⟨HS.out.keep HB.out⟩ (by omega) (by decide)).mono ?_
     rintro e1 w2 ⟨rfl, pv2, tv2, HS2, HF2⟩
     have HF3 : Kept (Fr b pv tv pv2 tv2 w w2) := ⟨(Fr.quiet pv tv HB.out hblt).trans HF2.out⟩
     go_wp2_with fail
     go_ret2
     exact .of HE.out HS2 HF3 rfl
   · have HE : Kept (R = .ok (.mk 1 q [] (toL M) [] [], m + 1)) := ⟨by rw [hR, hdn, if_neg hm0, hMl]⟩
     have hne := not_empty (s := M) (by omega)
     have HMs : Kept ((1 : Int) + (M.size : Int) = ((m + 1 : Nat) : Int)) := ⟨by omega⟩
     have hM5 : M.size ≤ 1500000 := by omega
     clear hdn hN hM hMs hMl hm hmle hX hXl hXs hR hl hr hh hK hrl HPa hu hm0
     go_enter Tryz.func155, Tryz.ntmps155
     go_wp2_with (first
       | (go_at_call 100; have := T1; refine (HPre.out _).1.mono ?_; rintro e1 w1 ⟨rfl, rfl⟩; clear T1 this)
       | (go_at_call 100; refine (HPre.out _).2.mono ?_; rintro e1 w1 ⟨rfl, rfl⟩)
       | (go_at_call 163; refine HN.out.mono ?_; rintro e1 w1 ⟨rfl, hb⟩; have HB := Kept.mk hb; clear hb))
     go_at_call 164
     refine (addPlain_any _ b dep acc pv tv 1 q [] (toL M) ⟨HS.out.keep HB.out⟩ (by decide) hw ⟨#[]⟩ M rfl (bs_toL M).symm).mono ?_
     rintro e1 w2 ⟨rfl, pv2, tv2, HS2, HF2⟩
     have HF3 : Kept (Fr b pv tv pv2 tv2 w w2) := ⟨(Fr.quiet pv tv HB.out hblt).trans HF2.out⟩
     go_wp2_with fail
     go_ret2
     exact .of HE.out HS2 HF3 HMs.out
theorem dolC (d : Nat) (dep : Int) (hd0 : 0 ≤ dep) (hd1 : dep ≤ 30) (HPa : ParseC d (dep + 1)) : DolC d dep := by
 refine ⟨fun s q w b acc pv tv p k h hh hs hw hK hA hS => ?_, fun s q w b acc pv tv c h hh hs hw hK hA hS => ?_⟩
 · refine (pdollar_any d dep hd0 hd1 HPa s q w b acc pv tv hh hs (by have := hw.out; omega) hK hS).mono ?_
   intro e w' hE
   cases hE with
   | ok _ p2 k2 pv2 tv2 h2 hs2 hf2 => rw [h.out] at h2; cases h2; exact ⟨rfl, pv2, tv2, hs2, hf2⟩
   | no _ c n h2 => rw [h.out] at h2; cases h2
 · refine (pdollar_any d dep hd0 hd1 HPa s q w b acc pv tv hh hs (by have := hw.out; omega) hK hS).mono ?_
   intro e w' hE
   cases hE with
   | ok _ p2 k2 pv2 tv2 h2 hs2 hf2 => rw [h.out] at h2; cases h2
   | no _ c n h2 hc hb => rw [h.out] at h2; cases h2; exact ⟨n, rfl, hc, hb⟩
end Wx
end
section
open Go.RowKit Tx
namespace Wx
open Lx
inductive QuEnd (r : Except Int (List Pt × Nat)) (acc : List Pt) (w : World) (b : Nat) (dep : Int) (pv tv : Value) : Ending → World → Prop
 | ok (w' : World) (l : List Pt) (k : Nat) (pv' tv' : Value) (h : r = .ok (l, k)) (hs : Kept (St w' b dep (l.foldl add acc) pv' tv')) (hf : Kept (Fr b pv tv pv' tv' w w')) : QuEnd r acc w b dep pv tv (.returned (.tuple #[.int .i64 (k : Int), .int .i64 0])) w'
 | no (w' : World) (c n : Int) (h : r = .error c) (hc : (c == 0) = false) (hb : Kept (Below b w w')) : QuEnd r acc w b dep pv tv (.returned (.tuple #[.int .i64 n, .int .i64 c])) w'
theorem step1_quo {w : List UInt8 → Except Int (List Pt)} {c : UInt8} {r : List UInt8} (hc : c = 92 ∨ c = 39 ∨ c = 34) : step1 w (c :: r) =
   match unit 30 0 (c :: r) with
   | none => .error 90
   | some k =>
     if c = 92 then .ok ([txt true (r.take 1)], k)
     else if c = 39 then .ok ([txt true (r.take (k - 2))], k)
     else (double w (r.take (k - 2))).map fun l => (l, k) := by
 rw [step1, if_pos hc]
 cases unit 30 0 (c :: r) <;> rfl
theorem unit_two {c : UInt8} {r : List UInt8} {k : Nat} (h : unit 30 0 (c :: r) = some k) (hc : c = 92 ∨ c = 39 ∨ c = 34) : 2 ≤ k ∧ (c = 92 → k = 2) := by
 rw [unit_step] at h
 by_cases h1 : c = 92
 · rw [if_pos h1] at h
   split at h
   · cases h
   · cases h; exact ⟨Nat.le_refl _, fun _ => rfl⟩
 · rw [if_neg h1] at h
   refine ⟨?_, fun e => absurd e h1⟩
   by_cases h2 : c = 39
   · rw [if_pos ⟨h2, by decide⟩] at h
     obtain ⟨j, hj, rfl⟩ := Option.map_eq_some_iff.1 h
     have := quoted_le hj
     omega
   · have h3 : c = 34 := (hc.resolve_left h1).resolve_left h2
     rw [if_neg (fun h => h2 h.1), if_pos h3] at h
     obtain ⟨j, hj, rfl⟩ := Option.map_eq_some_iff.1 h
     have := nest_le hj
     omega
set_option maxHeartbeats 2000000 in
set_option maxRecDepth 100000 in
theorem pquotes_any (d : Nat) (dep : Int) (HDl : DolC d dep) (s : ByteArray) (w : World) (b : Nat) (acc : List Pt) (pv tv : Value) (c : UInt8) (hq : HeadQ (toL s) c) (hs : s.size ≤ 1500000) (hw : wt acc + 2 * s.size ≤ 15000000) (hK : Kit w) (hA : Ahead b) (HS : Kept (St w b dep acc pv tv)) :
   Calls Tryz.prog 154 #[.pointer (some ⟨b, 0, none⟩), .string s] w (QuEnd (step1 (parts d) (toL s)) acc w b dep pv tv) := by
 have HD := Kept.mk HDl
 have HK := Kept.mk hK
 have HA := Kept.mk hA
 have HW := Kept.mk hw
 have hwa : wt acc ≤ 15000000 := by omega
 have hblt := HS.out.lt
 obtain ⟨r, hr⟩ : ∃ r, r = (toL s).drop 1 := ⟨_, rfl⟩
 obtain ⟨hq1, hq2⟩ := hq
 have hl : toL s = c :: r := by
   rw [hr]
   cases h : toL s with
   | nil => rw [h] at hq1; cases hq1
   | cons x t => rw [h] at hq1; injection hq1 with hq1; rw [hq1]; rfl
 have h0 : 0 < s.size := by rw [← toL_length, hl]; simp
 have hrl : r.length = s.size - 1 := by rw [hr, List.length_drop, toL_length]
 have hsc : s[0]'h0 = c := by
   have := cons_at h0
   rw [hl] at this
   injection this with h _
   exact h.symm
 obtain ⟨R, hR⟩ : ∃ R, R = step1 (parts d) (toL s) := ⟨_, rfl⟩
 rw [← hR]
 rw [hl, step1_quo hq2] at hR
 obtain ⟨n, hn⟩ : ∃ n, n = (unit 30 0 (toL s)).getD 0 := ⟨_, rfl⟩
 have HU := Kept.mk (unitLength_any s w h0 hs hK n hn)
 rw [hl] at hn
 cases hk : unit 30 0 (c :: r) with
 | none =>
   have HE : Kept (R = .error 90) := ⟨by rw [hR, hk]⟩
   obtain rfl : n = 0 := by rw [hn, hk]; rfl
   clear hn hk hR hl hr hK hrl HDl hq1 hq2 hsc hA
   go_enter Tryz.func154, Tryz.ntmps154
   go_wp2_with (go_at_call 159; refine HU.out.mono ?_; rintro e1 w1 ⟨rfl, hb⟩; have HB : Kept (Below b w w1) := ⟨hb.mono (Nat.le_of_lt hblt)⟩; clear hb)
   go_ret2
   exact .no _ 90 _ HE.out rfl HB
 | some k =>
   obtain rfl : n = k := by rw [hn, hk]; rfl
   have hle := unit_le _ hk
   obtain ⟨hk2, hk92⟩ := unit_two hk hq2
   rw [List.length_cons, hrl] at hle
   have hle2 : n ≤ s.size := by omega
   have hn5 : (n : Int) ≤ 1500000 := by omega
   have hn2 : (2 : Int) ≤ (n : Int) := by omega
   have hns : (n : Int) ≤ (s.size : Int) := by omega
   have hn0 : ¬ (n : Int) = 0 := by omega
   have hwr : IntKind.i64.wrap ((n : Int) - 1) = (n : Int) - 1 := IntWalk.i64_in _ (by omega)
   have hd1 : (toL s).drop 1 = r := hr.symm
   rw [hk] at hR
   simp only [] at hR
   by_cases h92 : c = 92
   · rw [if_pos h92] at hR
     have HE := Kept.mk hR
     have z92 : ((s[0]'h0).toNat : Int) = 92 := by rw [hsc, h92]; rfl
     obtain ⟨Y, hY⟩ : ∃ Y, Y = s.extract 1 n := ⟨_, rfl⟩
     have hYs : ∀ W : World, (Instr.slice 9 (.string s) (some (.int .i64 1)) (some (.int .i64 (n : Int))) none).run Tryz.prog W = .ok (.string Y) W := fun W => by rw [hY]; exact str_cut (i := 1) (by omega) hle2 (by omega) W
     have hYl : toL Y = r.take 1 := by rw [hY, toL_extract, hd1, hk92 h92]
     have hYz : Y.size ≤ 30000000 := by rw [hY, ByteArray.size_extract]; omega
     have HY := Kept.mk hYl
     clear hn hk hR hl hr hK hrl HDl hq1 hq2 hsc hA hY hYl h92 hk92 hd1 hle
     go_enter Tryz.func154, Tryz.ntmps154
     go_wp2_with (go_at_call 159; refine HU.out.mono ?_; rintro e1 w1 ⟨rfl, hb⟩; have HB := Kept.mk hb; clear hb)
     go_at_call 157
     refine (addText_any _ b dep acc pv tv Y true ⟨HS.out.keep HB.out⟩ (by omega) hYz).mono ?_
     rintro e1 w2 ⟨rfl, pv2, tv2, HS2, HF2⟩
     rw [HY.out] at HS2
     have HF3 : Kept (Fr b pv tv pv2 tv2 w w2) := ⟨(Fr.quiet pv tv HB.out hblt).trans HF2.out⟩
     go_wp2_with fail
     go_ret2
     exact .ok _ _ _ pv2 tv2 HE.out HS2 HF3
   · rw [if_neg h92] at hR
     have z92 : ¬ ((s[0]'h0).toNat : Int) = 92 := by rw [hsc]; exact toNat_ne (b := 92) h92
     obtain ⟨C, hC⟩ : ∃ C, C = s.extract 1 (n - 1) := ⟨_, rfl⟩
     have hCs : ∀ W : World, (Instr.slice 9 (.string s) (some (.int .i64 1)) (some (.int .i64 ((n : Int) - 1))) none).run Tryz.prog W = .ok (.string C) W := fun W => by
       have := str_cut (s := s) (i := 1) (j := n - 1) (by omega) (by omega) (by omega) W
       rw [show ((n - 1 : Nat) : Int) = (n : Int) - 1 by omega] at this
       rw [hC]; exact this
     have hCl : toL C = r.take (n - 2) := by rw [hC, toL_extract, hd1, show n - 1 - 1 = n - 2 by omega]
     have hCz : C.size ≤ s.size := by rw [hC, ByteArray.size_extract]; omega
     have hCz5 : C.size ≤ 1500000 := by omega
     have HCz := Kept.mk hCz
     have z3 : (1 : Int) ≤ (n : Int) - 1 := by omega
     by_cases h39 : c = 39
     · rw [if_pos h39, ← hCl] at hR
       have HE := Kept.mk hR
       have z34 : ¬ ((s[0]'h0).toNat : Int) = 34 := by rw [hsc, h39]; decide
       clear hn hk hR hl hr hK hrl HDl hq1 hq2 hsc hA hC hCl h92 h39 hk92 hd1 hle hCz
       go_enter Tryz.func154, Tryz.ntmps154
       go_wp2_with (go_at_call 159; refine HU.out.mono ?_; rintro e1 w1 ⟨rfl, hb⟩; have HB := Kept.mk hb; clear hb)
       go_at_call 157
       refine (addText_any _ b dep acc pv tv C true ⟨HS.out.keep HB.out⟩ (by omega) (by omega)).mono ?_
       rintro e1 w2 ⟨rfl, pv2, tv2, HS2, HF2⟩
       have HF3 : Kept (Fr b pv tv pv2 tv2 w w2) := ⟨(Fr.quiet pv tv HB.out hblt).trans HF2.out⟩
       go_wp2_with fail
       go_ret2
       exact .ok _ _ _ pv2 tv2 HE.out HS2 HF3
     · rw [if_neg h39, ← hCl] at hR
       have h34 : c = 34 := (hq2.resolve_left h92).resolve_left h39
       have z34 : ((s[0]'h0).toNat : Int) = 34 := by rw [hsc, h34]; rfl
       unfold double at hR
       by_cases hc0 : C.size = 0
       · obtain rfl := empty_of hc0
         rw [if_pos (show toL ⟨#[]⟩ = [] from rfl)] at hR
         have HE : Kept (R = .ok ([txt true (toL ⟨#[]⟩)], n)) := ⟨hR⟩
         clear hn hk hR hl hr hK hrl HDl hq1 hq2 hsc hA hC hCl h92 h39 h34 hk92 hd1 hle hCz hc0
         go_enter Tryz.func154, Tryz.ntmps154
         go_wp2_with (go_at_call 159; refine HU.out.mono ?_; rintro e1 w1 ⟨rfl, hb⟩; have HB := Kept.mk hb; clear hb)
         go_at_call 157
         refine (addText_any _ b dep acc pv tv ⟨#[]⟩ true ⟨HS.out.keep HB.out⟩ (by omega) (by decide)).mono ?_
         rintro e1 w2 ⟨rfl, pv2, tv2, HS2, HF2⟩
         have HF3 : Kept (Fr b pv tv pv2 tv2 w w2) := ⟨(Fr.quiet pv tv HB.out hblt).trans HF2.out⟩
         go_wp2_with fail
         go_ret2
         exact .ok _ _ _ pv2 tv2 HE.out HS2 HF3
       · have hne := not_empty (s := C) (by omega)
         have hne2 : (C.toList != ([] : List UInt8)) = true := by unfold bne; rw [hne]; rfl
         have hcn : toL C ≠ [] := fun e => by have := toL_length C; rw [e] at this; exact hc0 this.symm
         rw [if_neg hcn] at hR
         have HM : Kept (R = (doubleOn (parts d) (toL C) []).map fun l => (l, n)) := ⟨hR⟩
         have HF := Kept.mk (doubleOn_fold (w := parts d) acc (toL C))
         clear hn hk hR hl hr hK hrl HDl hq1 hq2 hsc hA hC hCl h92 h39 h34 hk92 hd1 hle hCz hc0 hcn
         go_enter Tryz.func154, Tryz.ntmps154
         go_wp2_with (go_at_call 159; refine HU.out.mono ?_; rintro e1 w1 ⟨rfl, hb⟩; have HB := Kept.mk hb; clear hb)
         go_at_call 160
         refine (within_any d dep HD.out C _ b acc pv tv hCz5 (by have := HW.out; have := HCz.out; omega) (HK.out.below HB.out) HA.out (HS.out.keep HB.out)).mono ?_
         intro e w2 hE
         cases hE with
         | no w2 c2 h hc0 hb =>
           have HE : Kept (R = .error c2) := ⟨by
             rw [HM.out]
             rw [HF.out] at h
             cases hb2 : doubleOn (parts d) (toL C) [] with
             | error x => rw [hb2] at h; cases h; rfl
             | ok x => rw [hb2] at h; cases h⟩
           have HB2 : Kept (Below b w w2) := ⟨(HB.out.mono (Nat.le_of_lt hblt)).trans hb.out⟩
           have hc1 := neq_zero hc0
           clear h hb
           go_wp2_with fail
           go_ret2
           exact .no _ c2 _ HE.out hc0 HB2
         | ok w2 l pv2 tv2 h hs2 hf2 =>
           have HE : Kept (∃ m, R = .ok (m, n) ∧ l = m.foldl add acc) := ⟨by
             rw [HM.out]
             rw [HF.out] at h
             cases hb2 : doubleOn (parts d) (toL C) [] with
             | error x => rw [hb2] at h; cases h
             | ok x => rw [hb2] at h; cases h; exact ⟨x, rfl, rfl⟩⟩
           have HF3 : Kept (Fr b pv tv pv2 tv2 w w2) := ⟨(Fr.quiet pv tv HB.out hblt).trans hf2.out⟩
           have HS2 := hs2
           clear h hf2 hs2
           go_wp2_with fail
           go_ret2
           obtain ⟨m, hp1, rfl⟩ := HE.out
           exact .ok _ _ _ pv2 tv2 hp1 HS2 HF3
theorem quoC (d : Nat) (dep : Int) (HDl : DolC d dep) : QuoC d dep := by
 refine ⟨fun s w b acc pv tv c l k h hh hs hw hK hA hS => ?_, fun s w b acc pv tv c f h hh hs hw hK hA hS => ?_⟩
 · refine (pquotes_any d dep HDl s w b acc pv tv c hh.out hs hw.out hK hA hS).mono ?_
   intro e w' hE
   cases hE with
   | ok _ p2 k2 pv2 tv2 h2 hs2 hf2 => rw [h.out] at h2; cases h2; exact ⟨rfl, pv2, tv2, hs2, hf2⟩
   | no _ c n h2 => rw [h.out] at h2; cases h2
 · refine (pquotes_any d dep HDl s w b acc pv tv c hh.out hs hw.out hK hA hS).mono ?_
   intro e w' hE
   cases hE with
   | ok _ p2 k2 pv2 tv2 h2 hs2 hf2 => rw [h.out] at h2; cases h2
   | no _ c n h2 hc hb => rw [h.out] at h2; cases h2; exact ⟨n, rfl, hc, hb⟩
theorem parseC_any : ∀ (d : Nat) (dep : Int), dep + d = 31 → d ≤ 30 → ParseC d dep
 | 0, dep, h, _ => parse_zero dep (by omega)
 | d + 1, dep, h, hd => by
   have HP := parseC_any d (dep + 1) (by omega) (by omega)
   have HD := dolC d dep (by omega) (by omega) HP
   exact parse_next d dep (by omega) HD (quoC d dep HD)
end Wx
end
section
open Go.RowKit Tx
namespace Wx
open Lx
def QEnd (w : World) (r : Except Int (List Pt)) (e : Ending) (w' : World) : Prop :=
 match r with
 | .ok l => ∃ A k, e = .returned (.tuple #[.slice A l.length k, .int .i64 0]) ∧ Kept (LV (Nw w.heap.size) w' (.slice A l.length k) l) ∧ Below w.heap.size w w'
 | .error c => ∃ A k, e = .returned (.tuple #[.slice A 0 k, .int .i64 c]) ∧ Kept (A = none → k = 0) ∧ (c == 0) = false ∧ Below w.heap.size w w'
end Wx
end
section
open Go.RowKit Tx
namespace Wx
open Lx
set_option maxRecDepth 100000 in
theorem progParse_any (s : ByteArray) (w : World) (hK : Kit w) (hs : s.size ≤ 1500000) : Calls Tryz.prog 103 #[.string s] w (QEnd w (parts 30 (toL s))) := by
 have HP := Kept.mk (parseC_any 30 1 (by omega) (Nat.le_refl _))
 unfold QEnd
 cases hp : parts 30 (toL s) with
 | error c =>
   have HC := Kept.mk (HP.out.no s false w c ⟨hp⟩ hs hK)
   clear hp HP
   go_enter Tryz.func103, Tryz.ntmps103
   go_wp2_with (go_at_call 118; refine HC.out.mono ?_; rintro e w1 ⟨rfl, hc, hb⟩; have HC0 := Kept.mk hc; have HB := Kept.mk hb; clear hc hb)
   go_ret2
   exact ⟨none, 0, rfl, ⟨fun _ => rfl⟩, HC0.out, HB.out⟩
 | ok l =>
   have HC := Kept.mk (HP.out.ok s false w l ⟨hp⟩ hs hK)
   clear hp HP
   rw [show qf false l = l from rfl] at HC
   generalize hn : l.length = n at *
   have HNl := Kept.mk hn
   clear hn
   go_enter Tryz.func103, Tryz.ntmps103
   go_wp2_with (go_at_call 118; refine HC.out.mono ?_; rintro e w1 ⟨A, k, rfl, hl, hb⟩; have HL := hl; have HB := Kept.mk hb; clear hl hb)
   go_ret2
   obtain ⟨hn⟩ := HNl
   subst hn
   exact ⟨A, k, rfl, HL, HB.out⟩
end Wx
end
end Go.Proofs.YtlggpefmojacoaaGreatDoor
