/-
  PROVED: SyntaxTwo answers true for every argument.
-/
import Derived.Deep.CutBlock
import Derived.Deep.DeepCutAuto
import Derived.Laws.AppendOwnNone
import Derived.Test.YtahjonfmhejoeaaGreatDoorVa47
import Derived.Test.YtahjonfmhejoeaaGreatDoorVa48
namespace Go.Proofs.YtahjonfmhejoeaaGreatDoor
section
open Go.RowKit Tx
namespace Sy
open Lx (Tok toks)
open Wx (Pt LV Cs pvs Nw wt cnt txt)
open Pc (By8 Few)
theorem NC.one {P : Nat → Prop} {w : World} {xs : List Value} {l : List Nd} (h : NC P w xs l) : ∀ u ∈ xs, u.oneCell' = true := by
 induction l generalizing xs with
 | nil => cases h; intro u hu; cases hu
 | cons d l ih =>
   cases h with
   | cons k q n ws gs rs os ks vw va vr vo vk xs l hp h1 hk hr =>
     intro u hu
     rcases List.mem_append.1 hu with hu | hu
     · simp only [nvs, List.mem_cons, List.not_mem_nil, or_false] at hu
       rcases hu with rfl | rfl | rfl | rfl | rfl | rfl | rfl | rfl
       · rfl
       · rfl
       · rfl
       · exact hp.w1
       · exact hp.a1
       · exact hp.r1
       · exact hp.o1
       · exact h1
     · exact ih hr u hu
theorem nv_kidsV {P : Nat → Prop} {w : World} {k : Int} {q : Bool} {m : List UInt8} {v1 v2 v3 v4 v5 : Value} {x : Nd} (h : NV P w (.agg #[.int .i64 k, .bool q, .string (bs m), v1, v2, v3, v4, v5]) x) : NL P w v5 x.kids := by
 generalize hu : Value.agg #[.int .i64 k, .bool q, .string (bs m), v1, v2, v3, v4, v5] = u at h
 cases h with
 | mk k q n ws gs rs os ks vw va vr vo vk hp h1 hk =>
   simp only [nvs, List.toArray, Value.agg.injEq] at hu
   have e : v5 = vk := by
     have := congrArg (fun a : Array Value => a.toList) hu
     simp at this
     exact this.2.2.2.2.2.2.2
   rw [e]
   exact hk
structure GN (p : Nat) (w : World) (v : Value) (l : List Nd) : Prop where
 own : ∃ xs, w.ownsRow (p + 1) 31 8 v l.length xs ∧ NC (fun g => g < p) w xs l
 lt : p < w.heap.size
theorem GN.start {p : Nat} {w : World} (h : p < w.heap.size) : GN p w (.slice none 0 0) [] := ⟨⟨[], World.ownsRow_nil _ _ _ _, .nil⟩, h⟩
theorem GN.set {p : Nat} {w : World} {v u : Value} {l : List Nd} {j : Nat} (h : GN p w v l) : GN p (w.setCell ⟨p, j, none⟩ u) v l := by
 obtain ⟨⟨xs, h1, h2⟩, h3⟩ := h
 refine ⟨⟨xs, own_keep h1 fun g hg => Below.heap_setCell _ _ _ _ (by have := (own_lt h1 g hg).1; show g ≠ p; omega), h2.same (fun g hg _ => ⟨hg, Below.heap_setCell _ _ _ _ (by show g ≠ p; omega)⟩) (by simp [World.setCell])⟩, by simpa [World.setCell] using h3⟩
theorem GN.slice {p : Nat} {w : World} {v : Value} {l : List Nd} (h : GN p w v l) : ∃ A k, v = .slice A l.length k := by
 obtain ⟨⟨xs, hx, _⟩, _⟩ := h
 rcases hx.2 with ⟨rfl, h0⟩ | ⟨g, cap, cur, rfl, _⟩
 · exact ⟨none, 0, by rw [h0]⟩
 · exact ⟨_, _, rfl⟩
theorem GN.read {p : Nat} {w : World} {v : Value} {l : List Nd} (h : GN p w v l) : NL (fun g => g ≠ p) w v l := by
 obtain ⟨⟨xs, hx, hc⟩, _⟩ := h
 have hc : NC (fun g => g ≠ p) w xs l := hc.same (fun b hP _ => ⟨by omega, rfl⟩) (Nat.le_refl _)
 rcases hx.2 with ⟨rfl, h0⟩ | ⟨g, cap, cur, rfl, hB, hg, hnc, hcm, hcs, htake⟩
 · have hl := List.eq_nil_of_length_eq_zero h0
   subst hl
   exact .nil none 0 (fun _ => rfl)
 · refine .at g 0 _ cap xs l rfl hnc (by omega) (Array.getElem?_eq_some_iff.1 hg).1 (fun j u hu => ?_) hc
   rw [Nat.zero_add, cell_of_row w g j cur _ (0, 0) hg]
   rw [← htake, List.getElem?_take] at hu
   split at hu
   · simpa using hu
   · cases hu
def zeroNd : Nd := .mk 0 false [] [] [] [] [] []
theorem zero_nv {P : Nat → Prop} {w : World} : NV P w (.agg #[.int .i64 0, .bool false, .string ⟨#[]⟩, .slice none 0 0, .slice none 0 0, .slice none 0 0, .slice none 0 0, .slice none 0 0]) zeroNd := .mk 0 false [] [] [] [] [] [] _ _ _ _ _ Lit.parts_none rfl nl_none
theorem addr_add (g off j : Nat) : (⟨g, off, none⟩ : Addr).add j = ⟨g, off + j, none⟩ := by unfold Addr.add; split <;> simp_all
theorem wpList_append_nodes {p : Nat} {w : World} {v : Value} {l m : List Nd} {A : Option Addr} {c k : Nat} {ops : Array Oper} {rest : List Oper} {o : Oper} {a : Act} {Q : Exit → Act → World → Prop} (hgd : o.guard = none) (s x : Operand)
   (ho : o.op = .call { callee := .builtin .append, args := #[s, x], argTypes := #[29, 29] }) (hs : a.eval s = v) (hG : GN p w v l) (hx : a.eval x = .slice A c k) (hA : NL (fun g => g < p) w (.slice A c k) m)
   (hlen : l.length + m.length ≤ 100000) (h : ∀ v' w', GN p w' v' (l ++ m) → w.grownBy w' v.ownBlock → (∀ g, v'.ownBlock = some g → p + 1 ≤ g) → wpList Tryz.prog ops Q rest (a.put o.dst v') w') : wpList Tryz.prog ops Q (o :: rest) a w := by
 obtain ⟨i0, hi, hz⟩ := info_parts nodeInfo
 simp only [Prod.mk.injEq] at hz
 obtain ⟨hz0, hz1, hz2⟩ := hz
 obtain ⟨⟨xs, h1, h2⟩, h3⟩ := hG
 have done : ∀ (v' : Value) (w' : World) (news : List Value), w'.ownsRow (p + 1) 31 8 v' (l.length + m.length) (xs ++ news) → w.grownBy w' v.ownBlock → NC (fun g => g < p) w news m → wpList Tryz.prog ops Q rest (a.put o.dst v') w' := by
   intro v' w' news g1 g2 g3
   have hblk : ∀ g, g < p → g < w.heap.size → w'.heap[g]? = w.heap[g]? := fun g hg hl => g2.block g hl fun e => by
     have := (own_lt h1 g (by rw [e])).1
     omega
   refine h v' w' ⟨⟨xs ++ news, by rw [List.length_append]; exact g1, (h2.append g3).same (fun g hg hl => ⟨hg, hblk g hg hl⟩) g2.size⟩, Nat.lt_of_lt_of_le h3 g2.size⟩ g2 fun g hg => (own_lt g1 g hg).1
 have hcm := nl_len hA
 cases hA with
 | nil A cap hcap =>
   cases A with
   | none =>
     obtain rfl := hcap rfl
     refine wpList_append_own_none hgd s x 29 ho (p + 1) 31 i0 8 Tryz.underlying29 hi v l.length xs hs h1 hx ?_
     refine done v w [] ?_ ⟨rfl, rfl, rfl, Nat.le_refl _, fun _ _ _ => rfl⟩ .nil
     rw [List.append_nil]
     exact h1
   | some ad =>
     refine wpList_append_own w hgd s x 29 ho (p + 1) 31 i0 _ 8 152 Tryz.underlying29 hi hz0 hz1 hz2 rfl (by decide) v l.length xs hs h1 ad 0 k [] hx rfl (fun j u hu => by cases hu) (fun u hu => by cases hu) (by simp at hlen; unfold maxLen; omega) (by simp at hlen; omega) (by omega) fun v' w' g1 g2 _ => done v' w' [] g1 g2 .nil
 | «at» g off n cap ys l2 hn hm hP hg hc hC =>
   refine wpList_append_own w hgd s x 29 ho (p + 1) 31 i0 _ 8 152 Tryz.underlying29 hi hz0 hz1 hz2 rfl (by decide) v l.length xs hs h1 ⟨g, off, none⟩ c k ys hx (by rw [hC.length, hn]) (fun j u hu => ?_) hC.one (by unfold maxLen; omega) (by omega) (by omega) fun v' w' g1 g2 _ => done v' w' ys (by rw [← hcm]; exact g1) g2 hC
   rw [addr_add]
   exact hc j u hu
set_option maxHeartbeats 16000000 in
set_option maxRecDepth 100000 in
theorem two_law (A C : Option Addr) (n k m q : Nat) (raw : ByteArray) (pk : Bool) (w : World) (hK : KS w) (hl : By8 w A n) (hn : n ≤ 9223372036854775807) (hl2 : By8 w C m) (hm : m ≤ 9223372036854775807) (hr : raw.size ≤ 9223372036854775807) :
   Calls Tryz.prog 5 #[.slice A n k, .slice C m q, .string raw, .bool pk] w fun e w' => e = .returned (.bool true) ∧ Below w.heap.size w w' := by
 have HK := Kept.mk hK
 have HL := Kept.mk hl
 have HL2 := Kept.mk hl2
 have T1 : Kept True := ⟨trivial⟩
 have T2 : Kept True := ⟨trivial⟩
 clear hK hl hl2
 go_enter Tryz.func5, Tryz.ntmps5
 go_upto_if 28 with (first
   | (go_at_call 15; refine (awake_any w HK.out).mono ?_; rintro e w1 ⟨rfl, hb⟩; have HB1 := Kept.mk hb; clear hb)
   | (go_at_call 12; have := T1; refine (phrases_any _).mono ?_; rintro e w2 ⟨g, rfl, hg, hf, hb⟩; have HB2 := Kept.mk (HB1.out.trans (hb.mono HB1.out.size)); have HF := hf; clear hg hf hb T1 this)
   | (go_at_call 11; have := T2; refine (Pc.pieces_any 41 (by omega) A n k g 20 20 w2 (HL.out.below HB2.out) hn HF.out (by omega) (by omega)).mono ?_; rintro e w3 ⟨x, rfl, hx, rfl⟩; have HXs := Kept.mk hx; clear hx T2 this HF)
   | (go_at_call 12; refine (phrases_any _).mono ?_; rintro e w3 ⟨g2, rfl, hg, hf, hb⟩; have HB3 := Kept.mk (HB2.out.trans (hb.mono HB2.out.size)); have HF2 := hf; clear hg hf hb)
   | (go_at_call 11; refine (Pc.pieces_any 41 (by omega) C m q g2 20 20 w3 (HL2.out.below HB3.out) hm HF2.out (by omega) (by omega)).mono ?_; rintro e w4 ⟨y, rfl, hy, rfl⟩; have HYs := Kept.mk hy; clear hy))
 go_cut [11] (fun v wx => ∃ Y : ByteArray, v = .string Y ∧ Kept (Y.size ≤ 9223372036854775807) ∧ Kept (Below w.heap.size w wx))
 case first =>
   have hy := HYs.out
   cases pk with
   | false =>
     go_wp2
     go_meet
     exact ⟨y, rfl, ⟨by omega⟩, HB3⟩
   | true =>
     go_wp2
     go_meet
     exact ⟨raw, rfl, ⟨hr⟩, HB3⟩
 case rest =>
   obtain ⟨Y, rfl, HYr, HB4⟩ := hcut
   have hx := HXs.out
   have hyr := HYr.out
   have HX : Kept (x.size ≤ 1250) := ⟨by omega⟩
   by_cases h5 : Y.size ≤ 500
   · have hi : ¬ (500 : Int) < Y.size := by omega
     have HY : Kept (Y.size ≤ 1250) := ⟨by omega⟩
     cases hs : script (toL x) with
     | error d =>
       have HS := Kept.mk hs
       have hd1 : (d == 0) = false := script_nz hs
       have hd2 : (d != 0) = true := by unfold bne; rw [hd1]; rfl
       clear hs
       go_wp2_with fail
       go_at_call 13
       refine (prog_no x _ (HK.out.below HB4.out) HX.out d HS).mono ?_
       rintro e w5 ⟨rfl, hb⟩
       have HR5 := Kept.mk (heap_alloc_new w5 (.cells #[.int .i64 0, .bool false, .string ⟨#[]⟩, .slice none 0 0, .slice none 0 0, .slice none 0 0, .slice none 0 0, .slice none 0 0] 31))
       have HG5 : Kept (w5.heap.size < (w5.alloc (.cells #[.int .i64 0, .bool false, .string ⟨#[]⟩, .slice none 0 0, .slice none 0 0, .slice none 0 0, .slice none 0 0, .slice none 0 0] 31)).heap.size) := ⟨by simp⟩
       have HB5 := Kept.mk ((HB4.out.trans (hb.out.mono HB4.out.size)).alloc (HB4.out.trans (hb.out.mono HB4.out.size)).size (.cells #[.int .i64 0, .bool false, .string ⟨#[]⟩, .slice none 0 0, .slice none 0 0, .slice none 0 0, .slice none 0 0, .slice none 0 0] 31))
       clear hb
       go_wp2_with fail
       generalize w5.alloc (.cells #[.int .i64 0, .bool false, .string ⟨#[]⟩, .slice none 0 0, .slice none 0 0, .slice none 0 0, .slice none 0 0, .slice none 0 0] 31) = w6 at *
       generalize w5.heap.size = p5 at *
       have HFz : Kept (Few9 zeroNd) := ⟨few_of _ (by decide)⟩
       cases ht : script (toL Y) with
       | error f =>
         have HT := Kept.mk ht
         clear ht
         go_at_call 13
         refine (prog_no Y _ (HK.out.below HB5.out) HY.out f HT).mono ?_
         rintro e w7 ⟨rfl, hb⟩
         have hbl : Below w6.heap.size w6 (w7.alloc (.cells #[.int .i64 0, .bool false, .string ⟨#[]⟩, .slice none 0 0, .slice none 0 0, .slice none 0 0, .slice none 0 0, .slice none 0 0] 31)) := hb.out.alloc hb.out.size _
         have HR7 := Kept.mk ((hbl.block _ HG5.out).trans HR5.out)
         have HB7 := Kept.mk (HB5.out.trans (hbl.mono HB5.out.size))
         clear hb hbl HR5 HG5 HB5
         have x0 := cell_of_row _ _ 0 _ _ _ HR7.out
         have x1 := cell_of_row _ _ 1 _ _ _ HR7.out
         have x2 := cell_of_row _ _ 2 _ _ _ HR7.out
         have x3 := cell_of_row _ _ 3 _ _ _ HR7.out
         have x4 := cell_of_row _ _ 4 _ _ _ HR7.out
         have x5 := cell_of_row _ _ 5 _ _ _ HR7.out
         have x6 := cell_of_row _ _ 6 _ _ _ HR7.out
         have x7 := cell_of_row _ _ 7 _ _ _ HR7.out
         go_wp2_with (first
           | (go_at_call 16; refine (same_any HFz.out (fun _ => True) (fun _ => True) _ _ _ zero_nv zero_nv).mono ?_; rintro e w8 ⟨rfl, hb⟩; have HB8 := Kept.mk (HB7.out.trans (hb.mono HB7.out.size)); clear hb))
         go_ret
         exact ⟨rfl, HB8.out⟩
       | ok n2 =>
         have HT := Kept.mk ht
         clear ht
         go_at_call 13
         refine (prog_ok Y _ (HK.out.below HB5.out) HY.out n2 HT).mono ?_
         rintro e w7 ⟨kb, qb, mb, Ab1, nb1, cb1, Ab2, nb2, cb2, Ab3, nb3, cb3, Ab4, nb4, cb4, Ab5, nb5, cb5, rfl, _, hb⟩
         have hbl : Below w6.heap.size w6 (w7.alloc (.cells #[.int .i64 kb, .bool qb, .string (bs mb), .slice Ab1 nb1 cb1, .slice Ab2 nb2 cb2, .slice Ab3 nb3 cb3, .slice Ab4 nb4 cb4, .slice Ab5 nb5 cb5] 31)) := hb.out.alloc hb.out.size _
         have HR7 := Kept.mk ((hbl.block _ HG5.out).trans HR5.out)
         have HB7 := Kept.mk (HB5.out.trans (hbl.mono HB5.out.size))
         clear hb hbl HR5 HG5 HB5
         have x0 := cell_of_row _ _ 0 _ _ _ HR7.out
         have x1 := cell_of_row _ _ 1 _ _ _ HR7.out
         have x2 := cell_of_row _ _ 2 _ _ _ HR7.out
         have x3 := cell_of_row _ _ 3 _ _ _ HR7.out
         have x4 := cell_of_row _ _ 4 _ _ _ HR7.out
         have x5 := cell_of_row _ _ 5 _ _ _ HR7.out
         have x6 := cell_of_row _ _ 6 _ _ _ HR7.out
         have x7 := cell_of_row _ _ 7 _ _ _ HR7.out
         go_wp2_with (first
           | (go_at_call 16; refine (same_any HFz.out (fun _ => True) (fun _ => True) _ _ _ zero_nv zero_nv).mono ?_; rintro e w8 ⟨rfl, hb⟩; have HB8 := Kept.mk (HB7.out.trans (hb.mono HB7.out.size)); clear hb))
         go_ret
         exact ⟨rfl, HB8.out⟩
     | ok n1 =>
       cases ht : script (toL Y) with
       | error f =>
         have HS := Kept.mk hs
         have HT := Kept.mk ht
         have hd1 : (f == 0) = false := script_nz ht
         have hd2 : (f != 0) = true := by unfold bne; rw [hd1]; rfl
         clear hs ht
         go_wp2_with fail
         go_at_call 13
         refine (prog_ok x _ (HK.out.below HB4.out) HX.out n1 HS).mono ?_
         rintro e w5 ⟨ka, qa, ma, Aa1, na1, ca1, Aa2, na2, ca2, Aa3, na3, ca3, Aa4, na4, ca4, Aa5, na5, ca5, rfl, _, hb⟩
         have HB5 := Kept.mk ((HB4.out.trans (hb.out.mono HB4.out.size)).alloc (HB4.out.trans (hb.out.mono HB4.out.size)).size (.cells #[.int .i64 ka, .bool qa, .string (bs ma), .slice Aa1 na1 ca1, .slice Aa2 na2 ca2, .slice Aa3 na3 ca3, .slice Aa4 na4 ca4, .slice Aa5 na5 ca5] 31))
         clear hb
         go_wp2_with fail
         generalize w5.alloc (.cells #[.int .i64 ka, .bool qa, .string (bs ma), .slice Aa1 na1 ca1, .slice Aa2 na2 ca2, .slice Aa3 na3 ca3, .slice Aa4 na4 ca4, .slice Aa5 na5 ca5] 31) = w6 at *
         generalize w5.heap.size = p5 at *
         go_at_call 13
         refine (prog_no Y _ (HK.out.below HB5.out) HY.out f HT).mono ?_
         rintro e w7 ⟨rfl, hb⟩
         have HB7 := Kept.mk (HB5.out.trans (hb.out.mono HB5.out.size))
         clear hb
         go_wp2_with fail
         go_ret
         exact ⟨rfl, HB7.out.alloc HB7.out.size _⟩
       | ok n2 =>
         have HS := Kept.mk hs
         have HT := Kept.mk ht
         have HSf := Kept.mk (script_few hs (by omega))
         have HTf := Kept.mk (script_few ht (by omega))
         have hcat : Kept (script (toL (x ++ ⟨#[10]⟩ ++ Y)) = .ok (listN (n1.kids ++ n2.kids))) := ⟨by
           have e : toL (x ++ ⟨#[10]⟩ ++ Y) = toL x ++ 10 :: toL Y := by simp [toL]
           rw [e]
           exact script_two hs ht⟩
         have hl1 := Kept.mk (script_list hs)
         have hl2 := Kept.mk (script_list ht)
         clear hs ht
         go_wp2_with fail
         go_at_call 13
         refine (prog_ok x _ (HK.out.below HB4.out) HX.out n1 HS).mono ?_
         rintro e w5 ⟨ka, qa, ma, Aa1, na1, ca1, Aa2, na2, ca2, Aa3, na3, ca3, Aa4, na4, ca4, Aa5, na5, ca5, rfl, hn, hb⟩
         have HR5 := Kept.mk (heap_alloc_new w5 (.cells #[.int .i64 ka, .bool qa, .string (bs ma), .slice Aa1 na1 ca1, .slice Aa2 na2 ca2, .slice Aa3 na3 ca3, .slice Aa4 na4 ca4, .slice Aa5 na5 ca5] 31))
         have HG5 : Kept (w5.heap.size < (w5.alloc (.cells #[.int .i64 ka, .bool qa, .string (bs ma), .slice Aa1 na1 ca1, .slice Aa2 na2 ca2, .slice Aa3 na3 ca3, .slice Aa4 na4 ca4, .slice Aa5 na5 ca5] 31)).heap.size) := ⟨by simp⟩
         have HN5 := Kept.mk (hn.out.keep ((Below.refl _ _).alloc (Nat.le_refl _) (.cells #[.int .i64 ka, .bool qa, .string (bs ma), .slice Aa1 na1 ca1, .slice Aa2 na2 ca2, .slice Aa3 na3 ca3, .slice Aa4 na4 ca4, .slice Aa5 na5 ca5] 31)))
         have HB5 := Kept.mk ((HB4.out.trans (hb.out.mono HB4.out.size)).alloc (HB4.out.trans (hb.out.mono HB4.out.size)).size (.cells #[.int .i64 ka, .bool qa, .string (bs ma), .slice Aa1 na1 ca1, .slice Aa2 na2 ca2, .slice Aa3 na3 ca3, .slice Aa4 na4 ca4, .slice Aa5 na5 ca5] 31))
         clear hb hn
         go_wp2_with fail
         generalize w5.alloc (.cells #[.int .i64 ka, .bool qa, .string (bs ma), .slice Aa1 na1 ca1, .slice Aa2 na2 ca2, .slice Aa3 na3 ca3, .slice Aa4 na4 ca4, .slice Aa5 na5 ca5] 31) = w6 at *
         generalize w5.heap.size = p5 at *
         go_at_call 13
         refine (prog_ok Y _ (HK.out.below HB5.out) HY.out n2 HT).mono ?_
         rintro e w7 ⟨kb, qb, mb, Ab1, nb1, cb1, Ab2, nb2, cb2, Ab3, nb3, cb3, Ab4, nb4, cb4, Ab5, nb5, cb5, rfl, hn, hb⟩
         have hbl : Below w6.heap.size w6 (w7.alloc (.cells #[.int .i64 kb, .bool qb, .string (bs mb), .slice Ab1 nb1 cb1, .slice Ab2 nb2 cb2, .slice Ab3 nb3 cb3, .slice Ab4 nb4 cb4, .slice Ab5 nb5 cb5] 31)) := hb.out.alloc hb.out.size _
         have HR7 := Kept.mk ((hbl.block _ HG5.out).trans HR5.out)
         have HN7 := Kept.mk (HN5.out.keep hbl)
         have HG7 : Kept (p5 < (w7.alloc (.cells #[.int .i64 kb, .bool qb, .string (bs mb), .slice Ab1 nb1 cb1, .slice Ab2 nb2 cb2, .slice Ab3 nb3 cb3, .slice Ab4 nb4 cb4, .slice Ab5 nb5 cb5] 31)).heap.size ∧ w7.heap.size < (w7.alloc (.cells #[.int .i64 kb, .bool qb, .string (bs mb), .slice Ab1 nb1 cb1, .slice Ab2 nb2 cb2, .slice Ab3 nb3 cb3, .slice Ab4 nb4 cb4, .slice Ab5 nb5 cb5] 31)).heap.size) := ⟨Nat.lt_of_lt_of_le HG5.out hbl.size, by simp⟩
         have HQ7 := Kept.mk (heap_alloc_new w7 (.cells #[.int .i64 kb, .bool qb, .string (bs mb), .slice Ab1 nb1 cb1, .slice Ab2 nb2 cb2, .slice Ab3 nb3 cb3, .slice Ab4 nb4 cb4, .slice Ab5 nb5 cb5] 31))
         have HM7 := Kept.mk (hn.out.keep ((Below.refl _ _).alloc (Nat.le_refl _) (.cells #[.int .i64 kb, .bool qb, .string (bs mb), .slice Ab1 nb1 cb1, .slice Ab2 nb2 cb2, .slice Ab3 nb3 cb3, .slice Ab4 nb4 cb4, .slice Ab5 nb5 cb5] 31)))
         have HB7 := Kept.mk (HB5.out.trans (hbl.mono HB5.out.size))
         clear hb hn hbl HR5 HN5 HG5 HB5
         go_upto_region 13 with fail
         generalize w7.alloc (.cells #[.int .i64 kb, .bool qb, .string (bs mb), .slice Ab1 nb1 cb1, .slice Ab2 nb2 cb2, .slice Ab3 nb3 cb3, .slice Ab4 nb4 cb4, .slice Ab5 nb5 cb5] 31) = w8 at *
         generalize w7.heap.size = p7 at *
         go_upto_region 15 with fail
         have HGw : Kept (w8.heap.size < (w8.alloc (.cells #[.int .i64 3, .bool false, .string ⟨#[]⟩, .slice none 0 0, .slice none 0 0, .slice none 0 0, .slice none 0 0, .slice none 0 0] 31)).heap.size) := ⟨by simp⟩
         have hbw : Below w8.heap.size w8 (w8.alloc (.cells #[.int .i64 3, .bool false, .string ⟨#[]⟩, .slice none 0 0, .slice none 0 0, .slice none 0 0, .slice none 0 0, .slice none 0 0] 31)) := (Below.refl _ _).alloc (Nat.le_refl _) _
         have HKa : Kept (NL (fun g => g < w8.heap.size) (w8.alloc (.cells #[.int .i64 3, .bool false, .string ⟨#[]⟩, .slice none 0 0, .slice none 0 0, .slice none 0 0, .slice none 0 0, .slice none 0 0] 31)) (.slice Aa5 na5 ca5) n1.kids) := ⟨(nv_kidsV HN7.out).same (fun g _ hg => ⟨hg, hbw.block g hg⟩) hbw.size⟩
         have HKb : Kept (NL (fun g => g < w8.heap.size) (w8.alloc (.cells #[.int .i64 3, .bool false, .string ⟨#[]⟩, .slice none 0 0, .slice none 0 0, .slice none 0 0, .slice none 0 0, .slice none 0 0] 31)) (.slice Ab5 nb5 cb5) n2.kids) := ⟨(nv_kidsV HM7.out).same (fun g _ hg => ⟨hg, hbw.block g hg⟩) hbw.size⟩
         have HRw := Kept.mk (heap_alloc_new w8 (.cells #[.int .i64 3, .bool false, .string ⟨#[]⟩, .slice none 0 0, .slice none 0 0, .slice none 0 0, .slice none 0 0, .slice none 0 0] 31))
         have HRa := Kept.mk ((hbw.block _ HG7.out.1).trans HR7.out)
         have HRb := Kept.mk ((hbw.block _ HG7.out.2).trans HQ7.out)
         have HBx := Kept.mk (HB7.out.trans (hbw.mono HB7.out.size))
         have hp8 : Kept (p5 < w8.heap.size ∧ p7 < w8.heap.size ∧ w.heap.size ≤ w8.heap.size) := ⟨HG7.out.1, HG7.out.2, HB7.out.size⟩
         have HLn : Kept (n1.kids.length + n2.kids.length ≤ 100000) := ⟨by
           have a1 := HSf.out
           have a2 := HTf.out
           rw [hl1.out, wN_list] at a1
           rw [hl2.out, wN_list] at a2
           have := len_wL n1.kids
           have := len_wL n2.kids
           omega⟩
         have HG0 : Kept (GN w8.heap.size (w8.alloc (.cells #[.int .i64 3, .bool false, .string ⟨#[]⟩, .slice none 0 0, .slice none 0 0, .slice none 0 0, .slice none 0 0, .slice none 0 0] 31)) (.slice none 0 0) []) := ⟨GN.start HGw.out⟩
         clear hbw HR7 HQ7 HN7 HM7 HB7 HG7
         generalize w8.alloc (.cells #[.int .i64 3, .bool false, .string ⟨#[]⟩, .slice none 0 0, .slice none 0 0, .slice none 0 0, .slice none 0 0, .slice none 0 0] 31) = wa at *
         generalize w8.heap.size = pw at *
         have c1 := cell_of_row _ _ 7 _ _ _ HRw.out
         have f1 := frozen_of_row _ _ 7 _ _ HRw.out
         have c2 := cell_of_row _ _ 7 _ _ _ HRa.out
         have c3 := cell_of_row _ _ 7 _ _ _ HRb.out
         have hlA : ([] : List Nd).length + n1.kids.length ≤ 100000 := (by have := HLn.out; simp; omega)
         go_upto_region 16 with (first
           | (at_builtin
              refine wpList_append_nodes rfl _ _ rfl rfl HG0.out rfl HKa.out hlA ?_
              intro v1 w9 hG1 hg1 hv1
              rw [List.nil_append] at hG1
              obtain ⟨Av, kv, rfl⟩ := hG1.slice
              generalize hls : n1.kids.length = ls at *
              have HLs := Kept.mk hls
              clear hls
              have HG1 := Kept.mk hG1
              have HV1 := Kept.mk hv1
              have hsm : ∀ i, i ≤ pw → w9.heap[i]? = wa.heap[i]? := fun i hi => hg1.block i (by have := HGw.out; omega) (fun e => by cases e)
              have HRw9 := Kept.mk ((hsm pw (Nat.le_refl _)).trans HRw.out)
              have HRa9 := Kept.mk ((hsm p5 (by have := hp8.out.1; omega)).trans HRa.out)
              have HRb9 := Kept.mk ((hsm p7 (by have := hp8.out.2.1; omega)).trans HRb.out)
              have HKb9 : Kept (NL (fun g => g < pw) w9 (.slice Ab5 nb5 cb5) n2.kids) := ⟨HKb.out.same (fun g hP hg => ⟨hP, hsm g (Nat.le_of_lt hP)⟩) hg1.size⟩
              have HBx9 : Kept (Below w.heap.size w w9) := ⟨⟨hg1.os.trans HBx.out.os, hg1.tape.trans HBx.out.tape, hg1.output.trans HBx.out.output, Nat.le_trans HBx.out.size hg1.size, fun i hi => (hsm i (by have := hp8.out.2.2; omega)).trans (HBx.out.block i hi)⟩⟩
              have d1 := cell_of_row _ _ 7 _ _ _ HRw9.out
              have e1 := frozen_of_row _ _ 7 _ _ HRw9.out
              clear hG1 hg1 hv1 hsm HRw HRa HRb HKa HKb HBx HG0))
         clear c1 f1 c2 c3 d1 e1 hlA
         have hG2 : Kept (GN pw (w9.setCell ⟨pw, 7, none⟩ (.slice Av ls kv)) (.slice Av ls kv) n1.kids) := ⟨HG1.out.set⟩
         have hRw2 : Kept ((w9.setCell ⟨pw, 7, none⟩ (.slice Av ls kv)).heap[pw]? = some (.cells #[.int .i64 3, .bool false, .string ⟨#[]⟩, .slice none 0 0, .slice none 0 0, .slice none 0 0, .slice none 0 0, .slice Av ls kv] 31 (0, 0))) := ⟨by
           have := heap_setCell_same w9 pw 7 _ _ (.slice Av ls kv) HRw9.out
           simpa using this⟩
         have hsm2 : ∀ i, i ≠ pw → (w9.setCell ⟨pw, 7, none⟩ (.slice Av ls kv)).heap[i]? = w9.heap[i]? := fun i hi => Below.heap_setCell _ _ _ _ hi
         have hsz2 : (w9.setCell ⟨pw, 7, none⟩ (.slice Av ls kv)).heap.size = w9.heap.size := by simp [World.setCell]
         have hRa2 := Kept.mk ((hsm2 p5 (by have := hp8.out.1; omega)).trans HRa9.out)
         have hRb2 := Kept.mk ((hsm2 p7 (by have := hp8.out.2.1; omega)).trans HRb9.out)
         have hKb2 : Kept (NL (fun g => g < pw) (w9.setCell ⟨pw, 7, none⟩ (.slice Av ls kv)) (.slice Ab5 nb5 cb5) n2.kids) := ⟨HKb9.out.same (fun g hP hg => ⟨hP, hsm2 g (Nat.ne_of_lt hP)⟩) (by rw [hsz2]; exact Nat.le_refl _)⟩
         have hBx2 : Kept (Below w.heap.size w (w9.setCell ⟨pw, 7, none⟩ (.slice Av ls kv))) := ⟨HBx9.out.setCell (by have := hp8.out.2.2; exact this) _⟩
         clear hsm2 hsz2 HG1 HRw9 HRa9 HRb9 HKb9 HBx9 HV1
         generalize w9.setCell ⟨pw, 7, none⟩ (.slice Av ls kv) = wb at *
         have c1 := cell_of_row _ _ 7 _ _ _ hRw2.out
         have f1 := frozen_of_row _ _ 7 _ _ hRw2.out
         have c3 := cell_of_row _ _ 7 _ _ _ hRb2.out
         go_upto_region 17 with (first
           | (at_builtin
              refine wpList_append_nodes rfl _ _ rfl rfl hG2.out rfl hKb2.out (by rw [HLs.out]; exact HLn.out) ?_
              intro v1 w9 hG1 hg1 hv1
              obtain ⟨Aw, kw, rfl⟩ := hG1.slice
              generalize hlt : (n1.kids ++ n2.kids).length = lt at *
              have HG3 := Kept.mk hG1
              have hown : ∀ i, (Value.slice Av ls kv).ownBlock = some i → pw + 1 ≤ i := fun i e => by obtain ⟨xs9, hx9, _⟩ := hG2.out.own; exact (own_lt hx9 i e).1
              have hnl : ∀ i, i ≤ pw → i < wb.heap.size → w9.heap[i]? = wb.heap[i]? := fun i hi hl => hg1.block i hl (fun e => by have := hown i e.symm; omega)
              have hltw := hG2.out.lt
              have HRw3 := Kept.mk ((hnl pw (Nat.le_refl _) hltw).trans hRw2.out)
              have HBx3 : Kept (Below w.heap.size w w9) := ⟨⟨hg1.os.trans hBx2.out.os, hg1.tape.trans hBx2.out.tape, hg1.output.trans hBx2.out.output, Nat.le_trans hBx2.out.size hg1.size, fun i hi => (hnl i (by have := hp8.out.2.2; omega) (by have := hBx2.out.size; omega)).trans (hBx2.out.block i hi)⟩⟩
              have d1 := cell_of_row _ _ 7 _ _ _ HRw3.out
              have e1 := frozen_of_row _ _ 7 _ _ HRw3.out
              clear hG1 hg1 hv1 hnl hown hltw hRw2 hRa2 hRb2 hKb2 hBx2 hG2))
         clear c1 f1 c3 d1 e1
         have hG4 : Kept (NL (fun g => g ≠ pw) (w9.setCell ⟨pw, 7, none⟩ (.slice Aw lt kw)) (.slice Aw lt kw) (n1.kids ++ n2.kids)) := ⟨HG3.out.set.read⟩
         have hRw4 : Kept ((w9.setCell ⟨pw, 7, none⟩ (.slice Aw lt kw)).heap[pw]? = some (.cells #[.int .i64 3, .bool false, .string ⟨#[]⟩, .slice none 0 0, .slice none 0 0, .slice none 0 0, .slice none 0 0, .slice Aw lt kw] 31 (0, 0))) := ⟨by
           have := heap_setCell_same w9 pw 7 _ _ (.slice Aw lt kw) HRw3.out
           simpa using this⟩
         have hBx4 : Kept (Below w.heap.size w (w9.setCell ⟨pw, 7, none⟩ (.slice Aw lt kw))) := ⟨HBx3.out.setCell (by have := hp8.out.2.2; exact this) _⟩
         clear HG3 HRw3 HBx3 HLs hlt
         generalize w9.setCell ⟨pw, 7, none⟩ (.slice Aw lt kw) = wc at *
         have hsum1 : ¬ 9223372036854775807 < x.size + (⟨#[10]⟩ : ByteArray).size := by show ¬ 9223372036854775807 < x.size + 1; omega
         have hsum2 : ¬ 9223372036854775807 < (x ++ ⟨#[10]⟩ : ByteArray).size + Y.size := by rw [ByteArray.size_append]; show ¬ 9223372036854775807 < x.size + 1 + Y.size; omega
         have HZ : Kept ((x ++ ⟨#[10]⟩ ++ Y : ByteArray).size ≤ 1250) := ⟨by rw [ByteArray.size_append, ByteArray.size_append]; show x.size + 1 + Y.size ≤ 1250; omega⟩
         have HFw : Kept (Few9 (listN (n1.kids ++ n2.kids))) := ⟨few_of _ (by have := script_few hcat.out (by have := HZ.out; omega); omega)⟩
         go_wp2_with fail
         go_at_call 13
         refine (prog_ok _ _ (HK.out.below hBx4.out) HZ.out _ hcat).mono ?_
         rintro e w7 ⟨kc, qc, mc, Ac1, nc1, cc1, Ac2, nc2, cc2, Ac3, nc3, cc3, Ac4, nc4, cc4, Ac5, nc5, cc5, rfl, hn, hb⟩
         have hbl : Below wc.heap.size wc (w7.alloc (.cells #[.int .i64 kc, .bool qc, .string (bs mc), .slice Ac1 nc1 cc1, .slice Ac2 nc2 cc2, .slice Ac3 nc3 cc3, .slice Ac4 nc4 cc4, .slice Ac5 nc5 cc5] 31)) := hb.out.alloc hb.out.size _
         have HR7 := Kept.mk ((hbl.block _ (Array.getElem?_eq_some_iff.1 hRw4.out).1).trans hRw4.out)
         have HG7 := Kept.mk (hG4.out.keep hbl)
         have HQ7 := Kept.mk (heap_alloc_new w7 (.cells #[.int .i64 kc, .bool qc, .string (bs mc), .slice Ac1 nc1 cc1, .slice Ac2 nc2 cc2, .slice Ac3 nc3 cc3, .slice Ac4 nc4 cc4, .slice Ac5 nc5 cc5] 31))
         have HM7 := Kept.mk (hn.out.keep ((Below.refl _ _).alloc (Nat.le_refl _) (.cells #[.int .i64 kc, .bool qc, .string (bs mc), .slice Ac1 nc1 cc1, .slice Ac2 nc2 cc2, .slice Ac3 nc3 cc3, .slice Ac4 nc4 cc4, .slice Ac5 nc5 cc5] 31)))
         have HB7 := Kept.mk (hBx4.out.trans (hbl.mono hBx4.out.size))
         clear hb hn hbl hRw4 hG4 hBx4
         have HV : Kept (NV (fun g => g ≠ pw) (w7.alloc (.cells #[.int .i64 kc, .bool qc, .string (bs mc), .slice Ac1 nc1 cc1, .slice Ac2 nc2 cc2, .slice Ac3 nc3 cc3, .slice Ac4 nc4 cc4, .slice Ac5 nc5 cc5] 31)) (.agg #[.int .i64 3, .bool false, .string ⟨#[]⟩, .slice none 0 0, .slice none 0 0, .slice none 0 0, .slice none 0 0, .slice Aw lt kw]) (listN (n1.kids ++ n2.kids))) := ⟨.mk 3 false [] [] [] [] [] _ _ _ _ _ _ Lit.parts_none rfl HG7.out⟩
         have x0 := cell_of_row _ _ 0 _ _ _ HQ7.out
         have x1 := cell_of_row _ _ 1 _ _ _ HQ7.out
         have x2 := cell_of_row _ _ 2 _ _ _ HQ7.out
         have x3 := cell_of_row _ _ 3 _ _ _ HQ7.out
         have x4 := cell_of_row _ _ 4 _ _ _ HQ7.out
         have x5 := cell_of_row _ _ 5 _ _ _ HQ7.out
         have x6 := cell_of_row _ _ 6 _ _ _ HQ7.out
         have x7 := cell_of_row _ _ 7 _ _ _ HQ7.out
         have y0 := cell_of_row _ _ 0 _ _ _ HR7.out
         have y1 := cell_of_row _ _ 1 _ _ _ HR7.out
         have y2 := cell_of_row _ _ 2 _ _ _ HR7.out
         have y3 := cell_of_row _ _ 3 _ _ _ HR7.out
         have y4 := cell_of_row _ _ 4 _ _ _ HR7.out
         have y5 := cell_of_row _ _ 5 _ _ _ HR7.out
         have y6 := cell_of_row _ _ 6 _ _ _ HR7.out
         have y7 := cell_of_row _ _ 7 _ _ _ HR7.out
         go_wp2_with (first
           | (go_at_call 16; refine (same_any HFw.out _ _ _ _ _ HM7.out HV.out).mono ?_; rintro e w8 ⟨rfl, hb⟩; have HB8 := Kept.mk (HB7.out.trans (hb.mono HB7.out.size)); clear hb))
         go_ret
         exact ⟨rfl, HB8.out⟩
   · have hi : (500 : Int) < Y.size := by omega
     clear h5 hx
     go_wp2_with fail
     go_ret
     exact ⟨rfl, HB4.out⟩
end Sy
end
section
open Go.ChangeShapes Go.WideShapes Go.ChangeAt Go.RowKit Tx
namespace Sy
set_option maxRecDepth 100000 in
theorem ctwo_contract (H : Type) (enc : TypeId × Value → H) (W : World) (base : Nat) (args : Array Value) (ds gs : List (DataW H)) (before : List MemPlace)
   (hval : ∀ (j : Nat) t v, Tryz.f5.params[j]? = some t → args[j]? = some v → Value.okWide Tryz.prog W .any base t v)
   (hW : DataW.Whole enc Tryz.prog Tryz.f5.params.toList Rows.syntaxTwoSpec.vars false W args.toList ds gs before)
   (hsz : (DataW.weightsEach Tryz.prog (Tryz.f5.params.toList ++ (OpenSpec.ofChange Rows.syntaxTwoSpec).bare.plain.varTypes Tryz.prog) (ds ++ gs)).all (· ≤ reachBytes) = true)
   (hL : laidMetH Tryz.prog Rows.syntaxTwoRow.laid W) (hsh : W.ShapedOpen Tryz.prog) :
   Calls Tryz.prog 5 args W fun e W' => ∃ v, e = .returned v ∧ Rows.syntaxTwoSpec.post enc Tryz.prog Tryz.f5 false true false false W args v W' := by
 have hW' := hW
 obtain ⟨p, q, hA0, hV, rfl, hfz, hnd⟩ := hW
 obtain ⟨rfl, rfl⟩ := trodVars_none hV
 have hA : DataW.TrodAll enc Tryz.prog W 0 (fun _ => true) true Tryz.f5.params.toList args.toList ds p := hA0
 rw [Tryz.params5] at hA hval hsz
 obtain ⟨v0, vs0, d0, ds0, p0, q0, hargs, rfl, rfl, h0, r0⟩ := trodAll_cons hA
 obtain ⟨v1, vs1, d1, ds1, p1, q1, rfl, rfl, rfl, h1, r1⟩ := trodAll_cons r0
 obtain ⟨v2, vs2, d2, ds2, p2, q2, rfl, rfl, rfl, h2, r2⟩ := trodAll_cons r1
 obtain ⟨v3, vs3, d3, ds3, p3, q3, rfl, rfl, rfl, h3, r3⟩ := trodAll_cons r2
 obtain ⟨rfl, rfl, rfl⟩ := trodAll_nil r3
 obtain rfl : args = #[v0, v1, v2, v3] := by cases args; simp_all
 obtain ⟨Al, nl, kl, rfl, hll, hnl⟩ := open_bytes (hval 0 22 v0 rfl rfl) h0
 obtain ⟨Am, nm, km, rfl, hlm, hnm⟩ := open_bytes (hval 1 22 v1 rfl rfl) h1
 obtain ⟨s, rfl, rfl, rfl, hs⟩ := ChangeMaps.open_string Tryz.underlying9 (hval 2 9 v2 rfl rfl) h2
 unfold maxLen at hs
 obtain ⟨pk, rfl, rfl, rfl⟩ := open_bool Tryz.underlying4 (hval 3 4 v3 rfl rfl) h3
 refine (two_law Al Am nl kl nm km s pk W (kit_of hL hsh) hll hnl hlm hnm (by omega)).mono fun e W' ⟨he, hb⟩ => ?_
 subst he
 exact ⟨_, rfl, Law.post laidOut (by kernel_rfl) (by kernel_rfl) Tryz.underlying4 rfl rfl hW' hb⟩
theorem ctwo_laid_met (os : Os) : laidMet Tryz.prog Rows.syntaxTwoRow.laid ((laidWorld os).forCall (fun _ _ => 0) ⟨#[], #[Value.slice none 0 0, Value.slice none 0 0, Value.string ⟨#[]⟩, Value.bool false], []⟩).memory :=
 laid_met os _
theorem ctwo_reads (os : Os) {H : Type} (enc : TypeId × Value → H) : ∃ places, DataW.whole enc Tryz.prog ((laidWorld os).forCall (fun _ _ => 0) ⟨#[], #[Value.slice none 0 0, Value.slice none 0 0, Value.string ⟨#[]⟩, Value.bool false], []⟩).memory Tryz.f5.params.toList Rows.syntaxTwoSpec.vars false #[Value.slice none 0 0, Value.slice none 0 0, Value.string ⟨#[]⟩, Value.bool false].toList 8 = some ([.nil, .nil, .lit (.string []), .lit (.bool false)], [], places) :=
 ⟨[], by kernel_rfl⟩
set_option maxRecDepth 100000 in
theorem ctwo_lifted (os : Os) (started : os.Started) (H : Type) (enc : TypeId × Value → H) (F : Stop.Interp) :
   ReturnsInHanded {} Tryz.checked os 5 .any ((OpenSpec.ofChange Rows.syntaxTwoSpec).preRow enc Tryz.prog Tryz.f5 Rows.syntaxTwoRow.domain false Rows.syntaxTwoRow.laid)
     (((OpenSpec.ofChange Rows.syntaxTwoSpec).at F).post enc Tryz.prog Tryz.f5 false true false false) := by
 obtain ⟨places, hx⟩ := ctwo_reads os enc
 refine returnsInHanded_of_row (C := Tryz.checked) (s := OpenSpec.ofChange Rows.syntaxTwoSpec) own started (by kernel_rfl) Tryz.func5
   (witness_row_at (enc := enc) (C := Tryz.checked) false (laidWorld os) #[Value.slice none 0 0, Value.slice none 0 0, Value.string ⟨#[]⟩, Value.bool false] rfl (by kernel_rfl) (by kernel_rfl) (by kernel_rfl)
     (OpenSpec.preRow_of_cond 8 hx (by kernel_rfl) (fun k hk => by cases hk) (by kernel_rfl) (ctwo_laid_met os))) ?_
 intro W base args ds gs before hval hW _ _ hsz hL hsh _
 exact ctwo_contract H enc W base args ds gs before hval hW hsz hL hsh
theorem ctwo_said : Rows.SyntaxTwoSaid :=
 OpenClaim.holds_of_cond 5 Tryz.f5 rfl rfl rfl rfl rfl rfl rfl ⟨rfl, rfl, rfl, rfl, rfl⟩ rfl rfl rfl rfl rfl (by kernel_rfl) Tryz.func5 (by kernel_rfl)
   (of_decide_eq_true (by kernel_rfl)) (by unfold Func.isWrapper; first | (rw [if_pos (by decide +kernel)]; kernel_rfl) | (rw [if_neg (by decide +kernel)]; exact ⟨rfl, rfl⟩))
   (fun os started H enc _ F => by rw [OpenClaim.pre_eq_preRow]; exact ctwo_lifted os started H enc F)
theorem ctwo_plain (f : FuncId) (fn : Func) (hf : Tryz.pinned.checked.prog.funcNamed "scullion/scullionlaw09.SyntaxTwo" = some f) (hfn : Tryz.pinned.checked.prog.funcs[f]? = some fn) :
   true = Tryz.pinned.checked.prog.looks [] ∧ ∀ (j : Nat) t, fn.params[j]? = some t → Tryz.pinned.checked.prog.wantsStandIn t = false := by
 obtain rfl : f = 5 := Option.some.inj ((show Tryz.prog.funcNamed "scullion/scullionlaw09.SyntaxTwo" = some 5 by kernel_rfl).symm.trans hf) |>.symm
 obtain rfl : fn = Tryz.f5 := (Option.some.inj (Tryz.func5.symm.trans hfn)).symm
 refine ⟨by kernel_rfl, fun j t ht => ?_⟩
 rw [Tryz.params5] at ht
 have hm := Array.mem_of_getElem? ht
 simp at hm
 rcases hm with rfl | rfl | rfl
 · exact (show Tryz.prog.wantsStandIn 22 = false by kernel_rfl)
 · exact (show Tryz.prog.wantsStandIn 9 = false by kernel_rfl)
 · exact (show Tryz.prog.wantsStandIn 4 = false by kernel_rfl)
theorem ctwo_card : Rows.SyntaxTwoCardSaid :=
 Claim7.holds_tied_plain_at .later [] _ _ _ _ ctwo_said (fun _ h => by cases h) (by kernel_rfl) (fun _ h => by cases h) syntaxTwo_row_tie rfl ⟨rfl, rfl⟩ (by kernel_rfl) rfl ctwo_plain (by kernel_rfl)
end Sy
end
end Go.Proofs.YtahjonfmhejoeaaGreatDoor
