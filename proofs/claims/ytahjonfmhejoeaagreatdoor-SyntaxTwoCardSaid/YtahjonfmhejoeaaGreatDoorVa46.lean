/-
  Parts of the proof, merged.
-/
import Derived.BigCall
import Derived.Laws.Concat
import Derived.Laws.DeepStrings4
import Derived.Laws.Strings
import Derived.LoopTactic
import Derived.Test.YtahjonfmhejoeaaGreatDoorChecked
import Derived.Test.YtahjonfmhejoeaaGreatDoorVa03
import Derived.Test.YtahjonfmhejoeaaGreatDoorVa05
import Derived.Test.YtahjonfmhejoeaaGreatDoorVa43
import Derived.Test.YtahjonfmhejoeaaGreatDoorVa44
import Derived.Test.YtahjonfmhejoeaaGreatDoorVa45
import Derived.WalkKit
namespace Go.Proofs.YtahjonfmhejoeaaGreatDoor
section
namespace Sy
open Lx Wx
def ln : Tok := ⟨2, [10]⟩
theorem ln_line : isLine ln = true := rfl
theorem lines_ln (l : List Tok) : lines (ln :: l) = lines l := by unfold lines; rw [List.dropWhile_cons, if_pos ln_line]
theorem ends_nil : ends [] = true := rfl
theorem listF_acc {c : List Tok → R Nd} (a : List Nd) : ∀ (n : Nat) (acc : List Nd) (ts : List Tok), listF c n (a ++ acc) ts = (listF c n acc ts).map fun z => (a ++ z.1, z.2)
 | 0, _, _ => rfl
 | n + 1, acc, ts => by
   rw [listF, listF]
   by_cases he : ends ts = true
   · rw [if_pos he, if_pos he]; rfl
   · rw [if_neg he, if_neg he]
     cases c ts with
     | error e => rfl
     | ok x =>
       simp only []
       by_cases h1 : isT 1 [59] x.2 = true
       · rw [if_pos h1, if_pos h1, List.append_assoc]; exact listF_acc a n _ _
       · rw [if_neg h1, if_neg h1]
         by_cases h2 : isT 2 [10] x.2 = true
         · rw [if_pos h2, if_pos h2, List.append_assoc]; exact listF_acc a n _ _
         · rw [if_neg h2, if_neg h2, List.append_assoc]; rfl
theorem listF_on {c : List Tok → R Nd} (hc : St c) : ∀ (n : Nat) (acc ks : List Nd) (ts us : List Tok), listF c n acc (lines ts) = .ok (ks, []) → ∃ m, m ≤ n ∧ ∀ k, listF c (k + m) acc (lines (ts ++ ln :: us)) = listF c k ks (lines us)
 | 0, _, _, _, _, h => by cases h
 | n + 1, acc, ks, ts, us, h => by
   have hy : Ln (ln :: us) := .inr ⟨ln, us, rfl, ln_line⟩
   by_cases hl : lines ts = []
   · rw [hl, listF, if_pos ends_nil] at h
     cases h
     exact ⟨0, by omega, fun k => by rw [lines_none _ hl, lines_ln]; rfl⟩
   · rw [lines_app _ hl]
     rw [listF] at h
     by_cases he : ends (lines ts) = true
     · rw [if_pos he] at h
       injection h with h
       injection h with _ h
       exact absurd h hl
     · rw [if_neg he] at h
       cases hk : c (lines ts) with
       | error e => rw [hk] at h; cases h
       | ok x =>
         rw [hk] at h
         simp only [] at h
         have hx := hc _ x.1 x.2 _ hy hk
         have start : ∀ k, listF c (k + 1) acc (lines ts ++ ln :: us) = (if isT 1 [59] (x.2 ++ ln :: us) = true then listF c k (acc ++ [x.1]) (lines (x.2 ++ ln :: us).tail) else if isT 2 [10] (x.2 ++ ln :: us) = true then listF c k (acc ++ [x.1]) (lines (x.2 ++ ln :: us)) else .ok (acc ++ [x.1], x.2 ++ ln :: us)) := fun k => by
           rw [listF, ends_app _ hl, if_neg he, hx]
         by_cases h1 : isT 1 [59] x.2 = true
         · rw [if_pos h1] at h
           have hn := isT_ne h1
           obtain ⟨m, hm, hgo⟩ := listF_on hc n _ ks x.2.tail us h
           refine ⟨m + 1, by omega, fun k => ?_⟩
           rw [show k + (m + 1) = (k + m) + 1 by omega, start, isT_app _ hn, if_pos h1, tail_app _ hn]
           exact hgo k
         · rw [if_neg h1] at h
           by_cases h2 : isT 2 [10] x.2 = true
           · rw [if_pos h2] at h
             have hn := isT_ne h2
             obtain ⟨m, hm, hgo⟩ := listF_on hc n _ ks x.2 us h
             refine ⟨m + 1, by omega, fun k => ?_⟩
             rw [show k + (m + 1) = (k + m) + 1 by omega, start, isT_app _ hn, if_neg h1, isT_app _ hn, if_pos h2]
             exact hgo k
           · rw [if_neg h2] at h
             injection h with h
             injection h with h3 h4
             refine ⟨1, by omega, fun k => ?_⟩
             rw [start, h4, List.nil_append, if_neg (by simp [isT, ln]), if_pos (by simp [isT, ln]), lines_ln, h3]
theorem top_st : St (andOr (pipe (command 30))) := by
 obtain ⟨h1, h2, _⟩ := both_st 30
 exact andOr_st (pipe_st h1 h2) (pipe_ne h2)
theorem parse_ok {ts : List Tok} {n : Nd} (h : parse ts = .ok n) : ∃ ks, n = listN ks ∧ listF (andOr (pipe (command 30))) (ts.length + 1) [] (lines ts) = .ok (ks, []) := by
 unfold parse list at h
 cases hl : listF (andOr (pipe (command 30))) (ts.length + 1) [] (lines ts) with
 | error e => rw [hl] at h; cases h
 | ok z =>
   rw [hl] at h
   simp only [Bool.not_true, Bool.and_false, Bool.false_eq_true, if_false] at h
   by_cases hz : z.2.isEmpty = true
   · rw [if_pos hz] at h
     cases h
     exact ⟨z.1, rfl, by rw [List.isEmpty_iff] at hz; rw [← hz]⟩
   · rw [if_neg hz] at h; cases h
theorem parse_is {ts : List Tok} {ks : List Nd} {m : Nat} (h : listF (andOr (pipe (command 30))) m [] (lines ts) = .ok (ks, [])) (hm : m ≤ ts.length + 1) : parse ts = .ok (listN ks) := by
 unfold parse list
 rw [listF_more _ (ts.length + 1) _ _ _ h hm]
 simp
theorem parse_two {ts us : List Tok} {a b : Nd} (ha : parse ts = .ok a) (hb : parse us = .ok b) : parse (ts ++ ln :: us) = .ok (listN (a.kids ++ b.kids)) := by
 obtain ⟨ks, rfl, h1⟩ := parse_ok ha
 obtain ⟨ms, rfl, h2⟩ := parse_ok hb
 obtain ⟨m, hm, hgo⟩ := listF_on top_st _ [] ks ts us h1
 refine parse_is (m := us.length + 1 + m) ?_ (by rw [List.length_append, List.length_cons]; omega)
 rw [hgo]
 have := listF_acc (c := andOr (pipe (command 30))) ks (us.length + 1) [] (lines us)
 rw [List.append_nil, h2] at this
 exact this
theorem parse_ahead {ts : List Tok} {a : Nd} (ha : parse ts = .ok a) : parse (ln :: ts) = .ok a := by
 obtain ⟨ks, rfl, h1⟩ := parse_ok ha
 exact parse_is (m := ts.length + 1) (by rw [lines_ln]; exact h1) (by rw [List.length_cons]; omega)
theorem parse_nil : parse [] = .ok (listN []) := rfl
theorem parse_behind {ts : List Tok} {a : Nd} (ha : parse ts = .ok a) : parse (ts ++ [ln]) = .ok a := by
 have h := parse_two ha parse_nil
 obtain ⟨ks, rfl, _⟩ := parse_ok ha
 rw [h]
 show Except.ok (listN (ks ++ [])) = _
 rw [List.append_nil]
end Sy
end
section
namespace Sy
open Lx Wx
def script (s : List UInt8) : Except Int Nd :=
 match toks s with
 | none => .error 80
 | some ts => parse ts
theorem script_ok {s : List UInt8} {a : Nd} (h : script s = .ok a) : ∃ ts, Goes s ts ∧ parse ts = .ok a := by
 unfold script at h
 cases ht : toks s with
 | none => rw [ht] at h; cases h
 | some ts => rw [ht] at h; exact ⟨ts, goes_iff.1 ht, h⟩
theorem script_is {s : List UInt8} {ts : List Tok} (h : Goes s ts) : script s = parse ts := by
 unfold script
 rw [goes_iff.2 h]
theorem script_two {s t : List UInt8} {a b : Nd} (ha : script s = .ok a) (hb : script t = .ok b) : script (s ++ 10 :: t) = .ok (listN (a.kids ++ b.kids)) := by
 obtain ⟨ts, h1, h2⟩ := script_ok ha
 obtain ⟨us, h3, h4⟩ := script_ok hb
 rw [script_is (goes_two h1 h3 (Sep.line t))]
 exact parse_two h2 h4
theorem script_lines {s : List UInt8} {a : Nd} (ha : script s = .ok a) : script ([10, 32, 35, 32, 120, 32, 40, 32, 10] ++ s ++ [10, 10, 35, 32, 39]) = .ok a := by
 obtain ⟨ts, h1, h2⟩ := script_ok ha
 have hend : Goes [10, 35, 32, 39] [ln] := .line (.comment .nil)
 have h3 := goes_two h1 hend (Sep.line [10, 35, 32, 39])
 have h4 : Goes (10 :: 32 :: 35 :: 32 :: 120 :: 32 :: 40 :: 32 :: 10 :: (s ++ 10 :: [10, 35, 32, 39])) (ln :: ln :: (ts ++ ln :: [ln])) := .line (.blank (.inl rfl) (.comment (.line h3)))
 have e : [10, 32, 35, 32, 120, 32, 40, 32, 10] ++ s ++ [10, 10, 35, 32, 39] = 10 :: 32 :: 35 :: 32 :: 120 :: 32 :: 40 :: 32 :: 10 :: (s ++ 10 :: [10, 35, 32, 39]) := by simp
 rw [e, script_is h4]
 have h5 := parse_behind (parse_behind h2)
 rw [List.append_assoc] at h5
 exact parse_ahead (parse_ahead h5)
theorem script_list {s : List UInt8} {a : Nd} (ha : script s = .ok a) : a = listN a.kids := by
 obtain ⟨ts, _, h2⟩ := script_ok ha
 obtain ⟨ks, rfl, _⟩ := parse_ok h2
 rfl
end Sy
end
section
open Go.RowKit Tx
namespace Pc
def By8 (w : World) (A : Option Addr) (n : Nat) : Prop := ∀ j, j < n → ∃ g off z, A = some ⟨g, off, none⟩ ∧ g < w.heap.size ∧ w.cell? ⟨g, off + j, none⟩ = some (.int .u8 z) ∧ 0 ≤ z ∧ z ≤ 255
theorem By8.below {w w' : World} {A : Option Addr} {n : Nat} (h : By8 w A n) (hb : Below w.heap.size w w') : By8 w' A n := by
 intro j hj
 obtain ⟨g, off, z, e, hg, hc, h1, h2⟩ := h j hj
 exact ⟨g, off, z, e, Nat.lt_of_lt_of_le hg hb.size, (hb.cell (p := ⟨g, off + j, none⟩) hg).trans hc, h1, h2⟩
def Few (M : Nat) (w : World) (g n : Nat) : Prop := ∀ j, j < n → ∃ x : ByteArray, w.cell? ⟨g, j, none⟩ = some (.string x) ∧ x.size ≤ M
theorem Few.below {M : Nat} {w w' : World} {g n : Nat} (h : Few M w g n) (hg : g < w.heap.size) (hb : Below w.heap.size w w') : Few M w' g n := fun j hj => by
 obtain ⟨x, hc, hs⟩ := h j hj
 exact ⟨x, (hb.cell (p := ⟨g, j, none⟩) hg).trans hc, hs⟩
def short (M : Nat) : Value → Bool
 | .string x => decide (x.size ≤ M)
 | _ => false
theorem few_of {M : Nat} {w : World} {g : Nat} {cs : Array Value} {t : TypeId} (h : w.heap[g]? = some (.cells cs t (0, 0))) (hs : cs.all (short M) = true) : Few M w g cs.size := fun j hj => by
 have h1 := cell_of_row w g j cs t (0, 0) h
 have h2 : short M cs[j] = true := Array.all_eq_true.1 hs j hj
 rw [Array.getElem?_eq_getElem hj] at h1
 cases hc : cs[j] with
 | string x => rw [hc] at h1 h2; exact ⟨x, h1, of_decide_eq_true h2⟩
 | _ => rw [hc] at h2; cases h2
set_option maxHeartbeats 1000000 in
set_option maxRecDepth 100000 in
theorem pieces_any (M : Nat) (hM : M ≤ 100) (A : Option Addr) (n k g m q : Nat) (w : World) (hl : By8 w A n) (hn : n ≤ 9223372036854775807) (hp : Few M w g m) (hm : 0 < m) (hm2 : m ≤ 100) :
   Calls Tryz.prog 11 #[.slice A n k, .slice (some ⟨g, 0, none⟩) m q] w fun e w' => ∃ x : ByteArray, e = .returned (.string x) ∧ x.size ≤ M * 14 ∧ w = w' := by
 have HL := Kept.mk hl
 have HP := Kept.mk hp
 clear hl hp
 go_enter Tryz.func11, Tryz.ntmps11
 go_wp2_with fail
 go_loop [5, 6] (fun v i => ∃ (j : Nat) (x : ByteArray), j ≤ n ∧ j ≤ 14 ∧ i = .int .i64 (j : Int) ∧ v = .string x ∧ x.size ≤ M * j) (fun _ i => n - (intOf i).toNat)
 case atStart => exact ⟨0, ⟨#[]⟩, by omega, by omega, rfl, rfl, Nat.zero_le _⟩
 case round =>
   obtain ⟨j, x, hj, hj14, rfl, rfl, hx⟩ := hrel
   have hMj : M * j ≤ M * 14 := Nat.mul_le_mul_left M hj14
   have j0 : (0 : Int) ≤ j := by omega
   by_cases hlt : j < n
   · have j1 : (j : Int) < (n : Int) := by omega
     by_cases h14 : j < 14
     · have j2 : (j : Int) < 14 := by omega
       obtain ⟨ga, off, z, e, hg, hc, hz0, hz1⟩ := HL.out j hlt
       subst e
       have hm1 : (0 : Int) < (m : Int) := by omega
       have e1 : z.tmod (m : Int) = z % (m : Int) := Int.tmod_eq_emod_of_nonneg hz0
       have r0 : 0 ≤ z % (m : Int) := Int.emod_nonneg _ (by omega)
       have r1 : z % (m : Int) < (m : Int) := Int.emod_lt_of_pos _ hm1
       obtain ⟨y, hy, hys⟩ := HP.out (z % (m : Int)).toNat (by omega)
       have hsum : ¬ 9223372036854775807 < x.size + y.size := by omega
       have HC : Kept (x.size + y.size ≤ M * (j + 1)) := ⟨by rw [Nat.mul_add, Nat.mul_one]; omega⟩
       clear hMj
       go_wp2_with fail
       go_round
       case rel => exact ⟨j + 1, x ++ y, by omega, by omega, by go_num, rfl, by rw [ByteArray.size_append]; exact HC.out⟩
       case measure => simp [intOf]; omega
     · have j2 : ¬ (j : Int) < 14 := by omega
       clear h14
       go_wp2_with fail
       go_ret
       exact ⟨x, rfl, by omega, rfl⟩
   · have j1 : ¬ (j : Int) < (n : Int) := by omega
     have j1b : decide ((j : Int) < (n : Int)) = false := decide_eq_false j1
     clear hlt
     go_wp2_with fail
     go_ret
     exact ⟨x, rfl, by omega, rfl⟩
end Pc
end
section
open Go.RowKit Tx
namespace Sy
open Lx (Tok toks)
open Wx (Pt LV Nw wt cnt)
open Pc (By8 Few)
theorem mem_sum {α : Type} {f : α → Nat} {l : List α} {a : α} (h : a ∈ l) : f a ≤ (l.map f).sum := by
 induction l with
 | nil => cases h
 | cons b l ih =>
   rw [List.map_cons, List.sum_cons]
   rcases List.mem_cons.1 h with rfl | h
   · omega
   · have := ih h; omega
mutual
theorem few_of : ∀ (x : Nd), wN x ≤ 100000 → Few9 x
 | .mk k q n ws gs rs os ks, h => by
   rw [wN_mk] at h
   have sumL : ∀ (l : List (List Pt)) (p : List Pt), p ∈ l → 1 + wt p ≤ wWs l := fun l p hp => mem_sum (f := fun p => 1 + wt p) hp
   have sumA : ∀ (l : List (List UInt8 × List Pt)) (p : List UInt8 × List Pt), p ∈ l → 1 + wt p.2 ≤ wAs l := fun l p hp => mem_sum (f := fun p => 1 + wt p.2) hp
   have lenL : ∀ l : List (List Pt), l.length ≤ wWs l := fun l => by
     induction l with
     | nil => exact Nat.le_refl _
     | cons p l ih => have e : wWs (p :: l) = (1 + wt p) + wWs l := by simp [wWs]
                      rw [e, List.length_cons]; omega
   have lenA : ∀ l : List (List UInt8 × List Pt), l.length ≤ wAs l := fun l => by
     induction l with
     | nil => exact Nat.le_refl _
     | cons p l ih => have e : wAs (p :: l) = (1 + wt p.2) + wAs l := by simp [wAs]
                      rw [e, List.length_cons]; omega
   have h1 := lenL ws
   have h2 := lenA gs
   have h3 := lenA rs
   have h4 := len_wL ks
   exact .mk k q n ws gs rs os ks ⟨by omega, fun p hp => by have := sumL ws p hp; have := Wx.cnt_wt p; omega⟩ ⟨by omega, fun p hp => by have := sumA gs p hp; have := Wx.cnt_wt p.2; omega⟩ ⟨by omega, fun p hp => by have := sumA rs p hp; have := Wx.cnt_wt p.2; omega⟩ (by omega) (by omega) (few_all ks (by omega))
theorem few_all : ∀ (l : List Nd), wL l ≤ 100000 → ∀ x ∈ l, Few9 x
 | [], _ => fun x hx => by cases hx
 | k :: l, h => by
   rw [wL_cons] at h
   intro x hx
   rcases List.mem_cons.1 hx with hx | hx
   · rw [hx]; exact few_of k (by omega)
   · exact few_all l (by omega) x hx
theorem len_wL : ∀ (l : List Nd), l.length ≤ wL l
 | [] => Nat.zero_le _
 | .mk k q n ws gs rs os ks :: l => by
   rw [wL_cons, wN_mk, List.length_cons]
   have := len_wL l
   omega
end
structure KS (w : World) : Prop where
 lx : Lx.Kit w
 wx : Wx.Kit w
theorem KS.below {w w' : World} (h : KS w) (hb : Below w.heap.size w w') : KS w' := ⟨h.lx.below hb, h.wx.below hb⟩
theorem script_few {s : ByteArray} {n : Nd} (h : script (Tx.toL s) = .ok n) (hs : s.size ≤ 2000) : wN n ≤ 8001 := by
 obtain ⟨ts, h1, h2⟩ := script_ok h
 have := goes_wt h1 h2
 rw [Tx.toL_length] at this
 omega
theorem prog_ok (s : ByteArray) (w : World) (hK : KS w) (hs : s.size ≤ 1250) (n : Nd) (h : Kept (script (Tx.toL s) = .ok n)) :
   Calls Tryz.prog 13 #[.string s] w fun e w' => ∃ k q nm A1 n1 k1 A2 n2 k2 A3 n3 k3 A4 n4 k4 A5 n5 k5, e = .returned (.tuple #[.agg #[.int .i64 k, .bool q, .string (bs nm), .slice A1 n1 k1, .slice A2 n2 k2, .slice A3 n3 k3, .slice A4 n4 k4, .slice A5 n5 k5], .int .i64 0]) ∧ Kept (NV (Nw w.heap.size) w' (.agg #[.int .i64 k, .bool q, .string (bs nm), .slice A1 n1 k1, .slice A2 n2 k2, .slice A3 n3 k3, .slice A4 n4 k4, .slice A5 n5 k5]) n) ∧ Kept (Below w.heap.size w w') := by
 have h := h.out
 unfold script at h
 cases ht : toks (Tx.toL s) with
 | none => rw [ht] at h; cases h
 | some ts =>
   rw [ht] at h
   refine (parse_good s w hK.lx hK.wx hs ts ht.symm (.ok n) (by rw [parse_same]; exact h.symm)).mono ?_
   rintro e w' ⟨u, rfl, hu, hb⟩
   obtain ⟨k, q, nm, A1, n1, k1, A2, n2, k2, A3, n3, k3, A4, n4, k4, A5, n5, k5, ws, gs, rs, os, ks, rfl, _, _, _⟩ := nv_parts hu.out
   exact ⟨k, q, nm, A1, n1, k1, A2, n2, k2, A3, n3, k3, A4, n4, k4, A5, n5, k5, rfl, hu, hb⟩
theorem prog_no (s : ByteArray) (w : World) (hK : KS w) (hs : s.size ≤ 1250) (c : Int) (h : Kept (script (Tx.toL s) = .error c)) :
   Calls Tryz.prog 13 #[.string s] w fun e w' => e = .returned (.tuple #[.agg #[.int .i64 0, .bool false, .string ⟨#[]⟩, .slice none 0 0, .slice none 0 0, .slice none 0 0, .slice none 0 0, .slice none 0 0], .int .i64 c]) ∧ Kept (Below w.heap.size w w') := by
 have h := h.out
 unfold script at h
 cases ht : toks (Tx.toL s) with
 | none =>
   rw [ht] at h
   cases h
   exact (parse_bad s w hK.lx hs ht.symm)
 | some ts =>
   rw [ht] at h
   exact (parse_good s w hK.lx hK.wx hs ts ht.symm (.error c) (by rw [parse_same]; exact h.symm))
theorem script_nz {s : List UInt8} {c : Int} (h : script s = .error c) : (c == 0) = false := by
 unfold script at h
 cases ht : toks s with
 | none => rw [ht] at h; cases h; rfl
 | some ts => rw [ht] at h; exact beq_eq_false_iff_ne.2 (parse_nz _ _ h)
set_option maxHeartbeats 2000000 in
set_option maxRecDepth 100000 in
theorem phrases_any (w : World) : Calls Tryz.prog 12 #[] w fun e w' => ∃ g, e = .returned (.slice (some ⟨g, 0, none⟩) 20 20) ∧ g < w'.heap.size ∧ Kept (Few 41 w' g 20) ∧ Below w.heap.size w w' := by
 go_enter Tryz.func12, Tryz.ntmps12
 go_wp2_with fail
 go_ret
 refine ⟨w.heap.size, rfl, by simp, ⟨Pc.few_of (heap_alloc_new w _) (by decide +kernel)⟩, (Below.refl _ _).alloc (Nat.le_refl _) _⟩
end Sy
end
section
open Go.RowKit Tx
namespace Sy
open Lx (Tok toks)
open Wx (Pt LV Cs pvs Nw wt cnt txt)
def sm (t : List UInt8) : Nd := .mk 0 false [] [[txt false t]] [] [] [] []
theorem lv_lit {P : Nat → Prop} {w : World} {g n : Nat} (cap : Nat) {cs : Array Value} {xs : List Value} {l : List Pt} {t : TypeId} (hg : w.heap[g]? = some (.cells cs t (0, 0))) (hP : P g) (he : cs = xs.toArray) (h : Cs P w xs l) (hn : l.length = n) (hm : n ≤ cap) : LV P w (.slice (some ⟨g, 0, none⟩) n cap) l :=
 .at g 0 n cap xs l hn hm hP (Array.getElem?_eq_some_iff.1 hg).1 (fun j u hu => by
   rw [Nat.zero_add, cell_of_row w g j cs t (0, 0) hg, he]
   simpa using hu) h
theorem sl_lit {α : Type} {P : Nat → Prop} {w : World} {C : List Value → List α → Prop} {g n : Nat} (cap : Nat) {cs : Array Value} {xs : List Value} {l : List α} {t : TypeId} (hg : w.heap[g]? = some (.cells cs t (0, 0))) (hP : P g) (he : cs = xs.toArray) (h : C xs l) (hn : l.length = n) (hm : n ≤ cap) : SL P w C (.slice (some ⟨g, 0, none⟩) n cap) l :=
 .at g 0 n cap xs l hn hm hP (Array.getElem?_eq_some_iff.1 hg).1 (fun j u hu => by
   rw [Nat.zero_add, cell_of_row w g j cs t (0, 0) hg, he]
   simpa using hu) h
theorem nl_lit {P : Nat → Prop} {w : World} {g n : Nat} (cap : Nat) {cs : Array Value} {xs : List Value} {l : List Nd} {t : TypeId} (hg : w.heap[g]? = some (.cells cs t (0, 0))) (hP : P g) (he : cs = xs.toArray) (h : NC P w xs l) (hn : l.length = n) (hm : n ≤ cap) : NL P w (.slice (some ⟨g, 0, none⟩) n cap) l :=
 .at g 0 n cap xs l hn hm hP (Array.getElem?_eq_some_iff.1 hg).1 (fun j u hu => by
   rw [Nat.zero_add, cell_of_row w g j cs t (0, 0) hg, he]
   simpa using hu) h
theorem sl_none {α : Type} {P : Nat → Prop} {w : World} {C : List Value → List α → Prop} : SL P w C (.slice none 0 0) [] := .nil _ _ (fun _ => rfl)
theorem nl_none {P : Nat → Prop} {w : World} : NL P w (.slice none 0 0) [] := .nil _ _ (fun _ => rfl)
set_option maxHeartbeats 2000000 in
set_option maxRecDepth 100000 in
theorem simple_lit (l : List UInt8) (w : World) : Calls Tryz.prog 30 #[.string (bs l)] w fun e w' => ∃ g, e = .returned (.agg #[.int .i64 0, .bool false, .string (bs []), .slice (some ⟨g, 0, none⟩) 1 1, .slice none 0 0, .slice none 0 0, .slice none 0 0, .slice none 0 0]) ∧ Kept (Parts (Nw w.heap.size) w' (.slice (some ⟨g, 0, none⟩) 1 1) (.slice none 0 0) (.slice none 0 0) (.slice none 0 0) [[txt false l]] [] [] []) ∧ Kept (Below w.heap.size w w') := by
 generalize hs : bs l = s
 have HS := Kept.mk hs
 clear hs
 go_enter Tryz.func30, Tryz.ntmps30
 go_wp2_with fail
 have h0 := heap_alloc_new w (.cells #[.int .i64 0, .bool false, .string ⟨#[]⟩, .slice (some ⟨w.heap.size + 1 + 1, 0, none⟩) 1 1, .slice none 0 0, .slice none 0 0, .slice none 0 0, .slice none 0 0] 31)
 have hb0 : Below w.heap.size w (w.alloc (.cells #[.int .i64 0, .bool false, .string ⟨#[]⟩, .slice (some ⟨w.heap.size + 1 + 1, 0, none⟩) 1 1, .slice none 0 0, .slice none 0 0, .slice none 0 0, .slice none 0 0] 31)) := (Below.refl _ _).alloc (Nat.le_refl _) _
 have hs0 : (w.alloc (.cells #[.int .i64 0, .bool false, .string ⟨#[]⟩, .slice (some ⟨w.heap.size + 1 + 1, 0, none⟩) 1 1, .slice none 0 0, .slice none 0 0, .slice none 0 0, .slice none 0 0] 31)).heap.size = w.heap.size + 1 := by simp
 generalize w.alloc (.cells #[.int .i64 0, .bool false, .string ⟨#[]⟩, .slice (some ⟨w.heap.size + 1 + 1, 0, none⟩) 1 1, .slice none 0 0, .slice none 0 0, .slice none 0 0, .slice none 0 0] 31) = w1 at *
 have h1 := heap_alloc_new w1 (.cells #[.int .i64 0, .bool false, .string s, .string ⟨#[]⟩, .string ⟨#[]⟩, .slice none 0 0] 101)
 have hb1 : Below w1.heap.size w1 (w1.alloc (.cells #[.int .i64 0, .bool false, .string s, .string ⟨#[]⟩, .string ⟨#[]⟩, .slice none 0 0] 101)) := (Below.refl _ _).alloc (Nat.le_refl _) _
 have hs1 : (w1.alloc (.cells #[.int .i64 0, .bool false, .string s, .string ⟨#[]⟩, .string ⟨#[]⟩, .slice none 0 0] 101)).heap.size = w1.heap.size + 1 := by simp
 generalize w1.alloc (.cells #[.int .i64 0, .bool false, .string s, .string ⟨#[]⟩, .string ⟨#[]⟩, .slice none 0 0] 101) = w2 at *
 have h2 := heap_alloc_new w2 (.cells #[.slice (some ⟨w.heap.size + 1, 0, none⟩) 1 1] 61)
 have hb2 : Below w2.heap.size w2 (w2.alloc (.cells #[.slice (some ⟨w.heap.size + 1, 0, none⟩) 1 1] 61)) := (Below.refl _ _).alloc (Nat.le_refl _) _
 generalize w2.alloc (.cells #[.slice (some ⟨w.heap.size + 1, 0, none⟩) 1 1] 61) = w3 at *
 have r0 : w3.heap[w.heap.size]? = some (.cells #[.int .i64 0, .bool false, .string ⟨#[]⟩, .slice (some ⟨w.heap.size + 1 + 1, 0, none⟩) 1 1, .slice none 0 0, .slice none 0 0, .slice none 0 0, .slice none 0 0] 31 (0, 0)) := (hb2.block _ (by omega)).trans ((hb1.block _ (by omega)).trans h0)
 have r1 : w3.heap[w.heap.size + 1]? = some (.cells #[.int .i64 0, .bool false, .string s, .string ⟨#[]⟩, .string ⟨#[]⟩, .slice none 0 0] 101 (0, 0)) := (hb2.block _ (by omega)).trans (by rw [← hs0]; exact h1)
 have r2 : w3.heap[w.heap.size + 1 + 1]? = some (.cells #[.slice (some ⟨w.heap.size + 1, 0, none⟩) 1 1] 61 (0, 0)) := by
   have e : w2.heap.size = w.heap.size + 1 + 1 := by omega
   rw [e] at h2
   exact h2
 refine bodyPost_ret (results_cell_row rfl _ _ w.heap.size _ _ (0, 0) _ rfl r0 Tryz.underlying31 rfl (by kernel_rfl)) rfl ?_
 refine ⟨_, rfl, ⟨⟨rfl, rfl, rfl, rfl, ?_, sl_none, sl_none, sl_none⟩⟩, ⟨(hb0.trans (hb1.mono (by omega))).trans (hb2.mono (by omega))⟩⟩
 refine sl_lit 1 r2 (show Nw w.heap.size (w.heap.size + 1 + 1) from by show w.heap.size ≤ _; omega) rfl (.cons _ _ _ _ rfl (lv_lit 1 r1 (show Nw w.heap.size (w.heap.size + 1) from by show w.heap.size ≤ _; omega) (by rw [← HS.out]; rfl) (Cs.cons 0 false l [] [] [] (.slice none 0 0) [] [] rfl (.nil _ _ (fun _ => rfl)) .nil) rfl (Nat.le_refl _)) .nil) rfl (Nat.le_refl _)
theorem Parts.keepB {P : Nat → Prop} {w w' : World} {vw va vr vo : Value} {ws : List (List Pt)} {gs rs : List (List UInt8 × List Pt)} {os : List (List UInt8)} (h : Parts P w vw va vr vo ws gs rs os) (hb : Below w.heap.size w w') : Parts P w' vw va vr vo ws gs rs os := h.same (fun g hP hg => ⟨hP, hb.block g hg⟩) hb.size
end Sy
end
end Go.Proofs.YtahjonfmhejoeaaGreatDoor
