/-
  Parts of the proof, merged.
-/
import Derived.BigCall
import Derived.Deep.LoopGhost
import Derived.IntWalk
import Derived.Lib.Bytealg
import Derived.Lib.IndexMore
import Derived.Lib.Strings
import Derived.LoopTactic
import Derived.Test.YtlggpefmojacoaaGreatDoorLa01
import Derived.Test.YtlggpefmojacoaaGreatDoorLa12
import Derived.Test.YtlggpefmojacoaaGreatDoorLa18
import Derived.Test.YtlggpefmojacoaaGreatDoorLa19
import Derived.Test.YtlggpefmojacoaaGreatDoorLa33
import Derived.Test.YtlggpefmojacoaaGreatDoorLa37
import Derived.WalkKit
namespace Go.Proofs.YtlggpefmojacoaaGreatDoor
section
open Tx
namespace Lx
def ahead (c : UInt8) (s : List UInt8) : Nat := (s.takeWhile (· ≠ c)).length
theorem ahead_le (c : UInt8) (s : List UInt8) : ahead c s ≤ s.length := (List.takeWhile_prefix _).length_le
theorem ahead_same (c : UInt8) (s : List UInt8) : ahead c (c :: s) = 0 := by simp [ahead]
theorem ahead_other {c b : UInt8} (h : b ≠ c) (s : List UInt8) : ahead c (b :: s) = ahead c s + 1 := by
 unfold ahead
 rw [List.takeWhile_cons, if_pos (by simpa using h)]
 rfl
theorem index_one (c : UInt8) (s : List UInt8) : Lib.index s [c] = if ahead c s < s.length then (ahead c s : Int) else -1 := by
 induction s with
 | nil => rfl
 | cons b s ih =>
   unfold Lib.index
   by_cases h : b = c
   · subst h
     rw [ahead_same, if_pos (by simp [List.isPrefixOf]), if_pos (by simp)]
     rfl
   · rw [ahead_other h, if_neg (by simpa [List.isPrefixOf] using fun e => h e.symm), ih, List.length_cons]
     by_cases h2 : ahead c s < s.length
     · rw [if_pos h2, if_neg (by simp), if_pos (by omega)]
       omega
     · rw [if_neg h2, if_pos (by simp), if_neg (by omega)]
theorem cut_len (c : UInt8) (s : List UInt8) : (Lib.cut s [c]).1.length = ahead c s := by
 have := ahead_le c s
 unfold Lib.cut
 rw [index_one]
 by_cases h : ahead c s < s.length
 · rw [if_pos h, if_pos (by omega)]
   simp; omega
 · rw [if_neg h, if_neg (by omega)]
   simp; omega
theorem quoted_is (s : List UInt8) : Lx.quoted s = if ahead 39 s < s.length then some (ahead 39 s + 1) else none := by
 induction s with
 | nil => rfl
 | cons b s ih =>
   unfold Lx.quoted
   by_cases h : b = 39
   · subst h
     rw [ahead_same, if_pos rfl, if_pos (by simp)]
   · rw [if_neg h, ahead_other h, ih, List.length_cons]
     by_cases h2 : ahead 39 s < s.length
     · rw [if_pos h2, if_pos (by omega)]; rfl
     · rw [if_neg h2, if_neg (by omega)]; rfl
end Lx
end
section
open Go.RowKit Tx
namespace Wx
open Lx
def opn2 (e : UInt8) : List UInt8 → Nat × UInt8
 | [] => (1, 0)
 | c :: r =>
   if c = 92 then (2, 0)
   else if c = 39 ∧ e ≠ 34 then (Lx.ahead 39 r + 2, 0)
   else if c = 34 then (1, 34)
   else if c = 36 ∧ r.head? = some 40 then (2, 41)
   else if c = 36 ∧ r.head? = some 123 then (2, 125)
   else if c = 40 ∧ e = 41 then (1, 41)
   else (1, 0)
theorem opn2_cons (e c : UInt8) (r : List UInt8) : opn2 e (c :: r) =
   if c = 92 then (2, 0)
   else if c = 39 ∧ e ≠ 34 then (Lx.ahead 39 r + 2, 0)
   else if c = 34 then (1, 34)
   else if c = 36 ∧ r.head? = some 40 then (2, 41)
   else if c = 36 ∧ r.head? = some 123 then (2, 125)
   else if c = 40 ∧ e = 41 then (1, 41)
   else (1, 0) := rfl
theorem unit_opn (d : Nat) (e c : UInt8) (r : List UInt8) : unit (d + 1) e (c :: r) =
   if (opn2 e (c :: r)).2 = 0 then (if (opn2 e (c :: r)).1 ≤ (c :: r).length then some (opn2 e (c :: r)).1 else none)
   else (nest d (opn2 e (c :: r)).2 ((c :: r).drop (opn2 e (c :: r)).1)).map ((opn2 e (c :: r)).1 + ·) := by
 have ht : r.tail = (c :: r).drop 2 := by cases r <;> rfl
 rw [unit_step, opn2_cons]
 by_cases h1 : c = 92
 · rw [if_pos h1, if_pos h1, if_pos rfl]
   cases r with
   | nil => rfl
   | cons y r => rw [if_neg (by simp), if_pos (by simp)]
 · rw [if_neg h1, if_neg h1]
   by_cases h2 : c = 39 ∧ e ≠ 34
   · rw [if_pos h2, if_pos h2, if_pos rfl, quoted_is]
     show Option.map _ (if Lx.ahead 39 r < r.length then _ else _) = if Lx.ahead 39 r + 2 ≤ r.length + 1 then some (Lx.ahead 39 r + 2) else none
     by_cases h3 : Lx.ahead 39 r < r.length
     · rw [if_pos h3, if_pos (by omega)]
       show some (1 + (Lx.ahead 39 r + 1)) = _
       congr 1; omega
     · rw [if_neg h3, if_neg (by omega)]; rfl
   · rw [if_neg h2, if_neg h2]
     by_cases h3 : c = 34
     · rw [if_pos h3, if_pos h3, if_neg (by decide)]; rfl
     · rw [if_neg h3, if_neg h3]
       by_cases h4 : c = 36 ∧ r.head? = some 40
       · rw [if_pos h4, if_pos h4, if_neg (by decide), ht]
       · rw [if_neg h4, if_neg h4]
         by_cases h5 : c = 36 ∧ r.head? = some 123
         · rw [if_pos h5, if_pos h5, if_neg (by decide), ht]
         · rw [if_neg h5, if_neg h5]
           by_cases h6 : c = 40 ∧ e = 41
           · rw [if_pos h6, if_pos h6, if_neg (by decide)]; rfl
           · rw [if_neg h6, if_neg h6, if_pos rfl, if_pos (by simp)]
theorem opn2_size (e c : UInt8) (r : List UInt8) : (opn2 e (c :: r)).1 ≤ r.length + 2 ∧ ((opn2 e (c :: r)).2 ≠ 0 → (opn2 e (c :: r)).1 ≤ r.length + 1) := by
 have h39 := ahead_le 39 r
 have hh : ∀ x, r.head? = some x → 1 ≤ r.length := fun x h => by cases r with
   | nil => cases h
   | cons y r => simp
 rw [opn2_cons]
 split
 · exact ⟨by omega, fun h => absurd rfl h⟩
 · split
   · exact ⟨by omega, fun h => absurd rfl h⟩
   · split
     · exact ⟨by omega, fun _ => by omega⟩
     · split
       · rename_i h; have := hh _ h.2; exact ⟨by omega, fun _ => by omega⟩
       · split
         · rename_i h; have := hh _ h.2; exact ⟨by omega, fun _ => by omega⟩
         · split
           · exact ⟨by omega, fun _ => by omega⟩
           · exact ⟨by omega, fun h => absurd rfl h⟩
def nestN (d : Nat) (x : UInt8) (l : List UInt8) (j : Nat) : Nat := ((nest d x (l.drop j)).map (j + ·)).getD 0
theorem nestN_end {d : Nat} {x : UInt8} {s : ByteArray} {j : Nat} (h : s.size ≤ j) : nestN d x (toL s) j = 0 := by unfold nestN; rw [drop_end h, nest_nil]; rfl
theorem nestN_close {d : Nat} {x : UInt8} {s : ByteArray} {j : Nat} (h : j < s.size) (hx : s[j]'h = x) : nestN d x (toL s) j = j + 1 := by unfold nestN; rw [drop_at h, hx, nest_end]; rfl
theorem nestN_bad {d : Nat} {x : UInt8} {s : ByteArray} {j : Nat} (h : j < s.size) (hx : s[j]'h ≠ x) (hu : unit d x ((toL s).drop j) = none) : nestN d x (toL s) j = 0 := by
 unfold nestN
 rw [drop_at h] at *
 rw [nest_bad hx hu]; rfl
theorem nestN_on {d : Nat} {x : UInt8} {s : ByteArray} {j k : Nat} (h : j < s.size) (hx : s[j]'h ≠ x) (hu : unit d x ((toL s).drop j) = some k) : nestN d x (toL s) j = nestN d x (toL s) (j + k) ∧ 1 ≤ k ∧ j + k ≤ s.size := by
 have h1 := unit_le _ hu
 rw [List.length_drop, toL_length] at h1
 refine ⟨?_, h1.1, by omega⟩
 unfold nestN
 rw [drop_at h] at hu ⊢
 rw [nest_on hx hu, ← drop_at h, List.drop_drop, Option.map_map]
 congr 2
 funext y
 show j + (k + y) = j + k + y
 omega
theorem toNat_ne {a b : UInt8} (h : a ≠ b) : ¬ ((a.toNat : Nat) : Int) = ((b.toNat : Nat) : Int) := fun e => h (UInt8.toNat_inj.1 (by omega))
theorem cut39 (s : ByteArray) (w : World) (hs : s.size ≤ 1500000) (hK : Kit w) :
   Calls Tryz.prog 181 #[.string s, .string ⟨#[39]⟩] w fun e w' => ∃ (a b : ByteArray) (t : Bool), e = .returned (.tuple #[.string a, .string b, .bool t]) ∧ Kept (a.size = Lx.ahead 39 (toL s)) ∧ Below w.heap.size w w' := by
 obtain ⟨m, hm⟩ := hK.max
 refine (Tryz.strings_Cut s ⟨#[39]⟩ m w (by omega) hm).mono ?_
 rintro e w' ⟨rfl, n, rfl⟩
 refine ⟨_, _, _, rfl, ⟨?_⟩, below_drewN (Below.refl _ _) n⟩
 rw [← cut_len]
 exact bs_size _
set_option maxHeartbeats 8000000 in
set_option maxRecDepth 100000 in
theorem opening_any (s : ByteArray) (e : UInt8) (w : World) (h0 : 0 < s.size) (hs : s.size ≤ 1500000) (hK : Kit w) (k : Nat) (x : UInt8) (hO : Kept (opn2 e (toL s) = (k, x))) :
   Calls Tryz.prog 175 #[.string s, .int .u8 (e.toNat : Int)] w fun e w' => e = .returned (.tuple #[.int .i64 (k : Int), .int .u8 (x.toNat : Int)]) ∧ Below w.heap.size w w' := by
 have hc := cons_at h0
 obtain ⟨c, hcc⟩ : ∃ c, s[0]'h0 = c := ⟨_, rfl⟩
 obtain ⟨r, hr⟩ : ∃ r, r = (toL s).drop 1 := ⟨_, rfl⟩
 rw [hcc, ← hr] at hc
 have h := hO.out
 clear hO
 rw [hc, opn2_cons] at h
 have HP : Kept (∀ W : World, Calls Tryz.prog 100 #[.string s, .string ⟨#[36, 40]⟩] W (fun e w' => e = .returned (.bool (decide (c = 36 ∧ r.head? = some 40))) ∧ w' = W) ∧ Calls Tryz.prog 100 #[.string s, .string ⟨#[36, 123]⟩] W (fun e w' => e = .returned (.bool (decide (c = 36 ∧ r.head? = some 123))) ∧ w' = W)) := ⟨fun W => by
   have hd : ∀ z, decide (c = 36 ∧ r.head? = some z) = [36, z].isPrefixOf (toL s) := fun z => by
     rw [hc, prefix_two]
     by_cases h : c = 36
     · subst h; simp
     · have : ((36 : UInt8) == c) = false := by simpa using fun e => h e.symm
       rw [this, decide_eq_false (fun e => h e.1)]; rfl
   exact ⟨prefix_any s [36, 40] W _ (hd 40), prefix_any s [36, 123] W _ (hd 123)⟩⟩
 have T1 : Kept True := ⟨trivial⟩
 have HX : Kept (∀ Z : ByteArray, Z = s.extract 1 s.size → toL Z = r ∧ Z.size ≤ 1500000) := ⟨by
   rintro Z rfl
   exact ⟨by rw [toL_rest, hr], by rw [size_rest]; omega⟩⟩
 have HK := Kept.mk hK
 have hsl : ∀ W : World, (Instr.slice 9 (.string s) (some (.int .i64 1)) none none).run Tryz.prog W = .ok (.string (s.extract 1 s.size)) W := fun W => str_from (k := 1) (by omega) (by omega) W
 have h39 : Lx.ahead 39 r ≤ 1500000 := by
   have := ahead_le 39 r
   have h2 := congrArg List.length hr
   rw [List.length_drop, toL_length] at h2
   omega
 generalize hZ : s.extract 1 s.size = Z at *
 have HZ := Kept.mk (HX.out Z rfl)
 clear HX hK hZ
 by_cases e92 : c = 92
 · rw [if_pos e92] at h
   have z92 : ((s[0]'h0).toNat : Int) = 92 := by rw [hcc, e92]; rfl
   clear HP T1 h39 e92
   obtain ⟨rfl, rfl⟩ := Prod.mk.inj h
   clear h hcc hc hr
   go_enter Tryz.func175, Tryz.ntmps175
   go_wp2_with fail
   go_ret2
   exact ⟨rfl, Below.refl _ _⟩
 rw [if_neg e92] at h
 have z92 : ¬ ((s[0]'h0).toNat : Int) = 92 := by rw [hcc]; exact toNat_ne (b := 92) e92
 by_cases e39 : c = 39
 · by_cases e34 : e = 34
   · rw [if_neg (fun h => h.2 e34), if_neg (by rw [e39]; decide), if_neg (fun h => absurd (e39.symm.trans h.1) (by decide)), if_neg (fun h => absurd (e39.symm.trans h.1) (by decide)), if_neg (fun h => absurd (e39.symm.trans h.1) (by decide))] at h
     have z39 : ((s[0]'h0).toNat : Int) = 39 := by rw [hcc, e39]; rfl
     subst e34
     have q1 : decide (c = 36 ∧ r.head? = some 40) = false := decide_eq_false (fun h => absurd (e39.symm.trans h.1) (by decide))
     have q2 : decide (c = 36 ∧ r.head? = some 123) = false := decide_eq_false (fun h => absurd (e39.symm.trans h.1) (by decide))
     rw [q1, q2] at HP
     clear q1 q2 h39 e92 e39
     obtain ⟨rfl, rfl⟩ := Prod.mk.inj h
     clear h hcc hc hr
     go_enter Tryz.func175, Tryz.ntmps175
     go_wp2_with (first | (go_at_call 100; have := T1; refine (HP.out _).1.mono ?_; rintro e1 w1 ⟨rfl, rfl⟩; clear T1 this) | (go_at_call 100; refine (HP.out _).2.mono ?_; rintro e1 w1 ⟨rfl, rfl⟩))
     go_ret2
     exact ⟨rfl, Below.refl _ _⟩
   · rw [if_pos ⟨e39, e34⟩] at h
     have z39 : ((s[0]'h0).toNat : Int) = 39 := by rw [hcc, e39]; rfl
     have y34 : ¬ (e.toNat : Int) = 34 := toNat_ne (b := 34) e34
     have y35 : ((e.toNat : Int) != 34) = true := by simpa using y34
     clear HP T1 e92 e39 e34
     obtain ⟨rfl, rfl⟩ := Prod.mk.inj h
     clear h hcc hc hr
     go_enter Tryz.func175, Tryz.ntmps175
     go_wp2_with (go_at_call 181; refine (cut39 Z w HZ.out.2 HK.out).mono ?_; rintro e1 w1 ⟨a, b, t, rfl, ha, hb⟩; have HB := Kept.mk hb; have HA := ha; have ha2 : a.size ≤ 1500000 := (by rw [ha.out, HZ.out.1]; exact h39); clear hb ha h39)
     go_ret2
     refine ⟨?_, HB.out⟩
     rw [HA.out, HZ.out.1]; rfl
 rw [if_neg (fun h => e39 h.1)] at h
 have z39 : ¬ ((s[0]'h0).toNat : Int) = 39 := by rw [hcc]; exact toNat_ne (b := 39) e39
 by_cases e34 : c = 34
 · rw [if_pos e34] at h
   have z34 : ((s[0]'h0).toNat : Int) = 34 := by rw [hcc, e34]; rfl
   clear HP T1 h39 e92 e39 e34
   obtain ⟨rfl, rfl⟩ := Prod.mk.inj h
   clear h hcc hc hr
   go_enter Tryz.func175, Tryz.ntmps175
   go_wp2_with fail
   go_ret2
   exact ⟨rfl, Below.refl _ _⟩
 rw [if_neg e34] at h
 have z34 : ¬ ((s[0]'h0).toNat : Int) = 34 := by rw [hcc]; exact toNat_ne (b := 34) e34
 by_cases e36 : c = 36 ∧ r.head? = some 40
 · rw [if_pos e36] at h
   rw [decide_eq_true e36] at HP
   clear h39 e92 e39 e34 e36 T1
   obtain ⟨rfl, rfl⟩ := Prod.mk.inj h
   clear h hcc hc hr
   go_enter Tryz.func175, Tryz.ntmps175
   go_wp2_with (go_at_call 100; refine (HP.out _).1.mono ?_; rintro e1 w1 ⟨rfl, rfl⟩)
   go_ret2
   exact ⟨rfl, Below.refl _ _⟩
 rw [if_neg e36] at h
 rw [decide_eq_false e36] at HP
 by_cases e37 : c = 36 ∧ r.head? = some 123
 · rw [if_pos e37] at h
   rw [decide_eq_true e37] at HP
   clear h39 e92 e39 e34 e36 e37
   obtain ⟨rfl, rfl⟩ := Prod.mk.inj h
   clear h hcc hc hr
   go_enter Tryz.func175, Tryz.ntmps175
   go_wp2_with (first | (go_at_call 100; have := T1; refine (HP.out _).1.mono ?_; rintro e1 w1 ⟨rfl, rfl⟩; clear T1 this) | (go_at_call 100; refine (HP.out _).2.mono ?_; rintro e1 w1 ⟨rfl, rfl⟩))
   go_ret2
   exact ⟨rfl, Below.refl _ _⟩
 rw [if_neg e37] at h
 rw [decide_eq_false e37] at HP
 by_cases e40 : c = 40
 · have z40 : ((s[0]'h0).toNat : Int) = 40 := by rw [hcc, e40]; rfl
   by_cases e41 : e = 41
   · rw [if_pos ⟨e40, e41⟩] at h
     subst e41
     clear h39 e92 e39 e34 e36 e37 e40
     obtain ⟨rfl, rfl⟩ := Prod.mk.inj h
     clear h hcc hc hr
     go_enter Tryz.func175, Tryz.ntmps175
     go_wp2_with (first | (go_at_call 100; have := T1; refine (HP.out _).1.mono ?_; rintro e1 w1 ⟨rfl, rfl⟩; clear T1 this) | (go_at_call 100; refine (HP.out _).2.mono ?_; rintro e1 w1 ⟨rfl, rfl⟩))
     go_ret2
     exact ⟨rfl, Below.refl _ _⟩
   · rw [if_neg (fun h => e41 h.2)] at h
     have y41 : ¬ (e.toNat : Int) = 41 := toNat_ne (b := 41) e41
     have y42 : ((e.toNat : Int) == 41) = false := by simpa using y41
     clear h39 e92 e39 e34 e36 e37 e40 e41
     obtain ⟨rfl, rfl⟩ := Prod.mk.inj h
     clear h hcc hc hr
     go_enter Tryz.func175, Tryz.ntmps175
     go_wp2_with (first | (go_at_call 100; have := T1; refine (HP.out _).1.mono ?_; rintro e1 w1 ⟨rfl, rfl⟩; clear T1 this) | (go_at_call 100; refine (HP.out _).2.mono ?_; rintro e1 w1 ⟨rfl, rfl⟩))
     go_ret2
     exact ⟨rfl, Below.refl _ _⟩
 · have z40 : ¬ ((s[0]'h0).toNat : Int) = 40 := by rw [hcc]; exact toNat_ne (b := 40) e40
   rw [if_neg (fun h => e40 h.1)] at h
   clear h39 e92 e39 e34 e36 e37 e40
   obtain ⟨rfl, rfl⟩ := Prod.mk.inj h
   clear h hcc hc hr
   go_enter Tryz.func175, Tryz.ntmps175
   go_wp2_with (first | (go_at_call 100; have := T1; refine (HP.out _).1.mono ?_; rintro e1 w1 ⟨rfl, rfl⟩; clear T1 this) | (go_at_call 100; refine (HP.out _).2.mono ?_; rintro e1 w1 ⟨rfl, rfl⟩))
   go_ret2
   exact ⟨rfl, Below.refl _ _⟩
end Wx
end
section
open Go.RowKit Tx
namespace Wx
open Lx
def parenP (q : Bool) (u : List UInt8) : Pt :=
 if 4 < u.length ∧ u[2]? = some 40 ∧ u[u.length - 2]? = some 41 then .mk 3 q ((u.take (u.length - 2)).drop 3) [] [] []
 else .mk 2 q ((u.take (u.length - 1)).drop 2) [] [] []
theorem prefix_par (r : List UInt8) : [36, 40, 40].isPrefixOf (36 :: 40 :: r) = decide (r.head? = some 40) := by
 cases r with
 | nil => rfl
 | cons y r =>
   by_cases h : y = 40
   · subst h; simp [List.isPrefixOf]
   · have : ((40 : UInt8) == y) = false := by simpa using fun e => h e.symm
     simp [List.isPrefixOf, h, this]
theorem suffix_par (x : List UInt8) (y : UInt8) : [41, 41].isSuffixOf (x ++ [y, 41]) = decide (y = 41) := by
 show [41, 41].reverse.isPrefixOf (x ++ [y, 41]).reverse = _
 rw [List.reverse_append]
 by_cases h : y = 41
 · subst h; simp [List.isPrefixOf]
 · have : ((41 : UInt8) == y) = false := by simpa using fun e => h e.symm
   simp [List.isPrefixOf, h, this]
theorem prefixB (s : ByteArray) (o : ByteArray) (w : World) (t : Bool) (ht : t = (toL o).isPrefixOf (toL s)) : Calls Tryz.prog 100 #[.string s, .string o] w fun e w' => e = .returned (.bool t) ∧ w' = w := by
 refine (Tryz.strings_HasPrefix s o w).mono ?_
 rintro e w' ⟨rfl, rfl⟩
 exact ⟨by rw [ht]; rfl, rfl⟩
theorem suffixB (s : ByteArray) (o : ByteArray) (w : World) (hs : s.size ≤ 1500000) (t : Bool) (ht : t = (toL o).isSuffixOf (toL s)) : Calls Tryz.prog 173 #[.string s, .string o] w fun e w' => e = .returned (.bool t) ∧ w' = w := by
 refine (Tryz.strings_HasSuffix s o w (by omega)).mono ?_
 rintro e w' ⟨rfl, rfl⟩
 exact ⟨by rw [ht]; rfl, rfl⟩
set_option maxHeartbeats 2000000 in
set_option maxRecDepth 100000 in
theorem addPlain_any (w : World) (b : Nat) (dep : Int) (acc : List Pt) (pv tv : Value) (kk : Int) (q : Bool) (tt nn : List UInt8) (hS : Kept (St w b dep acc pv tv)) (hk : kk ≠ 0) (hwt : wt acc ≤ 27000000) (tS nS : ByteArray) (ht : tS = bs tt) (hn : nS = bs nn) :
   Calls Tryz.prog 164 #[.pointer (some ⟨b, 0, none⟩), .agg #[.int .i64 kk, .bool q, .string tS, .string nS, .string ⟨#[]⟩, .slice none 0 0]] w fun e w' => e = .returned (.tuple #[]) ∧ ∃ pv' tv', Kept (St w' b dep (add acc (.mk kk q tt nn [] [])) pv' tv') ∧ Kept (Fr b pv tv pv' tv' w w') := by
 subst ht hn
 exact addPart_any w w b dep acc pv tv kk q tt nn [] [] none 0 0 hS (Below.refl _ _) hk (LV.empty _ _) hwt _ ⟨rfl⟩
theorem str_cut {s : ByteArray} {i j : Nat} (h1 : i ≤ j) (h2 : j ≤ s.size) (_hs : s.size ≤ 6000000) (W : World) : (Instr.slice 9 (.string s) (some (.int .i64 (i : Int))) (some (.int .i64 (j : Int))) none).run Tryz.prog W = .ok (.string (s.extract i j)) W := by
 rw [run_slice_string_if W 9 s .i64 .i64 _ _ Tryz.underlying9, if_pos ⟨by omega, by omega⟩, if_pos ⟨by omega, by omega⟩, Int.toNat_natCast, Int.toNat_natCast]
theorem toL_cut (s : ByteArray) (i j : Nat) : toL (s.extract i j) = ((toL s).take j).drop i := by
 rw [toL_extract, List.drop_take]
set_option maxHeartbeats 600000 in
set_option maxRecDepth 100000 in
theorem parens_any (u : ByteArray) (q : Bool) (w : World) (b : Nat) (dep : Int) (acc : List Pt) (pv tv : Value) (a : List UInt8) (hu : toL u = 36 :: 40 :: (a ++ [41])) (hs : u.size ≤ 1500000) (hw : wt acc ≤ 27000000) (HS : Kept (St w b dep acc pv tv)) (p : Pt) (hp : Kept (p = parenP q (toL u))) :
   Calls Tryz.prog 162 #[.pointer (some ⟨b, 0, none⟩), .string u, .bool q] w fun e w' => e = .returned (.tuple #[]) ∧ ∃ pv' tv', Kept (St w' b dep (add acc p) pv' tv') ∧ Kept (Fr b pv tv pv' tv' w w') := by
 have hul : u.size = a.length + 3 := by rw [← toL_length, hu]; simp
 have hp := hp.out
 unfold parenP at hp
 rw [toL_length] at hp
 obtain ⟨C, hC⟩ : ∃ C, C = u.extract 2 (u.size - 1) := ⟨_, rfl⟩
 have hCb : bs (((toL u).take (u.size - 1)).drop 2) = C := by rw [hC, ← toL_cut, bs_toL]
 have hCs : ∀ W : World, (Instr.slice 9 (.string u) (some (.int .i64 2)) (some (.int .i64 ((u.size : Int) - 1))) none).run Tryz.prog W = .ok (.string C) W := fun W => by
   have := str_cut (s := u) (i := 2) (j := u.size - 1) (by omega) (by omega) (by omega) W
   rw [show ((u.size - 1 : Nat) : Int) = (u.size : Int) - 1 by omega] at this
   rw [hC]; exact this
 have hwr : IntKind.i64.wrap ((u.size : Int) - 1) = (u.size : Int) - 1 := IntWalk.i64_in _ (by omega)
 have hwr2 : IntKind.i64.wrap ((u.size : Int) - 2) = (u.size : Int) - 2 := IntWalk.i64_in _ (by omega)
 have h3 : 3 ≤ u.size := by omega
 by_cases h5 : 5 ≤ u.size
 · have z5 : (5 : Int) ≤ (u.size : Int) := by omega
   obtain ⟨a', y, ha⟩ : ∃ a' y, a = a' ++ [y] := by
     rcases List.eq_nil_or_concat a with rfl | ⟨y, z, h⟩
     · simp at hul; omega
     · exact ⟨y, z, by rw [h, List.concat_eq_append]⟩
   have ha' : a'.length + 4 = u.size := by rw [hul, ha]; simp
   have e2 : (toL u)[2]? = a.head? := by
     rw [hu]
     cases a with
     | nil => simp at hul; omega
     | cons x r => rfl
   have ey : (toL u)[u.size - 2]? = some y := by
     rw [hu, ha, show u.size - 2 = a'.length + 2 by omega]
     simp
   have hPre := fun W => prefixB u ⟨#[36, 40, 40]⟩ W (decide (a.head? = some 40)) (by
     show _ = [36, 40, 40].isPrefixOf (toL u)
     rw [hu, prefix_par]
     have : (a ++ [41]).head? = a.head? := by rw [ha]; cases a' <;> simp
     rw [this])
   have hSuf := fun W => suffixB u ⟨#[41, 41]⟩ W hs (decide (y = 41)) (by
     show _ = [41, 41].isSuffixOf (toL u)
     have : toL u = (36 :: 40 :: a') ++ [y, 41] := by rw [hu, ha]; simp
     rw [this, suffix_par])
   rw [e2, ey] at hp
   have HPre := Kept.mk hPre
   have HSuf := Kept.mk hSuf
   clear hPre hSuf e2 ey ha ha' hul hu
   by_cases h40 : a.head? = some 40
   · rw [decide_eq_true h40] at HPre
     by_cases h41 : y = 41
     · rw [if_pos ⟨by omega, h40, by rw [h41]⟩] at hp
       rw [decide_eq_true h41] at HSuf
       subst hp
       obtain ⟨D, hD⟩ : ∃ D, D = u.extract 3 (u.size - 2) := ⟨_, rfl⟩
       have hDb : bs (((toL u).take (u.size - 2)).drop 3) = D := by rw [hD, ← toL_cut, bs_toL]
       have hDs : ∀ W : World, (Instr.slice 9 (.string u) (some (.int .i64 3)) (some (.int .i64 ((u.size : Int) - 2))) none).run Tryz.prog W = .ok (.string D) W := fun W => by
         have := str_cut (s := u) (i := 3) (j := u.size - 2) (by omega) (by omega) (by omega) W
         rw [show ((u.size - 2 : Nat) : Int) = (u.size : Int) - 2 by omega] at this
         rw [hD]; exact this
       have HA := Kept.mk (addPlain_any w b dep acc pv tv 3 q (((toL u).take (u.size - 2)).drop 3) [] HS (by decide) hw D ⟨#[]⟩ hDb.symm rfl)
       clear hD hDb hC hCb hCs h40 h41
       go_enter Tryz.func162, Tryz.ntmps162
       go_wp2_with (first
         | (go_at_call 100; refine (HPre.out _).mono ?_; rintro e1 w1 ⟨rfl, rfl⟩)
         | (go_at_call 173; refine (HSuf.out _).mono ?_; rintro e1 w1 ⟨rfl, rfl⟩))
       go_at_call 164
       refine HA.out.mono ?_
       rintro e1 w1 ⟨rfl, pv2, tv2, HS2, HF2⟩
       go_wp2_with fail
       refine bodyPost_end (results_none rfl _ _ _) rfl ?_
       exact ⟨rfl, pv2, tv2, HS2, HF2⟩
     · rw [if_neg (fun h => h41 (Option.some.inj h.2.2))] at hp
       rw [decide_eq_false h41] at HSuf
       subst hp
       have HA := Kept.mk (addPlain_any w b dep acc pv tv 2 q (((toL u).take (u.size - 1)).drop 2) [] HS (by decide) hw C ⟨#[]⟩ hCb.symm rfl)
       clear hC hCb h40 h41
       go_enter Tryz.func162, Tryz.ntmps162
       go_wp2_with (first
         | (go_at_call 100; refine (HPre.out _).mono ?_; rintro e1 w1 ⟨rfl, rfl⟩)
         | (go_at_call 173; refine (HSuf.out _).mono ?_; rintro e1 w1 ⟨rfl, rfl⟩))
       go_at_call 164
       refine HA.out.mono ?_
       rintro e1 w1 ⟨rfl, pv2, tv2, HS2, HF2⟩
       go_wp2_with fail
       refine bodyPost_end (results_none rfl _ _ _) rfl ?_
       exact ⟨rfl, pv2, tv2, HS2, HF2⟩
   · rw [if_neg (fun h => h40 h.2.1)] at hp
     rw [decide_eq_false h40] at HPre
     subst hp
     have HA := Kept.mk (addPlain_any w b dep acc pv tv 2 q (((toL u).take (u.size - 1)).drop 2) [] HS (by decide) hw C ⟨#[]⟩ hCb.symm rfl)
     clear hC hCb h40 HSuf
     go_enter Tryz.func162, Tryz.ntmps162
     go_wp2_with (go_at_call 100; refine (HPre.out _).mono ?_; rintro e1 w1 ⟨rfl, rfl⟩)
     go_at_call 164
     refine HA.out.mono ?_
     rintro e1 w1 ⟨rfl, pv2, tv2, HS2, HF2⟩
     go_wp2_with fail
     refine bodyPost_end (results_none rfl _ _ _) rfl ?_
     exact ⟨rfl, pv2, tv2, HS2, HF2⟩
 · rw [if_neg (by omega)] at hp
   have z5 : ¬ (5 : Int) ≤ (u.size : Int) := by omega
   have z2 : (2 : Int) ≤ (u.size : Int) - 1 := by omega
   subst hp
   have HA := Kept.mk (addPlain_any w b dep acc pv tv 2 q (((toL u).take (u.size - 1)).drop 2) [] HS (by decide) hw C ⟨#[]⟩ hCb.symm rfl)
   clear hC hCb hu hul
   go_enter Tryz.func162, Tryz.ntmps162
   go_wp2_with fail
   go_at_call 164
   refine HA.out.mono ?_
   rintro e1 w1 ⟨rfl, pv2, tv2, HS2, HF2⟩
   go_wp2_with fail
   refine bodyPost_end (results_none rfl _ _ _) rfl ?_
   exact ⟨rfl, pv2, tv2, HS2, HF2⟩
end Wx
end
section
open Go.RowKit Tx
namespace Wx
open Lx
def UnitW (d : Nat) : Prop := ∀ (s : ByteArray) (e : UInt8) (w : World) (nn m : Int) (n : Nat), nn + d = 31 → m = (e.toNat : Int) → 0 < s.size → s.size ≤ 1500000 → Kit w → Kept (n = (unit d e (toL s)).getD 0) →
 Calls Tryz.prog 166 #[.string s, .int .i64 nn, .int .u8 m] w fun e w' => e = .returned (.int .i64 (n : Int)) ∧ Below w.heap.size w w'
theorem unitW_zero : UnitW 0 := by
 intro s e w nn m n hn hm h0 hs hK HN
 obtain rfl : n = 0 := HN.out
 obtain rfl : nn = 31 := by omega
 subst hm
 clear HN hn h0 hs hK
 go_enter Tryz.func166, Tryz.ntmps166
 go_wp2
 go_ret
 exact ⟨rfl, Below.refl _ _⟩
set_option maxHeartbeats 2000000 in
set_option maxRecDepth 100000 in
theorem unitW_next (d : Nat) (hd : d ≤ 30) (HU : Kept (UnitW d)) : UnitW (d + 1) := by
 intro s e w nn m n hn hm h0 hs hK HN
 subst hm
 have hc := cons_at h0
 obtain ⟨k, x, hkx⟩ : ∃ k x, opn2 e (toL s) = (k, x) := ⟨_, _, rfl⟩
 have HOp := Kept.mk (opening_any s e w h0 hs hK k x ⟨hkx⟩)
 have hsz := opn2_size e (s[0]'h0) ((toL s).drop 1)
 have hun := unit_opn d e (s[0]'h0) ((toL s).drop 1)
 rw [← hc, hkx] at hsz hun
 rw [List.length_drop, toL_length] at hsz
 rw [toL_length] at hun
 have HN := HN.out
 rw [hun] at HN
 simp only [] at HN hsz
 have hnn : nn ≤ 30 := by omega
 have hnm : 0 ≤ nn := by omega
 have HNn := Kept.mk hn
 have HK := Kept.mk hK
 obtain ⟨xi, hxi⟩ : ∃ xi : Int, xi = (x.toNat : Int) := ⟨_, rfl⟩
 rw [← hxi] at HOp
 have hk5 : k ≤ 1500300 := by omega
 clear hc hkx hun hn hK hd
 by_cases hx : x = 0
 · rw [if_pos hx] at HN
   obtain rfl : xi = 0 := by rw [hxi, hx]; rfl
   clear hxi hx
   by_cases hk : k ≤ s.size
   · rw [if_pos hk] at HN
     obtain rfl : n = k := HN
     clear hsz HU
     go_enter Tryz.func166, Tryz.ntmps166
     go_wp2_with (go_at_call 175; refine HOp.out.mono ?_; rintro e1 w1 ⟨rfl, hb⟩; have HB := Kept.mk hb; clear hb)
     go_ret
     exact ⟨rfl, HB.out⟩
   · rw [if_neg hk] at HN
     obtain rfl : n = 0 := HN
     clear hsz HU
     go_enter Tryz.func166, Tryz.ntmps166
     go_wp2_with (go_at_call 175; refine HOp.out.mono ?_; rintro e1 w1 ⟨rfl, hb⟩; have HB := Kept.mk hb; clear hb)
     go_ret
     exact ⟨rfl, HB.out⟩
 · rw [if_neg hx] at HN
   have hk := hsz.2 hx
   have hxz : ¬ xi = 0 := by rw [hxi]; exact toNat_ne (b := 0) hx
   have HX := Kept.mk hxi
   have HR : Kept (n = nestN d x (toL s) k) := ⟨HN⟩
   have hks : k ≤ s.size := by omega
   clear hsz hxi hx HN hk
   go_enter Tryz.func166, Tryz.ntmps166
   go_wp2_with (go_at_call 175; refine HOp.out.mono ?_; rintro e1 w1 ⟨rfl, hb⟩; have HB := Kept.mk hb; clear hb)
   simp only [show (xi == 0) = false from by simpa using hxz]
   go_loopg [7] s.size (fun m sv wr => ∃ j : Nat, sv = .int .i64 (j : Int) ∧ j ≤ s.size ∧ s.size - j ≤ m ∧ Kept (n = nestN d x (toL s) j) ∧ Kept (Below w.heap.size w wr))
   case atStart => exact ⟨k, rfl, hks, by omega, HR, HB⟩
   case round =>
     obtain ⟨j, rfl, hj, hjm, HE, HBr⟩ := hrel
     have hj5 : (j : Int) ≤ 1500000 := by omega
     by_cases hlt : j < s.size
     · have hlt2 : (j : Int) < (s.size : Int) := by omega
       by_cases hcx : s[j]'hlt = x
       · have HF : Kept (n = j + 1) := ⟨by rw [HE.out, nestN_close hlt hcx]⟩
         have t0 : ((s[j]'hlt).toNat : Int) = xi := by rw [hcx, HX.out]
         have hne : ¬ (j : Int) = (s.size : Int) := by omega
         clear hcx HE hjm HU
         go_wp2_with fail
         go_ret
         exact ⟨by rw [HF.out]; rfl, HBr.out⟩
       · have t0 : ¬ ((s[j]'hlt).toNat : Int) = xi := by rw [HX.out]; exact toNat_ne hcx
         have t1 : (((s[j]'hlt).toNat : Int) != xi) = true := by simpa using t0
         have t2 : (((s[j]'hlt).toNat : Int) == xi) = false := by simpa using t0
         obtain ⟨Z, hZ⟩ : ∃ Z, Z = s.extract j s.size := ⟨_, rfl⟩
         have hsl : ∀ W : World, (Instr.slice 9 (.string s) (some (.int .i64 (j : Int))) none none).run Tryz.prog W = .ok (.string Z) W := fun W => by rw [hZ]; exact str_from (by omega) (by omega) W
         have hZl : toL Z = (toL s).drop j := by rw [hZ]; exact toL_rest s j
         have hZs : Z.size = s.size - j := by rw [hZ]; exact size_rest s j
         have HKr : Kept (Kit wr) := ⟨HK.out.below HBr.out⟩
         obtain ⟨i, hi⟩ : ∃ i, i = (unit d x (toL Z)).getD 0 := ⟨_, rfl⟩
         have HC := Kept.mk (HU.out Z x wr (nn + 1) xi i (by have := HNn.out; omega) HX.out (by omega) (by omega) HKr.out ⟨hi⟩)
         cases hu : unit d x ((toL s).drop j) with
         | none =>
           have HF : Kept (n = 0) := ⟨by rw [HE.out, nestN_bad hlt hcx hu]⟩
           rw [hZl, hu] at hi
           obtain rfl : i = 0 := hi
           clear hcx HE hjm HU hZ hZl hZs hu
           go_wp2_with (go_at_call 166; refine HC.out.mono ?_; rintro e1 w2 ⟨rfl, hb⟩; have HB2 : Kept (Below w.heap.size w w2) := ⟨HBr.out.trans (hb.mono HBr.out.size)⟩; clear hb)
           go_ret
           exact ⟨by rw [HF.out]; rfl, HB2.out⟩
         | some i' =>
           rw [hZl, hu] at hi
           obtain rfl : i = i' := hi
           obtain ⟨h1, h2, h3⟩ := nestN_on hlt hcx hu
           have HE2 : Kept (n = nestN d x (toL s) (j + i)) := ⟨by rw [HE.out, h1]⟩
           have hi0 : ¬ (i : Int) = 0 := by omega
           have hi5 : (i : Int) ≤ 1500000 := by omega
           have HJ : Kept (j + i ≤ s.size ∧ 1 ≤ i) := ⟨h3, h2⟩
           have hsum : (j : Int) + (i : Int) ≤ 1500000 := by omega
           clear hcx HE HU hZ hZl hZs hu h1 h2 h3
           go_wp2_with (go_at_call 166; refine HC.out.mono ?_; rintro e1 w2 ⟨rfl, hb⟩; have HB2 : Kept (Below w.heap.size w w2) := ⟨HBr.out.trans (hb.mono HBr.out.size)⟩; clear hb)
           go_roundg (s.size - (j + i))
           case measure => have := HJ.out; omega
           case rel => exact ⟨j + i, by go_num, by have := HJ.out; omega, by omega, HE2, HB2⟩
     · obtain rfl : j = s.size := by omega
       have HF : Kept (n = 0) := ⟨by rw [HE.out, nestN_end (Nat.le_refl _)]⟩
       clear hlt HE HU
       go_wp2_with fail
       go_ret
       exact ⟨by rw [HF.out]; rfl, HBr.out⟩
theorem unitW_any : ∀ d, d ≤ 30 → UnitW d
 | 0, _ => unitW_zero
 | d + 1, h => unitW_next d (by omega) ⟨unitW_any d (by omega)⟩
theorem unitLength_any (s : ByteArray) (w : World) (h0 : 0 < s.size) (hs : s.size ≤ 1500000) (hK : Kit w) (n : Nat) (hn : n = (unit 30 0 (toL s)).getD 0) :
   Calls Tryz.prog 159 #[.string s] w fun e w' => e = .returned (.int .i64 (n : Int)) ∧ Below w.heap.size w w' := by
 have H := Kept.mk (unitW_any 30 (Nat.le_refl _) s 0 w 1 0 n (by omega) rfl h0 hs hK ⟨hn⟩)
 clear hn h0 hs hK
 go_enter Tryz.func159, Tryz.ntmps159
 go_wp2_with (go_at_call 166; refine H.out.mono ?_; rintro e1 w1 ⟨rfl, hb⟩; have HB := Kept.mk hb; clear hb)
 go_ret
 exact ⟨rfl, HB.out⟩
end Wx
end
end Go.Proofs.YtlggpefmojacoaaGreatDoor
