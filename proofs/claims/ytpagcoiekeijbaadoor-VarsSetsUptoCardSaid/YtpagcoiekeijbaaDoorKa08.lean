/-
  Parts of the proof, merged.
-/
import Derived.Test.YtpagcoiekeijbaaDoorKa05
import Derived.Test.YtpagcoiekeijbaaDoorKa07
namespace Go.Proofs.YtpagcoiekeijbaaDoor
section
open Go.RowKit Tx
namespace Va
def outL : Except Int (List Vr) → List Vr
 | .ok l => l
 | .error _ => []
def outE : Except Int (List Vr) → Int
 | .ok _ => 0
 | .error e => e
def SEnd (w : World) (r : Except Int (List Vr)) (e : Ending) (w' : World) : Prop :=
 ∃ A n k, e = .returned (.tuple #[.slice A n k, .int .i64 (outE r)]) ∧ n = (outL r).length ∧ Kept (VS w' A k (outL r)) ∧ Below w.heap.size w w'
theorem put_cut (l : List Vr) (n : ByteArray) (m : List Vr) : put l n m = l.take (pos l n) ++ m ++ l.drop (pos l n + if found l n then 1 else 0) := rfl
structure Cut (l : List Vr) (ln p q : Nat) (n : ByteArray) (b : Bool) : Prop where
 len : l.length = ln
 pos : pos l n = p
 fnd : found l n = b
 qq : q = p + if b then 1 else 0
 le : q ≤ ln
theorem Cut.of (l : List Vr) (n : ByteArray) : Cut l l.length (Va.pos l n) (Va.pos l n + if found l n then 1 else 0) n (found l n) :=
 ⟨rfl, rfl, rfl, rfl, by
   have := pos_le l n
   cases h : found l n with
   | true => have := found_lt h; simp; omega
   | false => simpa using this⟩
set_option maxHeartbeats 1000000 in
set_option maxRecDepth 100000 in
theorem refPut_any (l : List Vr) (A : Option Addr) (ln k : Nat) (v : Vr) (w : World) (hV : VS w A k l) (hn : l.length = ln) (hl : ln ≤ 100000) :
   Calls Tryd.prog 29 #[.slice A ln k, .agg #[.string v.name, .string v.value, .bool v.ex, .bool v.ro]] w fun e w' => ∃ A2 n2 k2, e = .returned (.slice A2 n2 k2) ∧ Kept (VO w' w.heap.size (.slice A2 n2 k2) (put l v.name [v])) ∧ n2 = (put l v.name [v]).length ∧ Below w.heap.size w w' := by
 have HC := Kept.mk (Cut.of l v.name)
 rw [hn] at HC
 obtain ⟨p, hp⟩ : ∃ p, p = pos l v.name := ⟨_, rfl⟩
 obtain ⟨b, hb⟩ : ∃ b, b = found l v.name := ⟨_, rfl⟩
 obtain ⟨q, hq⟩ : ∃ q, q = p + if b then 1 else 0 := ⟨_, rfl⟩
 rw [← hp, ← hb, ← hq] at HC
 have hple := pos_le l v.name
 rw [← hp, hn] at hple
 have hqle := HC.out.le
 have HP : Kept (put l v.name [v] = l.take p ++ [v] ++ l.drop q) := ⟨by rw [put_cut, ← hp, ← hb, ← hq]⟩
 obtain ⟨A1, k1, r1, h1⟩ := hV.take (n := ln) p (by omega)
 obtain ⟨m, hm⟩ : ∃ m, (l.drop q).length = m := ⟨_, rfl⟩
 obtain ⟨A2, k2, r2, h2⟩ := hV.drop (n := ln) q m (by omega) hn hm
 have hml : m + q = ln := by rw [List.length_drop, hn] at hm; omega
 have HV := Kept.mk hV
 have H1 := Kept.mk h1
 have H2 := Kept.mk h2
 have HM := Kept.mk hm
 have HN := Kept.mk hn
 have hlp : (l.take p).length = p := by rw [List.length_take]; omega
 have HLP := Kept.mk hlp
 rw [HP.out]
 have HQ := Kept.mk hq
 clear hV h1 h2 hm hn hlp hq hp hb HP
 have z0 : (0 : Int) ≤ (p : Int) := by omega
 have hw1 : IntKind.i64.wrap ((p : Int) + 1) = (p : Int) + 1 := IntWalk.i64_in _ (by omega)
 have HX0 := Kept.mk (VX.begin w v)
 have HV0 := Kept.mk (HV.out.below HX0.out.bl)
 have c0 := HX0.out.c0
 have T1 : Kept True := ⟨trivial⟩
 have T2 : Kept True := ⟨trivial⟩
 have T3 : Kept True := ⟨trivial⟩
 have hpm : p + 1 + m ≤ 300000 := by omega
 have e2 : ((q : Nat) : Int) = if b then (p : Int) + 1 else (p : Int) := by rw [HQ.out]; cases b <;> simp
 rw [e2] at r2
 clear e2
 cases b
 all_goals
   simp only [if_true, Bool.false_eq_true, if_false] at r2
   go_enter Tryd.func29, Tryd.ntmps29
   go_wp2_with (first
     | (go_at_call 25; refine (find_any l A ln k v.name _ HV0.out HN.out hl p _ HC.out.pos HC.out.fnd).mono ?_; rintro e w1 ⟨rfl, hb1⟩
        have HX1 := Kept.mk (HX0.out.below hb1)
        have HA1 := Kept.mk (H1.out.below HX1.out.bl)
        have HA2 := Kept.mk (H2.out.below HX1.out.bl)
        clear hb1)
     | (at_builtin; have := T1
        refine wpList_append_vars rfl _ _ rfl rfl rfl (VO.empty w1 w1.heap.size) (ln := 0) rfl HA1.out HLP.out (Nat.le_refl _) (by omega) ?_
        clear T1; intro B1 kk1 nn1 w2 hnn1 hO1 hb2
        have HX2 := Kept.mk (HX1.out.below hb2)
        have HB2 : Kept (Below w1.heap.size w1 w2) := ⟨hb2⟩
        have HA3 := Kept.mk (HA2.out.below hb2)
        have hnn : nn1 ≤ 100000 := by have := hnn1.out; omega
        clear hb2)
     | (refine wpList_load_row rfl 30 _ rfl w.heap.size rfl 30 #[.string v.name, .string v.value, .bool v.ex, .bool v.ro] (0, 0) _ HX2.out.r Tryd.underlying30 rfl (by kernel_rfl) ?_)
     | (at_builtin; have := T2
        refine wpList_append_vars rfl _ _ rfl rfl rfl (hO1.out.grow (.cells #[.string v.name, .string v.value, .bool v.ex, .bool v.ro] 30)) (ln := nn1) (by rw [List.nil_append, HLP.out]; have := hnn1.out; omega) (VS.fresh w2 v _ 30 rfl) rfl (by have := HB2.out.size; simp; omega) (by omega) ?_
        clear T2; intro B2 kk2 nn2 w3 hnn2 hO2 hb3
        have HB3 : Kept (Below w1.heap.size w1 w3) := ⟨(HB2.out.alloc HB2.out.size _).trans (hb3.mono (Nat.le_refl _))⟩
        have HA4 := Kept.mk (HA2.out.below HB3.out)
        clear hb3)
     | (at_builtin; have := T3
        refine wpList_append_vars rfl _ _ rfl rfl rfl hO2.out (ln := nn2) (by simp only [List.nil_append, List.length_append, HLP.out, List.length_singleton]; have := hnn1.out; have := hnn2.out; omega) HA4.out HM.out HB3.out.size (by have := hnn1.out; have := hnn2.out; omega) ?_
        clear T3; intro B3 kk3 nn3 w4 hnn3 hO3 hb4
        have HB4 : Kept (Below w1.heap.size w1 w4) := ⟨HB3.out.trans hb4⟩
        clear hb4))
   go_ret
   exact ⟨_, _, _, rfl, ⟨hO3.out.more HX1.out.bl.size⟩, hO3.out.vs.2, HX1.out.bl.trans (HB4.out.mono HX1.out.bl.size)⟩
end Va
end
end Go.Proofs.YtpagcoiekeijbaaDoor
