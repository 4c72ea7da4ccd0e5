/-
  Parts of the proof, merged.
-/
import Derived.BigRegion
import Derived.Deep.LoopGhost
import Derived.Deep.QuietTactic
import Derived.Deep.RegionLaw
import Derived.IntWalk
import Derived.Laws.Runes
import Derived.Lib.IndexAny
import Derived.Lib.OthersKept
import Derived.ScopeJumps
import Derived.Test.YtlggpefmojacoaaGreatDoorLa19
import Derived.Test.YtlggpefmojacoaaGreatDoorLa33
import Derived.WalkMore
namespace Go.Proofs.YtlggpefmojacoaaGreatDoor
section
open Go.RowKit Tx
namespace Wx
open Lx
structure DolC (d : Nat) (dep : Int) : Prop where
 ok : ∀ (s : ByteArray) (q : Bool) (w : World) (b : Nat) (acc : List Pt) (pv tv : Value) (p : Pt) (k : Nat), Kept (dollar (parts d) q (toL s) = .ok (p, k)) → (toL s).head? = some 36 → s.size ≤ 1500000 → Kept (wt acc + 2 * s.size ≤ 15000000) → Kit w → Ahead b → Kept (St w b dep acc pv tv) →
   Calls Tryz.prog 155 #[.pointer (some ⟨b, 0, none⟩), .string s, .bool q] w fun e w' => e = .returned (.tuple #[.int .i64 (k : Int), .int .i64 0]) ∧ ∃ pv' tv', Kept (St w' b dep (add acc p) pv' tv') ∧ Kept (Fr b pv tv pv' tv' w w')
 no : ∀ (s : ByteArray) (q : Bool) (w : World) (b : Nat) (acc : List Pt) (pv tv : Value) (c : Int), Kept (dollar (parts d) q (toL s) = .error c) → (toL s).head? = some 36 → s.size ≤ 1500000 → Kept (wt acc + 2 * s.size ≤ 15000000) → Kit w → Ahead b → Kept (St w b dep acc pv tv) →
   Calls Tryz.prog 155 #[.pointer (some ⟨b, 0, none⟩), .string s, .bool q] w fun e w' => ∃ n : Int, e = .returned (.tuple #[.int .i64 n, .int .i64 c]) ∧ (c == 0) = false ∧ Kept (Below b w w')
inductive WEnd (r : Except Int (List Pt)) (w : World) (b : Nat) (dep : Int) (pv tv : Value) : Ending → World → Prop
 | ok (w' : World) (l : List Pt) (pv' tv' : Value) (h : r = .ok l) (hs : Kept (St w' b dep l pv' tv')) (hf : Kept (Fr b pv tv pv' tv' w w')) : WEnd r w b dep pv tv (.returned (.int .i64 0)) w'
 | no (w' : World) (c : Int) (h : r = .error c) (hc : (c == 0) = false) (hb : Kept (Below b w w')) : WEnd r w b dep pv tv (.returned (.int .i64 c)) w'
theorem neq_zero {c : Int} (h : (c == 0) = false) : (c != 0) = true := by unfold bne; rw [h]; rfl
theorem step2_other {w : List UInt8 → Except Int (List Pt)} {c : UInt8} {r : List UInt8} (h : c ≠ 36) : step2 w (c :: r) = if isEsc (c :: r) = true then .ok (txt true (r.take 1), 2) else .ok (txt true [c], 1) := by
 rw [step2, if_neg h]
 by_cases h2 : c = 92 ∧ (r.head? = some 36 ∨ r.head? = some 96 ∨ r.head? = some 34 ∨ r.head? = some 92)
 · rw [if_pos h2, if_pos]
   show (c == 92 && decide _) = true
   rw [decide_eq_true h2.2, h2.1]; rfl
 · rw [if_neg h2, if_neg]
   intro h3
   change (c == 92 && decide _) = true at h3
   rw [Bool.and_eq_true, beq_iff_eq, decide_eq_true_eq] at h3
   exact h2 h3
set_option maxHeartbeats 8000000 in
set_option maxRecDepth 100000 in
theorem within_any (d : Nat) (dep : Int) (HD : DolC d dep) (s : ByteArray) (w : World) (b : Nat) (acc0 : List Pt) (pv tv : Value) (hs : s.size ≤ 1500000) (hw : wt acc0 + 2 * s.size ≤ 15000000) (hK : Kit w) (hA : Ahead b) (hS : St w b dep acc0 pv tv) :
   Calls Tryz.prog 160 #[.pointer (some ⟨b, 0, none⟩), .string s] w (WEnd (doubleOn (parts d) (toL s) acc0) w b dep pv tv) := by
 have HK := Kept.mk hK
 have HA := Kept.mk hA
 have HS := Kept.mk hS
 have HDl := Kept.mk HD
 have HW0 : Kept (wt acc0 + 2 * s.size ≤ 15000000) := ⟨hw⟩
 obtain ⟨R, hR⟩ : ∃ R, R = doubleOn (parts d) (toL s) acc0 := ⟨_, rfl⟩
 have HR := Kept.mk hR
 rw [← hR]
 clear hK hA hS hw HD hR
 go_enter Tryz.func160, Tryz.ntmps160
 go_wp2_with fail
 go_loopg [1] s.size (fun m sv wr => ∃ (x : ByteArray) (acc : List Pt) (pv' tv' : Value), sv = .string x ∧ x.size ≤ 1500000 ∧ x.size ≤ m ∧ Kept (R = doubleOn (parts d) (toL x) acc) ∧ Kept (St wr b dep acc pv' tv') ∧ Kept (Fr b pv tv pv' tv' w wr) ∧ Kept (wt acc + 2 * x.size ≤ 15000000))
 case atStart => exact ⟨s, acc0, pv, tv, rfl, hs, Nat.le_refl _, HR, HS, ⟨Fr.refl _ _ _ _⟩, HW0⟩
 case round =>
   obtain ⟨x, acc, pv', tv', rfl, hx5, hxm, HRx, HSx, HF, HW⟩ := hrel
   have HKr : Kept (Kit wr) := ⟨HK.out.far HA.out HF.out.bl⟩
   by_cases h0 : 0 < x.size
   · have hne := not_empty h0
     have hne2 : (x.toList != ([] : List UInt8)) = true := by unfold bne; rw [hne]; rfl
     have hc := cons_at h0
     have HC := Kept.mk hc
     by_cases h36 : x[0]'h0 = 36
     · have z1 : ((x[0]'h0).toNat : Int) = 36 := by rw [h36]; rfl
       have hh : (toL x).head? = some 36 := by rw [hc, h36]; rfl
       cases hd : dollar (parts d) true (toL x) with
       | error c =>
         have HDd := Kept.mk hd
         have HE : Kept (R = .error c) := ⟨by
           rw [HRx.out, hc]
           refine doubleOn_bad ?_
           rw [step2, if_pos h36, ← hc]; exact hd⟩
         clear hd h36 hc
         go_wp2_with fail
         go_at_call 155
         refine (HDl.out.no x true wr b acc pv' tv' c HDd hh hx5 HW HKr.out HA.out HSx).mono ?_
         rintro e w2 ⟨n, rfl, hc0, hb⟩
         have HB : Kept (Below b w w2) := ⟨HF.out.bl.trans hb.out⟩
         have hc1 := neq_zero hc0
         clear hb
         go_wp2_with fail
         go_ret
         exact .no _ c HE.out hc0 HB
       | ok y =>
         obtain ⟨p, k⟩ := y
         have HDd := Kept.mk hd
         have hst : step2 (parts d) (x[0]'h0 :: (toL x).drop 1) = .ok (p, k) := by rw [step2, if_pos h36, ← hc]; exact hd
         have HR2 : Kept (R = doubleOn (parts d) ((toL x).drop k) (add acc p)) := ⟨by
           rw [HRx.out]
           conv => lhs; rw [hc]
           rw [doubleOn_go hst, ← hc]⟩
         have hk := step2_le hst
         rw [← hc, toL_length] at hk
         have hwt := step2_wt (parts_wt d) hst
         have hwa := wt_add acc p
         obtain ⟨X, hX⟩ : ∃ X, X = x.extract k x.size := ⟨_, rfl⟩
         have hsl : ∀ W : World, (Instr.slice 9 (.string x) (some (.int .i64 (k : Int))) none none).run Tryz.prog W = .ok (.string X) W := fun W => by rw [hX]; exact str_from hk.2 (by omega) W
         have HXl : Kept (toL X = (toL x).drop k) := ⟨by rw [hX]; exact toL_rest x k⟩
         have hXs : X.size = x.size - k := by rw [hX]; exact size_rest x k
         have HXs : Kept (X.size = x.size - k ∧ 1 ≤ k ∧ k ≤ x.size ∧ wt (add acc p) + 2 * X.size ≤ 15000000) := ⟨hXs, hk.1, hk.2, by have := HW.out; omega⟩
         clear hd h36 hc hst hk hwt hwa hX hXs
         go_wp2_with fail
         go_at_call 155
         refine (HDl.out.ok x true wr b acc pv' tv' p k HDd hh hx5 HW HKr.out HA.out HSx).mono ?_
         rintro e w2 ⟨rfl, pv2, tv2, HS2, HF2⟩
         go_wp2_with fail
         go_roundg X.size
         case measure => have := HXs.out; omega
         case rel => exact ⟨X, add acc p, pv2, tv2, rfl, by have := HXs.out; omega, Nat.le_refl _, ⟨by rw [HR2.out, HXl.out]⟩, HS2, ⟨HF.out.trans HF2.out⟩, ⟨HXs.out.2.2.2⟩⟩
     · have z1 : ¬ ((x[0]'h0).toNat : Int) = 36 := fun e => h36 (by apply UInt8.toNat_inj.1; have : (36 : UInt8).toNat = 36 := rfl; omega)
       cases hes : isEsc (toL x) with
       | true =>
         have HEs := Kept.mk hes
         have hst : step2 (parts d) (x[0]'h0 :: (toL x).drop 1) = .ok (txt true (((toL x).drop 1).take 1), 2) := by rw [step2_other h36, ← hc, hes, if_pos rfl]
         have hk := step2_le hst
         rw [← hc, toL_length] at hk
         have HR2 : Kept (R = doubleOn (parts d) ((toL x).drop 2) (add acc (txt true (((toL x).drop 1).take 1)))) := ⟨by
           rw [HRx.out]
           conv => lhs; rw [hc]
           rw [doubleOn_go hst, ← hc]⟩
         obtain ⟨Y, hY⟩ : ∃ Y, Y = x.extract 1 2 := ⟨_, rfl⟩
         have hY2 : ∀ W : World, (Instr.slice 9 (.string x) (some (.int .i64 1)) (some (.int .i64 2)) none).run Tryz.prog W = .ok (.string Y) W := fun W => by
           rw [run_slice_string_if W 9 x .i64 .i64 _ _ Tryz.underlying9, if_pos ⟨by omega, by omega⟩, if_pos ⟨by omega, by omega⟩, hY]; rfl
         have hYl : toL Y = (((toL x).drop 1).take 1) := by
           rw [hY, toL_extract]
         have HY := Kept.mk hYl
         have hYs : Y.size ≤ 1 := by rw [← toL_length, hYl]; first | (simp; done) | (simp; omega)
         have hwa := wt_add acc (txt true (((toL x).drop 1).take 1))
         have hwt := step2_wt (parts_wt d) hst
         obtain ⟨X, hX⟩ : ∃ X, X = x.extract 2 x.size := ⟨_, rfl⟩
         have hsl : ∀ W : World, (Instr.slice 9 (.string x) (some (.int .i64 2)) none none).run Tryz.prog W = .ok (.string X) W := fun W => by rw [hX]; exact str_from (k := 2) hk.2 (by omega) W
         have HXl : Kept (toL X = (toL x).drop 2) := ⟨by rw [hX]; exact toL_rest x 2⟩
         have hXs : X.size = x.size - 2 := by rw [hX]; exact size_rest x 2
         have HXs : Kept (X.size = x.size - 2 ∧ 2 ≤ x.size ∧ wt (add acc (txt true (((toL x).drop 1).take 1))) + 2 * X.size ≤ 15000000) := ⟨hXs, hk.2, by have := HW.out; omega⟩
         clear hst hk hwt hwa hX hXs hY hYl hc
         go_wp2_with (go_at_call 167; refine (startsEscape_any x _ true HEs.out.symm).mono ?_; rintro e w2 ⟨rfl, rfl⟩)
         go_at_call 157
         refine (addText_any _ b dep acc pv' tv' Y true HSx (by have := HW.out; omega) (by omega)).mono ?_
         rw [HY.out]
         rintro e w2 ⟨rfl, pv2, tv2, HS2, HF2⟩
         go_wp2_with fail
         go_roundg X.size
         case measure => have := HXs.out; omega
         case rel => exact ⟨X, _, pv2, tv2, rfl, by have := HXs.out; omega, Nat.le_refl _, ⟨by rw [HR2.out, HXl.out]⟩, HS2, ⟨HF.out.trans HF2.out⟩, ⟨HXs.out.2.2⟩⟩
       | false =>
         have HEs := Kept.mk hes
         have hst : step2 (parts d) (x[0]'h0 :: (toL x).drop 1) = .ok (txt true [x[0]'h0], 1) := by rw [step2_other h36, ← hc, hes, if_neg (by simp)]
         have hk := step2_le hst
         rw [← hc, toL_length] at hk
         have HR2 : Kept (R = doubleOn (parts d) ((toL x).drop 1) (add acc (txt true [x[0]'h0]))) := ⟨by
           rw [HRx.out]
           conv => lhs; rw [hc]
           rw [doubleOn_go hst, ← hc]⟩
         obtain ⟨Y, hY⟩ : ∃ Y, Y = x.extract 0 1 := ⟨_, rfl⟩
         have hY2 : ∀ W : World, (Instr.slice 9 (.string x) none (some (.int .i64 1)) none).run Tryz.prog W = .ok (.string Y) W := fun W => by
           rw [hY]; exact str_to (k := 1) hk.2 W
         have hYl : toL Y = [x[0]'h0] := by
           rw [hY, toL_to, hc]; rfl
         have HY := Kept.mk hYl
         have hYs : Y.size ≤ 1 := by rw [← toL_length, hYl]; first | (simp; done) | (simp; omega)
         have hwa := wt_add acc (txt true [x[0]'h0])
         have hwt := step2_wt (parts_wt d) hst
         obtain ⟨X, hX⟩ : ∃ X, X = x.extract 1 x.size := ⟨_, rfl⟩
         have hsl : ∀ W : World, (Instr.slice 9 (.string x) (some (.int .i64 1)) none none).run Tryz.prog W = .ok (.string X) W := fun W => by rw [hX]; exact str_from (k := 1) hk.2 (by omega) W
         have HXl : Kept (toL X = (toL x).drop 1) := ⟨by rw [hX]; exact toL_rest x 1⟩
         have hXs : X.size = x.size - 1 := by rw [hX]; exact size_rest x 1
         have HXs : Kept (X.size = x.size - 1 ∧ 1 ≤ x.size ∧ wt (add acc (txt true [x[0]'h0])) + 2 * X.size ≤ 15000000) := ⟨hXs, hk.2, by have := HW.out; omega⟩
         clear hst hk hwt hwa hX hXs hY hYl hc
         go_wp2_with (go_at_call 167; refine (startsEscape_any x _ false HEs.out.symm).mono ?_; rintro e w2 ⟨rfl, rfl⟩)
         go_at_call 157
         refine (addText_any _ b dep acc pv' tv' Y true HSx (by have := HW.out; omega) (by omega)).mono ?_
         rw [HY.out]
         rintro e w2 ⟨rfl, pv2, tv2, HS2, HF2⟩
         go_wp2_with fail
         go_roundg X.size
         case measure => have := HXs.out; omega
         case rel => exact ⟨X, _, pv2, tv2, rfl, by have := HXs.out; omega, Nat.le_refl _, ⟨by rw [HR2.out, HXl.out]⟩, HS2, ⟨HF.out.trans HF2.out⟩, ⟨HXs.out.2.2⟩⟩
   · have hx0 := empty_of (s := x) (by omega)
     subst hx0
     have HE : Kept (R = .ok acc) := ⟨HRx.out⟩
     clear h0
     go_wp2_with fail
     go_ret
     exact .ok _ acc pv' tv' HE.out HSx HF
end Wx
end
section
open Go.RowKit Tx
namespace Wx
theorem getB_at (s : ByteArray) (i : Nat) (h : i < s.size) : s.get! i = s[i]'h := by
 unfold ByteArray.get!
 exact getElem!_pos s.data i h
theorem of_bound {s : ByteArray} {i : Nat} {p : Bool} (h : (decide (i < s.size) && p) = true) : i < s.size ∧ p = true := by
 rw [Bool.and_eq_true, decide_eq_true_eq] at h; exact h
theorem decode_high (s : ByteArray) (k : Nat) (hk : k < s.size) (h : 128 ≤ (s[k]'hk).toNat) :
   128 ≤ (Utf8.decode s k).1 ∧ (Utf8.decode s k).1 ≤ 1114111 ∧ 1 ≤ (Utf8.decode s k).2 ∧ ∀ j, j < (Utf8.decode s k).2 → ∃ hj : k + j < s.size, 128 ≤ (s[k + j]'hj).toNat := by
 have h0 : (s.get! (k + 0)).toNat = (s[k]'hk).toNat := by rw [Nat.add_zero, getB_at s k hk]
 have one : ∀ j, j < 1 → ∃ hj : k + j < s.size, 128 ≤ (s[k + j]'hj).toNat := fun j hj => by
   have : j = 0 := by omega
   subst this
   exact ⟨hk, h⟩
 have cont : ∀ j, (decide (k + j < s.size) && (s.get! (k + j)).toNat / 64 == 2) = true → ∃ hj : k + j < s.size, 128 ≤ (s[k + j]'hj).toNat := fun j hj => by
   obtain ⟨h1, h2⟩ := of_bound hj
   rw [getB_at s _ h1, beq_iff_eq] at h2
   exact ⟨h1, by omega⟩
 unfold Utf8.decode
 simp only [h0]
 rw [if_neg (by omega)]
 split
 · rename_i h1
   rw [Bool.and_eq_true] at h1
   split
   · refine ⟨by omega, by have := (s[k]'hk).toNat_lt; omega, by omega, fun j hj => ?_⟩
     rcases j with _ | _ | j
     · exact ⟨hk, h⟩
     · exact cont 1 h1.2
     · omega
   · exact ⟨by decide, by decide, by decide, one⟩
 · split
   · rename_i _ h1
     rw [Bool.and_eq_true, Bool.and_eq_true] at h1
     split
     · rename_i h2
       rw [Bool.and_eq_true, decide_eq_true_eq] at h2
       have h2 := h2.1
       refine ⟨by omega, by omega, by omega, fun j hj => ?_⟩
       rcases j with _ | _ | _ | j
       · exact ⟨hk, h⟩
       · exact cont 1 h1.1.2
       · exact cont 2 h1.2
       · omega
     · exact ⟨by decide, by decide, by decide, one⟩
   · split
     · rename_i _ _ h1
       rw [Bool.and_eq_true, Bool.and_eq_true, Bool.and_eq_true] at h1
       split
       · rename_i h2
         rw [Bool.and_eq_true, decide_eq_true_eq] at h2
         have h3 := h2.2
         have h2 := h2.1
         refine ⟨by omega, ?_, by omega, fun j hj => ?_⟩
         · simp only [Utf8.valid] at h3
           simp at h3
           omega
         · rcases j with _ | _ | _ | _ | j
           · exact ⟨hk, h⟩
           · exact cont 1 h1.1.1.2
           · exact cont 2 h1.1.2
           · exact cont 3 h1.2
           · omega
       · exact ⟨by decide, by decide, by decide, one⟩
     · exact ⟨by decide, by decide, by decide, one⟩
def marks : ByteArray := ⟨#[92, 39, 34, 36]⟩
theorem mark_at (c : UInt8) : (0 : Int) ≤ Lib.indexByte [92, 39, 34, 36] c ↔ lit c = false := by
 have hl : lit c = false ↔ c = 92 ∨ c = 39 ∨ c = 34 ∨ c = 36 := by
   simp only [lit, Bool.and_eq_false_iff, bne_eq_false_iff_eq]
   constructor
   · rintro (((h | h) | h) | h) <;> simp [h]
   · rintro (h | h | h | h) <;> simp [h]
 rw [hl]
 by_cases h1 : c = 92
 · subst h1; decide
 by_cases h2 : c = 39
 · subst h2; decide
 by_cases h3 : c = 34
 · subst h3; decide
 by_cases h4 : c = 36
 · subst h4; decide
 · have n1 : ((92 : UInt8) == c) = false := by simpa using fun e : (92 : UInt8) = c => h1 e.symm
   have n2 : ((39 : UInt8) == c) = false := by simpa using fun e : (39 : UInt8) = c => h2 e.symm
   have n3 : ((34 : UInt8) == c) = false := by simpa using fun e : (34 : UInt8) = c => h3 e.symm
   have n4 : ((36 : UInt8) == c) = false := by simpa using fun e : (36 : UInt8) = c => h4 e.symm
   simp [Lib.indexByte, n1, n2, n3, n4, h1, h2, h3, h4]
theorem lit_high {c : UInt8} (h : 128 ≤ c.toNat) : lit c = true := by
 simp only [lit, Bool.and_eq_true, bne_iff_ne]
 refine ⟨⟨⟨?_, ?_⟩, ?_⟩, ?_⟩ <;> (rintro rfl; exact absurd h (by decide))
theorem marks_size : marks.size = 4 := rfl
theorem marks_small : ∀ k (h : k < marks.size), (marks[k]'h).toNat < 128 ∧ (marks[k]'h).toNat ≠ 65533 := by
 intro k h
 have hk : k < 4 := h
 have hm : (marks[k]'h) ∈ [(92 : UInt8), 39, 34, 36] := by
   match k, hk with
   | 0, _ => exact List.mem_of_getElem? (i := 0) rfl
   | 1, _ => exact List.mem_of_getElem? (i := 1) rfl
   | 2, _ => exact List.mem_of_getElem? (i := 2) rfl
   | 3, _ => exact List.mem_of_getElem? (i := 3) rfl
 generalize (marks[k]'h) = c at hm
 simp only [List.mem_cons, List.not_mem_nil, or_false] at hm
 rcases hm with rfl | rfl | rfl | rfl <;> decide
theorem marks_none (c : UInt8) (h : 128 ≤ c.toNat) (a : Nat) : Lib.indexByte (toL (marks.extract a marks.size)) c = -1 := by
 have : ∀ l : List UInt8, (∀ b ∈ l, b ≠ c) → Lib.indexByte l c = -1 := by
   intro l
   induction l with
   | nil => intro _; rfl
   | cons b l ih =>
     intro hb
     have h1 : (b == c) = false := by simpa using hb b (by simp)
     unfold Lib.indexByte
     rw [h1, ih fun x hx => hb x (List.mem_cons_of_mem _ hx)]
     rfl
 refine this _ fun b hb e => ?_
 subst e
 rw [toL_extract] at hb
 have hm := List.mem_of_mem_drop (List.mem_of_mem_take hb)
 have : b ∈ [(92 : UInt8), 39, 34, 36] := hm
 simp only [List.mem_cons, List.not_mem_nil, or_false] at this
 rcases this with rfl | rfl | rfl | rfl <;> exact absurd h (by decide)
set_option maxHeartbeats 4000000 in
set_option maxRecDepth 100000 in
theorem idxRune_err (w : World) : Calls Tryz.prog 128 #[.string marks, .int .i32 65533] w fun e w' => e = .returned (.int .i64 (-1)) ∧ Below w.heap.size w w' := by
 go_enter Tryz.func128, Tryz.ntmps128
 go_wp2_with fail
 go_loopw [5, 6] (fun _ _ wr => ∃ k : Nat, k ≤ marks.size ∧ wr = w.iter marks k) (fun _ _ wr => marks.size - wr.iterPos w.heap.size)
 case atStart => exact ⟨0, by omega, rfl⟩
 case round =>
   obtain ⟨k, hk, rfl⟩ := hrel
   by_cases hlt : k < marks.size
   · have hnx := fun ty => run_next_any (P := Tryz.prog) w marks k ty hlt
     obtain ⟨m1, m2⟩ := marks_small k hlt
     rw [decode_ascii marks k hlt m1] at hnx
     obtain ⟨z, hz⟩ : ∃ z, z = (marks[k]'hlt).toNat := ⟨_, rfl⟩
     rw [← hz] at hnx m2
     have m3 : ¬ (z : Int) = 65533 := by omega
     clear hz m1
     go_wp2_with fail
     go_roundw
     case rel => exact ⟨k + 1, by omega, rfl⟩
     case measure => simp; omega
   · have hnx := fun ty => run_next_end (P := Tryz.prog) w marks k ty hlt
     clear hlt
     go_wp2_with fail
     go_ret
     exact ⟨rfl, iter_below w marks _⟩
set_option maxHeartbeats 4000000 in
set_option maxRecDepth 100000 in
theorem idxRune_high (z : Nat) (hz : 128 ≤ z) (hz2 : z ≤ 1114111) (w : World) : Calls Tryz.prog 128 #[.string marks, .int .i32 (z : Int)] w fun e w' => e = .returned (.int .i64 (-1)) ∧ Below w.heap.size w w' := by
 by_cases he : z = 65533
 · subst he
   exact idxRune_err w
 · have z1 : (0 : Int) ≤ (z : Int) := by omega
   have z2 : ¬ (z : Int) < 128 := by omega
   have z3 : ¬ (z : Int) = 65533 := by omega
   cases hv : Lib.validRune (z : Int) with
   | false =>
     have HV : Kept (∀ W : World, Calls Tryz.prog 145 #[.int .i32 (z : Int)] W fun e w' => e = .returned (.bool false) ∧ w' = W) := ⟨fun W => by
       have := Tryz.utf8_ValidRune (z : Int) W
       rwa [hv] at this⟩
     clear hv he
     go_enter Tryz.func128, Tryz.ntmps128
     go_wp2_with (go_at_call 145; refine (HV.out _).mono ?_; rintro e w1 ⟨rfl, rfl⟩)
     go_ret
     exact ⟨rfl, Below.refl _ _⟩
   | true =>
     have HV : Kept (∀ W : World, Calls Tryz.prog 145 #[.int .i32 (z : Int)] W fun e w' => e = .returned (.bool true) ∧ w' = W) := ⟨fun W => by
       have := Tryz.utf8_ValidRune (z : Int) W
       rwa [hv] at this⟩
     have hvu : Utf8.valid (z : Int) = true := by
       simp only [Utf8.valid]
       simp only [Lib.validRune] at hv
       simp at hv ⊢
       omega
     obtain ⟨e1, e2, e3⟩ := encode_facts (z : Int) hvu (by omega)
     obtain ⟨X, hX⟩ : ∃ X, X = Utf8.encode (z : Int) := ⟨_, rfl⟩
     have hcv : ∀ W : World, (convert 21 9 (.int .i32 (z : Int))).run Tryz.prog W = .ok (.string X) W := fun W => by
       rw [hX]; exact run_convert_int_string W _ _ _ _ (by rw [Tryz.underlying21]; rfl) Tryz.underlying9
     rw [← hX] at e1 e2 e3
     obtain ⟨m, hm⟩ : ∃ m, X.size = m + 1 := ⟨X.size - 1, by omega⟩
     have hml : m < X.size := by omega
     have hbig : 128 ≤ (X[m]'hml).toNat := by
       have := e3 (by omega)
       simpa [hm] using this
     have hm4 : m < marks.size := by rw [marks_size]; omega
     have hne : ¬ ((marks[m]'hm4).toNat : Int) = ((X[m]'hml).toNat : Int) := by have := (marks_small m hm4).1; omega
     obtain ⟨Y, hY⟩ : ∃ Y, Y = marks.extract (m + 1) marks.size := ⟨_, rfl⟩
     have hsl : ∀ W : World, (Instr.slice 9 (.string marks) (some (.int .i64 ((m : Int) + 1))) none none).run Tryz.prog W = .ok (.string Y) W := fun W => by
       rw [run_slice_string_from_if W 9 marks .i64 _ Tryz.underlying9, if_pos ⟨by omega, by omega⟩, hY, show ((m : Int) + 1).toNat = m + 1 by omega]
     have HI : Kept (∀ W : World, Calls Tryz.prog 144 #[.string Y, .int .u8 ((X[m]'hml).toNat : Int)] W fun e w' => e = .returned (.int .i64 (-1)) ∧ w' = W) := ⟨fun W => by
       refine (Tryz.strings_IndexByte Y _ W).mono ?_
       rintro e w' ⟨rfl, rfl⟩
       refine ⟨?_, rfl⟩
       rw [show (((X[m]'hml).toNat : Nat) : Int).toNat.toUInt8 = X[m]'hml by rw [Int.toNat_natCast]; simp]
       have := marks_none (X[m]'hml) hbig (m + 1)
       rw [← hY] at this
       exact congrArg (fun z => Ending.returned (Value.int .i64 z)) this⟩
     have hxs : (X.size : Int) = (m : Int) + 1 := by omega
     have m0 : (0 : Int) ≤ (m : Int) := by omega
     have m3 : (m : Int) < 4 := by have := hm4; rw [marks_size] at this; omega
     have m4 : (m : Int) < (m : Int) + 1 := by omega
     have m5 : IntKind.i64.wrap ((m : Int) + 1) = (m : Int) + 1 := IntWalk.i64_in _ (by omega)
     clear hv he hvu e1 e2 e3 hX hY hbig hm
     go_enter Tryz.func128, Tryz.ntmps128
     go_wp2_with (go_at_call 145; refine (HV.out _).mono ?_; rintro e w1 ⟨rfl, rfl⟩)
     go_step3
     go_wp2_with fail
     go_loopg [9, 11, 10] 1 (fun n sv _ _ wr => n = 1 ∧ sv = .int .i64 (m : Int) ∧ wr = w1)
     case atStart => exact ⟨rfl, rfl, rfl⟩
     case round =>
       obtain ⟨_, rfl, rfl⟩ := hrel
       go_wp2_with fail
       go_step3
       go_wp2_with fail
       go_region
       go_wp2_with fail
       go_region_law (first
         | (go_simp; go_at_call 144; refine (HI.out _).mono ?_; rintro e w2 ⟨rfl, rfl⟩)
         | go_simp)
       all_goals
         go_wp2_with fail
         rw [Exit.noGoto_ret]
         go_wp2_with fail
         rw [Exit.noGoto_ret]
         go_wp2_with fail
         go_ret
         exact ⟨rfl, (Below.refl _ _).drew.drew⟩
end Wx
end
section
open Go.RowKit Tx
namespace Wx
def runL (l : List UInt8) : Nat := (l.takeWhile lit).length
theorem runL_le (l : List UInt8) : runL l ≤ l.length := takeW_le _ _
theorem run_cons (c : UInt8) (l : List UInt8) : runL (c :: l) = if lit c = true then runL l + 1 else 0 := by
 unfold runL
 rw [List.takeWhile_cons]
 split <;> simp
theorem run_all : ∀ (n : Nat) {l : List UInt8}, n ≤ l.length → (∀ j (h : j < l.length), j < n → lit (l[j]'h) = true) → runL l = n + runL (l.drop n)
 | 0, l, _, _ => by rw [List.drop_zero, Nat.zero_add]
 | n + 1, [], h, _ => by simp at h
 | n + 1, c :: l, h, hl => by
   have h0 : lit c = true := hl 0 (by simp) (by omega)
   rw [run_cons, if_pos h0, List.drop_succ_cons, run_all n (l := l) (by simpa using h) fun j hj hn => by
     have := hl (j + 1) (by simpa using hj) (by omega)
     simpa using this]
   omega
theorem indexAny_is (l : List UInt8) : Lib.indexAny l [92, 39, 34, 36] = if runL l < l.length then ((runL l : Nat) : Int) else -1 := by
 induction l with
 | nil => rfl
 | cons c l ih =>
   have hc : ([92, 39, 34, 36] : List UInt8).contains c = !lit c := by
     have h := mark_at c
     cases hl : lit c with
     | true =>
       obtain ⟨h1, h2, h3, h4⟩ := lit_is hl
       simp [h1, h2, h3, h4]
     | false =>
       have : ¬ (c ≠ 92 ∧ c ≠ 39 ∧ c ≠ 34 ∧ c ≠ 36) := fun ⟨h1, h2, h3, h4⟩ => by
         have : lit c = true := by simp only [lit, Bool.and_eq_true, bne_iff_ne]; exact ⟨⟨⟨h1, h2⟩, h3⟩, h4⟩
         rw [hl] at this; cases this
       simp
       by_cases h1 : c = 92
       · exact .inl h1
       · by_cases h2 : c = 39
         · exact .inr (.inl h2)
         · by_cases h3 : c = 34
           · exact .inr (.inr (.inl h3))
           · by_cases h4 : c = 36
             · exact .inr (.inr (.inr h4))
             · exact absurd ⟨h1, h2, h3, h4⟩ this
   unfold Lib.indexAny
   rw [hc, run_cons, ih, List.length_cons]
   cases hl : lit c with
   | false => simp
   | true =>
     simp only [Bool.not_true, Bool.false_eq_true, if_false, if_true]
     by_cases h : runL l < l.length
     · rw [if_pos h, if_pos (show runL l + 1 < l.length + 1 by omega)]
       have : ¬ (((runL l : Nat) : Int) == -1) = true := by simp
       rw [if_neg this]; omega
     · rw [if_neg h, if_neg (show ¬ runL l + 1 < l.length + 1 by omega)]; rfl
theorem ascii_zero : ∀ w : World, (zeroValue 107).run Tryz.prog w = .ok (.agg (Array.replicate 256 (.bool false))) w := fun w => by kernel_rfl
set_option maxRecDepth 100000 in
theorem small_any (n : Nat) (w : World) (h : ¬ (8 : Int) < (n : Int)) : Calls Tryz.prog 165 #[.int .i64 (n : Int)] w fun e w' => e = .returned (.bool false) ∧ w' = w := by
 go_enter Tryz.func165, Tryz.ntmps165
 go_wp2_with fail
 go_ret
 exact ⟨rfl, rfl⟩
set_option maxHeartbeats 4000000 in
set_option maxRecDepth 100000 in
theorem indexAny_any (s : ByteArray) (w : World) (hs : s.size ≤ 300000000) (r : Int) (hr : Kept (r = if runL (toL s) < s.size then ((runL (toL s) : Nat) : Int) else -1)) :
   Calls Tryz.prog 156 #[.string s, .string marks] w fun e w' => e = .returned (.int .i64 r) ∧ Below w.heap.size w w' := by
 by_cases h8 : 8 < s.size
 · refine (Tryz.strings_IndexAny_long ascii_zero s marks w (by decide) h8 (by omega) (by decide) ?_).mono ?_
   · intro j b hj
     have hm : b ∈ [(92 : UInt8), 39, 34, 36] := List.mem_of_getElem? hj
     simp only [List.mem_cons, List.not_mem_nil, or_false] at hm
     rcases hm with rfl | rfl | rfl | rfl <;> decide
   · rintro e w' ⟨rfl, rfl⟩
     refine ⟨?_, ((Below.refl _ _).alloc (Nat.le_refl _) _).alloc (by simp) _⟩
     have h1 := indexAny_is (toL s)
     rw [toL_length, ← hr.out] at h1
     exact congrArg (fun z => Ending.returned (Value.int .i64 z)) h1
 · have hz : ¬ (8 : Int) < (s.size : Int) := by omega
   have hms : (marks.toList == ([] : List UInt8)) = false := by decide +kernel
   have hm4 : ¬ (marks.size : Int) = 1 := by rw [marks_size]; decide
   clear h8
   go_enter Tryz.func156, Tryz.ntmps156
   go_wp2_with fail
   go_at_call 165
   refine (small_any s.size _ (by omega)).mono ?_
   rintro e w1 ⟨rfl, rfl⟩
   go_wp2_with fail
   go_loopg [9, 10] s.size (fun m _ _ wr => ∃ k : Nat, k ≤ s.size ∧ s.size - k ≤ m ∧ wr.heap[w1.heap.size]? = some (.stringIter s k) ∧ Kept (Below w1.heap.size w1 wr) ∧ Kept (runL (toL s) = k + runL ((toL s).drop k)))
   case atStart => exact ⟨0, by omega, by omega, heap_alloc_new w1 _, ⟨(Below.refl _ _).alloc (Nat.le_refl _) _⟩, ⟨by rw [List.drop_zero, Nat.zero_add]⟩⟩
   case round =>
     obtain ⟨k, hk, hkm, hit, HB, HR⟩ := hrel
     by_cases hlt : k < s.size
     · have hnx := fun ty => Lib.run_next_any_at (P := Tryz.prog) wr w1.heap.size s k ty hit hlt
       have hit2 := fun n => Lib.iterAt_heap wr w1.heap.size s k n hit
       have hdr := drop_at hlt
       by_cases hb : (s[k]'hlt).toNat < 128
       · rw [decode_ascii s k hlt hb] at hnx
         have hI : ∀ W : World, Calls Tryz.prog 128 #[.string marks, .int .i32 ((s[k]'hlt).toNat : Int)] W fun e w' => e = .returned (.int .i64 (Lib.indexByte [92, 39, 34, 36] (s[k]'hlt))) ∧ w' = W := fun W => by
           refine (Tryz.strings_IndexRune_ascii marks _ W (by omega) (by omega)).mono ?_
           rintro e w' ⟨rfl, rfl⟩
           refine ⟨?_, rfl⟩
           rw [show (((s[k]'hlt).toNat : Nat) : Int).toNat.toUInt8 = s[k]'hlt by rw [Int.toNat_natCast]; simp]
           rfl
         have HI := Kept.mk hI
         have hm := mark_at (s[k]'hlt)
         have HIt := Kept.mk (hit2 (k + 1))
         have HB2 : Kept (Below w1.heap.size w1 (wr.iterAt w1.heap.size s (k + 1))) := ⟨Lib.below_iterAt HB.out (Nat.le_refl _) s (k + 1)⟩
         cases hl : lit (s[k]'hlt) with
         | true =>
           have hge : ¬ (0 : Int) ≤ Lib.indexByte [92, 39, 34, 36] (s[k]'hlt) := fun h => by rw [hm.1 h] at hl; cases hl
           have HR2 : Kept (runL (toL s) = (k + 1) + runL ((toL s).drop (k + 1))) := ⟨by rw [HR.out, hdr, run_cons, if_pos hl]; omega⟩
           clear hI hm hl hdr hit hit2 hb
           generalize Lib.indexByte [92, 39, 34, 36] (s[k]'hlt) = ix at *
           generalize ((s[k]'hlt).toNat : Int) = z at *
           go_wp2_with (go_at_call 128; refine (HI.out _).mono ?_; rintro e w2 ⟨rfl, rfl⟩)
           go_roundg (s.size - (k + 1))
           case measure => omega
           case rel => exact ⟨k + 1, by omega, Nat.le_refl _, HIt.out, HB2, HR2⟩
         | false =>
           have hge := hm.2 hl
           have HE : Kept (r = (k : Int)) := ⟨by
             have h1 : runL ((toL s).drop k) = 0 := by rw [hdr, run_cons, hl]; rfl
             have h2 : runL (toL s) = k := by rw [HR.out, h1]; rfl
             rw [hr.out, h2, if_pos hlt]⟩
           clear hI hm hl hdr hit hit2 hb
           generalize Lib.indexByte [92, 39, 34, 36] (s[k]'hlt) = ix at *
           generalize ((s[k]'hlt).toNat : Int) = z at *
           go_wp2_with (go_at_call 128; refine (HI.out _).mono ?_; rintro e w2 ⟨rfl, rfl⟩)
           go_ret
           exact ⟨by rw [HE.out]; rfl, HB2.out⟩
       · obtain ⟨d1, d2, d3, d4⟩ := decode_high s k hlt (by omega)
         obtain ⟨z, hz2⟩ : ∃ z, z = (Utf8.decode s k).1 := ⟨_, rfl⟩
         obtain ⟨n, hn⟩ : ∃ n, n = (Utf8.decode s k).2 := ⟨_, rfl⟩
         rw [← hz2] at d1 d2 hnx
         rw [← hn] at d3 d4 hnx
         obtain ⟨hn1, _⟩ := d4 (n - 1) (by omega)
         have HIt := Kept.mk (hit2 (k + n))
         have HB2 : Kept (Below w1.heap.size w1 (wr.iterAt w1.heap.size s (k + n))) := ⟨Lib.below_iterAt HB.out (Nat.le_refl _) s (k + n)⟩
         have HR2 : Kept (runL (toL s) = (k + n) + runL ((toL s).drop (k + n))) := ⟨by
           have := run_all n (l := (toL s).drop k) (by rw [List.length_drop, toL_length]; omega) fun j h hj => by
             obtain ⟨h1, h2⟩ := d4 j hj
             rw [List.getElem_drop]
             exact lit_high h2
           rw [HR.out, this, List.drop_drop]; omega⟩
         have hkn : k + n ≤ s.size := by omega
         clear hit hit2 hdr d4 hz2 hn hb
         go_wp2_with (go_at_call 128; refine (idxRune_high z d1 d2 _).mono ?_; rintro e w2 ⟨rfl, hb2⟩)
         go_roundg (s.size - (k + n))
         case measure => omega
         case rel => exact ⟨k + n, hkn, Nat.le_refl _, (hb2.block _ (Array.getElem?_eq_some_iff.1 HIt.out).1).trans HIt.out, ⟨HB2.out.trans (hb2.mono HB2.out.size)⟩, HR2⟩
     · have hnx := fun ty => Lib.run_next_end_at (P := Tryz.prog) wr w1.heap.size s k ty hit hlt
       have HE : Kept (r = -1) := ⟨by
         have h1 : runL (toL s) = s.size := by
           rw [HR.out, List.drop_eq_nil_of_le (by rw [toL_length]; omega)]
           show k + 0 = _; omega
         rw [hr.out, h1, if_neg (by omega)]⟩
       clear hlt
       go_wp2_with fail
       go_ret
       exact ⟨by rw [HE.out]; rfl, HB.out⟩
end Wx
end
end Go.Proofs.YtlggpefmojacoaaGreatDoor
