/-
  Parts of the proof, merged.
-/
import Derived.Deep.RegionHeld3
import Derived.Deep.RegionLaw
import Derived.Laws.AppendOwn
import Derived.OwnWalk
import Derived.Test.YtahjonfmhejoeaaGreatDoorVa10
namespace Go.Proofs.YtahjonfmhejoeaaGreatDoor
section
open Go.RowKit Tx
namespace Lx
def unitAt (d : Nat) (e : UInt8) (l : List UInt8) (p : Nat) : Option Nat := (unit d e (l.drop p)).map (p + ·)
def nestAt (d : Nat) (e : UInt8) (l : List UInt8) (p : Nat) : Option Nat := (nest d e (l.drop p)).map (p + ·)
theorem drop_at {s : ByteArray} {p : Nat} (hp : p < s.size) : (toL s).drop p = s[p]'hp :: (toL s).drop (p + 1) := by
 rw [List.drop_eq_getElem_cons (by rw [toL_length]; exact hp)]
 rfl
theorem drop_end {s : ByteArray} {p : Nat} (hp : s.size ≤ p) : (toL s).drop p = [] := List.drop_eq_nil_of_le (by rw [toL_length]; exact hp)
theorem nestAt_end {d : Nat} {e : UInt8} {s : ByteArray} {p : Nat} (hp : s.size ≤ p) : nestAt d e (toL s) p = none := by unfold nestAt; rw [drop_end hp, nest_nil]; rfl
theorem nestAt_close {d : Nat} {e : UInt8} {s : ByteArray} {p : Nat} (hp : p < s.size) (h : s[p]'hp = e) : nestAt d e (toL s) p = some (p + 1) := by unfold nestAt; rw [drop_at hp, h, nest_end]; rfl
theorem nestAt_bad {d : Nat} {e : UInt8} {s : ByteArray} {p : Nat} (hp : p < s.size) (h : s[p]'hp ≠ e) (hu : unitAt d e (toL s) p = none) : nestAt d e (toL s) p = none := by
 unfold nestAt unitAt at *
 rw [drop_at hp] at *
 rw [nest_bad h (by simpa using hu)]; rfl
theorem nestAt_on {d : Nat} {e : UInt8} {s : ByteArray} {p q : Nat} (hp : p < s.size) (h : s[p]'hp ≠ e) (hu : unitAt d e (toL s) p = some q) : nestAt d e (toL s) p = nestAt d e (toL s) q ∧ p < q ∧ q ≤ s.size := by
 unfold nestAt unitAt at *
 obtain ⟨k, hk, rfl⟩ := Option.map_eq_some_iff.1 hu
 have h1 := unit_le _ hk
 rw [List.length_drop, toL_length] at h1
 refine ⟨?_, by omega, by omega⟩
 rw [drop_at hp] at hk ⊢
 rw [nest_on h hk, ← drop_at hp, List.drop_drop, Option.map_map]
 congr 1
 funext x
 show p + (k + x) = p + k + x
 omega
theorem unitAt_le {d : Nat} {e : UInt8} {s : ByteArray} {p q : Nat} (hu : unitAt d e (toL s) p = some q) : p < q ∧ q ≤ s.size := by
 unfold unitAt at hu
 obtain ⟨k, hk, rfl⟩ := Option.map_eq_some_iff.1 hu
 have h1 := unit_le _ hk
 rw [List.length_drop, toL_length] at h1
 omega
def UnitC (d : Nat) : Prop := ∀ (n : Nat) (w : World) (b : Nat) (s : ByteArray) (p : Nat) (v : Value) (e : UInt8) (m mn : Int), n + d = 31 → m = (e.toNat : Int) → mn = n → RM w b s p v → p < s.size → ∀ oo, Kept (oo = unitAt d e (toL s) p) →
 Calls Tryz.prog 126 #[.pointer (some ⟨b, 0, none⟩), .int .i64 mn, .int .u8 m] w (Moved w b s v oo)
def NestC (d : Nat) : Prop := ∀ (n : Nat) (w : World) (b : Nat) (s : ByteArray) (p : Nat) (v : Value) (e : UInt8) (m mn : Int) (o : ByteArray), n + 1 + d = 31 → m = (e.toNat : Int) → mn = n → RM w b s p v → p + o.size ≤ s.size → ∀ oo, Kept (oo = nestAt d e (toL s) (p + o.size)) →
 Calls Tryz.prog 138 #[.pointer (some ⟨b, 0, none⟩), .string o, .int .u8 m, .int .i64 mn] w (Moved w b s v oo)
def far (b : Nat) (w : World) : Nat :=
 match w.cell? ⟨b, 1, none⟩ with
 | some (.int _ p) => p.toNat
 | _ => 0
theorem RD.far {w : World} {b p : Nat} {s : ByteArray} {v : Value} (h : RD w b s p v) : far b w = p := by
 unfold Lx.far
 rw [h.c1]
 exact Int.toNat_natCast p
theorem unit_zero : UnitC 0 := by
 intro n w b s p v e m mn hn hm hmn h hp oo HOO
 obtain rfl : oo = none := HOO.out
 clear HOO
 obtain rfl : n = 31 := by omega
 subst hmn hm
 clear hp
 have H := Kept.mk h
 clear h
 go_enter Tryz.func126, Tryz.ntmps126
 go_wp2
 exact ⟨rfl, rfl, ⟨Only.refl _ _⟩⟩
set_option maxHeartbeats 1000000 in
set_option maxRecDepth 100000 in
theorem nest_of (d : Nat) (HU : Kept (UnitC d)) : NestC d := by
 intro n w b s p v e m mn o hn hm hmn h hp oo HOO
 subst hmn hm
 have H := Kept.mk h
 have HP : Kept (some (p + o.size) = if p + o.size ≤ s.size then some (p + o.size) else none) := ⟨(if_pos hp).symm⟩
 have HPle := Kept.mk hp
 have hos : o.size ≤ 20000 := by have := h.rd.sz; omega
 have hsz := h.rd.sz
 have hn30 : (n : Int) ≤ 30 := by omega
 have HN := Kept.mk hn
 clear h hp hn
 go_enter Tryz.func138, Tryz.ntmps138
 go_wp2_with fail
 refine (skip_any w b s p o.size v H.out.rd _ HP.out _ rfl).mono ?_
 rintro e0 w1 ⟨rfl, h1, ho1⟩
 have H1 := Kept.mk (H.out.mv ⟨h1, ho1⟩)
 clear h1 H HP
 generalize hq0 : p + o.size = q0 at *
 clear hq0
 go_wp2_with fail
 go_loopw [] (fun wr => ∃ q, Kept (RM wr b s q v) ∧ Kept (Only (· = b) w wr) ∧ Kept (oo = nestAt d e (toL s) q)) (fun wr => s.size - far b wr)
 case atStart => exact ⟨q0, H1, ho1, HOO⟩
 case round =>
   obtain ⟨q, HR, HO, HE⟩ := hrel
   by_cases hlt : q < s.size
   · by_cases hc : s[q]'hlt = e
     · have HF : Kept (oo = some (q + 1)) := ⟨by rw [HE.out, nestAt_close hlt hc]⟩
       have HS : Kept (some (q + 1) = if q + 1 ≤ s.size then some (q + 1) else none) := ⟨(if_pos hlt).symm⟩
       have HLT := Kept.mk hlt
       have HC : Kept (s[q]'hlt = e) := ⟨hc⟩
       clear hc HE
       go_wp2_with (go_at_call 162; refine (next_ok wr b s q v e HR.out.rd HLT.out HC.out).mono ?_; rintro e1 w2 ⟨rfl, hq⟩; have H2 := Kept.mk (HR.out.qt hq); have HO2 := Kept.mk (only_trans HO.out (hq.only _)); clear hq)
       refine (skip_any _ b s q 1 v H2.out.rd _ HS.out _ rfl).mono ?_
       rintro e1 w3 ⟨rfl, h3, ho3⟩
       go_wp2_with fail
       refine bodyPost_end (results_none rfl _ _ _) rfl ?_
       obtain rfl := HF.out
       exact ⟨rfl, h3, ⟨only_trans HO2.out ho3.out⟩⟩
     · have HLT := Kept.mk hlt
       have hne : ¬ ((s[q]'hlt).toNat : Int) = (e.toNat : Int) := fun h => hc (UInt8.toNat_inj.1 (by omega))
       have HC := Kept.mk hc
       obtain ⟨c, hcc⟩ : ∃ c, s[q]'hlt = c := ⟨_, rfl⟩
       rw [hcc] at hne
       have HCC : Kept (s[q]'hlt = c) := ⟨hcc⟩
       have t1 : (((c.toNat : Int)) != (e.toNat : Int)) = true := by simpa using fun h => hne (by omega)
       have t2 : (((c.toNat : Int)) == (e.toNat : Int)) = false := by simpa using fun h => hne (by omega)
       clear hcc hne hc
       cases hu : unitAt d e (toL s) q with
       | none =>
         have HF : Kept (oo = none) := ⟨by rw [HE.out, nestAt_bad HLT.out HC.out hu]⟩
         have HU2 := Kept.mk hu
         clear hu
         go_wp2_with (first
           | (go_at_call 162; refine (next_ok wr b s q v c HR.out.rd HLT.out HCC.out).mono ?_; rintro e1 w2 ⟨rfl, hq⟩; have H2 := Kept.mk (HR.out.qt hq); have HO2 := Kept.mk (only_trans HO.out (hq.only _)); clear hq))
         refine (HU.out (n + 1) _ b s q v e _ _ (by have := HN.out; omega) rfl (by omega) H2.out HLT.out _ ⟨HU2.out.symm⟩).mono ?_
         rintro e1 w3 ⟨rfl, ho3⟩
         obtain rfl := HF.out
         exact ⟨rfl, rfl, ⟨only_trans HO2.out ho3.out⟩⟩
       | some q' =>
         obtain ⟨h1, h2, h3⟩ := nestAt_on HLT.out HC.out hu
         have HE2 : Kept (oo = nestAt d e (toL s) q') := ⟨by rw [HE.out, h1]⟩
         have HU2 := Kept.mk hu
         have HLt := Kept.mk h2
         have HLe := Kept.mk h3
         clear hu h1 h2 h3
         go_wp2_with (first
           | (go_at_call 162; refine (next_ok wr b s q v c HR.out.rd HLT.out HCC.out).mono ?_; rintro e1 w2 ⟨rfl, hq⟩; have H2 := Kept.mk (HR.out.qt hq); have HO2 := Kept.mk (only_trans HO.out (hq.only _)); clear hq))
         refine (HU.out (n + 1) _ b s q v e _ _ (by have := HN.out; omega) rfl (by omega) H2.out HLT.out _ ⟨HU2.out.symm⟩).mono ?_
         rintro e1 w3 ⟨rfl, h3, ho3⟩
         have H3 := Kept.mk (H2.out.mv ⟨h3, ho3⟩)
         have HO3 := Kept.mk (only_trans HO2.out ho3.out)
         have HM : Kept (s.size - far b w3 < s.size - far b wr) := ⟨by rw [H3.out.rd.far, HR.out.rd.far]; have := HLt.out; have := HLe.out; omega⟩
         clear h3 ho3
         go_wp2
         go_roundw
         case rel => exact ⟨q', H3, HO3, HE2⟩
         case measure => exact HM.out
   · have hle := HR.out.rd.le
     have hq : q = s.size := by omega
     have HQ := Kept.mk hq
     have HF : Kept (oo = none) := ⟨by rw [HE.out, nestAt_end (by omega)]⟩
     clear hlt hle hq
     go_wp2_with fail
     go_at_call 162
     refine (next_bad wr b s q v HR.out.rd HQ.out).mono ?_
     rintro e1 w3 ⟨rfl, ho3⟩
     obtain rfl := HF.out
     exact ⟨rfl, rfl, ⟨only_trans HO.out ho3.out⟩⟩
theorem rest_first (w : World) (b : Nat) (s : ByteArray) (p : Nat) (v : Value) (h : RD w b s p v) (hp : p < s.size) :
   Calls Tryz.prog 84 #[.pointer (some ⟨b, 0, none⟩)] w fun e w' => ∃ r : ByteArray, e = .returned (.string r) ∧ Qt w w' ∧ Kept (toL r = (toL s).drop p) ∧ ∃ hz : 0 < r.size, r[0]'hz = s[p]'hp := by
 refine (rest_any w b s p v h).mono ?_
 rintro e w' ⟨rfl, hq⟩
 have e1 := drop_ext s p
 have hz : 0 < (s.extract p s.size).size := by simp; omega
 refine ⟨_, rfl, hq, ⟨e1⟩, hz, ?_⟩
 rw [drop_at hp] at e1
 have e2 : (toL (s.extract p s.size))[0]'(by rw [toL_length]; exact hz) = s[p]'hp := by simp only [e1]; rfl
 exact e2
theorem prefix_two (a c z : UInt8) (r : List UInt8) : [a, z].isPrefixOf (c :: r) = (a == c && decide (r.head? = some z)) := by
 cases r with
 | nil => simp [List.isPrefixOf]
 | cons y r =>
   simp only [List.isPrefixOf, List.head?_cons, Option.some.injEq, Bool.and_true]
   congr 1
   by_cases h : z = y
   · subst h; simp
   · have : ((z : UInt8) == y) = false := by simpa using h
     rw [this, decide_eq_false (fun e => h e.symm)]
theorem moved_trans {w w2 w3 : World} {b : Nat} {s : ByteArray} {v : Value} {o : Option Nat} {e : Ending} (h : Only (· = b) w w2) (hm : Moved w2 b s v o e w3) : Moved w b s v o e w3 := by
 cases o with
 | none => exact ⟨hm.1, ⟨only_trans h hm.2.out⟩⟩
 | some q => exact ⟨hm.1, hm.2.1, ⟨only_trans h hm.2.2.out⟩⟩
set_option maxHeartbeats 1000000 in
set_option maxRecDepth 100000 in
theorem unit_esc (d : Nat) (_HN : Kept (NestC d)) (n : Nat) (w : World) (b : Nat) (s : ByteArray) (p : Nat) (v : Value) (e : UInt8) (hn : n + (d + 1) = 31) (H : Kept (RM w b s p v)) (hp : p < s.size) (E92 : Kept ((((s[p]'hp).toNat : Nat) : Int) = 92)) (o : Option Nat) (HO : Kept (o = (if p + 2 ≤ s.size then some (p + 2) else none))) :
   Calls Tryz.prog 126 #[.pointer (some ⟨b, 0, none⟩), .int .i64 (n : Int), .int .u8 (e.toNat : Int)] w (Moved w b s v o) := by
 have hn30 : (n : Int) ≤ 30 := by omega
 have HNn := Kept.mk hn
 have HP := Kept.mk hp
 have hsz := H.out.rd.sz
 go_enter Tryz.func126, Tryz.ntmps126
 go_wp2_with (first
   | (go_at_call 84; refine (rest_first w b s p v H.out.rd HP.out).mono ?_; rintro e0 w2 ⟨r, rfl, hq, hr, hz, hc0⟩; have z92 : ((r[0]'hz).toNat : Int) = 92 := (by rw [hc0]; exact E92.out); have H2 := Kept.mk (H.out.qt hq); have HO2 := Kept.mk (hq.only (· = b)); clear hq hc0))
 refine (skip_any _ b s p 2 v H2.out.rd (if p + 2 ≤ s.size then some (p + 2) else none) rfl _ rfl).mono ?_
 rw [← HO.out]
 rintro e1 w3 hm
 have hm := moved_trans HO2.out hm
 cases o with
 | none => obtain ⟨rfl, ho3⟩ := hm; exact ⟨rfl, rfl, ho3⟩
 | some q =>
   obtain ⟨rfl, h3, ho3⟩ := hm
   go_wp2_with fail
   refine bodyPost_end (results_none rfl _ _ _) rfl ?_
   exact ⟨rfl, h3, ho3⟩
set_option maxHeartbeats 1000000 in
set_option maxRecDepth 100000 in
theorem unit_sq (d : Nat) (_HN : Kept (NestC d)) (n : Nat) (w : World) (b : Nat) (s : ByteArray) (p : Nat) (v : Value) (e : UInt8) (hn : n + (d + 1) = 31) (H : Kept (RM w b s p v)) (hp : p < s.size) (E39 : Kept ((((s[p]'hp).toNat : Nat) : Int) = 39)) (he : e ≠ 34) (o : Option Nat) (HO : Kept (o = ((quoted ((toL s).drop (p + 1))).map (p + 1 + ·)))) :
   Calls Tryz.prog 126 #[.pointer (some ⟨b, 0, none⟩), .int .i64 (n : Int), .int .u8 (e.toNat : Int)] w (Moved w b s v o) := by
 have hn30 : (n : Int) ≤ 30 := by omega
 have HNn := Kept.mk hn
 have HP := Kept.mk hp
 have hsz := H.out.rd.sz
 have he2 : ((e.toNat : Int) != 34) = true := by simpa using fun h => he (UInt8.toNat_inj.1 (show e.toNat = 34 by omega))
 clear he
 go_enter Tryz.func126, Tryz.ntmps126
 go_wp2_with (first
   | (go_at_call 84; refine (rest_first w b s p v H.out.rd HP.out).mono ?_; rintro e0 w2 ⟨r, rfl, hq, hr, hz, hc0⟩; have z39 : ((r[0]'hz).toNat : Int) = 39 := (by rw [hc0]; exact E39.out); have H2 := Kept.mk (H.out.qt hq); have HO2 := Kept.mk (hq.only (· = b)); clear hq hc0))
 refine (quoted_any _ b s p v H2.out HP.out _ rfl).mono ?_
 rw [← HO.out]
 rintro e1 w3 hm
 have hm := moved_trans HO2.out hm
 cases o with
 | none => obtain ⟨rfl, ho3⟩ := hm; exact ⟨rfl, rfl, ho3⟩
 | some q =>
   obtain ⟨rfl, h3, ho3⟩ := hm
   go_wp2_with fail
   refine bodyPost_end (results_none rfl _ _ _) rfl ?_
   exact ⟨rfl, h3, ho3⟩
set_option maxHeartbeats 1000000 in
set_option maxRecDepth 100000 in
theorem unit_sq34 (d : Nat) (_HN : Kept (NestC d)) (n : Nat) (w : World) (b : Nat) (s : ByteArray) (p : Nat) (v : Value) (e : UInt8) (hn : n + (d + 1) = 31) (H : Kept (RM w b s p v)) (hp : p < s.size) (E39 : Kept ((((s[p]'hp).toNat : Nat) : Int) = 39)) (he : e = 34) (HPre : Kept (∀ r : ByteArray, Kept (toL r = (toL s).drop p) → ∀ (w : World), Calls Tryz.prog 123 #[.string r, .string ⟨#[36, 40]⟩] w (fun e w' => e = .returned (.bool false) ∧ w' = w) ∧ Calls Tryz.prog 123 #[.string r, .string ⟨#[36, 123]⟩] w (fun e w' => e = .returned (.bool false) ∧ w' = w))) (o : Option Nat) (HO : Kept (o = (some (p + 1)))) :
   Calls Tryz.prog 126 #[.pointer (some ⟨b, 0, none⟩), .int .i64 (n : Int), .int .u8 (e.toNat : Int)] w (Moved w b s v o) := by
 have hn30 : (n : Int) ≤ 30 := by omega
 have HNn := Kept.mk hn
 have HP := Kept.mk hp
 have hsz := H.out.rd.sz
 have he2 : ((e.toNat : Int) != 34) = false := by subst he; rfl
 have HS : Kept (some (p + 1) = if p + 1 ≤ s.size then some (p + 1) else none) := ⟨(if_pos hp).symm⟩
 clear he
 go_enter Tryz.func126, Tryz.ntmps126
 go_wp2_with (first
   | (go_at_call 84; refine (rest_first w b s p v H.out.rd HP.out).mono ?_; rintro e0 w2 ⟨r, rfl, hq, hr, hz, hc0⟩; have z39 : ((r[0]'hz).toNat : Int) = 39 := (by rw [hc0]; exact E39.out); have T1 : Kept True := ⟨trivial⟩; have H2 := Kept.mk (H.out.qt hq); have HO2 := Kept.mk (hq.only (· = b)); clear hq hc0)
   | (go_at_call 123; have := T1; refine (HPre.out r hr _).1.mono ?_; rintro e0 w3 ⟨rfl, rfl⟩; clear T1 this)
   | (go_at_call 123; refine (HPre.out r hr _).2.mono ?_; rintro e0 w3 ⟨rfl, rfl⟩))
 refine (skip_any _ b s p 1 v H2.out.rd (some (p + 1)) HS.out _ rfl).mono ?_
 rw [← HO.out]
 rintro e1 w3 hm
 have hm := moved_trans HO2.out hm
 cases o with
 | none => obtain ⟨rfl, ho3⟩ := hm; exact ⟨rfl, rfl, ho3⟩
 | some q =>
   obtain ⟨rfl, h3, ho3⟩ := hm
   go_wp2_with fail
   refine bodyPost_end (results_none rfl _ _ _) rfl ?_
   exact ⟨rfl, h3, ho3⟩
set_option maxHeartbeats 1000000 in
set_option maxRecDepth 100000 in
theorem unit_dq (d : Nat) (HN : Kept (NestC d)) (n : Nat) (w : World) (b : Nat) (s : ByteArray) (p : Nat) (v : Value) (e : UInt8) (hn : n + (d + 1) = 31) (H : Kept (RM w b s p v)) (hp : p < s.size) (E34 : Kept ((((s[p]'hp).toNat : Nat) : Int) = 34)) (o : Option Nat) (HO : Kept (o = (nestAt d 34 (toL s) (p + 1)))) :
   Calls Tryz.prog 126 #[.pointer (some ⟨b, 0, none⟩), .int .i64 (n : Int), .int .u8 (e.toNat : Int)] w (Moved w b s v o) := by
 have hn30 : (n : Int) ≤ 30 := by omega
 have HNn := Kept.mk hn
 have HP := Kept.mk hp
 have hsz := H.out.rd.sz
 go_enter Tryz.func126, Tryz.ntmps126
 go_wp2_with (first
   | (go_at_call 84; refine (rest_first w b s p v H.out.rd HP.out).mono ?_; rintro e0 w2 ⟨r, rfl, hq, hr, hz, hc0⟩; have z34 : ((r[0]'hz).toNat : Int) = 34 := (by rw [hc0]; exact E34.out); have H2 := Kept.mk (H.out.qt hq); have HO2 := Kept.mk (hq.only (· = b)); clear hq hc0))
 refine (HN.out n _ b s p v 34 _ _ ⟨#[34]⟩ (by have := HNn.out; omega) rfl rfl H2.out HP.out o HO).mono ?_
 rintro e1 w3 hm
 have hm := moved_trans HO2.out hm
 cases o with
 | none => obtain ⟨rfl, ho3⟩ := hm; exact ⟨rfl, rfl, ho3⟩
 | some q =>
   obtain ⟨rfl, h3, ho3⟩ := hm
   go_wp2_with fail
   refine bodyPost_end (results_none rfl _ _ _) rfl ?_
   exact ⟨rfl, h3, ho3⟩
set_option maxHeartbeats 1000000 in
set_option maxRecDepth 100000 in
theorem unit_par (d : Nat) (HN : Kept (NestC d)) (n : Nat) (w : World) (b : Nat) (s : ByteArray) (p : Nat) (v : Value) (e : UInt8) (hn : n + (d + 1) = 31) (H : Kept (RM w b s p v)) (hp : p < s.size) (E36 : Kept ((((s[p]'hp).toNat : Nat) : Int) = 36)) (hp2 : p + 2 ≤ s.size) (HPre : Kept (∀ r : ByteArray, Kept (toL r = (toL s).drop p) → ∀ (w : World), Calls Tryz.prog 123 #[.string r, .string ⟨#[36, 40]⟩] w fun e w' => e = .returned (.bool true) ∧ w' = w)) (o : Option Nat) (HO : Kept (o = (nestAt d 41 (toL s) (p + 2)))) :
   Calls Tryz.prog 126 #[.pointer (some ⟨b, 0, none⟩), .int .i64 (n : Int), .int .u8 (e.toNat : Int)] w (Moved w b s v o) := by
 have hn30 : (n : Int) ≤ 30 := by omega
 have HNn := Kept.mk hn
 have HP := Kept.mk hp
 have hsz := H.out.rd.sz
 have HP2 := Kept.mk hp2
 clear hp2
 go_enter Tryz.func126, Tryz.ntmps126
 go_wp2_with (first
   | (go_at_call 84; refine (rest_first w b s p v H.out.rd HP.out).mono ?_; rintro e0 w2 ⟨r, rfl, hq, hr, hz, hc0⟩; have z36 : ((r[0]'hz).toNat : Int) = 36 := (by rw [hc0]; exact E36.out); have T1 : Kept True := ⟨trivial⟩; have H2 := Kept.mk (H.out.qt hq); have HO2 := Kept.mk (hq.only (· = b)); clear hq hc0)
   | (go_at_call 123; refine (HPre.out r hr _).mono ?_; rintro e0 w3 ⟨rfl, rfl⟩))
 refine (HN.out n _ b s p v 41 _ _ ⟨#[36, 40]⟩ (by have := HNn.out; omega) rfl rfl H2.out HP2.out o HO).mono ?_
 rintro e1 w3 hm
 have hm := moved_trans HO2.out hm
 cases o with
 | none => obtain ⟨rfl, ho3⟩ := hm; exact ⟨rfl, rfl, ho3⟩
 | some q =>
   obtain ⟨rfl, h3, ho3⟩ := hm
   go_wp2_with fail
   refine bodyPost_end (results_none rfl _ _ _) rfl ?_
   exact ⟨rfl, h3, ho3⟩
set_option maxHeartbeats 1000000 in
set_option maxRecDepth 100000 in
theorem unit_brace (d : Nat) (HN : Kept (NestC d)) (n : Nat) (w : World) (b : Nat) (s : ByteArray) (p : Nat) (v : Value) (e : UInt8) (hn : n + (d + 1) = 31) (H : Kept (RM w b s p v)) (hp : p < s.size) (E36 : Kept ((((s[p]'hp).toNat : Nat) : Int) = 36)) (hp2 : p + 2 ≤ s.size) (HPre : Kept (∀ r : ByteArray, Kept (toL r = (toL s).drop p) → ∀ (w : World), Calls Tryz.prog 123 #[.string r, .string ⟨#[36, 40]⟩] w (fun e w' => e = .returned (.bool false) ∧ w' = w) ∧ Calls Tryz.prog 123 #[.string r, .string ⟨#[36, 123]⟩] w fun e w' => e = .returned (.bool true) ∧ w' = w)) (o : Option Nat) (HO : Kept (o = (nestAt d 125 (toL s) (p + 2)))) :
   Calls Tryz.prog 126 #[.pointer (some ⟨b, 0, none⟩), .int .i64 (n : Int), .int .u8 (e.toNat : Int)] w (Moved w b s v o) := by
 have hn30 : (n : Int) ≤ 30 := by omega
 have HNn := Kept.mk hn
 have HP := Kept.mk hp
 have hsz := H.out.rd.sz
 have HP2 := Kept.mk hp2
 clear hp2
 go_enter Tryz.func126, Tryz.ntmps126
 go_wp2_with (first
   | (go_at_call 84; refine (rest_first w b s p v H.out.rd HP.out).mono ?_; rintro e0 w2 ⟨r, rfl, hq, hr, hz, hc0⟩; have z36 : ((r[0]'hz).toNat : Int) = 36 := (by rw [hc0]; exact E36.out); have T1 : Kept True := ⟨trivial⟩; have H2 := Kept.mk (H.out.qt hq); have HO2 := Kept.mk (hq.only (· = b)); clear hq hc0)
   | (go_at_call 123; have := T1; refine (HPre.out r hr _).1.mono ?_; rintro e0 w3 ⟨rfl, rfl⟩; clear T1 this)
   | (go_at_call 123; refine (HPre.out r hr _).2.mono ?_; rintro e0 w3 ⟨rfl, rfl⟩))
 refine (HN.out n _ b s p v 125 _ _ ⟨#[36, 123]⟩ (by have := HNn.out; omega) rfl rfl H2.out HP2.out o HO).mono ?_
 rintro e1 w3 hm
 have hm := moved_trans HO2.out hm
 cases o with
 | none => obtain ⟨rfl, ho3⟩ := hm; exact ⟨rfl, rfl, ho3⟩
 | some q =>
   obtain ⟨rfl, h3, ho3⟩ := hm
   go_wp2_with fail
   refine bodyPost_end (results_none rfl _ _ _) rfl ?_
   exact ⟨rfl, h3, ho3⟩
set_option maxHeartbeats 1000000 in
set_option maxRecDepth 100000 in
theorem unit_in (d : Nat) (HN : Kept (NestC d)) (n : Nat) (w : World) (b : Nat) (s : ByteArray) (p : Nat) (v : Value) (e : UInt8) (hn : n + (d + 1) = 31) (H : Kept (RM w b s p v)) (hp : p < s.size) (E40 : Kept ((((s[p]'hp).toNat : Nat) : Int) = 40)) (he : e = 41) (HPre : Kept (∀ r : ByteArray, Kept (toL r = (toL s).drop p) → ∀ (w : World), Calls Tryz.prog 123 #[.string r, .string ⟨#[36, 40]⟩] w (fun e w' => e = .returned (.bool false) ∧ w' = w) ∧ Calls Tryz.prog 123 #[.string r, .string ⟨#[36, 123]⟩] w (fun e w' => e = .returned (.bool false) ∧ w' = w))) (o : Option Nat) (HO : Kept (o = (nestAt d 41 (toL s) (p + 1)))) :
   Calls Tryz.prog 126 #[.pointer (some ⟨b, 0, none⟩), .int .i64 (n : Int), .int .u8 (e.toNat : Int)] w (Moved w b s v o) := by
 have hn30 : (n : Int) ≤ 30 := by omega
 have HNn := Kept.mk hn
 have HP := Kept.mk hp
 have hsz := H.out.rd.sz
 subst he
 go_enter Tryz.func126, Tryz.ntmps126
 go_wp2_with (first
   | (go_at_call 84; refine (rest_first w b s p v H.out.rd HP.out).mono ?_; rintro e0 w2 ⟨r, rfl, hq, hr, hz, hc0⟩; have z40 : ((r[0]'hz).toNat : Int) = 40 := (by rw [hc0]; exact E40.out); have T1 : Kept True := ⟨trivial⟩; have H2 := Kept.mk (H.out.qt hq); have HO2 := Kept.mk (hq.only (· = b)); clear hq hc0)
   | (go_at_call 123; have := T1; refine (HPre.out r hr _).1.mono ?_; rintro e0 w3 ⟨rfl, rfl⟩; clear T1 this)
   | (go_at_call 123; refine (HPre.out r hr _).2.mono ?_; rintro e0 w3 ⟨rfl, rfl⟩))
 refine (HN.out n _ b s p v 41 _ _ ⟨#[40]⟩ (by have := HNn.out; omega) rfl rfl H2.out HP.out o HO).mono ?_
 rintro e1 w3 hm
 have hm := moved_trans HO2.out hm
 cases o with
 | none => obtain ⟨rfl, ho3⟩ := hm; exact ⟨rfl, rfl, ho3⟩
 | some q =>
   obtain ⟨rfl, h3, ho3⟩ := hm
   go_wp2_with fail
   refine bodyPost_end (results_none rfl _ _ _) rfl ?_
   exact ⟨rfl, h3, ho3⟩
set_option maxHeartbeats 1000000 in
set_option maxRecDepth 100000 in
theorem unit_plain40 (d : Nat) (_HN : Kept (NestC d)) (n : Nat) (w : World) (b : Nat) (s : ByteArray) (p : Nat) (v : Value) (e : UInt8) (hn : n + (d + 1) = 31) (H : Kept (RM w b s p v)) (hp : p < s.size) (E40 : Kept ((((s[p]'hp).toNat : Nat) : Int) = 40)) (he : e ≠ 41) (HPre : Kept (∀ r : ByteArray, Kept (toL r = (toL s).drop p) → ∀ (w : World), Calls Tryz.prog 123 #[.string r, .string ⟨#[36, 40]⟩] w (fun e w' => e = .returned (.bool false) ∧ w' = w) ∧ Calls Tryz.prog 123 #[.string r, .string ⟨#[36, 123]⟩] w (fun e w' => e = .returned (.bool false) ∧ w' = w))) (o : Option Nat) (HO : Kept (o = (some (p + 1)))) :
   Calls Tryz.prog 126 #[.pointer (some ⟨b, 0, none⟩), .int .i64 (n : Int), .int .u8 (e.toNat : Int)] w (Moved w b s v o) := by
 have hn30 : (n : Int) ≤ 30 := by omega
 have HNn := Kept.mk hn
 have HP := Kept.mk hp
 have hsz := H.out.rd.sz
 have he2 : ((e.toNat : Int) == 41) = false := by simpa using fun h => he (UInt8.toNat_inj.1 (show e.toNat = 41 by omega))
 have HS : Kept (some (p + 1) = if p + 1 ≤ s.size then some (p + 1) else none) := ⟨(if_pos hp).symm⟩
 clear he
 go_enter Tryz.func126, Tryz.ntmps126
 go_wp2_with (first
   | (go_at_call 84; refine (rest_first w b s p v H.out.rd HP.out).mono ?_; rintro e0 w2 ⟨r, rfl, hq, hr, hz, hc0⟩; have z40 : ((r[0]'hz).toNat : Int) = 40 := (by rw [hc0]; exact E40.out); have T1 : Kept True := ⟨trivial⟩; have H2 := Kept.mk (H.out.qt hq); have HO2 := Kept.mk (hq.only (· = b)); clear hq hc0)
   | (go_at_call 123; have := T1; refine (HPre.out r hr _).1.mono ?_; rintro e0 w3 ⟨rfl, rfl⟩; clear T1 this)
   | (go_at_call 123; refine (HPre.out r hr _).2.mono ?_; rintro e0 w3 ⟨rfl, rfl⟩))
 refine (skip_any _ b s p 1 v H2.out.rd (some (p + 1)) HS.out _ rfl).mono ?_
 rw [← HO.out]
 rintro e1 w3 hm
 have hm := moved_trans HO2.out hm
 cases o with
 | none => obtain ⟨rfl, ho3⟩ := hm; exact ⟨rfl, rfl, ho3⟩
 | some q =>
   obtain ⟨rfl, h3, ho3⟩ := hm
   go_wp2_with fail
   refine bodyPost_end (results_none rfl _ _ _) rfl ?_
   exact ⟨rfl, h3, ho3⟩
set_option maxHeartbeats 1000000 in
set_option maxRecDepth 100000 in
theorem unit_plain (d : Nat) (_HN : Kept (NestC d)) (n : Nat) (w : World) (b : Nat) (s : ByteArray) (p : Nat) (v : Value) (e : UInt8) (hn : n + (d + 1) = 31) (H : Kept (RM w b s p v)) (hp : p < s.size) (N92 : Kept (((((s[p]'hp).toNat : Nat) : Int) == 92) = false)) (N39 : Kept (((((s[p]'hp).toNat : Nat) : Int) == 39) = false)) (N34 : Kept (((((s[p]'hp).toNat : Nat) : Int) == 34) = false)) (N40 : Kept (((((s[p]'hp).toNat : Nat) : Int) == 40) = false)) (HPre : Kept (∀ r : ByteArray, Kept (toL r = (toL s).drop p) → ∀ (w : World), Calls Tryz.prog 123 #[.string r, .string ⟨#[36, 40]⟩] w (fun e w' => e = .returned (.bool false) ∧ w' = w) ∧ Calls Tryz.prog 123 #[.string r, .string ⟨#[36, 123]⟩] w (fun e w' => e = .returned (.bool false) ∧ w' = w))) (o : Option Nat) (HO : Kept (o = (some (p + 1)))) :
   Calls Tryz.prog 126 #[.pointer (some ⟨b, 0, none⟩), .int .i64 (n : Int), .int .u8 (e.toNat : Int)] w (Moved w b s v o) := by
 have hn30 : (n : Int) ≤ 30 := by omega
 have HNn := Kept.mk hn
 have HP := Kept.mk hp
 have hsz := H.out.rd.sz
 have HS : Kept (some (p + 1) = if p + 1 ≤ s.size then some (p + 1) else none) := ⟨(if_pos hp).symm⟩
 go_enter Tryz.func126, Tryz.ntmps126
 go_wp2_with (first
   | (go_at_call 84; refine (rest_first w b s p v H.out.rd HP.out).mono ?_; rintro e0 w2 ⟨r, rfl, hq, hr, hz, hc0⟩; have z92 : (((r[0]'hz).toNat : Int) == 92) = false := (by rw [hc0]; exact N92.out); have z39 : (((r[0]'hz).toNat : Int) == 39) = false := (by rw [hc0]; exact N39.out); have z34 : (((r[0]'hz).toNat : Int) == 34) = false := (by rw [hc0]; exact N34.out); have z40 : (((r[0]'hz).toNat : Int) == 40) = false := (by rw [hc0]; exact N40.out); have T1 : Kept True := ⟨trivial⟩; have H2 := Kept.mk (H.out.qt hq); have HO2 := Kept.mk (hq.only (· = b)); clear hq hc0)
   | (go_at_call 123; have := T1; refine (HPre.out r hr _).1.mono ?_; rintro e0 w3 ⟨rfl, rfl⟩; clear T1 this)
   | (go_at_call 123; refine (HPre.out r hr _).2.mono ?_; rintro e0 w3 ⟨rfl, rfl⟩))
 refine (skip_any _ b s p 1 v H2.out.rd (some (p + 1)) HS.out _ rfl).mono ?_
 rw [← HO.out]
 rintro e1 w3 hm
 have hm := moved_trans HO2.out hm
 cases o with
 | none => obtain ⟨rfl, ho3⟩ := hm; exact ⟨rfl, rfl, ho3⟩
 | some q =>
   obtain ⟨rfl, h3, ho3⟩ := hm
   go_wp2_with fail
   refine bodyPost_end (results_none rfl _ _ _) rfl ?_
   exact ⟨rfl, h3, ho3⟩
end Lx
end
section
open Go.RowKit Tx
namespace Lx
theorem unitAt_step {d : Nat} {e : UInt8} {s : ByteArray} {p : Nat} (hp : p < s.size) : unitAt (d + 1) e (toL s) p =
   if s[p]'hp = 92 then (if p + 2 ≤ s.size then some (p + 2) else none)
   else if s[p]'hp = 39 ∧ e ≠ 34 then (quoted ((toL s).drop (p + 1))).map (p + 1 + ·)
   else if s[p]'hp = 34 then nestAt d 34 (toL s) (p + 1)
   else if s[p]'hp = 36 ∧ ((toL s).drop (p + 1)).head? = some 40 then nestAt d 41 (toL s) (p + 2)
   else if s[p]'hp = 36 ∧ ((toL s).drop (p + 1)).head? = some 123 then nestAt d 125 (toL s) (p + 2)
   else if s[p]'hp = 40 ∧ e = 41 then nestAt d 41 (toL s) (p + 1)
   else some (p + 1) := by
 have hnil : ((toL s).drop (p + 1) = []) ↔ ¬ p + 2 ≤ s.size := by
   rw [List.drop_eq_nil_iff, toL_length]; omega
 have ht : ((toL s).drop (p + 1)).tail = (toL s).drop (p + 2) := by rw [List.tail_drop]
 have hm : ∀ (k : Nat) (o : Option Nat), (o.map (k + ·)).map (p + ·) = o.map (p + k + ·) := fun k o => by
   rw [Option.map_map]; congr 1; funext x; show p + (k + x) = p + k + x; omega
 unfold unitAt nestAt
 rw [drop_at hp, unit_step, ht]
 by_cases h1 : s[p]'hp = 92
 · rw [if_pos h1, if_pos h1]
   by_cases h2 : p + 2 ≤ s.size
   · rw [if_neg (fun h => hnil.1 h h2), if_pos h2]; rfl
   · rw [if_pos (hnil.2 h2), if_neg h2]; rfl
 · rw [if_neg h1, if_neg h1]
   by_cases h2 : s[p]'hp = 39 ∧ e ≠ 34
   · rw [if_pos h2, if_pos h2, hm]
   · rw [if_neg h2, if_neg h2]
     by_cases h3 : s[p]'hp = 34
     · rw [if_pos h3, if_pos h3, hm]
     · rw [if_neg h3, if_neg h3]
       by_cases h4 : s[p]'hp = 36 ∧ ((toL s).drop (p + 1)).head? = some 40
       · rw [if_pos h4, if_pos h4, hm]
       · rw [if_neg h4, if_neg h4]
         by_cases h5 : s[p]'hp = 36 ∧ ((toL s).drop (p + 1)).head? = some 123
         · rw [if_pos h5, if_pos h5, hm]
         · rw [if_neg h5, if_neg h5]
           by_cases h6 : s[p]'hp = 40 ∧ e = 41
           · rw [if_pos h6, if_pos h6, hm]
           · rw [if_neg h6, if_neg h6]; rfl
theorem pre_any (s r x : ByteArray) (p : Nat) (hr : Kept (toL r = (toL s).drop p)) (w : World) (t : Bool) (ht : (toL x).isPrefixOf ((toL s).drop p) = t) : Calls Tryz.prog 123 #[.string r, .string x] w fun e w' => e = .returned (.bool t) ∧ w' = w := by
 have := prefix_any r (toL x) w t (by rw [hr.out, ht])
 rwa [bs_toL] at this
theorem pre_false {s : ByteArray} {p : Nat} (hp : p < s.size) (h : s[p]'hp ≠ 36) (z : UInt8) : [36, z].isPrefixOf ((toL s).drop p) = false := by
 rw [drop_at hp, prefix_two]
 have : ((36 : UInt8) == s[p]'hp) = false := by simpa using fun e => h e.symm
 rw [this]; rfl
theorem nat_byte {c : UInt8} {k : Nat} (h : c = UInt8.ofNat k) (hk : k < 256) : ((c.toNat : Nat) : Int) = (k : Int) := by subst h; rw [UInt8.toNat_ofNat']; omega
theorem nat_nbyte {c : UInt8} {k : Nat} (h : c ≠ UInt8.ofNat k) (hk : k < 256) : (((c.toNat : Nat) : Int) == (k : Int)) = false := by
 have : ((c.toNat : Nat) : Int) ≠ (k : Int) := fun e => h (UInt8.toNat_inj.1 (by rw [UInt8.toNat_ofNat']; omega))
 simpa using this
theorem unit_succ (d : Nat) (HN : Kept (NestC d)) : UnitC (d + 1) := by
 intro n w b s p v e m mn hn hm hmn h hp oo HO
 subst hm hmn
 have H := Kept.mk h
 rw [unitAt_step hp] at HO
 by_cases h1 : s[p]'hp = 92
 · rw [if_pos h1] at HO
   exact unit_esc d HN n w b s p v e hn H hp ⟨nat_byte (k := 92) h1 (by omega)⟩ oo HO
 · rw [if_neg h1] at HO
   by_cases h2 : s[p]'hp = 39 ∧ e ≠ 34
   · rw [if_pos h2] at HO
     exact unit_sq d HN n w b s p v e hn H hp ⟨nat_byte (k := 39) h2.1 (by omega)⟩ h2.2 oo HO
   · rw [if_neg h2] at HO
     have hnone : s[p]'hp ≠ 36 → Kept (∀ r : ByteArray, Kept (toL r = (toL s).drop p) → ∀ (z : UInt8) (w : World), Calls Tryz.prog 123 #[.string r, .string ⟨#[36, z]⟩] w fun e w' => e = .returned (.bool false) ∧ w' = w) :=
       fun h36 => ⟨fun r hr z w => pre_any s r ⟨#[36, z]⟩ p hr w false (pre_false hp h36 z)⟩
     by_cases h3 : s[p]'hp = 34
     · rw [if_pos h3] at HO
       exact unit_dq d HN n w b s p v e hn H hp ⟨nat_byte (k := 34) h3 (by omega)⟩ oo HO
     · rw [if_neg h3] at HO
       by_cases h36 : s[p]'hp = 36
       · have hz : ∀ z : UInt8, [36, z].isPrefixOf ((toL s).drop p) = decide (((toL s).drop (p + 1)).head? = some z) := fun z => by
           rw [drop_at hp, prefix_two, h36]; simp
         have hlen : ∀ z : UInt8, ((toL s).drop (p + 1)).head? = some z → p + 2 ≤ s.size := fun z hh => by
           have : (toL s).drop (p + 1) ≠ [] := fun e => by rw [e] at hh; cases hh
           rw [ne_eq, List.drop_eq_nil_iff, toL_length] at this
           omega
         by_cases h4 : ((toL s).drop (p + 1)).head? = some 40
         · rw [if_pos ⟨h36, h4⟩] at HO
           exact unit_par d HN n w b s p v e hn H hp ⟨nat_byte (k := 36) h36 (by omega)⟩ (hlen _ h4) ⟨fun r hr w => pre_any s r ⟨#[36, 40]⟩ p hr w true ((hz 40).trans (decide_eq_true h4))⟩ oo HO
         · rw [if_neg (fun h => h4 h.2)] at HO
           by_cases h5 : ((toL s).drop (p + 1)).head? = some 123
           · rw [if_pos ⟨h36, h5⟩] at HO
             exact unit_brace d HN n w b s p v e hn H hp ⟨nat_byte (k := 36) h36 (by omega)⟩ (hlen _ h5) ⟨fun r hr w => ⟨pre_any s r ⟨#[36, 40]⟩ p hr w false ((hz 40).trans (decide_eq_false h4)), pre_any s r ⟨#[36, 123]⟩ p hr w true ((hz 123).trans (decide_eq_true h5))⟩⟩ oo HO
           · rw [if_neg (fun h => h5 h.2), if_neg (fun h => by rw [h36] at h; simp at h)] at HO
             exact unit_plain d HN n w b s p v e hn H hp ⟨nat_nbyte (k := 92) h1 (by omega)⟩ ⟨nat_nbyte (k := 39) (by rw [h36]; decide) (by omega)⟩ ⟨nat_nbyte (k := 34) h3 (by omega)⟩ ⟨nat_nbyte (k := 40) (by rw [h36]; decide) (by omega)⟩ ⟨fun r hr w => ⟨pre_any s r ⟨#[36, 40]⟩ p hr w false ((hz 40).trans (decide_eq_false h4)), pre_any s r ⟨#[36, 123]⟩ p hr w false ((hz 123).trans (decide_eq_false h5))⟩⟩ oo HO
       · have hx : ∀ x : ByteArray, x = ⟨#[36, 40]⟩ ∨ x = ⟨#[36, 123]⟩ → (toL x).isPrefixOf ((toL s).drop p) = false := fun x hx => by rcases hx with rfl | rfl <;> exact pre_false hp h36 _
         rw [if_neg (fun h => h36 h.1), if_neg (fun h => h36 h.1)] at HO
         have HPre : Kept (∀ r : ByteArray, Kept (toL r = (toL s).drop p) → ∀ (w : World), Calls Tryz.prog 123 #[.string r, .string ⟨#[36, 40]⟩] w (fun e w' => e = .returned (.bool false) ∧ w' = w) ∧ Calls Tryz.prog 123 #[.string r, .string ⟨#[36, 123]⟩] w (fun e w' => e = .returned (.bool false) ∧ w' = w)) :=
           ⟨fun r hr w => ⟨pre_any s r _ p hr w false (hx _ (.inl rfl)), pre_any s r _ p hr w false (hx _ (.inr rfl))⟩⟩
         by_cases h40 : s[p]'hp = 40
         · by_cases h6 : e = 41
           · rw [if_pos ⟨h40, h6⟩] at HO
             exact unit_in d HN n w b s p v e hn H hp ⟨nat_byte (k := 40) h40 (by omega)⟩ h6 HPre oo HO
           · rw [if_neg (fun h => h6 h.2)] at HO
             exact unit_plain40 d HN n w b s p v e hn H hp ⟨nat_byte (k := 40) h40 (by omega)⟩ h6 HPre oo HO
         · rw [if_neg (fun h => h40 h.1)] at HO
           by_cases h39 : s[p]'hp = 39
           · have h34 : e = 34 := Decidable.byContradiction fun h => h2 ⟨h39, h⟩
             exact unit_sq34 d HN n w b s p v e hn H hp ⟨nat_byte (k := 39) h39 (by omega)⟩ h34 HPre oo HO
           · exact unit_plain d HN n w b s p v e hn H hp ⟨nat_nbyte (k := 92) h1 (by omega)⟩ ⟨nat_nbyte (k := 39) h39 (by omega)⟩ ⟨nat_nbyte (k := 34) h3 (by omega)⟩ ⟨nat_nbyte (k := 40) h40 (by omega)⟩ HPre oo HO
theorem unit_any : ∀ d, UnitC d
 | 0 => unit_zero
 | d + 1 => unit_succ d ⟨nest_of d ⟨unit_any d⟩⟩
def wordAt (l : List UInt8) (p : Nat) : Option Nat := (word (l.drop p)).map (p + ·)
theorem wordAt_end {s : ByteArray} {p : Nat} (hp : s.size ≤ p) : wordAt (toL s) p = some p := by unfold wordAt; rw [drop_end hp]; rfl
theorem wordAt_stop {s : ByteArray} {p : Nat} (hp : p < s.size) (h : stops (s[p]'hp) = true) : wordAt (toL s) p = some p := by unfold wordAt; rw [drop_at hp, word_stop h]; rfl
theorem wordAt_bad {s : ByteArray} {p : Nat} (hp : p < s.size) (h : stops (s[p]'hp) = false) (hu : unitAt 30 0 (toL s) p = none) : wordAt (toL s) p = none := by
 unfold wordAt unitAt at *
 rw [drop_at hp] at *
 rw [word_bad h (by simpa using hu)]; rfl
theorem wordAt_on {s : ByteArray} {p q : Nat} (hp : p < s.size) (h : stops (s[p]'hp) = false) (hu : unitAt 30 0 (toL s) p = some q) : wordAt (toL s) p = wordAt (toL s) q := by
 unfold wordAt unitAt at *
 obtain ⟨k, hk, rfl⟩ := Option.map_eq_some_iff.1 hu
 rw [drop_at hp] at hk ⊢
 rw [word_on h hk, ← drop_at hp, List.drop_drop, Option.map_map]
 congr 1
 funext x
 show p + (k + x) = p + k + x
 omega
set_option maxHeartbeats 1000000 in
set_option maxRecDepth 100000 in
theorem word_any (w : World) (b : Nat) (s : ByteArray) (p : Nat) (v : Value) (h : RM w b s p v) (o : Option Nat) (HO : Kept (o = wordAt (toL s) p)) :
   Calls Tryz.prog 89 #[.pointer (some ⟨b, 0, none⟩)] w (Moved w b s v o) := by
 have H := Kept.mk h
 clear h
 go_enter Tryz.func89, Tryz.ntmps89
 go_wp2_with fail
 go_loopw [] (fun wr => ∃ q, Kept (RM wr b s q v) ∧ Kept (Only (· = b) w wr) ∧ Kept (o = wordAt (toL s) q)) (fun wr => s.size - far b wr)
 case atStart => exact ⟨p, H, ⟨Only.refl _ _⟩, HO⟩
 case round =>
   obtain ⟨q, HR, HOn, HE⟩ := hrel
   have c0 := HR.out.rd.c0
   have c1 := HR.out.rd.c1
   by_cases hlt : q < s.size
   · have z : (q : Int) < s.size := by omega
     have HF : Kept (false = decide (q = s.size)) := ⟨(decide_eq_false (by omega)).symm⟩
     have HLT := Kept.mk hlt
     cases hst : stops (s[q]'hlt) with
     | true =>
       have HS : Kept (true = stops (s[q]'hlt)) := ⟨hst.symm⟩
       have HO2 : Kept (o = some q) := ⟨by rw [HE.out, wordAt_stop hlt hst]⟩
       clear hst HE
       go_wp2_with fail
       go_quiet ((first
         | (go_at_call 47; exact Calls.quiet_of (ended_any _ b s q v false (HR.out.rd.drewN _) HF.out))
         | (go_at_call 125; exact Calls.quiet_of_same (stop_any _ _ true HS.out))))
       have HRn := Kept.mk (HR.out.qt ⟨nq, rfl⟩)
       go_wp2_with fail
       refine bodyPost_end (results_none rfl _ _ _) rfl ?_
       obtain rfl := HO2.out
       exact ⟨rfl, ⟨HRn.out.rd⟩, ⟨HOn.out.drewN nq⟩⟩
     | false =>
       have HS : Kept (false = stops (s[q]'hlt)) := ⟨hst.symm⟩
       cases hu : unitAt 30 0 (toL s) q with
       | none =>
         have HO2 : Kept (o = none) := ⟨by rw [HE.out, wordAt_bad hlt hst hu]⟩
         have HU := Kept.mk hu
         clear hst HE hu
         go_wp2_with fail
         go_quiet ((first
           | (go_at_call 47; exact Calls.quiet_of (ended_any _ b s q v false (HR.out.rd.drewN _) HF.out))
           | (go_at_call 125; exact Calls.quiet_of_same (stop_any _ _ false HS.out))))
         have HRn := Kept.mk (HR.out.qt ⟨nq, rfl⟩)
         have HOq : Kept (Only (· = b) w (wr.drewN nq)) := ⟨HOn.out.drewN nq⟩
         go_wp2_with fail
         refine (unit_any 30 1 _ b s q v 0 _ _ rfl rfl rfl HRn.out HLT.out _ ⟨HU.out.symm⟩).mono ?_
         rintro e1 w3 ⟨rfl, ho3⟩
         obtain rfl := HO2.out
         exact ⟨rfl, rfl, ⟨only_trans HOq.out ho3.out⟩⟩
       | some q' =>
         have HO2 : Kept (o = wordAt (toL s) q') := ⟨by rw [HE.out, wordAt_on hlt hst hu]⟩
         have HLe := Kept.mk (unitAt_le hu)
         have HU := Kept.mk hu
         clear hst HE hu
         go_wp2_with fail
         go_quiet ((first
           | (go_at_call 47; exact Calls.quiet_of (ended_any _ b s q v false (HR.out.rd.drewN _) HF.out))
           | (go_at_call 125; exact Calls.quiet_of_same (stop_any _ _ false HS.out))))
         have HRn := Kept.mk (HR.out.qt ⟨nq, rfl⟩)
         have HOq : Kept (Only (· = b) w (wr.drewN nq)) := ⟨HOn.out.drewN nq⟩
         go_wp2_with fail
         refine (unit_any 30 1 _ b s q v 0 _ _ rfl rfl rfl HRn.out HLT.out _ ⟨HU.out.symm⟩).mono ?_
         rintro e1 w3 ⟨rfl, h3, ho3⟩
         have H3 := Kept.mk (HRn.out.mv ⟨h3, ho3⟩)
         have HO3 := Kept.mk (only_trans HOq.out ho3.out)
         have HM : Kept (s.size - far b w3 < s.size - far b wr) := ⟨by rw [H3.out.rd.far, HR.out.rd.far]; have := HLT.out; have := HLe.out; omega⟩
         clear h3 ho3
         go_wp2
         go_roundw
         case rel => exact ⟨q', H3, HO3, HO2⟩
         case measure => exact HM.out
   · have hle := HR.out.rd.le
     have HF : Kept (true = decide (q = s.size)) := ⟨(decide_eq_true (by omega)).symm⟩
     have HO2 : Kept (o = some q) := ⟨by rw [HE.out, wordAt_end (by omega)]⟩
     clear hlt hle HE
     go_wp2_with fail
     go_quiet ((go_at_call 47; exact Calls.quiet_of (ended_any _ b s q v true (HR.out.rd.drewN _) HF.out)))
     have HRn := Kept.mk (HR.out.qt ⟨nq, rfl⟩)
     go_wp2_with fail
     refine bodyPost_end (results_none rfl _ _ _) rfl ?_
     obtain rfl := HO2.out
     exact ⟨rfl, ⟨HRn.out.rd⟩, ⟨HOn.out.drewN nq⟩⟩
end Lx
end
end Go.Proofs.YtahjonfmhejoeaaGreatDoor
