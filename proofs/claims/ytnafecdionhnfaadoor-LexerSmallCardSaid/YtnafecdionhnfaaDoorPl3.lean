/-
  The program's units: each is skipped as it stands, however deep.
-/
import Derived.Test.YtnafecdionhnfaaDoorPl2
namespace Go.Proofs.YtnafecdionhnfaaDoor
open Go.RowKit Tx
namespace Lx

/-- Where the unit ends, or the closing byte is behind, from a place on. -/
def unitAt (d : Nat) (e : UInt8) (l : List UInt8) (p : Nat) : Option Nat := (unit d e (l.drop p)).map (p + ·)
def nestAt (d : Nat) (e : UInt8) (l : List UInt8) (p : Nat) : Option Nat := (nest d e (l.drop p)).map (p + ·)
theorem drop_at {s : ByteArray} {p : Nat} (hp : p < s.size) : (toL s).drop p = s[p]'hp :: (toL s).drop (p + 1) := by
  rw [List.drop_eq_getElem_cons (by rw [toL_length]; exact hp)]
  rfl
theorem drop_end {s : ByteArray} {p : Nat} (hp : s.size ≤ p) : (toL s).drop p = [] := List.drop_eq_nil_of_le (by rw [toL_length]; exact hp)
theorem nestAt_end {d : Nat} {e : UInt8} {s : ByteArray} {p : Nat} (hp : s.size ≤ p) : nestAt d e (toL s) p = none := by unfold nestAt; rw [drop_end hp, nest_nil]; rfl
theorem nestAt_close {d : Nat} {e : UInt8} {s : ByteArray} {p : Nat} (hp : p < s.size) (h : s[p]'hp = e) : nestAt d e (toL s) p = some (p + 1) := by unfold nestAt; rw [drop_at hp, h, nest_end]; rfl
theorem nestAt_bad {d : Nat} {e : UInt8} {s : ByteArray} {p : Nat} (hp : p < s.size) (h : s[p]'hp ≠ e) (hu : unitAt d e (toL s) p = none) : nestAt d e (toL s) p = none := by
  unfold nestAt unitAt at *
  rw [drop_at hp] at *
  rw [nest_bad h (by simpa using hu)]; rfl
theorem nestAt_on {d : Nat} {e : UInt8} {s : ByteArray} {p q : Nat} (hp : p < s.size) (h : s[p]'hp ≠ e) (hu : unitAt d e (toL s) p = some q) : nestAt d e (toL s) p = nestAt d e (toL s) q ∧ p < q ∧ q ≤ s.size := by
  unfold nestAt unitAt at *
  obtain ⟨k, hk, rfl⟩ := Option.map_eq_some_iff.1 hu
  have h1 := unit_le _ hk
  rw [List.length_drop, toL_length] at h1
  refine ⟨?_, by omega, by omega⟩
  rw [drop_at hp] at hk ⊢
  rw [nest_on h hk, ← drop_at hp, List.drop_drop, Option.map_map]
  congr 1
  funext x
  show p + (k + x) = p + k + x
  omega
theorem unitAt_le {d : Nat} {e : UInt8} {s : ByteArray} {p q : Nat} (hu : unitAt d e (toL s) p = some q) : p < q ∧ q ≤ s.size := by
  unfold unitAt at hu
  obtain ⟨k, hk, rfl⟩ := Option.map_eq_some_iff.1 hu
  have h1 := unit_le _ hk
  rw [List.length_drop, toL_length] at h1
  omega

def UnitC (d : Nat) : Prop := ∀ (n : Nat) (w : World) (b : Nat) (s : ByteArray) (p : Nat) (v : Value) (e : UInt8) (m mn : Int), n + d = 31 → m = (e.toNat : Int) → mn = n → RM w b s p v → p < s.size → ∀ oo, Kept (oo = unitAt d e (toL s) p) →
  Calls Tryd.prog 31 #[.pointer (some ⟨b, 0, none⟩), .int .i64 mn, .int .u8 m] w (Moved w b s v oo)
def NestC (d : Nat) : Prop := ∀ (n : Nat) (w : World) (b : Nat) (s : ByteArray) (p : Nat) (v : Value) (e : UInt8) (m mn : Int) (o : ByteArray), n + 1 + d = 31 → m = (e.toNat : Int) → mn = n → RM w b s p v → p + o.size ≤ s.size → ∀ oo, Kept (oo = nestAt d e (toL s) (p + o.size)) →
  Calls Tryd.prog 36 #[.pointer (some ⟨b, 0, none⟩), .string o, .int .u8 m, .int .i64 mn] w (Moved w b s v oo)
/-- How far the reader is. -/
def far (b : Nat) (w : World) : Nat :=
  match w.cell? ⟨b, 1, none⟩ with
  | some (.int _ p) => p.toNat
  | _ => 0
theorem RD.far {w : World} {b p : Nat} {s : ByteArray} {v : Value} (h : RD w b s p v) : far b w = p := by
  unfold Lx.far
  rw [h.c1]
  exact Int.toNat_natCast p

theorem unit_zero : UnitC 0 := by
  intro n w b s p v e m mn hn hm hmn h hp oo HOO
  obtain rfl : oo = none := HOO.out
  clear HOO
  obtain rfl : n = 31 := by omega
  subst hmn hm
  clear hp
  have H := Kept.mk h
  clear h
  go_enter Tryd.func31, Tryd.ntmps31
  go_wp2
  exact ⟨rfl, rfl, ⟨Only.refl _ _⟩⟩
set_option maxHeartbeats 1000000 in
set_option maxRecDepth 100000 in
theorem nest_of (d : Nat) (HU : Kept (UnitC d)) : NestC d := by
  intro n w b s p v e m mn o hn hm hmn h hp oo HOO
  subst hmn hm
  have H := Kept.mk h
  have HP : Kept (some (p + o.size) = if p + o.size ≤ s.size then some (p + o.size) else none) := ⟨(if_pos hp).symm⟩
  have HPle := Kept.mk hp
  have hos : o.size ≤ 20000 := by have := h.rd.sz; omega
  have hsz := h.rd.sz
  have hn30 : (n : Int) ≤ 30 := by omega
  have HN := Kept.mk hn
  clear h hp hn
  go_enter Tryd.func36, Tryd.ntmps36
  go_wp2_with fail
  refine (skip_any w b s p o.size v H.out.rd _ HP.out _ rfl).mono ?_
  rintro e0 w1 ⟨rfl, h1, ho1⟩
  have H1 := Kept.mk (H.out.mv ⟨h1, ho1⟩)
  clear h1 H HP
  generalize hq0 : p + o.size = q0 at *
  clear hq0
  go_wp2_with fail
  go_loopw [] (fun wr => ∃ q, Kept (RM wr b s q v) ∧ Kept (Only (· = b) w wr) ∧ Kept (oo = nestAt d e (toL s) q)) (fun wr => s.size - far b wr)
  case atStart => exact ⟨q0, H1, ho1, HOO⟩
  case round =>
    obtain ⟨q, HR, HO, HE⟩ := hrel
    by_cases hlt : q < s.size
    · by_cases hc : s[q]'hlt = e
      · have HF : Kept (oo = some (q + 1)) := ⟨by rw [HE.out, nestAt_close hlt hc]⟩
        have HS : Kept (some (q + 1) = if q + 1 ≤ s.size then some (q + 1) else none) := ⟨(if_pos hlt).symm⟩
        have HLT := Kept.mk hlt
        have HC : Kept (s[q]'hlt = e) := ⟨hc⟩
        clear hc HE
        go_wp2_with (go_at_call 39; refine (next_ok wr b s q v e HR.out.rd HLT.out HC.out).mono ?_; rintro e1 w2 ⟨rfl, hq⟩; have H2 := Kept.mk (HR.out.qt hq); have HO2 := Kept.mk (only_trans HO.out (hq.only _)); clear hq)
        refine (skip_any _ b s q 1 v H2.out.rd _ HS.out _ rfl).mono ?_
        rintro e1 w3 ⟨rfl, h3, ho3⟩
        go_wp2_with fail
        refine bodyPost_end (results_none rfl _ _ _) rfl ?_
        obtain rfl := HF.out
        exact ⟨rfl, h3, ⟨only_trans HO2.out ho3.out⟩⟩
      · have HLT := Kept.mk hlt
        have hne : ¬ ((s[q]'hlt).toNat : Int) = (e.toNat : Int) := fun h => hc (UInt8.toNat_inj.1 (by omega))
        have HC := Kept.mk hc
        obtain ⟨c, hcc⟩ : ∃ c, s[q]'hlt = c := ⟨_, rfl⟩
        rw [hcc] at hne
        have HCC : Kept (s[q]'hlt = c) := ⟨hcc⟩
        have t1 : (((c.toNat : Int)) != (e.toNat : Int)) = true := by simpa using fun h => hne (by omega)
        have t2 : (((c.toNat : Int)) == (e.toNat : Int)) = false := by simpa using fun h => hne (by omega)
        clear hcc hne hc
        cases hu : unitAt d e (toL s) q with
        | none =>
          have HF : Kept (oo = none) := ⟨by rw [HE.out, nestAt_bad HLT.out HC.out hu]⟩
          have HU2 := Kept.mk hu
          clear hu
          go_wp2_with (first
            | (go_at_call 39; refine (next_ok wr b s q v c HR.out.rd HLT.out HCC.out).mono ?_; rintro e1 w2 ⟨rfl, hq⟩; have H2 := Kept.mk (HR.out.qt hq); have HO2 := Kept.mk (only_trans HO.out (hq.only _)); clear hq))
          refine (HU.out (n + 1) _ b s q v e _ _ (by have := HN.out; omega) rfl (by omega) H2.out HLT.out _ ⟨HU2.out.symm⟩).mono ?_
          rintro e1 w3 ⟨rfl, ho3⟩
          obtain rfl := HF.out
          exact ⟨rfl, rfl, ⟨only_trans HO2.out ho3.out⟩⟩
        | some q' =>
          obtain ⟨h1, h2, h3⟩ := nestAt_on HLT.out HC.out hu
          have HE2 : Kept (oo = nestAt d e (toL s) q') := ⟨by rw [HE.out, h1]⟩
          have HU2 := Kept.mk hu
          have HLt := Kept.mk h2
          have HLe := Kept.mk h3
          clear hu h1 h2 h3
          go_wp2_with (first
            | (go_at_call 39; refine (next_ok wr b s q v c HR.out.rd HLT.out HCC.out).mono ?_; rintro e1 w2 ⟨rfl, hq⟩; have H2 := Kept.mk (HR.out.qt hq); have HO2 := Kept.mk (only_trans HO.out (hq.only _)); clear hq))
          refine (HU.out (n + 1) _ b s q v e _ _ (by have := HN.out; omega) rfl (by omega) H2.out HLT.out _ ⟨HU2.out.symm⟩).mono ?_
          rintro e1 w3 ⟨rfl, h3, ho3⟩
          have H3 := Kept.mk (H2.out.mv ⟨h3, ho3⟩)
          have HO3 := Kept.mk (only_trans HO2.out ho3.out)
          have HM : Kept (s.size - far b w3 < s.size - far b wr) := ⟨by rw [H3.out.rd.far, HR.out.rd.far]; have := HLt.out; have := HLe.out; omega⟩
          clear h3 ho3
          go_wp2
          go_roundw
          case rel => exact ⟨q', H3, HO3, HE2⟩
          case measure => exact HM.out
    · have hle := HR.out.rd.le
      have hq : q = s.size := by omega
      have HQ := Kept.mk hq
      have HF : Kept (oo = none) := ⟨by rw [HE.out, nestAt_end (by omega)]⟩
      clear hlt hle hq
      go_wp2_with fail
      go_at_call 39
      refine (next_bad wr b s q v HR.out.rd HQ.out).mono ?_
      rintro e1 w3 ⟨rfl, ho3⟩
      obtain rfl := HF.out
      exact ⟨rfl, rfl, ⟨only_trans HO.out ho3.out⟩⟩
theorem rest_first (w : World) (b : Nat) (s : ByteArray) (p : Nat) (v : Value) (h : RD w b s p v) (hp : p < s.size) :
    Calls Tryd.prog 20 #[.pointer (some ⟨b, 0, none⟩)] w fun e w' => ∃ r : ByteArray, e = .returned (.string r) ∧ Qt w w' ∧ Kept (toL r = (toL s).drop p) ∧ ∃ hz : 0 < r.size, r[0]'hz = s[p]'hp := by
  refine (rest_any w b s p v h).mono ?_
  rintro e w' ⟨rfl, hq⟩
  have e1 := drop_ext s p
  have hz : 0 < (s.extract p s.size).size := by simp; omega
  refine ⟨_, rfl, hq, ⟨e1⟩, hz, ?_⟩
  rw [drop_at hp] at e1
  have e2 : (toL (s.extract p s.size))[0]'(by rw [toL_length]; exact hz) = s[p]'hp := by simp only [e1]; rfl
  exact e2
theorem prefix_two (a c z : UInt8) (r : List UInt8) : [a, z].isPrefixOf (c :: r) = (a == c && decide (r.head? = some z)) := by
  cases r with
  | nil => simp [List.isPrefixOf]
  | cons y r =>
    simp only [List.isPrefixOf, List.head?_cons, Option.some.injEq, Bool.and_true]
    congr 1
    by_cases h : z = y
    · subst h; simp
    · have : ((z : UInt8) == y) = false := by simpa using h
      rw [this, decide_eq_false (fun e => h e.symm)]
theorem moved_trans {w w2 w3 : World} {b : Nat} {s : ByteArray} {v : Value} {o : Option Nat} {e : Ending} (h : Only (· = b) w w2) (hm : Moved w2 b s v o e w3) : Moved w b s v o e w3 := by
  cases o with
  | none => exact ⟨hm.1, ⟨only_trans h hm.2.out⟩⟩
  | some q => exact ⟨hm.1, hm.2.1, ⟨only_trans h hm.2.2.out⟩⟩
set_option maxHeartbeats 1000000 in
set_option maxRecDepth 100000 in
theorem unit_esc (d : Nat) (HN : Kept (NestC d)) (n : Nat) (w : World) (b : Nat) (s : ByteArray) (p : Nat) (v : Value) (e : UInt8) (hn : n + (d + 1) = 31) (H : Kept (RM w b s p v)) (hp : p < s.size) (E92 : Kept ((((s[p]'hp).toNat : Nat) : Int) = 92)) (o : Option Nat) (HO : Kept (o = (if p + 2 ≤ s.size then some (p + 2) else none))) :
    Calls Tryd.prog 31 #[.pointer (some ⟨b, 0, none⟩), .int .i64 (n : Int), .int .u8 (e.toNat : Int)] w (Moved w b s v o) := by
  have hn30 : (n : Int) ≤ 30 := by omega
  have HNn := Kept.mk hn
  have HP := Kept.mk hp
  have hsz := H.out.rd.sz
  go_enter Tryd.func31, Tryd.ntmps31
  go_wp2_with (first
    | (go_at_call 20; refine (rest_first w b s p v H.out.rd HP.out).mono ?_; rintro e0 w2 ⟨r, rfl, hq, hr, hz, hc0⟩; have z92 : ((r[0]'hz).toNat : Int) = 92 := (by rw [hc0]; exact E92.out); have H2 := Kept.mk (H.out.qt hq); have HO2 := Kept.mk (hq.only (· = b)); clear hq hc0))
  refine (skip_any _ b s p 2 v H2.out.rd (if p + 2 ≤ s.size then some (p + 2) else none) rfl _ rfl).mono ?_
  rw [← HO.out]
  rintro e1 w3 hm
  have hm := moved_trans HO2.out hm
  cases o with
  | none => obtain ⟨rfl, ho3⟩ := hm; exact ⟨rfl, rfl, ho3⟩
  | some q =>
    obtain ⟨rfl, h3, ho3⟩ := hm
    go_wp2_with fail
    refine bodyPost_end (results_none rfl _ _ _) rfl ?_
    exact ⟨rfl, h3, ho3⟩
set_option maxHeartbeats 1000000 in
set_option maxRecDepth 100000 in
theorem unit_sq (d : Nat) (HN : Kept (NestC d)) (n : Nat) (w : World) (b : Nat) (s : ByteArray) (p : Nat) (v : Value) (e : UInt8) (hn : n + (d + 1) = 31) (H : Kept (RM w b s p v)) (hp : p < s.size) (E39 : Kept ((((s[p]'hp).toNat : Nat) : Int) = 39)) (he : e ≠ 34) (o : Option Nat) (HO : Kept (o = ((quoted ((toL s).drop (p + 1))).map (p + 1 + ·)))) :
    Calls Tryd.prog 31 #[.pointer (some ⟨b, 0, none⟩), .int .i64 (n : Int), .int .u8 (e.toNat : Int)] w (Moved w b s v o) := by
  have hn30 : (n : Int) ≤ 30 := by omega
  have HNn := Kept.mk hn
  have HP := Kept.mk hp
  have hsz := H.out.rd.sz
  have he2 : ((e.toNat : Int) != 34) = true := by simpa using fun h => he (UInt8.toNat_inj.1 (show e.toNat = 34 by omega))
  clear he
  go_enter Tryd.func31, Tryd.ntmps31
  go_wp2_with (first
    | (go_at_call 20; refine (rest_first w b s p v H.out.rd HP.out).mono ?_; rintro e0 w2 ⟨r, rfl, hq, hr, hz, hc0⟩; have z39 : ((r[0]'hz).toNat : Int) = 39 := (by rw [hc0]; exact E39.out); have H2 := Kept.mk (H.out.qt hq); have HO2 := Kept.mk (hq.only (· = b)); clear hq hc0))
  refine (quoted_any _ b s p v H2.out HP.out _ rfl).mono ?_
  rw [← HO.out]
  rintro e1 w3 hm
  have hm := moved_trans HO2.out hm
  cases o with
  | none => obtain ⟨rfl, ho3⟩ := hm; exact ⟨rfl, rfl, ho3⟩
  | some q =>
    obtain ⟨rfl, h3, ho3⟩ := hm
    go_wp2_with fail
    refine bodyPost_end (results_none rfl _ _ _) rfl ?_
    exact ⟨rfl, h3, ho3⟩
set_option maxHeartbeats 1000000 in
set_option maxRecDepth 100000 in
theorem unit_sq34 (d : Nat) (HN : Kept (NestC d)) (n : Nat) (w : World) (b : Nat) (s : ByteArray) (p : Nat) (v : Value) (e : UInt8) (hn : n + (d + 1) = 31) (H : Kept (RM w b s p v)) (hp : p < s.size) (E39 : Kept ((((s[p]'hp).toNat : Nat) : Int) = 39)) (he : e = 34) (HPre : Kept (∀ r : ByteArray, Kept (toL r = (toL s).drop p) → ∀ (w : World), Calls Tryd.prog 28 #[.string r, .string ⟨#[36, 40]⟩] w (fun e w' => e = .returned (.bool false) ∧ w' = w) ∧ Calls Tryd.prog 28 #[.string r, .string ⟨#[36, 123]⟩] w (fun e w' => e = .returned (.bool false) ∧ w' = w))) (o : Option Nat) (HO : Kept (o = (some (p + 1)))) :
    Calls Tryd.prog 31 #[.pointer (some ⟨b, 0, none⟩), .int .i64 (n : Int), .int .u8 (e.toNat : Int)] w (Moved w b s v o) := by
  have hn30 : (n : Int) ≤ 30 := by omega
  have HNn := Kept.mk hn
  have HP := Kept.mk hp
  have hsz := H.out.rd.sz
  have he2 : ((e.toNat : Int) != 34) = false := by subst he; rfl
  have HS : Kept (some (p + 1) = if p + 1 ≤ s.size then some (p + 1) else none) := ⟨(if_pos hp).symm⟩
  clear he
  go_enter Tryd.func31, Tryd.ntmps31
  go_wp2_with (first
    | (go_at_call 20; refine (rest_first w b s p v H.out.rd HP.out).mono ?_; rintro e0 w2 ⟨r, rfl, hq, hr, hz, hc0⟩; have z39 : ((r[0]'hz).toNat : Int) = 39 := (by rw [hc0]; exact E39.out); have T1 : Kept True := ⟨trivial⟩; have H2 := Kept.mk (H.out.qt hq); have HO2 := Kept.mk (hq.only (· = b)); clear hq hc0)
    | (go_at_call 28; have := T1; refine (HPre.out r hr _).1.mono ?_; rintro e0 w3 ⟨rfl, rfl⟩; clear T1 this)
    | (go_at_call 28; refine (HPre.out r hr _).2.mono ?_; rintro e0 w3 ⟨rfl, rfl⟩))
  refine (skip_any _ b s p 1 v H2.out.rd (some (p + 1)) HS.out _ rfl).mono ?_
  rw [← HO.out]
  rintro e1 w3 hm
  have hm := moved_trans HO2.out hm
  cases o with
  | none => obtain ⟨rfl, ho3⟩ := hm; exact ⟨rfl, rfl, ho3⟩
  | some q =>
    obtain ⟨rfl, h3, ho3⟩ := hm
    go_wp2_with fail
    refine bodyPost_end (results_none rfl _ _ _) rfl ?_
    exact ⟨rfl, h3, ho3⟩
set_option maxHeartbeats 1000000 in
set_option maxRecDepth 100000 in
theorem unit_dq (d : Nat) (HN : Kept (NestC d)) (n : Nat) (w : World) (b : Nat) (s : ByteArray) (p : Nat) (v : Value) (e : UInt8) (hn : n + (d + 1) = 31) (H : Kept (RM w b s p v)) (hp : p < s.size) (E34 : Kept ((((s[p]'hp).toNat : Nat) : Int) = 34)) (o : Option Nat) (HO : Kept (o = (nestAt d 34 (toL s) (p + 1)))) :
    Calls Tryd.prog 31 #[.pointer (some ⟨b, 0, none⟩), .int .i64 (n : Int), .int .u8 (e.toNat : Int)] w (Moved w b s v o) := by
  have hn30 : (n : Int) ≤ 30 := by omega
  have HNn := Kept.mk hn
  have HP := Kept.mk hp
  have hsz := H.out.rd.sz
  go_enter Tryd.func31, Tryd.ntmps31
  go_wp2_with (first
    | (go_at_call 20; refine (rest_first w b s p v H.out.rd HP.out).mono ?_; rintro e0 w2 ⟨r, rfl, hq, hr, hz, hc0⟩; have z34 : ((r[0]'hz).toNat : Int) = 34 := (by rw [hc0]; exact E34.out); have H2 := Kept.mk (H.out.qt hq); have HO2 := Kept.mk (hq.only (· = b)); clear hq hc0))
  refine (HN.out n _ b s p v 34 _ _ ⟨#[34]⟩ (by have := HNn.out; omega) rfl rfl H2.out HP.out o HO).mono ?_
  rintro e1 w3 hm
  have hm := moved_trans HO2.out hm
  cases o with
  | none => obtain ⟨rfl, ho3⟩ := hm; exact ⟨rfl, rfl, ho3⟩
  | some q =>
    obtain ⟨rfl, h3, ho3⟩ := hm
    go_wp2_with fail
    refine bodyPost_end (results_none rfl _ _ _) rfl ?_
    exact ⟨rfl, h3, ho3⟩
set_option maxHeartbeats 1000000 in
set_option maxRecDepth 100000 in
theorem unit_par (d : Nat) (HN : Kept (NestC d)) (n : Nat) (w : World) (b : Nat) (s : ByteArray) (p : Nat) (v : Value) (e : UInt8) (hn : n + (d + 1) = 31) (H : Kept (RM w b s p v)) (hp : p < s.size) (E36 : Kept ((((s[p]'hp).toNat : Nat) : Int) = 36)) (hp2 : p + 2 ≤ s.size) (HPre : Kept (∀ r : ByteArray, Kept (toL r = (toL s).drop p) → ∀ (w : World), Calls Tryd.prog 28 #[.string r, .string ⟨#[36, 40]⟩] w fun e w' => e = .returned (.bool true) ∧ w' = w)) (o : Option Nat) (HO : Kept (o = (nestAt d 41 (toL s) (p + 2)))) :
    Calls Tryd.prog 31 #[.pointer (some ⟨b, 0, none⟩), .int .i64 (n : Int), .int .u8 (e.toNat : Int)] w (Moved w b s v o) := by
  have hn30 : (n : Int) ≤ 30 := by omega
  have HNn := Kept.mk hn
  have HP := Kept.mk hp
  have hsz := H.out.rd.sz
  have HP2 := Kept.mk hp2
  clear hp2
  go_enter Tryd.func31, Tryd.ntmps31
  go_wp2_with (first
    | (go_at_call 20; refine (rest_first w b s p v H.out.rd HP.out).mono ?_; rintro e0 w2 ⟨r, rfl, hq, hr, hz, hc0⟩; have z36 : ((r[0]'hz).toNat : Int) = 36 := (by rw [hc0]; exact E36.out); have T1 : Kept True := ⟨trivial⟩; have H2 := Kept.mk (H.out.qt hq); have HO2 := Kept.mk (hq.only (· = b)); clear hq hc0)
    | (go_at_call 28; refine (HPre.out r hr _).mono ?_; rintro e0 w3 ⟨rfl, rfl⟩))
  refine (HN.out n _ b s p v 41 _ _ ⟨#[36, 40]⟩ (by have := HNn.out; omega) rfl rfl H2.out HP2.out o HO).mono ?_
  rintro e1 w3 hm
  have hm := moved_trans HO2.out hm
  cases o with
  | none => obtain ⟨rfl, ho3⟩ := hm; exact ⟨rfl, rfl, ho3⟩
  | some q =>
    obtain ⟨rfl, h3, ho3⟩ := hm
    go_wp2_with fail
    refine bodyPost_end (results_none rfl _ _ _) rfl ?_
    exact ⟨rfl, h3, ho3⟩
set_option maxHeartbeats 1000000 in
set_option maxRecDepth 100000 in
theorem unit_brace (d : Nat) (HN : Kept (NestC d)) (n : Nat) (w : World) (b : Nat) (s : ByteArray) (p : Nat) (v : Value) (e : UInt8) (hn : n + (d + 1) = 31) (H : Kept (RM w b s p v)) (hp : p < s.size) (E36 : Kept ((((s[p]'hp).toNat : Nat) : Int) = 36)) (hp2 : p + 2 ≤ s.size) (HPre : Kept (∀ r : ByteArray, Kept (toL r = (toL s).drop p) → ∀ (w : World), Calls Tryd.prog 28 #[.string r, .string ⟨#[36, 40]⟩] w (fun e w' => e = .returned (.bool false) ∧ w' = w) ∧ Calls Tryd.prog 28 #[.string r, .string ⟨#[36, 123]⟩] w fun e w' => e = .returned (.bool true) ∧ w' = w)) (o : Option Nat) (HO : Kept (o = (nestAt d 125 (toL s) (p + 2)))) :
    Calls Tryd.prog 31 #[.pointer (some ⟨b, 0, none⟩), .int .i64 (n : Int), .int .u8 (e.toNat : Int)] w (Moved w b s v o) := by
  have hn30 : (n : Int) ≤ 30 := by omega
  have HNn := Kept.mk hn
  have HP := Kept.mk hp
  have hsz := H.out.rd.sz
  have HP2 := Kept.mk hp2
  clear hp2
  go_enter Tryd.func31, Tryd.ntmps31
  go_wp2_with (first
    | (go_at_call 20; refine (rest_first w b s p v H.out.rd HP.out).mono ?_; rintro e0 w2 ⟨r, rfl, hq, hr, hz, hc0⟩; have z36 : ((r[0]'hz).toNat : Int) = 36 := (by rw [hc0]; exact E36.out); have T1 : Kept True := ⟨trivial⟩; have H2 := Kept.mk (H.out.qt hq); have HO2 := Kept.mk (hq.only (· = b)); clear hq hc0)
    | (go_at_call 28; have := T1; refine (HPre.out r hr _).1.mono ?_; rintro e0 w3 ⟨rfl, rfl⟩; clear T1 this)
    | (go_at_call 28; refine (HPre.out r hr _).2.mono ?_; rintro e0 w3 ⟨rfl, rfl⟩))
  refine (HN.out n _ b s p v 125 _ _ ⟨#[36, 123]⟩ (by have := HNn.out; omega) rfl rfl H2.out HP2.out o HO).mono ?_
  rintro e1 w3 hm
  have hm := moved_trans HO2.out hm
  cases o with
  | none => obtain ⟨rfl, ho3⟩ := hm; exact ⟨rfl, rfl, ho3⟩
  | some q =>
    obtain ⟨rfl, h3, ho3⟩ := hm
    go_wp2_with fail
    refine bodyPost_end (results_none rfl _ _ _) rfl ?_
    exact ⟨rfl, h3, ho3⟩
set_option maxHeartbeats 1000000 in
set_option maxRecDepth 100000 in
theorem unit_in (d : Nat) (HN : Kept (NestC d)) (n : Nat) (w : World) (b : Nat) (s : ByteArray) (p : Nat) (v : Value) (e : UInt8) (hn : n + (d + 1) = 31) (H : Kept (RM w b s p v)) (hp : p < s.size) (E40 : Kept ((((s[p]'hp).toNat : Nat) : Int) = 40)) (he : e = 41) (HPre : Kept (∀ r : ByteArray, Kept (toL r = (toL s).drop p) → ∀ (w : World), Calls Tryd.prog 28 #[.string r, .string ⟨#[36, 40]⟩] w (fun e w' => e = .returned (.bool false) ∧ w' = w) ∧ Calls Tryd.prog 28 #[.string r, .string ⟨#[36, 123]⟩] w (fun e w' => e = .returned (.bool false) ∧ w' = w))) (o : Option Nat) (HO : Kept (o = (nestAt d 41 (toL s) (p + 1)))) :
    Calls Tryd.prog 31 #[.pointer (some ⟨b, 0, none⟩), .int .i64 (n : Int), .int .u8 (e.toNat : Int)] w (Moved w b s v o) := by
  have hn30 : (n : Int) ≤ 30 := by omega
  have HNn := Kept.mk hn
  have HP := Kept.mk hp
  have hsz := H.out.rd.sz
  subst he
  go_enter Tryd.func31, Tryd.ntmps31
  go_wp2_with (first
    | (go_at_call 20; refine (rest_first w b s p v H.out.rd HP.out).mono ?_; rintro e0 w2 ⟨r, rfl, hq, hr, hz, hc0⟩; have z40 : ((r[0]'hz).toNat : Int) = 40 := (by rw [hc0]; exact E40.out); have T1 : Kept True := ⟨trivial⟩; have H2 := Kept.mk (H.out.qt hq); have HO2 := Kept.mk (hq.only (· = b)); clear hq hc0)
    | (go_at_call 28; have := T1; refine (HPre.out r hr _).1.mono ?_; rintro e0 w3 ⟨rfl, rfl⟩; clear T1 this)
    | (go_at_call 28; refine (HPre.out r hr _).2.mono ?_; rintro e0 w3 ⟨rfl, rfl⟩))
  refine (HN.out n _ b s p v 41 _ _ ⟨#[40]⟩ (by have := HNn.out; omega) rfl rfl H2.out HP.out o HO).mono ?_
  rintro e1 w3 hm
  have hm := moved_trans HO2.out hm
  cases o with
  | none => obtain ⟨rfl, ho3⟩ := hm; exact ⟨rfl, rfl, ho3⟩
  | some q =>
    obtain ⟨rfl, h3, ho3⟩ := hm
    go_wp2_with fail
    refine bodyPost_end (results_none rfl _ _ _) rfl ?_
    exact ⟨rfl, h3, ho3⟩
set_option maxHeartbeats 1000000 in
set_option maxRecDepth 100000 in
theorem unit_plain40 (d : Nat) (HN : Kept (NestC d)) (n : Nat) (w : World) (b : Nat) (s : ByteArray) (p : Nat) (v : Value) (e : UInt8) (hn : n + (d + 1) = 31) (H : Kept (RM w b s p v)) (hp : p < s.size) (E40 : Kept ((((s[p]'hp).toNat : Nat) : Int) = 40)) (he : e ≠ 41) (HPre : Kept (∀ r : ByteArray, Kept (toL r = (toL s).drop p) → ∀ (w : World), Calls Tryd.prog 28 #[.string r, .string ⟨#[36, 40]⟩] w (fun e w' => e = .returned (.bool false) ∧ w' = w) ∧ Calls Tryd.prog 28 #[.string r, .string ⟨#[36, 123]⟩] w (fun e w' => e = .returned (.bool false) ∧ w' = w))) (o : Option Nat) (HO : Kept (o = (some (p + 1)))) :
    Calls Tryd.prog 31 #[.pointer (some ⟨b, 0, none⟩), .int .i64 (n : Int), .int .u8 (e.toNat : Int)] w (Moved w b s v o) := by
  have hn30 : (n : Int) ≤ 30 := by omega
  have HNn := Kept.mk hn
  have HP := Kept.mk hp
  have hsz := H.out.rd.sz
  have he2 : ((e.toNat : Int) == 41) = false := by simpa using fun h => he (UInt8.toNat_inj.1 (show e.toNat = 41 by omega))
  have HS : Kept (some (p + 1) = if p + 1 ≤ s.size then some (p + 1) else none) := ⟨(if_pos hp).symm⟩
  clear he
  go_enter Tryd.func31, Tryd.ntmps31
  go_wp2_with (first
    | (go_at_call 20; refine (rest_first w b s p v H.out.rd HP.out).mono ?_; rintro e0 w2 ⟨r, rfl, hq, hr, hz, hc0⟩; have z40 : ((r[0]'hz).toNat : Int) = 40 := (by rw [hc0]; exact E40.out); have T1 : Kept True := ⟨trivial⟩; have H2 := Kept.mk (H.out.qt hq); have HO2 := Kept.mk (hq.only (· = b)); clear hq hc0)
    | (go_at_call 28; have := T1; refine (HPre.out r hr _).1.mono ?_; rintro e0 w3 ⟨rfl, rfl⟩; clear T1 this)
    | (go_at_call 28; refine (HPre.out r hr _).2.mono ?_; rintro e0 w3 ⟨rfl, rfl⟩))
  refine (skip_any _ b s p 1 v H2.out.rd (some (p + 1)) HS.out _ rfl).mono ?_
  rw [← HO.out]
  rintro e1 w3 hm
  have hm := moved_trans HO2.out hm
  cases o with
  | none => obtain ⟨rfl, ho3⟩ := hm; exact ⟨rfl, rfl, ho3⟩
  | some q =>
    obtain ⟨rfl, h3, ho3⟩ := hm
    go_wp2_with fail
    refine bodyPost_end (results_none rfl _ _ _) rfl ?_
    exact ⟨rfl, h3, ho3⟩
set_option maxHeartbeats 1000000 in
set_option maxRecDepth 100000 in
theorem unit_plain (d : Nat) (HN : Kept (NestC d)) (n : Nat) (w : World) (b : Nat) (s : ByteArray) (p : Nat) (v : Value) (e : UInt8) (hn : n + (d + 1) = 31) (H : Kept (RM w b s p v)) (hp : p < s.size) (N92 : Kept (((((s[p]'hp).toNat : Nat) : Int) == 92) = false)) (N39 : Kept (((((s[p]'hp).toNat : Nat) : Int) == 39) = false)) (N34 : Kept (((((s[p]'hp).toNat : Nat) : Int) == 34) = false)) (N40 : Kept (((((s[p]'hp).toNat : Nat) : Int) == 40) = false)) (HPre : Kept (∀ r : ByteArray, Kept (toL r = (toL s).drop p) → ∀ (w : World), Calls Tryd.prog 28 #[.string r, .string ⟨#[36, 40]⟩] w (fun e w' => e = .returned (.bool false) ∧ w' = w) ∧ Calls Tryd.prog 28 #[.string r, .string ⟨#[36, 123]⟩] w (fun e w' => e = .returned (.bool false) ∧ w' = w))) (o : Option Nat) (HO : Kept (o = (some (p + 1)))) :
    Calls Tryd.prog 31 #[.pointer (some ⟨b, 0, none⟩), .int .i64 (n : Int), .int .u8 (e.toNat : Int)] w (Moved w b s v o) := by
  have hn30 : (n : Int) ≤ 30 := by omega
  have HNn := Kept.mk hn
  have HP := Kept.mk hp
  have hsz := H.out.rd.sz
  have HS : Kept (some (p + 1) = if p + 1 ≤ s.size then some (p + 1) else none) := ⟨(if_pos hp).symm⟩
  go_enter Tryd.func31, Tryd.ntmps31
  go_wp2_with (first
    | (go_at_call 20; refine (rest_first w b s p v H.out.rd HP.out).mono ?_; rintro e0 w2 ⟨r, rfl, hq, hr, hz, hc0⟩; have z92 : (((r[0]'hz).toNat : Int) == 92) = false := (by rw [hc0]; exact N92.out); have z39 : (((r[0]'hz).toNat : Int) == 39) = false := (by rw [hc0]; exact N39.out); have z34 : (((r[0]'hz).toNat : Int) == 34) = false := (by rw [hc0]; exact N34.out); have z40 : (((r[0]'hz).toNat : Int) == 40) = false := (by rw [hc0]; exact N40.out); have T1 : Kept True := ⟨trivial⟩; have H2 := Kept.mk (H.out.qt hq); have HO2 := Kept.mk (hq.only (· = b)); clear hq hc0)
    | (go_at_call 28; have := T1; refine (HPre.out r hr _).1.mono ?_; rintro e0 w3 ⟨rfl, rfl⟩; clear T1 this)
    | (go_at_call 28; refine (HPre.out r hr _).2.mono ?_; rintro e0 w3 ⟨rfl, rfl⟩))
  refine (skip_any _ b s p 1 v H2.out.rd (some (p + 1)) HS.out _ rfl).mono ?_
  rw [← HO.out]
  rintro e1 w3 hm
  have hm := moved_trans HO2.out hm
  cases o with
  | none => obtain ⟨rfl, ho3⟩ := hm; exact ⟨rfl, rfl, ho3⟩
  | some q =>
    obtain ⟨rfl, h3, ho3⟩ := hm
    go_wp2_with fail
    refine bodyPost_end (results_none rfl _ _ _) rfl ?_
    exact ⟨rfl, h3, ho3⟩
end Lx
end Go.Proofs.YtnafecdionhnfaaDoor
