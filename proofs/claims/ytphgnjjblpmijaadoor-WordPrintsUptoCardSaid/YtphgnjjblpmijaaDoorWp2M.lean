/-
  The program's operators; the name behind a dollar; what assigns, what escapes, and whether there is a command.
-/
import Derived.Test.YtphgnjjblpmijaaDoorWp1M
import Derived.Test.YtphgnjjblpmijaaDoorGx
import Derived.Test.YtphgnjjblpmijaaDoorWr2M
import Derived.Laws.Rows
namespace Go.Proofs.YtphgnjjblpmijaaDoor
open Go.RowKit Tx
namespace Wx

def opVals : Array Value := #[.string ⟨#[58, 45]⟩, .string ⟨#[58, 61]⟩, .string ⟨#[58, 63]⟩, .string ⟨#[58, 43]⟩, .string ⟨#[37, 37]⟩, .string ⟨#[35, 35]⟩, .string ⟨#[45]⟩, .string ⟨#[61]⟩, .string ⟨#[63]⟩, .string ⟨#[43]⟩, .string ⟨#[37]⟩, .string ⟨#[35]⟩]
/-- What the calls read of the package's and the library's variables. -/
structure Kit (w : World) : Prop where
  max : ∃ m, w.cell? ⟨0, 0, none⟩ = some (.int .i64 m)
  ops : ∃ t fr, w.heap[3]? = some (.cells opVals t fr)
theorem Kit.keep {w w' : World} (h : Kit w) (h0 : w'.heap[3]? = w.heap[3]?) (h1 : w'.heap[0]? = w.heap[0]?) : Kit w' := by
  obtain ⟨⟨m, hm⟩, t, fr, ho⟩ := h
  exact ⟨⟨m, (World.cell?_of_block (w := w) (a := ⟨0, 0, none⟩) h1).trans hm⟩, t, fr, h0.trans ho⟩
theorem Kit.lt {w : World} (h : Kit w) : 3 < w.heap.size ∧ 0 < w.heap.size := by
  obtain ⟨⟨m, hm⟩, t, fr, ho⟩ := h
  exact ⟨(Array.getElem?_eq_some_iff.1 ho).1, World.block_lt_of_cell? w _ hm⟩
theorem Kit.below {w w' : World} (h : Kit w) (hb : Below w.heap.size w w') : Kit w' := h.keep (hb.block _ h.lt.1) (hb.block _ h.lt.2)
/-- Ahead of a block. -/
def Ahead (b : Nat) : Prop := 3 < b ∧ 0 < b
theorem Kit.ahead {w : World} (h : Kit w) {b : Nat} (hb : w.heap.size ≤ b) : Ahead b := ⟨by have := h.lt.1; omega, by have := h.lt.2; omega⟩
theorem Kit.far {w w' : World} {b : Nat} (h : Kit w) (ha : Ahead b) (hb : Below b w w') : Kit w' := h.keep (hb.block _ ha.1) (hb.block _ ha.2)

theorem op_at (k : Nat) (hk : k < 12) : ∃ o, wops[k]? = some o ∧ ∀ W : World, (Instr.index 113 (.agg opVals) (.int .i64 (k : Int))).run Tryd.prog W = .ok (.string (bs o)) W := by
  match k, hk with
  | 0, _ => exact ⟨_, rfl, fun W => by kernel_rfl⟩
  | 1, _ => exact ⟨_, rfl, fun W => by kernel_rfl⟩
  | 2, _ => exact ⟨_, rfl, fun W => by kernel_rfl⟩
  | 3, _ => exact ⟨_, rfl, fun W => by kernel_rfl⟩
  | 4, _ => exact ⟨_, rfl, fun W => by kernel_rfl⟩
  | 5, _ => exact ⟨_, rfl, fun W => by kernel_rfl⟩
  | 6, _ => exact ⟨_, rfl, fun W => by kernel_rfl⟩
  | 7, _ => exact ⟨_, rfl, fun W => by kernel_rfl⟩
  | 8, _ => exact ⟨_, rfl, fun W => by kernel_rfl⟩
  | 9, _ => exact ⟨_, rfl, fun W => by kernel_rfl⟩
  | 10, _ => exact ⟨_, rfl, fun W => by kernel_rfl⟩
  | 11, _ => exact ⟨_, rfl, fun W => by kernel_rfl⟩
  | k + 12, h => omega
theorem prefix_any (s : ByteArray) (o : List UInt8) (w : World) (t : Bool) (ht : t = o.isPrefixOf (toL s)) : Calls Tryd.prog 57 #[.string s, .string (bs o)] w fun e w' => e = .returned (.bool t) ∧ w' = w := by
  refine (Tryd.strings_HasPrefix s (bs o) w).mono ?_
  rintro e w' ⟨rfl, rfl⟩
  exact ⟨by rw [ht]; rfl, rfl⟩
/-- The operator ahead, as a text. -/
def opS (l : List UInt8) : ByteArray := match opL l with | some o => bs o | none => ⟨#[]⟩
theorem opS_some {l o : List UInt8} (h : opL l = some o) : opS l = bs o := by unfold opS; rw [h]
theorem opS_none {l : List UInt8} (h : opL l = none) : opS l = ⟨#[]⟩ := by unfold opS; rw [h]
set_option maxRecDepth 100000 in
theorem leadingOp_any (s : ByteArray) (w : World) (hK : Kit w) : Calls Tryd.prog 76 #[.string s] w fun e w' => e = .returned (.string (opS (toL s))) ∧ w' = w := by
  obtain ⟨_, tt, fr, ho⟩ := hK
  go_enter Tryd.func76, Tryd.ntmps76
  go_wp2_with (refine wpList_load_row rfl 113 _ rfl 3 rfl tt opVals fr _ ho Tryd.underlying113 rfl (by kernel_rfl) ?_)
  go_loop [6] (fun i => ∃ k : Nat, k ≤ 12 ∧ i = .int .i64 (k : Int) ∧ Kept (opL (toL s) = (wops.drop k).find? fun o => o.isPrefixOf (toL s))) (fun i => 12 - (intOf i).toNat)
  case atStart => exact ⟨0, by omega, rfl, ⟨rfl⟩⟩
  case round =>
    obtain ⟨k, hk, rfl, HL⟩ := hrel
    by_cases hlt : k < 12
    · obtain ⟨o, ho, hix⟩ := op_at k hlt
      have hd : wops.drop k = o :: wops.drop (k + 1) := by
        obtain ⟨h1, h2⟩ := List.getElem?_eq_some_iff.1 ho
        rw [List.drop_eq_getElem_cons h1, h2]
      have z : (k : Int) < 12 := by omega
      cases hp : o.isPrefixOf (toL s) with
      | true =>
        have HP : Kept (true = o.isPrefixOf (toL s)) := ⟨hp.symm⟩
        have HR : Kept (opS (toL s) = bs o) := ⟨opS_some (by rw [HL.out, hd, List.find?_cons, hp])⟩
        clear hp hd ho
        go_wp2_with (go_at_call 57; refine (prefix_any s o _ true HP.out).mono ?_; rintro e w1 ⟨rfl, rfl⟩)
        go_ret
        exact ⟨by rw [HR.out]; rfl, rfl⟩
      | false =>
        have HP : Kept (false = o.isPrefixOf (toL s)) := ⟨hp.symm⟩
        have HL2 : Kept (opL (toL s) = (wops.drop (k + 1)).find? fun o => o.isPrefixOf (toL s)) := ⟨by rw [HL.out, hd, List.find?_cons, hp]⟩
        clear hp hd ho HL
        go_wp2_with (go_at_call 57; refine (prefix_any s o _ false HP.out).mono ?_; rintro e w1 ⟨rfl, rfl⟩)
        go_round
        case rel => exact ⟨k + 1, by omega, by go_num, HL2⟩
        case measure => simp [intOf]; omega
    · obtain rfl : k = 12 := by omega
      have HR : Kept (opS (toL s) = ⟨#[]⟩) := ⟨opS_none (by rw [HL.out]; rfl)⟩
      clear hlt hk HL
      go_wp2_with fail
      go_ret
      exact ⟨by rw [HR.out]; rfl, rfl⟩
/-- What assigns. -/
theorem assigns_any (o : List UInt8) (w : World) (t : Bool) (ht : t = decide (o = [61] ∨ o = [58, 61])) : Calls Tryd.prog 77 #[.string (bs o)] w fun e w' => e = .returned (.bool t) ∧ w' = w := by
  have h1 : ((bs o).toList == ([61] : List UInt8)) = decide (o = [61]) := by
    have e : (⟨#[61]⟩ : ByteArray).toList = [61] := by decide +kernel
    have h := beq_str (bs o) ⟨#[61]⟩
    rw [e] at h
    rw [h, decide_eq_decide]
    exact ⟨fun h => by have := congrArg toL h; rwa [toL_bs] at this, fun h => by rw [h]; rfl⟩
  have h2 : ((bs o).toList == ([58, 61] : List UInt8)) = decide (o = [58, 61]) := by
    have e : (⟨#[58, 61]⟩ : ByteArray).toList = [58, 61] := by decide +kernel
    have h := beq_str (bs o) ⟨#[58, 61]⟩
    rw [e] at h
    rw [h, decide_eq_decide]
    exact ⟨fun h => by have := congrArg toL h; rwa [toL_bs] at this, fun h => by rw [h]; rfl⟩
  by_cases o1 : o = [61]
  · have k1 := h1.trans (decide_eq_true o1)
    have HT : Kept (t = true) := ⟨by rw [ht]; exact decide_eq_true (.inl o1)⟩
    clear ht o1 h1 h2
    go_enter Tryd.func77, Tryd.ntmps77
    go_wp2_with fail
    go_ret
    exact ⟨by rw [HT.out]; rfl, rfl⟩
  · have k1 := h1.trans (decide_eq_false o1)
    clear h1
    by_cases o2 : o = [58, 61]
    · have k2 := h2.trans (decide_eq_true o2)
      have HT : Kept (t = true) := ⟨by rw [ht]; exact decide_eq_true (.inr o2)⟩
      clear ht o1 o2 h2
      go_enter Tryd.func77, Tryd.ntmps77
      go_wp2_with fail
      go_ret
      exact ⟨by rw [HT.out]; rfl, rfl⟩
    · have k2 := h2.trans (decide_eq_false o2)
      have HT : Kept (t = false) := ⟨by rw [ht]; exact decide_eq_false (fun h => h.elim o1 o2)⟩
      clear ht o1 o2 h2
      go_enter Tryd.func77, Tryd.ntmps77
      go_wp2_with fail
      go_ret
      exact ⟨by rw [HT.out]; rfl, rfl⟩
/-- The name behind a dollar. -/
theorem dName_cases (c : UInt8) (r : List UInt8) : dName (c :: r) = if ((c :: r).take (paramL (c :: r))).takeWhile digit = [] then paramL (c :: r) else 1 := by
  by_cases h : c = 35 ∨ c = 63 ∨ c = 64 ∨ c = 42
  · obtain ⟨h1, h2, h3, h4⟩ := (param_parts (c := c) (r := r)).1 h
    have hD : digit c = false := by
      cases hd : digit c with
      | false => rfl
      | true => rw [List.takeWhile_cons, hd] at h3; simp at h3
    rw [h1, if_pos (by rw [List.take_succ_cons, List.takeWhile_cons, hD]; rfl)]
    unfold dName
    rw [if_pos ⟨h2, by show some (special c) = some true; rw [h4]⟩]
  · obtain ⟨h1, h2, h3⟩ := (param_parts (r := r)).2 h
    by_cases hn : nameL (c :: r) = 0
    · rw [hn, Nat.zero_add] at h1
      cases hd : digit c with
      | true =>
        have hp : 0 < paramL (c :: r) := by rw [h1, List.takeWhile_cons, hd]; simp
        obtain ⟨m, hm⟩ : ∃ m, paramL (c :: r) = m + 1 := ⟨paramL (c :: r) - 1, by omega⟩
        rw [hm, if_neg (by rw [List.take_succ_cons, List.takeWhile_cons, hd]; simp)]
        unfold dName
        rw [if_pos ⟨hn, by show some (special c) = some true; rw [h3, hd]⟩]
      | false =>
        have hp : paramL (c :: r) = 0 := by rw [h1, List.takeWhile_cons, hd]; rfl
        rw [hp, if_pos (by rw [List.take_zero]; rfl)]
        unfold dName
        rw [if_neg (fun h => by have := h.2; change some (special c) = some true at this; rw [h3, hd] at this; cases this), hn]
    · have h4 : ((c :: r).takeWhile digit).length = 0 := h2.resolve_left hn
      rw [h4, Nat.add_zero] at h1
      have hD : digit c = false := by
        cases hd : digit c with
        | false => rfl
        | true => rw [List.takeWhile_cons, hd] at h4; simp at h4
      obtain ⟨m, hm⟩ : ∃ m, nameL (c :: r) = m + 1 := ⟨nameL (c :: r) - 1, by omega⟩
      rw [h1, hm, if_pos (by rw [List.take_succ_cons, List.takeWhile_cons, hD]; rfl)]
      unfold dName
      rw [if_neg (fun h => hn h.1), hm]
set_option maxHeartbeats 2000000 in
set_option maxRecDepth 100000 in
theorem nameAfter_any (s : ByteArray) (w : World) (hs : s.size ≤ 1000000) (m : Nat) (hm : m = dName (toL s)) : Calls Tryd.prog 60 #[.string s] w fun e w' => e = .returned (.string (s.extract 0 m)) ∧ Below w.heap.size w w' := by
  obtain ⟨p, hp⟩ : ∃ p, p = paramL (toL s) := ⟨_, rfl⟩
  obtain ⟨X, hX⟩ : ∃ X, X = s.extract 0 p := ⟨_, rfl⟩
  have HP := Kept.mk hp
  have hple : p ≤ s.size := by rw [hp, ← toL_length]; exact paramL_le _
  have hXl : toL X = (toL s).take p := by rw [hX, toL_to]
  have HX := Kept.mk hX
  obtain ⟨d, hd⟩ : ∃ d, d = ((toL X).takeWhile digit).length := ⟨_, rfl⟩
  have HD := Kept.mk hd
  have hXs : X.size = p := by rw [hX]; exact size_to s p hple
  have hXs2 : X.size ≤ 1000000 := by omega
  obtain ⟨Y, hY⟩ : ∃ Y, Y = X.extract 0 d := ⟨_, rfl⟩
  have HY := Kept.mk hY
  have hdle : d ≤ X.size := by rw [hd, ← toL_length]; exact takeW_le _ _
  by_cases hd0 : d = 0
  · have HR : Kept (s.extract 0 m = X) := ⟨by
      rw [hX, hm]
      congr 1
      cases hs : toL s with
      | nil => rw [hp, hs]; rfl
      | cons c r =>
        rw [dName_cases, if_pos, hp, hs]
        have h1 : (toL X).takeWhile digit = [] := List.eq_nil_of_length_eq_zero (by omega)
        rw [hXl, hp, hs] at h1
        exact h1⟩
    have hy0 : Y = ⟨#[]⟩ := by rw [hY, hd0]; exact toL_inj (by rw [toL_to]; rfl)
    have HY0 : Kept (X.extract 0 d = ⟨#[]⟩) := ⟨by rw [← hY]; exact hy0⟩
    clear hm hp hX hXl hd hY hd0 hy0 hXs hdle
    go_enter Tryd.func60, Tryd.ntmps60
    go_wp2_with (first
      | (go_at_call 75; refine (leadingP_any s _ hs p HP.out).mono ?_; rw [← HX.out]; rintro e w1 ⟨rfl, hb⟩; have HB1 := Kept.mk hb; clear hb)
      | (go_at_call 81; refine (leadingD_any X _ hXs2 d HD.out).mono ?_; rw [HY0.out]; rintro e w2 ⟨rfl, hb⟩; have HB2 := Kept.mk (HB1.out.trans (hb.mono HB1.out.size)); clear hb))
    go_ret
    exact ⟨by rw [HR.out]; rfl, HB2.out⟩
  · have HR : Kept (s.extract 0 m = X.extract 0 1) := ⟨by
      apply toL_inj
      rw [toL_to, toL_to, hXl, hm]
      cases hs : toL s with
      | nil => rw [hXl, hs, List.take_nil] at hd; exact absurd hd hd0
      | cons c r =>
        rw [dName_cases, if_neg, List.take_take]
        · congr 1
          have : p ≠ 0 := by omega
          omega
        · rw [hXl, hs] at hd
          rw [← hs, ← hp, hs]
          intro h; rw [h] at hd; exact hd0 hd⟩
    have hyn : ((Y.toList == ([] : List UInt8)) = false) := by
      rw [ByteArray.toList_eq]
      have h1 : (toL Y).length = d := by rw [hY, toL_length]; exact size_to X d hdle
      show ((toL Y) == []) = false
      cases h2 : toL Y with
      | nil => rw [h2] at h1; exact absurd h1.symm hd0
      | cons a b => rfl
    have hyn2 : ((Y.toList != ([] : List UInt8)) = true) := by unfold bne; rw [hyn]; rfl
    have hsl : ∀ W : World, (Instr.slice 9 (.string X) none (some (.int .i64 1)) none).run Tryd.prog W = .ok (.string (X.extract 0 1)) W := fun W => str_to (s := X) (k := 1) (by omega) W
    clear hm hp hX hXl hd hY hd0 hXs hdle hple
    go_enter Tryd.func60, Tryd.ntmps60
    go_wp2_with (first
      | (go_at_call 75; refine (leadingP_any s _ hs p HP.out).mono ?_; rw [← HX.out]; rintro e w1 ⟨rfl, hb⟩; have HB1 := Kept.mk hb; clear hb)
      | (go_at_call 81; refine (leadingD_any X _ hXs2 d HD.out).mono ?_; rw [← HY.out]; rintro e w2 ⟨rfl, hb⟩; have HB2 := Kept.mk (HB1.out.trans (hb.mono HB1.out.size)); clear hb))
    go_ret
    exact ⟨by rw [HR.out]; rfl, HB2.out⟩
/-- What a backslash within quotes stands before. -/
theorem esc_at (c : UInt8) : (0 : Int) ≤ Lib.indexByte [36, 96, 34, 92] c ↔ c = 36 ∨ c = 96 ∨ c = 34 ∨ c = 92 := by
  by_cases h1 : c = 36
  · subst h1; decide
  by_cases h2 : c = 96
  · subst h2; decide
  by_cases h3 : c = 34
  · subst h3; decide
  by_cases h4 : c = 92
  · subst h4; decide
  · have n1 : ((36 : UInt8) == c) = false := by simpa using fun e : (36 : UInt8) = c => h1 e.symm
    have n2 : ((96 : UInt8) == c) = false := by simpa using fun e : (96 : UInt8) = c => h2 e.symm
    have n3 : ((34 : UInt8) == c) = false := by simpa using fun e : (34 : UInt8) = c => h3 e.symm
    have n4 : ((92 : UInt8) == c) = false := by simpa using fun e : (92 : UInt8) = c => h4 e.symm
    simp [Lib.indexByte, n1, n2, n3, n4, h1, h2, h3, h4]
def isEsc : List UInt8 → Bool
  | c :: r => c == 92 && decide (r.head? = some 36 ∨ r.head? = some 96 ∨ r.head? = some 34 ∨ r.head? = some 92)
  | [] => false
set_option maxRecDepth 100000 in
theorem startsEscape_any (s : ByteArray) (w : World) (t : Bool) (ht : t = isEsc (toL s)) : Calls Tryd.prog 72 #[.string s] w fun e w' => e = .returned (.bool t) ∧ w' = w := by
  by_cases h1 : 1 < s.size
  · have z1 : (1 : Int) < (s.size : Int) := by omega
    have h0 : 0 < s.size := by omega
    have hc := drop_at h0
    rw [List.drop_zero] at hc
    have hc1 := drop_at h1
    have ht2 : t = (s[0]'h0 == 92 && decide (s[1]'h1 = 36 ∨ s[1]'h1 = 96 ∨ s[1]'h1 = 34 ∨ s[1]'h1 = 92)) := by
      rw [ht, hc, hc1]
      simp [isEsc]
    by_cases h9 : s[0]'h0 = 92
    · have z2 : ((s[0]'h0).toNat : Int) = 92 := by rw [h9]; rfl
      have HI : Kept (∀ W : World, Calls Tryd.prog 82 #[.string ⟨#[36, 96, 34, 92]⟩, .int .u8 ((s[1]'h1).toNat : Int)] W fun e w' => e = .returned (.int .i64 (Lib.indexByte [36, 96, 34, 92] (s[1]'h1))) ∧ w' = W) := ⟨fun W => by
        refine (Tryd.strings_IndexByte ⟨#[36, 96, 34, 92]⟩ _ W).mono ?_
        rintro e w' ⟨rfl, rfl⟩
        refine ⟨?_, rfl⟩
        rw [show (((s[1]'h1).toNat : Nat) : Int).toNat.toUInt8 = s[1]'h1 by rw [Int.toNat_natCast]; simp]⟩
      have HT : Kept (decide ((0 : Int) ≤ Lib.indexByte [36, 96, 34, 92] (s[1]'h1)) = t) := ⟨by
        rw [ht2, h9, decide_eq_decide.2 (esc_at (s[1]'h1))]; rfl⟩
      clear ht ht2 hc hc1 h9
      generalize Lib.indexByte [36, 96, 34, 92] (s[1]'h1) = ix at *
      go_enter Tryd.func72, Tryd.ntmps72
      go_wp2_with (go_at_call 82; refine (HI.out _).mono ?_; rintro e w1 ⟨rfl, rfl⟩)
      go_ret
      exact ⟨by rw [← HT.out]; rfl, rfl⟩
    · have z2 : ¬ ((s[0]'h0).toNat : Int) = 92 := fun e => h9 (by apply UInt8.toNat_inj.1; have : (92 : UInt8).toNat = 92 := rfl; omega)
      have HT : Kept (t = false) := ⟨by
        rw [ht2]
        have : (s[0]'h0 == 92) = false := by simpa using h9
        rw [this, Bool.false_and]⟩
      clear ht ht2 hc hc1 h9
      go_enter Tryd.func72, Tryd.ntmps72
      go_wp2_with fail
      go_ret
      exact ⟨by rw [HT.out]; rfl, rfl⟩
  · have z1 : ¬ (1 : Int) < (s.size : Int) := by omega
    have HT : Kept (t = false) := ⟨by
      rw [ht]
      have hl : (toL s).length ≤ 1 := by rw [toL_length]; omega
      match hs : toL s with
      | [] => rfl
      | [c] => simp [isEsc]
      | c :: d :: r => rw [hs] at hl; simp at hl⟩
    clear ht h1
    go_enter Tryd.func72, Tryd.ntmps72
    go_wp2_with fail
    go_ret
    exact ⟨by rw [HT.out]; rfl, rfl⟩
theorem any2_drop {l : List Pt} {j : Nat} (hj : j < l.length) : any2 (l.drop j) = (l[j].kind == 2 || any2 (l.drop (j + 1))) := by
  rw [List.drop_eq_getElem_cons hj]; rfl
set_option maxHeartbeats 2000000 in
set_option maxRecDepth 100000 in
theorem hasCommand_any (P : Nat → Prop) (l : List Pt) (A : Option Addr) (n k : Nat) (w : World) (t : Bool) (hl : LV P w (.slice A n k) l) (hs : l.length ≤ 1000000) (ht : t = any2 l) : Calls Tryd.prog 79 #[.slice A n k] w fun e w' => e = .returned (.bool t) ∧ Below w.heap.size w w' := by
  obtain rfl := hl.len
  have H := Kept.mk hl
  have HT := Kept.mk ht
  obtain ⟨ll, hll⟩ : ∃ ll, ll = l.length := ⟨_, rfl⟩
  have HLL := Kept.mk hll
  rw [← hll] at hs H ⊢
  clear hl ht hll
  go_enter Tryd.func79, Tryd.ntmps79
  go_wp2_with fail
  go_loopw [4, 7] (fun v i wr => ∃ j : Nat, j ≤ ll ∧ i = .int .i64 (j : Int) ∧ Kept (any2 l = any2 (l.drop j)) ∧ Kept (Below w.heap.size w wr)) (fun _ i _ => ll - (intOf i).toNat)
  case atStart => exact ⟨0, by omega, rfl, ⟨rfl⟩, ⟨Below.refl _ _⟩⟩
  case round =>
    obtain ⟨j, hj, rfl, HJ, HB⟩ := hrel
    have j0 : (0 : Int) ≤ j := by omega
    by_cases hlt : j < ll
    · have j1 : (j : Int) < (ll : Int) := by omega
      have hjl : j < l.length := by have := HLL.out; omega
      obtain ⟨g, off, kk, q, t2, nn, o, wd, v, e, hg, hp, hv, hwd, c0, c1, c2, c3, c4, c5⟩ := (H.out.keep HB.out).get hjl
      subst e
      have HD := Kept.mk (any2_drop hjl)
      have HK : Kept (l[j].kind = kk) := ⟨by rw [hp]; rfl⟩
      obtain ⟨A2, k2, rfl⟩ := hwd.slice
      generalize wd.length = wl at *
      have HX := heap_alloc_new wr (.cells #[.int .i64 kk, .bool q, .string (bs t2), .string (bs nn), .string (bs o), .slice A2 wl k2] 39)
      have x0 : (wr.alloc (.cells #[.int .i64 kk, .bool q, .string (bs t2), .string (bs nn), .string (bs o), .slice A2 wl k2] 39)).cell? ⟨wr.heap.size, 0, none⟩ = some (.int .i64 kk) := cell_of_row _ _ 0 _ _ _ HX
      have HB2 : Kept (Below w.heap.size w (wr.alloc (.cells #[.int .i64 kk, .bool q, .string (bs t2), .string (bs nn), .string (bs o), .slice A2 wl k2] 39))) := ⟨HB.out.alloc HB.out.size _⟩
      clear hp hwd HX
      by_cases k2 : kk = 2
      · have HR : Kept (t = true) := ⟨by rw [HT.out, HJ.out, HD.out, HK.out, k2]; rfl⟩
        subst k2
        go_wp2_with fail
        go_ret
        exact ⟨by rw [HR.out]; rfl, HB2.out⟩
      · have hk2 : (kk == 2) = false := by simpa using k2
        have HJ2 : Kept (any2 l = any2 (l.drop (j + 1))) := ⟨by rw [HJ.out, HD.out, HK.out, hk2, Bool.false_or]⟩
        clear hk2
        go_wp2_with fail
        go_roundw
        case rel => exact ⟨j + 1, by omega, by go_num, HJ2, HB2⟩
        case measure => simp [intOf]; omega
    · have j1 : ¬ (j : Int) < (ll : Int) := by omega
      have HR : Kept (t = false) := ⟨by rw [HT.out, HJ.out, List.drop_eq_nil_of_le (by have := HLL.out; omega)]; rfl⟩
      clear hlt
      go_wp2_with fail
      go_ret
      exact ⟨by rw [HR.out]; rfl, HB.out⟩
end Wx
end Go.Proofs.YtphgnjjblpmijaaDoor
