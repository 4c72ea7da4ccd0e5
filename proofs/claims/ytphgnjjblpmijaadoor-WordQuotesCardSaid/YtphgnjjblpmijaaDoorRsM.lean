/-
  The document's units (layer 7): where each ends; for a seat without the program's lexer.
-/
import Derived.Test.YtphgnjjblpmijaaDoorGx
import Derived.Test.YtphgnjjblpmijaaDoorTxtM
import Derived.Test.YtphgnjjblpmijaaDoorChecked
import Derived.WalkKit
import Derived.BigCall
import Derived.Laws.Strings
import Derived.Laws.Concat
import Derived.Laws.DeepStrings4
import Derived.LoopTactic
namespace Go.Proofs.YtphgnjjblpmijaaDoor
open Go.RowKit Tx
namespace Lx

/-- Where the unit ends, or the closing byte is behind, from a place on. -/
def unitAt (d : Nat) (e : UInt8) (l : List UInt8) (p : Nat) : Option Nat := (unit d e (l.drop p)).map (p + ·)
def nestAt (d : Nat) (e : UInt8) (l : List UInt8) (p : Nat) : Option Nat := (nest d e (l.drop p)).map (p + ·)
theorem drop_at {s : ByteArray} {p : Nat} (hp : p < s.size) : (toL s).drop p = s[p]'hp :: (toL s).drop (p + 1) := by
  rw [List.drop_eq_getElem_cons (by rw [toL_length]; exact hp)]
  rfl
theorem drop_end {s : ByteArray} {p : Nat} (hp : s.size ≤ p) : (toL s).drop p = [] := List.drop_eq_nil_of_le (by rw [toL_length]; exact hp)
theorem nestAt_end {d : Nat} {e : UInt8} {s : ByteArray} {p : Nat} (hp : s.size ≤ p) : nestAt d e (toL s) p = none := by unfold nestAt; rw [drop_end hp, nest_nil]; rfl
theorem nestAt_close {d : Nat} {e : UInt8} {s : ByteArray} {p : Nat} (hp : p < s.size) (h : s[p]'hp = e) : nestAt d e (toL s) p = some (p + 1) := by unfold nestAt; rw [drop_at hp, h, nest_end]; rfl
theorem nestAt_bad {d : Nat} {e : UInt8} {s : ByteArray} {p : Nat} (hp : p < s.size) (h : s[p]'hp ≠ e) (hu : unitAt d e (toL s) p = none) : nestAt d e (toL s) p = none := by
  unfold nestAt unitAt at *
  rw [drop_at hp] at *
  rw [nest_bad h (by simpa using hu)]; rfl
theorem nestAt_on {d : Nat} {e : UInt8} {s : ByteArray} {p q : Nat} (hp : p < s.size) (h : s[p]'hp ≠ e) (hu : unitAt d e (toL s) p = some q) : nestAt d e (toL s) p = nestAt d e (toL s) q ∧ p < q ∧ q ≤ s.size := by
  unfold nestAt unitAt at *
  obtain ⟨k, hk, rfl⟩ := Option.map_eq_some_iff.1 hu
  have h1 := unit_le _ hk
  rw [List.length_drop, toL_length] at h1
  refine ⟨?_, by omega, by omega⟩
  rw [drop_at hp] at hk ⊢
  rw [nest_on h hk, ← drop_at hp, List.drop_drop, Option.map_map]
  congr 1
  funext x
  show p + (k + x) = p + k + x
  omega
theorem unitAt_le {d : Nat} {e : UInt8} {s : ByteArray} {p q : Nat} (hu : unitAt d e (toL s) p = some q) : p < q ∧ q ≤ s.size := by
  unfold unitAt at hu
  obtain ⟨k, hk, rfl⟩ := Option.map_eq_some_iff.1 hu
  have h1 := unit_le _ hk
  rw [List.length_drop, toL_length] at h1
  omega

theorem prefix_two (a c z : UInt8) (r : List UInt8) : [a, z].isPrefixOf (c :: r) = (a == c && decide (r.head? = some z)) := by
  cases r with
  | nil => simp [List.isPrefixOf]
  | cons y r =>
    simp only [List.isPrefixOf, List.head?_cons, Option.some.injEq, Bool.and_true]
    congr 1
    by_cases h : z = y
    · subst h; simp
    · have : ((z : UInt8) == y) = false := by simpa using h
      rw [this, decide_eq_false (fun e => h e.symm)]
theorem unitAt_step {d : Nat} {e : UInt8} {s : ByteArray} {p : Nat} (hp : p < s.size) : unitAt (d + 1) e (toL s) p =
    if s[p]'hp = 92 then (if p + 2 ≤ s.size then some (p + 2) else none)
    else if s[p]'hp = 39 ∧ e ≠ 34 then (quoted ((toL s).drop (p + 1))).map (p + 1 + ·)
    else if s[p]'hp = 34 then nestAt d 34 (toL s) (p + 1)
    else if s[p]'hp = 36 ∧ ((toL s).drop (p + 1)).head? = some 40 then nestAt d 41 (toL s) (p + 2)
    else if s[p]'hp = 36 ∧ ((toL s).drop (p + 1)).head? = some 123 then nestAt d 125 (toL s) (p + 2)
    else if s[p]'hp = 40 ∧ e = 41 then nestAt d 41 (toL s) (p + 1)
    else some (p + 1) := by
  have hnil : ((toL s).drop (p + 1) = []) ↔ ¬ p + 2 ≤ s.size := by
    rw [List.drop_eq_nil_iff, toL_length]; omega
  have ht : ((toL s).drop (p + 1)).tail = (toL s).drop (p + 2) := by rw [List.tail_drop]
  have hm : ∀ (k : Nat) (o : Option Nat), (o.map (k + ·)).map (p + ·) = o.map (p + k + ·) := fun k o => by
    rw [Option.map_map]; congr 1; funext x; show p + (k + x) = p + k + x; omega
  unfold unitAt nestAt
  rw [drop_at hp, unit_step, ht]
  by_cases h1 : s[p]'hp = 92
  · rw [if_pos h1, if_pos h1]
    by_cases h2 : p + 2 ≤ s.size
    · rw [if_neg (fun h => hnil.1 h h2), if_pos h2]; rfl
    · rw [if_pos (hnil.2 h2), if_neg h2]; rfl
  · rw [if_neg h1, if_neg h1]
    by_cases h2 : s[p]'hp = 39 ∧ e ≠ 34
    · rw [if_pos h2, if_pos h2, hm]
    · rw [if_neg h2, if_neg h2]
      by_cases h3 : s[p]'hp = 34
      · rw [if_pos h3, if_pos h3, hm]
      · rw [if_neg h3, if_neg h3]
        by_cases h4 : s[p]'hp = 36 ∧ ((toL s).drop (p + 1)).head? = some 40
        · rw [if_pos h4, if_pos h4, hm]
        · rw [if_neg h4, if_neg h4]
          by_cases h5 : s[p]'hp = 36 ∧ ((toL s).drop (p + 1)).head? = some 123
          · rw [if_pos h5, if_pos h5, hm]
          · rw [if_neg h5, if_neg h5]
            by_cases h6 : s[p]'hp = 40 ∧ e = 41
            · rw [if_pos h6, if_pos h6, hm]
            · rw [if_neg h6, if_neg h6]; rfl
theorem nat_byte {c : UInt8} {k : Nat} (h : c = UInt8.ofNat k) (hk : k < 256) : ((c.toNat : Nat) : Int) = (k : Int) := by subst h; rw [UInt8.toNat_ofNat']; omega
theorem nat_nbyte {c : UInt8} {k : Nat} (h : c ≠ UInt8.ofNat k) (hk : k < 256) : (((c.toNat : Nat) : Int) == (k : Int)) = false := by
  have : ((c.toNat : Nat) : Int) ≠ (k : Int) := fun e => h (UInt8.toNat_inj.1 (by rw [UInt8.toNat_ofNat']; omega))
  simpa using this
/-- A place, or -1. -/
def ansN (o : Option Nat) : Int := match o with
  | some q => (q : Int)
  | none => -1
theorem begins_any (s t : ByteArray) (p : Nat) (w : World) (b : Bool) (hs : s.size ≤ 20000) (ht : t.size ≤ 20000) (hp : p ≤ s.size) (hb : b = (toL t).isPrefixOf ((toL s).drop p)) :
    Calls Tryd.prog 34 #[.string s, .int .i64 (p : Int), .string t] w fun e w' => e = .returned (.bool b) ∧ w' = w := by
  have hiff : b = decide (p + t.size ≤ s.size ∧ s.extract p (p + t.size) = t) := by
    rw [hb, Bool.eq_iff_iff, decide_eq_true_eq, List.isPrefixOf_iff_prefix, List.prefix_iff_eq_take]
    constructor
    · intro h
      have hl := congrArg List.length h
      rw [List.length_take, List.length_drop, toL_length, toL_length] at hl
      refine ⟨by omega, toL_inj ?_⟩
      rw [toL_length] at h
      rw [toL_extract, show p + t.size - p = t.size by omega]
      exact h.symm
    · rintro ⟨h1, h2⟩
      have := congrArg toL h2
      rw [toL_extract, show p + t.size - p = t.size by omega] at this
      rw [toL_length]
      exact this.symm
  clear hb
  by_cases h1 : p + t.size ≤ s.size
  · have z1 : (p : Int) + (t.size : Int) ≤ (s.size : Int) := by omega
    have hsl : ∀ W : World, (Instr.slice 9 (.string s) (some (.int .i64 (p : Int))) (some (.int .i64 ((p : Int) + (t.size : Int)))) none).run Tryd.prog W = .ok (.string (s.extract p (p + t.size))) W := fun W => by
      rw [run_slice_string_if W 9 s .i64 .i64 _ _ Tryd.underlying9, if_pos ⟨by omega, by omega⟩, if_pos ⟨by omega, by omega⟩, Int.toNat_natCast]
      rw [show ((p : Int) + (t.size : Int)).toNat = p + t.size by omega]
    have HB : Kept (((s.extract p (p + t.size)).toList == t.toList) = b) := ⟨by rw [beq_str, hiff]; simp [h1]⟩
    clear hiff h1 hp
    generalize hx : s.extract p (p + t.size) = x at hsl HB
    clear hx
    go_enter Tryd.func34, Tryd.ntmps34
    go_wp2
    go_ret
    exact ⟨by rw [← HB.out]; rfl, rfl⟩
  · obtain rfl : b = false := by rw [hiff]; simp [h1]
    have z1 : ¬ (p : Int) + (t.size : Int) ≤ (s.size : Int) := by omega
    have z2 : decide ((p : Int) + (t.size : Int) ≤ (s.size : Int)) = false := decide_eq_false z1
    have hp9 : (p : Int) ≤ 20000 := by omega
    have ht9 : (t.size : Int) ≤ 20000 := by omega
    clear hiff h1 hp
    go_enter Tryd.func34, Tryd.ntmps34
    go_wp2
    go_ret
    exact ⟨rfl, rfl⟩

def SkipC (d : Nat) : Prop := ∀ (n p : Nat) (s : ByteArray) (w : World) (mn mp : Int), n + d = 31 → mn = n → mp = p → p < s.size → s.size ≤ 20000 →
  Calls Tryd.prog 24 #[.string s, .int .i64 mp, .int .i64 mn] w fun e w' => e = .returned (.int .i64 (ansN (unitAt d 0 (toL s) p))) ∧ w' = w
def UntilC (d : Nat) : Prop := ∀ (n p : Nat) (s : ByteArray) (e0 : UInt8) (w : World) (mn mp me : Int), n + d = 31 → mn = n → mp = p → me = (e0.toNat : Int) → p ≤ s.size → s.size ≤ 20000 →
  Calls Tryd.prog 33 #[.string s, .int .i64 mp, .int .u8 me, .int .i64 mn] w fun e w' => e = .returned (.int .i64 (ansN (nestAt d e0 (toL s) p))) ∧ w' = w

theorem skip_zero : SkipC 0 := by
  intro n p s w mn mp hn hmn hmp hp hs
  obtain rfl : n = 31 := by omega
  subst hmn hmp
  clear hn hp
  go_enter Tryd.func24, Tryd.ntmps24
  go_wp2_with fail
  go_ret
  exact ⟨rfl, rfl⟩
/-- Where the closing quote is behind, from a place on. -/
def quotedAt (l : List UInt8) (p : Nat) : Option Nat := (quoted (l.drop p)).map (p + ·)
theorem quotedAt_end {s : ByteArray} {p : Nat} (hp : s.size ≤ p) : quotedAt (toL s) p = none := by unfold quotedAt; rw [drop_end hp]; rfl
theorem quotedAt_close {s : ByteArray} {p : Nat} (hp : p < s.size) (h : s[p]'hp = 39) : quotedAt (toL s) p = some (p + 1) := by unfold quotedAt; rw [drop_at hp, h]; rfl
theorem quotedAt_on {s : ByteArray} {p : Nat} (hp : p < s.size) (h : s[p]'hp ≠ 39) : quotedAt (toL s) p = quotedAt (toL s) (p + 1) := by
  unfold quotedAt
  rw [drop_at hp, quoted, if_neg h, Option.map_map]
  congr 1
  funext x
  show p + (x + 1) = p + 1 + x
  omega
set_option maxHeartbeats 1000000 in
set_option maxRecDepth 100000 in
theorem skip_esc (d : Nat) (_HU : Kept (UntilC d)) (n p : Nat) (s : ByteArray) (w : World) (hn : n + (d + 1) = 31) (hp : p < s.size) (hs : s.size ≤ 20000) (h92 : s[p]'hp = 92) (o : Option Nat) (HO : Kept (o = (if p + 2 ≤ s.size then some (p + 2) else none))) :
    Calls Tryd.prog 24 #[.string s, .int .i64 (p : Int), .int .i64 (n : Int)] w fun e w' => e = .returned (.int .i64 (ansN o)) ∧ w' = w := by
  have hn30 : (n : Int) ≤ 30 := by omega
  have z : (p : Int) < s.size := by omega
  have HN := Kept.mk hn
  have HP := Kept.mk hp
  have z92 : (((s[p]'hp).toNat : Nat) : Int) = 92 := nat_byte (k := 92) h92 (by omega)
  clear h92
  go_enter Tryd.func24, Tryd.ntmps24
  by_cases h2 : p + 2 ≤ s.size
  · have zz : (((p : Int) + 1) == (s.size : Int)) = false := by simpa using (fun h => by omega : (p : Int) + 1 ≠ s.size)
    have HF : Kept (o = some (p + 2)) := ⟨by rw [HO.out, if_pos h2]⟩
    clear h2
    go_wp2_with fail
    go_ret
    exact ⟨by rw [HF.out]; show _ = Ending.returned (.int .i64 ((p + 2 : Nat) : Int)); congr 2, rfl⟩
  · have zz : (p : Int) + 1 = s.size := by omega
    have HF : Kept (o = none) := ⟨by rw [HO.out, if_neg h2]⟩
    clear h2
    go_wp2_with fail
    go_ret
    exact ⟨by rw [HF.out]; rfl, rfl⟩
set_option maxHeartbeats 1000000 in
set_option maxRecDepth 100000 in
theorem skip_sq (d : Nat) (_HU : Kept (UntilC d)) (n p : Nat) (s : ByteArray) (w : World) (hn : n + (d + 1) = 31) (hp : p < s.size) (hs : s.size ≤ 20000) (h39 : s[p]'hp = 39) (o : Option Nat) (HO : Kept (o = (quotedAt (toL s) (p + 1)))) :
    Calls Tryd.prog 24 #[.string s, .int .i64 (p : Int), .int .i64 (n : Int)] w fun e w' => e = .returned (.int .i64 (ansN o)) ∧ w' = w := by
  have hn30 : (n : Int) ≤ 30 := by omega
  have z : (p : Int) < s.size := by omega
  have HN := Kept.mk hn
  have HP := Kept.mk hp
  have z39 : (((s[p]'hp).toNat : Nat) : Int) = 39 := nat_byte (k := 39) h39 (by omega)
  clear h39
  go_enter Tryd.func24, Tryd.ntmps24
  go_wp2_with fail
  go_loop [7] (fun i => ∃ k : Nat, p + 1 ≤ k ∧ k ≤ s.size ∧ i = .int .i64 (k : Int) ∧ Kept (o = quotedAt (toL s) k)) (fun i => s.size - (intOf i).toNat)
  case atStart => exact ⟨p + 1, by omega, by omega, by go_num, HO⟩
  case round =>
    obtain ⟨k, hk1, hk2, rfl, HE⟩ := hrel
    by_cases hlt : k < s.size
    · have zk : (k : Int) < s.size := by omega
      by_cases h39k : s[k]'hlt = 39
      · have y39 : (((s[k]'hlt).toNat : Nat) : Int) = 39 := nat_byte (k := 39) h39k (by omega)
        have HF : Kept (o = some (k + 1)) := ⟨by rw [HE.out, quotedAt_close hlt h39k]⟩
        clear h39k HE
        go_wp2_with fail
        go_ret
        exact ⟨by rw [HF.out]; rfl, rfl⟩
      · have y39 : ((((s[k]'hlt).toNat : Nat) : Int) == 39) = false := nat_nbyte (k := 39) h39k (by omega)
        have HE2 : Kept (o = quotedAt (toL s) (k + 1)) := ⟨by rw [HE.out, quotedAt_on hlt h39k]⟩
        clear h39k HE
        go_wp2_with fail
        go_round
        case rel => exact ⟨k + 1, by omega, by omega, by go_num, HE2⟩
        case measure => simp [intOf]; omega
    · have HF : Kept (o = none) := ⟨by rw [HE.out, quotedAt_end (by omega)]⟩
      have zk : ¬ (k : Int) < s.size := by omega
      clear hlt HE
      go_wp2_with fail
      go_ret
      exact ⟨by rw [HF.out]; rfl, rfl⟩
set_option maxHeartbeats 1000000 in
set_option maxRecDepth 100000 in
theorem skip_dq (d : Nat) (HU : Kept (UntilC d)) (n p : Nat) (s : ByteArray) (w : World) (hn : n + (d + 1) = 31) (hp : p < s.size) (hs : s.size ≤ 20000) (h34 : s[p]'hp = 34) (o : Option Nat) (HO : Kept (o = (nestAt d 34 (toL s) (p + 1)))) :
    Calls Tryd.prog 24 #[.string s, .int .i64 (p : Int), .int .i64 (n : Int)] w fun e w' => e = .returned (.int .i64 (ansN o)) ∧ w' = w := by
  have hn30 : (n : Int) ≤ 30 := by omega
  have z : (p : Int) < s.size := by omega
  have HN := Kept.mk hn
  have HP := Kept.mk hp
  have z34 : (((s[p]'hp).toNat : Nat) : Int) = 34 := nat_byte (k := 34) h34 (by omega)
  clear h34
  go_enter Tryd.func24, Tryd.ntmps24
  go_wp2_with fail
  go_at_call 33
  refine (HU.out (n + 1) (p + 1) s 34 _ _ _ _ (by have := HN.out; omega) (by omega) (by omega) rfl (by omega) hs).mono ?_
  rw [← HO.out]
  rintro e0 w4 ⟨rfl, rfl⟩
  go_wp2_with fail
  go_ret
  exact ⟨rfl, rfl⟩
set_option maxHeartbeats 1000000 in
set_option maxRecDepth 100000 in
theorem skip_par (d : Nat) (HU : Kept (UntilC d)) (n p : Nat) (s : ByteArray) (w : World) (hn : n + (d + 1) = 31) (hp : p < s.size) (hs : s.size ≤ 20000) (h36 : s[p]'hp = 36) (hp2 : p + 2 ≤ s.size) (HB1 : Kept (Calls Tryd.prog 34 #[.string s, .int .i64 (p : Int), .string ⟨#[36, 40]⟩] w fun e w' => e = .returned (.bool true) ∧ w' = w)) (o : Option Nat) (HO : Kept (o = (nestAt d 41 (toL s) (p + 2)))) :
    Calls Tryd.prog 24 #[.string s, .int .i64 (p : Int), .int .i64 (n : Int)] w fun e w' => e = .returned (.int .i64 (ansN o)) ∧ w' = w := by
  have hn30 : (n : Int) ≤ 30 := by omega
  have z : (p : Int) < s.size := by omega
  have HN := Kept.mk hn
  have HP := Kept.mk hp
  have z36 : (((s[p]'hp).toNat : Nat) : Int) = 36 := nat_byte (k := 36) h36 (by omega)
  clear h36
  have T1 : Kept True := ⟨trivial⟩
  go_enter Tryd.func24, Tryd.ntmps24
  go_wp2_with (go_at_call 34; refine HB1.out.mono ?_; rintro e0 w3 ⟨rfl, rfl⟩)
  go_at_call 33
  refine (HU.out (n + 1) (p + 2) s 41 _ _ _ _ (by have := HN.out; omega) (by omega) (by omega) rfl hp2 hs).mono ?_
  rw [← HO.out]
  rintro e0 w4 ⟨rfl, rfl⟩
  go_wp2_with fail
  go_ret
  exact ⟨rfl, rfl⟩
set_option maxHeartbeats 1000000 in
set_option maxRecDepth 100000 in
theorem skip_brace (d : Nat) (HU : Kept (UntilC d)) (n p : Nat) (s : ByteArray) (w : World) (hn : n + (d + 1) = 31) (hp : p < s.size) (hs : s.size ≤ 20000) (h36 : s[p]'hp = 36) (hp2 : p + 2 ≤ s.size) (HB1 : Kept (Calls Tryd.prog 34 #[.string s, .int .i64 (p : Int), .string ⟨#[36, 40]⟩] w fun e w' => e = .returned (.bool false) ∧ w' = w)) (HB2 : Kept (Calls Tryd.prog 34 #[.string s, .int .i64 (p : Int), .string ⟨#[36, 123]⟩] w fun e w' => e = .returned (.bool true) ∧ w' = w)) (o : Option Nat) (HO : Kept (o = (nestAt d 125 (toL s) (p + 2)))) :
    Calls Tryd.prog 24 #[.string s, .int .i64 (p : Int), .int .i64 (n : Int)] w fun e w' => e = .returned (.int .i64 (ansN o)) ∧ w' = w := by
  have hn30 : (n : Int) ≤ 30 := by omega
  have z : (p : Int) < s.size := by omega
  have HN := Kept.mk hn
  have HP := Kept.mk hp
  have z36 : (((s[p]'hp).toNat : Nat) : Int) = 36 := nat_byte (k := 36) h36 (by omega)
  clear h36
  have T1 : Kept True := ⟨trivial⟩
  go_enter Tryd.func24, Tryd.ntmps24
  go_wp2_with (first
    | (go_at_call 34; have := T1; refine HB1.out.mono ?_; rintro e0 w3 ⟨rfl, rfl⟩; clear T1 this)
    | (go_at_call 34; refine HB2.out.mono ?_; rintro e0 w3 ⟨rfl, rfl⟩))
  go_at_call 33
  refine (HU.out (n + 1) (p + 2) s 125 _ _ _ _ (by have := HN.out; omega) (by omega) (by omega) rfl hp2 hs).mono ?_
  rw [← HO.out]
  rintro e0 w4 ⟨rfl, rfl⟩
  go_wp2_with fail
  go_ret
  exact ⟨rfl, rfl⟩
set_option maxHeartbeats 1000000 in
set_option maxRecDepth 100000 in
theorem skip_plain (d : Nat) (_HU : Kept (UntilC d)) (n p : Nat) (s : ByteArray) (w : World) (hn : n + (d + 1) = 31) (hp : p < s.size) (hs : s.size ≤ 20000) (h92 : s[p]'hp ≠ 92) (h39 : s[p]'hp ≠ 39) (h34 : s[p]'hp ≠ 34) (HB1 : Kept (Calls Tryd.prog 34 #[.string s, .int .i64 (p : Int), .string ⟨#[36, 40]⟩] w fun e w' => e = .returned (.bool false) ∧ w' = w)) (HB2 : Kept (Calls Tryd.prog 34 #[.string s, .int .i64 (p : Int), .string ⟨#[36, 123]⟩] w fun e w' => e = .returned (.bool false) ∧ w' = w)) (o : Option Nat) (HO : Kept (o = (some (p + 1)))) :
    Calls Tryd.prog 24 #[.string s, .int .i64 (p : Int), .int .i64 (n : Int)] w fun e w' => e = .returned (.int .i64 (ansN o)) ∧ w' = w := by
  have hn30 : (n : Int) ≤ 30 := by omega
  have z : (p : Int) < s.size := by omega
  have HN := Kept.mk hn
  have HP := Kept.mk hp
  have z92 : ((((s[p]'hp).toNat : Nat) : Int) == 92) = false := nat_nbyte (k := 92) h92 (by omega)
  have z39 : ((((s[p]'hp).toNat : Nat) : Int) == 39) = false := nat_nbyte (k := 39) h39 (by omega)
  have z34 : ((((s[p]'hp).toNat : Nat) : Int) == 34) = false := nat_nbyte (k := 34) h34 (by omega)
  clear h92 h39 h34
  have T1 : Kept True := ⟨trivial⟩
  go_enter Tryd.func24, Tryd.ntmps24
  go_wp2_with (first
    | (go_at_call 34; have := T1; refine HB1.out.mono ?_; rintro e0 w3 ⟨rfl, rfl⟩; clear T1 this)
    | (go_at_call 34; refine HB2.out.mono ?_; rintro e0 w3 ⟨rfl, rfl⟩))
  go_ret
  exact ⟨by rw [HO.out]; rfl, rfl⟩
theorem pre_two {s : ByteArray} {p : Nat} (hp : p < s.size) (z : UInt8) : [36, z].isPrefixOf ((toL s).drop p) = decide (s[p]'hp = 36 ∧ ((toL s).drop (p + 1)).head? = some z) := by
  rw [drop_at hp, prefix_two]
  by_cases h : s[p]'hp = 36
  · simp [h]
  · have : ((36 : UInt8) == s[p]'hp) = false := by simpa using fun e => h e.symm
    simp [this, h]
theorem skip_succ (d : Nat) (HU : Kept (UntilC d)) : SkipC (d + 1) := by
  intro n p s w mn mp hn hmn hmp hp hs
  subst hmn hmp
  have hb : ∀ (z : UInt8) (t : Bool), t = decide (s[p]'hp = 36 ∧ ((toL s).drop (p + 1)).head? = some z) → Kept (Calls Tryd.prog 34 #[.string s, .int .i64 (p : Int), .string ⟨#[36, z]⟩] w fun e w' => e = .returned (.bool t) ∧ w' = w) :=
    fun z t ht => ⟨begins_any s ⟨#[36, z]⟩ p w t hs (by show 2 ≤ 20000; omega) (by omega) (ht.trans (pre_two hp z).symm)⟩
  have hlen : ∀ z : UInt8, ((toL s).drop (p + 1)).head? = some z → p + 2 ≤ s.size := fun z hh => by
    have : (toL s).drop (p + 1) ≠ [] := fun e => by rw [e] at hh; cases hh
    rw [ne_eq, List.drop_eq_nil_iff, toL_length] at this
    omega
  have HO := unitAt_step (d := d) (e := 0) hp
  by_cases h1 : s[p]'hp = 92
  · rw [if_pos h1] at HO
    exact skip_esc d HU n p s w hn hp hs h1 _ ⟨HO⟩
  · rw [if_neg h1] at HO
    by_cases h2 : s[p]'hp = 39
    · rw [if_pos ⟨h2, by decide⟩] at HO
      exact skip_sq d HU n p s w hn hp hs h2 _ ⟨HO⟩
    · rw [if_neg (fun h => h2 h.1)] at HO
      by_cases h3 : s[p]'hp = 34
      · rw [if_pos h3] at HO
        exact skip_dq d HU n p s w hn hp hs h3 _ ⟨HO⟩
      · rw [if_neg h3] at HO
        by_cases h4 : s[p]'hp = 36 ∧ ((toL s).drop (p + 1)).head? = some 40
        · rw [if_pos h4] at HO
          exact skip_par d HU n p s w hn hp hs h4.1 (hlen _ h4.2) (hb 40 true (decide_eq_true h4).symm) _ ⟨HO⟩
        · rw [if_neg h4] at HO
          by_cases h5 : s[p]'hp = 36 ∧ ((toL s).drop (p + 1)).head? = some 123
          · rw [if_pos h5] at HO
            exact skip_brace d HU n p s w hn hp hs h5.1 (hlen _ h5.2) (hb 40 false (decide_eq_false h4).symm) (hb 123 true (decide_eq_true h5).symm) _ ⟨HO⟩
          · rw [if_neg h5, if_neg (fun h => absurd h.2 (by decide))] at HO
            exact skip_plain d HU n p s w hn hp hs h1 h2 h3 (hb 40 false (decide_eq_false h4).symm) (hb 123 false (decide_eq_false h5).symm) _ ⟨HO⟩
theorem unit_other {d : Nat} {e : UInt8} {s : ByteArray} {p : Nat} (hp : p < s.size) (h1 : ¬ (e = 34 ∧ s[p]'hp = 39)) (h2 : ¬ (e = 41 ∧ s[p]'hp = 40)) : unitAt d e (toL s) p = unitAt d 0 (toL s) p := by
  cases d with
  | zero => rfl
  | succ d =>
    rw [unitAt_step hp, unitAt_step hp]
    have e0 : ¬ (s[p]'hp = 40 ∧ (0 : UInt8) = 41) := fun h => absurd h.2 (by decide)
    have e1 : ¬ (s[p]'hp = 40 ∧ e = 41) := fun h => h2 ⟨h.2, h.1⟩
    rw [if_neg e0, if_neg e1]
    by_cases h39 : s[p]'hp = 39
    · have : e ≠ 34 := fun h => h1 ⟨h, h39⟩
      rw [if_pos (⟨h39, this⟩ : s[p]'hp = 39 ∧ e ≠ 34), if_pos (⟨h39, by decide⟩ : s[p]'hp = 39 ∧ (0 : UInt8) ≠ 34)]
    · rw [if_neg (fun h => h39 h.1 : ¬ (s[p]'hp = 39 ∧ e ≠ 34)), if_neg (fun h => h39 h.1 : ¬ (s[p]'hp = 39 ∧ (0 : UInt8) ≠ 34))]
theorem unit_sq34v {d : Nat} {s : ByteArray} {p : Nat} (hp : p < s.size) (h : s[p]'hp = 39) : unitAt (d + 1) 34 (toL s) p = some (p + 1) := by
  rw [unitAt_step hp, h]; simp
theorem unit_inv {d : Nat} {s : ByteArray} {p : Nat} (hp : p < s.size) (h : s[p]'hp = 40) : unitAt (d + 1) 41 (toL s) p = nestAt d 41 (toL s) (p + 1) := by
  rw [unitAt_step hp, h]; simp
/-- The document's call within parentheses, one deeper. -/
def InC (d : Nat) : Prop := d = 0 ∨ ∃ c, d = c + 1 ∧ UntilC c
set_option maxHeartbeats 4000000 in
set_option maxRecDepth 100000 in
theorem until_of (d : Nat) (HS : Kept (SkipC d)) (HI : Kept (InC d)) : UntilC d := by
  intro n p s e0 w mn mp me hn hmn hmp hme hp hs
  subst hmn hmp hme
  have HN := Kept.mk hn
  have hn31 : (n : Int) ≤ 31 := by omega
  obtain ⟨o, ho⟩ : ∃ o, o = nestAt d e0 (toL s) p := ⟨_, rfl⟩
  have HO := Kept.mk ho
  rw [← ho]
  clear ho hn
  go_enter Tryd.func33, Tryd.ntmps33
  go_wp2_with fail
  go_loop [1] (fun i => ∃ k : Nat, k ≤ s.size ∧ i = .int .i64 (k : Int) ∧ Kept (o = nestAt d e0 (toL s) k)) (fun i => s.size - (intOf i).toNat)
  case atStart => exact ⟨p, hp, rfl, HO⟩
  case round =>
    obtain ⟨k, hk, rfl, HE⟩ := hrel
    by_cases hlt : k < s.size
    · have zk : (k : Int) < s.size := by omega
      by_cases hc : s[k]'hlt = e0
      · have HF : Kept (o = some (k + 1)) := ⟨by rw [HE.out, nestAt_close hlt hc]⟩
        have y : (((s[k]'hlt).toNat : Nat) : Int) = (e0.toNat : Int) := by rw [hc]
        clear hc HE
        go_wp2_with fail
        go_ret
        exact ⟨by rw [HF.out]; rfl, rfl⟩
      · have hcne : ¬ (((s[k]'hlt).toNat : Nat) : Int) = (e0.toNat : Int) := fun h => hc (UInt8.toNat_inj.1 (by omega))
        have y : ((((s[k]'hlt).toNat : Nat) : Int) == (e0.toNat : Int)) = false := by simpa using fun h => hcne (by omega)
        have HC := Kept.mk hc
        clear hcne
        by_cases hq : e0 = 34 ∧ s[k]'hlt = 39
        · obtain ⟨he, hq⟩ := hq
          have x34 : (e0.toNat : Int) = 34 := nat_byte (k := 34) he (by omega)
          have y39 : (((s[k]'hlt).toNat : Nat) : Int) = 39 := nat_byte (k := 39) hq (by omega)
          cases d with
          | zero =>
            have hn31b : (30 : Int) < (n : Int) := by have := HN.out; omega
            have HF : Kept (o = none) := ⟨by rw [HE.out, nestAt_bad hlt HC.out rfl]⟩
            clear hq he hc HE
            go_wp2_with fail
            go_ret
            exact ⟨by rw [HF.out]; rfl, rfl⟩
          | succ d =>
            have hn30 : ¬ (30 : Int) < (n : Int) := by have := HN.out; omega
            have HE2 : Kept (o = nestAt (d + 1) e0 (toL s) (k + 1)) := ⟨by rw [HE.out, (nestAt_on hlt HC.out (by rw [he]; exact unit_sq34v hlt hq)).1]⟩
            clear hq he hc HE
            go_wp2_with fail
            go_round
            case rel => exact ⟨k + 1, by omega, by go_num, HE2⟩
            case measure => simp [intOf]; omega
        · by_cases hi : e0 = 41 ∧ s[k]'hlt = 40
          · obtain ⟨he, hi⟩ := hi
            have x41 : (e0.toNat : Int) = 41 := nat_byte (k := 41) he (by omega)
            have y40 : (((s[k]'hlt).toNat : Nat) : Int) = 40 := nat_byte (k := 40) hi (by omega)
            rcases HI.out with hd | ⟨c, hd, hU⟩
            · subst hd
              have hn31b : ¬ (n : Int) ≤ 30 := by have := HN.out; omega
              have hn31c : decide ((n : Int) ≤ 30) = false := decide_eq_false hn31b
              have HF : Kept (o = none) := ⟨by rw [HE.out, nestAt_bad hlt HC.out rfl]⟩
              clear hq he hc HE hi
              go_wp2_with fail
              go_ret
              exact ⟨by rw [HF.out]; rfl, rfl⟩
            · subst hd
              have HU := Kept.mk hU
              have hn30 : (n : Int) ≤ 30 := by have := HN.out; omega
              cases hu : nestAt c 41 (toL s) (k + 1) with
              | none =>
                have HF : Kept (o = none) := ⟨by rw [HE.out, nestAt_bad hlt HC.out (by rw [he, unit_inv hlt hi, hu])]⟩
                have HUv := Kept.mk hu
                clear hq he hc HE hi hu hU
                go_wp2_with (go_at_call 33; refine (HU.out (n + 1) (k + 1) s 41 _ _ _ _ (by have := HN.out; omega) (by omega) (by omega) rfl (by omega) hs).mono ?_; rw [HUv.out]; rintro e1 w1 ⟨rfl, rfl⟩; dsimp only [ansN])
                go_ret
                exact ⟨by rw [HF.out]; rfl, rfl⟩
              | some q =>
                obtain ⟨g1, g2, g3⟩ := nestAt_on hlt HC.out (d := c + 1) (q := q) (by rw [he, unit_inv hlt hi, hu])
                have HE2 : Kept (o = nestAt (c + 1) e0 (toL s) q) := ⟨by rw [HE.out, g1]⟩
                have HUv := Kept.mk hu
                clear hq he hc HE hi hu hU g1
                go_wp2_with (go_at_call 33; refine (HU.out (n + 1) (k + 1) s 41 _ _ _ _ (by have := HN.out; omega) (by omega) (by omega) rfl (by omega) hs).mono ?_; rw [HUv.out]; rintro e1 w1 ⟨rfl, rfl⟩; dsimp only [ansN])
                go_round
                case rel => exact ⟨q, by omega, rfl, HE2⟩
                case measure => simp [intOf]; omega
          · have hg1 : ¬ ((e0.toNat : Int) = 34 ∧ (((s[k]'hlt).toNat : Nat) : Int) = 39) := fun h => hq ⟨UInt8.toNat_inj.1 (show e0.toNat = 34 by omega), UInt8.toNat_inj.1 (show (s[k]'hlt).toNat = 39 by omega)⟩
            have hg2 : ¬ ((e0.toNat : Int) = 41 ∧ (((s[k]'hlt).toNat : Nat) : Int) = 40) := fun h => hi ⟨UInt8.toNat_inj.1 (show e0.toNat = 41 by omega), UInt8.toNat_inj.1 (show (s[k]'hlt).toNat = 40 by omega)⟩
            have HUo : Kept (unitAt d e0 (toL s) k = unitAt d 0 (toL s) k) := ⟨unit_other hlt hq hi⟩
            have HG1 := Kept.mk hg1
            have HG2 := Kept.mk hg2
            clear hg1 hg2 hq hi
            cases hu : unitAt d 0 (toL s) k with
            | none =>
              have HF : Kept (o = none) := ⟨by rw [HE.out, nestAt_bad hlt HC.out (by rw [HUo.out, hu])]⟩
              have HUv := Kept.mk hu
              clear hc HE hu
              have H3 : ((e0.toNat : Int) = 34 ∧ ((((s[k]'hlt).toNat : Nat) : Int) == 39) = false) ∨ (((e0.toNat : Int) == 34) = false ∧ (e0.toNat : Int) = 41 ∧ ((((s[k]'hlt).toNat : Nat) : Int) == 40) = false) ∨ (((e0.toNat : Int) == 34) = false ∧ ((e0.toNat : Int) == 41) = false) := by
                by_cases x34 : (e0.toNat : Int) = 34
                · exact .inl ⟨x34, by simpa using fun h => HG1.out ⟨x34, by omega⟩⟩
                · by_cases x41 : (e0.toNat : Int) = 41
                  · exact .inr (.inl ⟨by simpa using x34, x41, by simpa using fun h => HG2.out ⟨x41, by omega⟩⟩)
                  · exact .inr (.inr ⟨by simpa using x34, by simpa using x41⟩)
              rcases H3 with ⟨x34, y39⟩ | ⟨x34, x41, y40⟩ | ⟨x34, x41⟩
              all_goals
                go_wp2_with (go_at_call 24; refine (HS.out n k s _ _ _ HN.out rfl rfl hlt hs).mono ?_; rw [HUv.out]; rintro e1 w1 ⟨rfl, rfl⟩; dsimp only [ansN])
                go_ret
                exact ⟨by rw [HF.out]; rfl, rfl⟩
            | some q =>
              obtain ⟨g1, g2, g3⟩ := nestAt_on hlt HC.out (d := d) (q := q) (by rw [HUo.out, hu])
              have HE2 : Kept (o = nestAt d e0 (toL s) q) := ⟨by rw [HE.out, g1]⟩
              have HUv := Kept.mk hu
              clear hc HE hu g1
              have H3 : ((e0.toNat : Int) = 34 ∧ ((((s[k]'hlt).toNat : Nat) : Int) == 39) = false) ∨ (((e0.toNat : Int) == 34) = false ∧ (e0.toNat : Int) = 41 ∧ ((((s[k]'hlt).toNat : Nat) : Int) == 40) = false) ∨ (((e0.toNat : Int) == 34) = false ∧ ((e0.toNat : Int) == 41) = false) := by
                by_cases x34 : (e0.toNat : Int) = 34
                · exact .inl ⟨x34, by simpa using fun h => HG1.out ⟨x34, by omega⟩⟩
                · by_cases x41 : (e0.toNat : Int) = 41
                  · exact .inr (.inl ⟨by simpa using x34, x41, by simpa using fun h => HG2.out ⟨x41, by omega⟩⟩)
                  · exact .inr (.inr ⟨by simpa using x34, by simpa using x41⟩)
              rcases H3 with ⟨x34, y39⟩ | ⟨x34, x41, y40⟩ | ⟨x34, x41⟩
              all_goals
                go_wp2_with (go_at_call 24; refine (HS.out n k s _ _ _ HN.out rfl rfl hlt hs).mono ?_; rw [HUv.out]; rintro e1 w1 ⟨rfl, rfl⟩; dsimp only [ansN])
                go_round
                case rel => exact ⟨q, by omega, rfl, HE2⟩
                case measure => simp [intOf]; omega
    · have HF : Kept (o = none) := ⟨by rw [HE.out, nestAt_end (by omega)]⟩
      have zk : ¬ (k : Int) < s.size := by omega
      clear hlt HE
      go_wp2_with fail
      go_ret
      exact ⟨by rw [HF.out]; rfl, rfl⟩
theorem both_any : ∀ d, SkipC d ∧ UntilC d
  | 0 => ⟨skip_zero, until_of 0 ⟨skip_zero⟩ ⟨.inl rfl⟩⟩
  | d + 1 =>
    have h := both_any d
    have hs := skip_succ d ⟨h.2⟩
    ⟨hs, until_of (d + 1) ⟨hs⟩ ⟨.inr ⟨d, rfl, h.2⟩⟩⟩
end Lx
end Go.Proofs.YtphgnjjblpmijaaDoor
