/-
  The program's units: how long the unit is that a text begins with, however deep.
-/
import Derived.Test.YtphgnjjblpmijaaDoorWp2M
import Derived.Test.YtphgnjjblpmijaaDoorWrcM
import Derived.Test.YtphgnjjblpmijaaDoorGx
import Derived.WalkKit
import Derived.BigCall
import Derived.LoopTactic
import Derived.Deep.LoopGhost
namespace Go.Proofs.YtphgnjjblpmijaaDoor
open Go.RowKit Tx
namespace Wx
open Lx

/-- What a unit begins with: how long that is, and what closes it (0: nothing does). -/
def opn2 (e : UInt8) : List UInt8 → Nat × UInt8
  | [] => (1, 0)
  | c :: r =>
    if c = 92 then (2, 0)
    else if c = 39 ∧ e ≠ 34 then (Lx.ahead 39 r + 2, 0)
    else if c = 34 then (1, 34)
    else if c = 36 ∧ r.head? = some 40 then (2, 41)
    else if c = 36 ∧ r.head? = some 123 then (2, 125)
    else if c = 40 ∧ e = 41 then (1, 41)
    else (1, 0)
theorem opn2_cons (e c : UInt8) (r : List UInt8) : opn2 e (c :: r) =
    if c = 92 then (2, 0)
    else if c = 39 ∧ e ≠ 34 then (Lx.ahead 39 r + 2, 0)
    else if c = 34 then (1, 34)
    else if c = 36 ∧ r.head? = some 40 then (2, 41)
    else if c = 36 ∧ r.head? = some 123 then (2, 125)
    else if c = 40 ∧ e = 41 then (1, 41)
    else (1, 0) := rfl
theorem unit_opn (d : Nat) (e c : UInt8) (r : List UInt8) : unit (d + 1) e (c :: r) =
    if (opn2 e (c :: r)).2 = 0 then (if (opn2 e (c :: r)).1 ≤ (c :: r).length then some (opn2 e (c :: r)).1 else none)
    else (nest d (opn2 e (c :: r)).2 ((c :: r).drop (opn2 e (c :: r)).1)).map ((opn2 e (c :: r)).1 + ·) := by
  have ht : r.tail = (c :: r).drop 2 := by cases r <;> rfl
  rw [unit_step, opn2_cons]
  by_cases h1 : c = 92
  · rw [if_pos h1, if_pos h1, if_pos rfl]
    cases r with
    | nil => rfl
    | cons y r => rw [if_neg (by simp), if_pos (by simp)]
  · rw [if_neg h1, if_neg h1]
    by_cases h2 : c = 39 ∧ e ≠ 34
    · rw [if_pos h2, if_pos h2, if_pos rfl, quoted_is]
      show Option.map _ (if Lx.ahead 39 r < r.length then _ else _) = if Lx.ahead 39 r + 2 ≤ r.length + 1 then some (Lx.ahead 39 r + 2) else none
      by_cases h3 : Lx.ahead 39 r < r.length
      · rw [if_pos h3, if_pos (by omega)]
        show some (1 + (Lx.ahead 39 r + 1)) = _
        congr 1; omega
      · rw [if_neg h3, if_neg (by omega)]; rfl
    · rw [if_neg h2, if_neg h2]
      by_cases h3 : c = 34
      · rw [if_pos h3, if_pos h3, if_neg (by decide)]; rfl
      · rw [if_neg h3, if_neg h3]
        by_cases h4 : c = 36 ∧ r.head? = some 40
        · rw [if_pos h4, if_pos h4, if_neg (by decide), ht]
        · rw [if_neg h4, if_neg h4]
          by_cases h5 : c = 36 ∧ r.head? = some 123
          · rw [if_pos h5, if_pos h5, if_neg (by decide), ht]
          · rw [if_neg h5, if_neg h5]
            by_cases h6 : c = 40 ∧ e = 41
            · rw [if_pos h6, if_pos h6, if_neg (by decide)]; rfl
            · rw [if_neg h6, if_neg h6, if_pos rfl, if_pos (by simp)]
theorem opn2_size (e c : UInt8) (r : List UInt8) : (opn2 e (c :: r)).1 ≤ r.length + 2 ∧ ((opn2 e (c :: r)).2 ≠ 0 → (opn2 e (c :: r)).1 ≤ r.length + 1) := by
  have h39 := ahead_le 39 r
  have hh : ∀ x, r.head? = some x → 1 ≤ r.length := fun x h => by cases r with
    | nil => cases h
    | cons y r => simp
  rw [opn2_cons]
  split
  · exact ⟨by omega, fun h => absurd rfl h⟩
  · split
    · exact ⟨by omega, fun h => absurd rfl h⟩
    · split
      · exact ⟨by omega, fun _ => by omega⟩
      · split
        · rename_i h; have := hh _ h.2; exact ⟨by omega, fun _ => by omega⟩
        · split
          · rename_i h; have := hh _ h.2; exact ⟨by omega, fun _ => by omega⟩
          · split
            · exact ⟨by omega, fun _ => by omega⟩
            · exact ⟨by omega, fun h => absurd rfl h⟩
/-- Behind a place: how far the closing byte is, or 0. -/
def nestN (d : Nat) (x : UInt8) (l : List UInt8) (j : Nat) : Nat := ((nest d x (l.drop j)).map (j + ·)).getD 0
theorem nestN_end {d : Nat} {x : UInt8} {s : ByteArray} {j : Nat} (h : s.size ≤ j) : nestN d x (toL s) j = 0 := by unfold nestN; rw [drop_end h, nest_nil]; rfl
theorem nestN_close {d : Nat} {x : UInt8} {s : ByteArray} {j : Nat} (h : j < s.size) (hx : s[j]'h = x) : nestN d x (toL s) j = j + 1 := by unfold nestN; rw [drop_at h, hx, nest_end]; rfl
theorem nestN_bad {d : Nat} {x : UInt8} {s : ByteArray} {j : Nat} (h : j < s.size) (hx : s[j]'h ≠ x) (hu : unit d x ((toL s).drop j) = none) : nestN d x (toL s) j = 0 := by
  unfold nestN
  rw [drop_at h] at *
  rw [nest_bad hx hu]; rfl
theorem nestN_on {d : Nat} {x : UInt8} {s : ByteArray} {j k : Nat} (h : j < s.size) (hx : s[j]'h ≠ x) (hu : unit d x ((toL s).drop j) = some k) : nestN d x (toL s) j = nestN d x (toL s) (j + k) ∧ 1 ≤ k ∧ j + k ≤ s.size := by
  have h1 := unit_le _ hu
  rw [List.length_drop, toL_length] at h1
  refine ⟨?_, h1.1, by omega⟩
  unfold nestN
  rw [drop_at h] at hu ⊢
  rw [nest_on hx hu, ← drop_at h, List.drop_drop, Option.map_map]
  congr 2
  funext y
  show j + (k + y) = j + k + y
  omega
theorem toNat_ne {a b : UInt8} (h : a ≠ b) : ¬ ((a.toNat : Nat) : Int) = ((b.toNat : Nat) : Int) := fun e => h (UInt8.toNat_inj.1 (by omega))
theorem cut39 (s : ByteArray) (w : World) (hs : s.size ≤ 5000) (hK : Kit w) :
    Calls Tryd.prog 99 #[.string s, .string ⟨#[39]⟩] w fun e w' => ∃ (a b : ByteArray) (t : Bool), e = .returned (.tuple #[.string a, .string b, .bool t]) ∧ Kept (a.size = Lx.ahead 39 (toL s)) ∧ Below w.heap.size w w' := by
  obtain ⟨m, hm⟩ := hK.max
  refine (Tryd.strings_Cut s ⟨#[39]⟩ m w (by omega) hm).mono ?_
  rintro e w' ⟨rfl, n, rfl⟩
  refine ⟨_, _, _, rfl, ⟨?_⟩, below_drewN (Below.refl _ _) n⟩
  rw [← cut_len]
  exact bs_size _
set_option maxHeartbeats 8000000 in
set_option maxRecDepth 100000 in
theorem opening_any (s : ByteArray) (e : UInt8) (w : World) (h0 : 0 < s.size) (hs : s.size ≤ 5000) (hK : Kit w) (k : Nat) (x : UInt8) (hO : Kept (opn2 e (toL s) = (k, x))) :
    Calls Tryd.prog 89 #[.string s, .int .u8 (e.toNat : Int)] w fun e w' => e = .returned (.tuple #[.int .i64 (k : Int), .int .u8 (x.toNat : Int)]) ∧ Below w.heap.size w w' := by
  have hc := cons_at h0
  obtain ⟨c, hcc⟩ : ∃ c, s[0]'h0 = c := ⟨_, rfl⟩
  obtain ⟨r, hr⟩ : ∃ r, r = (toL s).drop 1 := ⟨_, rfl⟩
  rw [hcc, ← hr] at hc
  have h := hO.out
  clear hO
  rw [hc, opn2_cons] at h
  have HP : Kept (∀ W : World, Calls Tryd.prog 57 #[.string s, .string ⟨#[36, 40]⟩] W (fun e w' => e = .returned (.bool (decide (c = 36 ∧ r.head? = some 40))) ∧ w' = W) ∧ Calls Tryd.prog 57 #[.string s, .string ⟨#[36, 123]⟩] W (fun e w' => e = .returned (.bool (decide (c = 36 ∧ r.head? = some 123))) ∧ w' = W)) := ⟨fun W => by
    have hd : ∀ z, decide (c = 36 ∧ r.head? = some z) = [36, z].isPrefixOf (toL s) := fun z => by
      rw [hc, prefix_two]
      by_cases h : c = 36
      · subst h; simp
      · have : ((36 : UInt8) == c) = false := by simpa using fun e => h e.symm
        rw [this, decide_eq_false (fun e => h e.1)]; rfl
    exact ⟨prefix_any s [36, 40] W _ (hd 40), prefix_any s [36, 123] W _ (hd 123)⟩⟩
  have T1 : Kept True := ⟨trivial⟩
  have HX : Kept (∀ Z : ByteArray, Z = s.extract 1 s.size → toL Z = r ∧ Z.size ≤ 5000) := ⟨by
    rintro Z rfl
    exact ⟨by rw [toL_rest, hr], by rw [size_rest]; omega⟩⟩
  have HK := Kept.mk hK
  have hsl : ∀ W : World, (Instr.slice 9 (.string s) (some (.int .i64 1)) none none).run Tryd.prog W = .ok (.string (s.extract 1 s.size)) W := fun W => str_from (k := 1) (by omega) (by omega) W
  have h39 : Lx.ahead 39 r ≤ 5000 := by
    have := ahead_le 39 r
    have h2 := congrArg List.length hr
    rw [List.length_drop, toL_length] at h2
    omega
  generalize hZ : s.extract 1 s.size = Z at *
  have HZ := Kept.mk (HX.out Z rfl)
  clear HX hK hZ
  by_cases e92 : c = 92
  · rw [if_pos e92] at h
    have z92 : ((s[0]'h0).toNat : Int) = 92 := by rw [hcc, e92]; rfl
    clear HP T1 h39 e92
    obtain ⟨rfl, rfl⟩ := Prod.mk.inj h
    clear h hcc hc hr
    go_enter Tryd.func89, Tryd.ntmps89
    go_wp2_with fail
    go_ret2
    exact ⟨rfl, Below.refl _ _⟩
  rw [if_neg e92] at h
  have z92 : ¬ ((s[0]'h0).toNat : Int) = 92 := by rw [hcc]; exact toNat_ne (b := 92) e92
  by_cases e39 : c = 39
  · by_cases e34 : e = 34
    · rw [if_neg (fun h => h.2 e34), if_neg (by rw [e39]; decide), if_neg (fun h => absurd (e39.symm.trans h.1) (by decide)), if_neg (fun h => absurd (e39.symm.trans h.1) (by decide)), if_neg (fun h => absurd (e39.symm.trans h.1) (by decide))] at h
      have z39 : ((s[0]'h0).toNat : Int) = 39 := by rw [hcc, e39]; rfl
      subst e34
      have q1 : decide (c = 36 ∧ r.head? = some 40) = false := decide_eq_false (fun h => absurd (e39.symm.trans h.1) (by decide))
      have q2 : decide (c = 36 ∧ r.head? = some 123) = false := decide_eq_false (fun h => absurd (e39.symm.trans h.1) (by decide))
      rw [q1, q2] at HP
      clear q1 q2 h39 e92 e39
      obtain ⟨rfl, rfl⟩ := Prod.mk.inj h
      clear h hcc hc hr
      go_enter Tryd.func89, Tryd.ntmps89
      go_wp2_with (first | (go_at_call 57; have := T1; refine (HP.out _).1.mono ?_; rintro e1 w1 ⟨rfl, rfl⟩; clear T1 this) | (go_at_call 57; refine (HP.out _).2.mono ?_; rintro e1 w1 ⟨rfl, rfl⟩))
      go_ret2
      exact ⟨rfl, Below.refl _ _⟩
    · rw [if_pos ⟨e39, e34⟩] at h
      have z39 : ((s[0]'h0).toNat : Int) = 39 := by rw [hcc, e39]; rfl
      have y34 : ¬ (e.toNat : Int) = 34 := toNat_ne (b := 34) e34
      have y35 : ((e.toNat : Int) != 34) = true := by simpa using y34
      clear HP T1 e92 e39 e34
      obtain ⟨rfl, rfl⟩ := Prod.mk.inj h
      clear h hcc hc hr
      go_enter Tryd.func89, Tryd.ntmps89
      go_wp2_with (go_at_call 99; refine (cut39 Z w HZ.out.2 HK.out).mono ?_; rintro e1 w1 ⟨a, b, t, rfl, ha, hb⟩; have HB := Kept.mk hb; have HA := ha; have ha2 : a.size ≤ 5000 := (by rw [ha.out, HZ.out.1]; exact h39); clear hb ha h39)
      go_ret2
      refine ⟨?_, HB.out⟩
      rw [HA.out, HZ.out.1]; rfl
  rw [if_neg (fun h => e39 h.1)] at h
  have z39 : ¬ ((s[0]'h0).toNat : Int) = 39 := by rw [hcc]; exact toNat_ne (b := 39) e39
  by_cases e34 : c = 34
  · rw [if_pos e34] at h
    have z34 : ((s[0]'h0).toNat : Int) = 34 := by rw [hcc, e34]; rfl
    clear HP T1 h39 e92 e39 e34
    obtain ⟨rfl, rfl⟩ := Prod.mk.inj h
    clear h hcc hc hr
    go_enter Tryd.func89, Tryd.ntmps89
    go_wp2_with fail
    go_ret2
    exact ⟨rfl, Below.refl _ _⟩
  rw [if_neg e34] at h
  have z34 : ¬ ((s[0]'h0).toNat : Int) = 34 := by rw [hcc]; exact toNat_ne (b := 34) e34
  by_cases e36 : c = 36 ∧ r.head? = some 40
  · rw [if_pos e36] at h
    rw [decide_eq_true e36] at HP
    clear h39 e92 e39 e34 e36 T1
    obtain ⟨rfl, rfl⟩ := Prod.mk.inj h
    clear h hcc hc hr
    go_enter Tryd.func89, Tryd.ntmps89
    go_wp2_with (go_at_call 57; refine (HP.out _).1.mono ?_; rintro e1 w1 ⟨rfl, rfl⟩)
    go_ret2
    exact ⟨rfl, Below.refl _ _⟩
  rw [if_neg e36] at h
  rw [decide_eq_false e36] at HP
  by_cases e37 : c = 36 ∧ r.head? = some 123
  · rw [if_pos e37] at h
    rw [decide_eq_true e37] at HP
    clear h39 e92 e39 e34 e36 e37
    obtain ⟨rfl, rfl⟩ := Prod.mk.inj h
    clear h hcc hc hr
    go_enter Tryd.func89, Tryd.ntmps89
    go_wp2_with (first | (go_at_call 57; have := T1; refine (HP.out _).1.mono ?_; rintro e1 w1 ⟨rfl, rfl⟩; clear T1 this) | (go_at_call 57; refine (HP.out _).2.mono ?_; rintro e1 w1 ⟨rfl, rfl⟩))
    go_ret2
    exact ⟨rfl, Below.refl _ _⟩
  rw [if_neg e37] at h
  rw [decide_eq_false e37] at HP
  by_cases e40 : c = 40
  · have z40 : ((s[0]'h0).toNat : Int) = 40 := by rw [hcc, e40]; rfl
    by_cases e41 : e = 41
    · rw [if_pos ⟨e40, e41⟩] at h
      subst e41
      clear h39 e92 e39 e34 e36 e37 e40
      obtain ⟨rfl, rfl⟩ := Prod.mk.inj h
      clear h hcc hc hr
      go_enter Tryd.func89, Tryd.ntmps89
      go_wp2_with (first | (go_at_call 57; have := T1; refine (HP.out _).1.mono ?_; rintro e1 w1 ⟨rfl, rfl⟩; clear T1 this) | (go_at_call 57; refine (HP.out _).2.mono ?_; rintro e1 w1 ⟨rfl, rfl⟩))
      go_ret2
      exact ⟨rfl, Below.refl _ _⟩
    · rw [if_neg (fun h => e41 h.2)] at h
      have y41 : ¬ (e.toNat : Int) = 41 := toNat_ne (b := 41) e41
      have y42 : ((e.toNat : Int) == 41) = false := by simpa using y41
      clear h39 e92 e39 e34 e36 e37 e40 e41
      obtain ⟨rfl, rfl⟩ := Prod.mk.inj h
      clear h hcc hc hr
      go_enter Tryd.func89, Tryd.ntmps89
      go_wp2_with (first | (go_at_call 57; have := T1; refine (HP.out _).1.mono ?_; rintro e1 w1 ⟨rfl, rfl⟩; clear T1 this) | (go_at_call 57; refine (HP.out _).2.mono ?_; rintro e1 w1 ⟨rfl, rfl⟩))
      go_ret2
      exact ⟨rfl, Below.refl _ _⟩
  · have z40 : ¬ ((s[0]'h0).toNat : Int) = 40 := by rw [hcc]; exact toNat_ne (b := 40) e40
    rw [if_neg (fun h => e40 h.1)] at h
    clear h39 e92 e39 e34 e36 e37 e40
    obtain ⟨rfl, rfl⟩ := Prod.mk.inj h
    clear h hcc hc hr
    go_enter Tryd.func89, Tryd.ntmps89
    go_wp2_with (first | (go_at_call 57; have := T1; refine (HP.out _).1.mono ?_; rintro e1 w1 ⟨rfl, rfl⟩; clear T1 this) | (go_at_call 57; refine (HP.out _).2.mono ?_; rintro e1 w1 ⟨rfl, rfl⟩))
    go_ret2
    exact ⟨rfl, Below.refl _ _⟩
end Wx
end Go.Proofs.YtphgnjjblpmijaaDoor

/-
  The program's units: how long the whole unit is, or 0.
-/
namespace Go.Proofs.YtphgnjjblpmijaaDoor
open Go.RowKit Tx
namespace Wx
open Lx

def UnitW (d : Nat) : Prop := ∀ (s : ByteArray) (e : UInt8) (w : World) (nn m : Int) (n : Nat), nn + d = 31 → m = (e.toNat : Int) → 0 < s.size → s.size ≤ 5000 → Kit w → Kept (n = (unit d e (toL s)).getD 0) →
  Calls Tryd.prog 71 #[.string s, .int .i64 nn, .int .u8 m] w fun e w' => e = .returned (.int .i64 (n : Int)) ∧ Below w.heap.size w w'
theorem unitW_zero : UnitW 0 := by
  intro s e w nn m n hn hm h0 hs hK HN
  obtain rfl : n = 0 := HN.out
  obtain rfl : nn = 31 := by omega
  subst hm
  clear HN hn h0 hs hK
  go_enter Tryd.func71, Tryd.ntmps71
  go_wp2
  go_ret
  exact ⟨rfl, Below.refl _ _⟩
set_option maxHeartbeats 2000000 in
set_option maxRecDepth 100000 in
theorem unitW_next (d : Nat) (hd : d ≤ 30) (HU : Kept (UnitW d)) : UnitW (d + 1) := by
  intro s e w nn m n hn hm h0 hs hK HN
  subst hm
  have hc := cons_at h0
  obtain ⟨k, x, hkx⟩ : ∃ k x, opn2 e (toL s) = (k, x) := ⟨_, _, rfl⟩
  have HOp := Kept.mk (opening_any s e w h0 hs hK k x ⟨hkx⟩)
  have hsz := opn2_size e (s[0]'h0) ((toL s).drop 1)
  have hun := unit_opn d e (s[0]'h0) ((toL s).drop 1)
  rw [← hc, hkx] at hsz hun
  rw [List.length_drop, toL_length] at hsz
  rw [toL_length] at hun
  have HN := HN.out
  rw [hun] at HN
  simp only [] at HN hsz
  have hnn : nn ≤ 30 := by omega
  have hnm : 0 ≤ nn := by omega
  have HNn := Kept.mk hn
  have HK := Kept.mk hK
  obtain ⟨xi, hxi⟩ : ∃ xi : Int, xi = (x.toNat : Int) := ⟨_, rfl⟩
  rw [← hxi] at HOp
  have hk5 : k ≤ 5001 := by omega
  clear hc hkx hun hn hK hd
  by_cases hx : x = 0
  · rw [if_pos hx] at HN
    obtain rfl : xi = 0 := by rw [hxi, hx]; rfl
    clear hxi hx
    by_cases hk : k ≤ s.size
    · rw [if_pos hk] at HN
      obtain rfl : n = k := HN
      clear hsz HU
      go_enter Tryd.func71, Tryd.ntmps71
      go_wp2_with (go_at_call 89; refine HOp.out.mono ?_; rintro e1 w1 ⟨rfl, hb⟩; have HB := Kept.mk hb; clear hb)
      go_ret
      exact ⟨rfl, HB.out⟩
    · rw [if_neg hk] at HN
      obtain rfl : n = 0 := HN
      clear hsz HU
      go_enter Tryd.func71, Tryd.ntmps71
      go_wp2_with (go_at_call 89; refine HOp.out.mono ?_; rintro e1 w1 ⟨rfl, hb⟩; have HB := Kept.mk hb; clear hb)
      go_ret
      exact ⟨rfl, HB.out⟩
  · rw [if_neg hx] at HN
    have hk := hsz.2 hx
    have hxz : ¬ xi = 0 := by rw [hxi]; exact toNat_ne (b := 0) hx
    have HX := Kept.mk hxi
    have HR : Kept (n = nestN d x (toL s) k) := ⟨HN⟩
    have hks : k ≤ s.size := by omega
    clear hsz hxi hx HN hk
    go_enter Tryd.func71, Tryd.ntmps71
    go_wp2_with (go_at_call 89; refine HOp.out.mono ?_; rintro e1 w1 ⟨rfl, hb⟩; have HB := Kept.mk hb; clear hb)
    simp only [show (xi == 0) = false from by simpa using hxz]
    go_loopg [7] s.size (fun m sv wr => ∃ j : Nat, sv = .int .i64 (j : Int) ∧ j ≤ s.size ∧ s.size - j ≤ m ∧ Kept (n = nestN d x (toL s) j) ∧ Kept (Below w.heap.size w wr))
    case atStart => exact ⟨k, rfl, hks, by omega, HR, HB⟩
    case round =>
      obtain ⟨j, rfl, hj, hjm, HE, HBr⟩ := hrel
      have hj5 : (j : Int) ≤ 5000 := by omega
      by_cases hlt : j < s.size
      · have hlt2 : (j : Int) < (s.size : Int) := by omega
        by_cases hcx : s[j]'hlt = x
        · have HF : Kept (n = j + 1) := ⟨by rw [HE.out, nestN_close hlt hcx]⟩
          have t0 : ((s[j]'hlt).toNat : Int) = xi := by rw [hcx, HX.out]
          have hne : ¬ (j : Int) = (s.size : Int) := by omega
          clear hcx HE hjm HU
          go_wp2_with fail
          go_ret
          exact ⟨by rw [HF.out]; rfl, HBr.out⟩
        · have t0 : ¬ ((s[j]'hlt).toNat : Int) = xi := by rw [HX.out]; exact toNat_ne hcx
          have t1 : (((s[j]'hlt).toNat : Int) != xi) = true := by simpa using t0
          have t2 : (((s[j]'hlt).toNat : Int) == xi) = false := by simpa using t0
          obtain ⟨Z, hZ⟩ : ∃ Z, Z = s.extract j s.size := ⟨_, rfl⟩
          have hsl : ∀ W : World, (Instr.slice 9 (.string s) (some (.int .i64 (j : Int))) none none).run Tryd.prog W = .ok (.string Z) W := fun W => by rw [hZ]; exact str_from (by omega) (by omega) W
          have hZl : toL Z = (toL s).drop j := by rw [hZ]; exact toL_rest s j
          have hZs : Z.size = s.size - j := by rw [hZ]; exact size_rest s j
          have HKr : Kept (Kit wr) := ⟨HK.out.below HBr.out⟩
          obtain ⟨i, hi⟩ : ∃ i, i = (unit d x (toL Z)).getD 0 := ⟨_, rfl⟩
          have HC := Kept.mk (HU.out Z x wr (nn + 1) xi i (by have := HNn.out; omega) HX.out (by omega) (by omega) HKr.out ⟨hi⟩)
          cases hu : unit d x ((toL s).drop j) with
          | none =>
            have HF : Kept (n = 0) := ⟨by rw [HE.out, nestN_bad hlt hcx hu]⟩
            rw [hZl, hu] at hi
            obtain rfl : i = 0 := hi
            clear hcx HE hjm HU hZ hZl hZs hu
            go_wp2_with (go_at_call 71; refine HC.out.mono ?_; rintro e1 w2 ⟨rfl, hb⟩; have HB2 : Kept (Below w.heap.size w w2) := ⟨HBr.out.trans (hb.mono HBr.out.size)⟩; clear hb)
            go_ret
            exact ⟨by rw [HF.out]; rfl, HB2.out⟩
          | some i' =>
            rw [hZl, hu] at hi
            obtain rfl : i = i' := hi
            obtain ⟨h1, h2, h3⟩ := nestN_on hlt hcx hu
            have HE2 : Kept (n = nestN d x (toL s) (j + i)) := ⟨by rw [HE.out, h1]⟩
            have hi0 : ¬ (i : Int) = 0 := by omega
            have hi5 : (i : Int) ≤ 5000 := by omega
            have HJ : Kept (j + i ≤ s.size ∧ 1 ≤ i) := ⟨h3, h2⟩
            have hsum : (j : Int) + (i : Int) ≤ 5000 := by omega
            clear hcx HE HU hZ hZl hZs hu h1 h2 h3
            go_wp2_with (go_at_call 71; refine HC.out.mono ?_; rintro e1 w2 ⟨rfl, hb⟩; have HB2 : Kept (Below w.heap.size w w2) := ⟨HBr.out.trans (hb.mono HBr.out.size)⟩; clear hb)
            go_roundg (s.size - (j + i))
            case measure => have := HJ.out; omega
            case rel => exact ⟨j + i, by go_num, by have := HJ.out; omega, by omega, HE2, HB2⟩
      · obtain rfl : j = s.size := by omega
        have HF : Kept (n = 0) := ⟨by rw [HE.out, nestN_end (Nat.le_refl _)]⟩
        clear hlt HE HU
        go_wp2_with fail
        go_ret
        exact ⟨by rw [HF.out]; rfl, HBr.out⟩
theorem unitW_any : ∀ d, d ≤ 30 → UnitW d
  | 0, _ => unitW_zero
  | d + 1, h => unitW_next d (by omega) ⟨unitW_any d (by omega)⟩
/-- How long the unit ahead is, or 0. -/
theorem unitLength_any (s : ByteArray) (w : World) (h0 : 0 < s.size) (hs : s.size ≤ 5000) (hK : Kit w) (n : Nat) (hn : n = (unit 30 0 (toL s)).getD 0) :
    Calls Tryd.prog 55 #[.string s] w fun e w' => e = .returned (.int .i64 (n : Int)) ∧ Below w.heap.size w w' := by
  have H := Kept.mk (unitW_any 30 (Nat.le_refl _) s 0 w 1 0 n (by omega) rfl h0 hs hK ⟨hn⟩)
  clear hn h0 hs hK
  go_enter Tryd.func55, Tryd.ntmps55
  go_wp2_with (go_at_call 71; refine H.out.mono ?_; rintro e1 w1 ⟨rfl, hb⟩; have HB := Kept.mk hb; clear hb)
  go_ret
  exact ⟨rfl, HB.out⟩
end Wx
end Go.Proofs.YtphgnjjblpmijaaDoor
