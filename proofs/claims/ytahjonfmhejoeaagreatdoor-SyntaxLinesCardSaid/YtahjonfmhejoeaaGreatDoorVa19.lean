/-
  Parts of the proof, merged.
-/
import Derived.Deep.CutBlock
import Derived.Deep.DeepCutAuto
import Derived.Laws.Concat
import Derived.Laws.DeepStrings4
import Derived.Laws.ResultCell
import Derived.Test.YtahjonfmhejoeaaGreatDoorVa08
import Derived.Test.YtahjonfmhejoeaaGreatDoorVa11
import Derived.Test.YtahjonfmhejoeaaGreatDoorVa18
namespace Go.Proofs.YtahjonfmhejoeaaGreatDoor
section
open Go.RowKit Tx
namespace Lx
def ansN (o : Option Nat) : Int := match o with
 | some q => (q : Int)
 | none => -1
theorem begins_any (s t : ByteArray) (p : Nat) (w : World) (b : Bool) (hs : s.size ≤ 20000) (ht : t.size ≤ 20000) (hp : p ≤ s.size) (hb : b = (toL t).isPrefixOf ((toL s).drop p)) :
   Calls Tryz.prog 105 #[.string s, .int .i64 (p : Int), .string t] w fun e w' => e = .returned (.bool b) ∧ w' = w := by
 have hiff : b = decide (p + t.size ≤ s.size ∧ s.extract p (p + t.size) = t) := by
   rw [hb, Bool.eq_iff_iff, decide_eq_true_eq, List.isPrefixOf_iff_prefix, List.prefix_iff_eq_take]
   constructor
   · intro h
     have hl := congrArg List.length h
     rw [List.length_take, List.length_drop, toL_length, toL_length] at hl
     refine ⟨by omega, toL_inj ?_⟩
     rw [toL_length] at h
     rw [toL_extract, show p + t.size - p = t.size by omega]
     exact h.symm
   · rintro ⟨h1, h2⟩
     have := congrArg toL h2
     rw [toL_extract, show p + t.size - p = t.size by omega] at this
     rw [toL_length]
     exact this.symm
 clear hb
 by_cases h1 : p + t.size ≤ s.size
 · have z1 : (p : Int) + (t.size : Int) ≤ (s.size : Int) := by omega
   have hsl : ∀ W : World, (Instr.slice 9 (.string s) (some (.int .i64 (p : Int))) (some (.int .i64 ((p : Int) + (t.size : Int)))) none).run Tryz.prog W = .ok (.string (s.extract p (p + t.size))) W := fun W => by
     rw [run_slice_string_if W 9 s .i64 .i64 _ _ Tryz.underlying9, if_pos ⟨by omega, by omega⟩, if_pos ⟨by omega, by omega⟩, Int.toNat_natCast]
     rw [show ((p : Int) + (t.size : Int)).toNat = p + t.size by omega]
   have HB : Kept (((s.extract p (p + t.size)).toList == t.toList) = b) := ⟨by rw [beq_str, hiff]; simp [h1]⟩
   clear hiff h1 hp
   generalize hx : s.extract p (p + t.size) = x at hsl HB
   clear hx
   go_enter Tryz.func105, Tryz.ntmps105
   go_wp2
   go_ret
   exact ⟨by rw [← HB.out]; rfl, rfl⟩
 · obtain rfl : b = false := by rw [hiff]; simp [h1]
   have z1 : ¬ (p : Int) + (t.size : Int) ≤ (s.size : Int) := by omega
   have z2 : decide ((p : Int) + (t.size : Int) ≤ (s.size : Int)) = false := decide_eq_false z1
   have hp9 : (p : Int) ≤ 20000 := by omega
   have ht9 : (t.size : Int) ≤ 20000 := by omega
   clear hiff h1 hp
   go_enter Tryz.func105, Tryz.ntmps105
   go_wp2
   go_ret
   exact ⟨rfl, rfl⟩
def SkipC (d : Nat) : Prop := ∀ (n p : Nat) (s : ByteArray) (w : World) (mn mp : Int), n + d = 31 → mn = n → mp = p → p < s.size → s.size ≤ 20000 →
 Calls Tryz.prog 61 #[.string s, .int .i64 mp, .int .i64 mn] w fun e w' => e = .returned (.int .i64 (ansN (unitAt d 0 (toL s) p))) ∧ w' = w
def UntilC (d : Nat) : Prop := ∀ (n p : Nat) (s : ByteArray) (e0 : UInt8) (w : World) (mn mp me : Int), n + d = 31 → mn = n → mp = p → me = (e0.toNat : Int) → p ≤ s.size → s.size ≤ 20000 →
 Calls Tryz.prog 106 #[.string s, .int .i64 mp, .int .u8 me, .int .i64 mn] w fun e w' => e = .returned (.int .i64 (ansN (nestAt d e0 (toL s) p))) ∧ w' = w
theorem skip_zero : SkipC 0 := by
 intro n p s w mn mp hn hmn hmp hp hs
 obtain rfl : n = 31 := by omega
 subst hmn hmp
 clear hn hp
 go_enter Tryz.func61, Tryz.ntmps61
 go_wp2_with fail
 go_ret
 exact ⟨rfl, rfl⟩
def quotedAt (l : List UInt8) (p : Nat) : Option Nat := (quoted (l.drop p)).map (p + ·)
theorem quotedAt_end {s : ByteArray} {p : Nat} (hp : s.size ≤ p) : quotedAt (toL s) p = none := by unfold quotedAt; rw [drop_end hp]; rfl
theorem quotedAt_close {s : ByteArray} {p : Nat} (hp : p < s.size) (h : s[p]'hp = 39) : quotedAt (toL s) p = some (p + 1) := by unfold quotedAt; rw [drop_at hp, h]; rfl
theorem quotedAt_on {s : ByteArray} {p : Nat} (hp : p < s.size) (h : s[p]'hp ≠ 39) : quotedAt (toL s) p = quotedAt (toL s) (p + 1) := by
 unfold quotedAt
 rw [drop_at hp, quoted, if_neg h, Option.map_map]
 congr 1
 funext x
 show p + (x + 1) = p + 1 + x
 omega
set_option maxHeartbeats 1000000 in
set_option maxRecDepth 100000 in
theorem skip_esc (d : Nat) (_HU : Kept (UntilC d)) (n p : Nat) (s : ByteArray) (w : World) (hn : n + (d + 1) = 31) (hp : p < s.size) (hs : s.size ≤ 20000) (h92 : s[p]'hp = 92) (o : Option Nat) (HO : Kept (o = (if p + 2 ≤ s.size then some (p + 2) else none))) :
   Calls Tryz.prog 61 #[.string s, .int .i64 (p : Int), .int .i64 (n : Int)] w fun e w' => e = .returned (.int .i64 (ansN o)) ∧ w' = w := by
 have hn30 : (n : Int) ≤ 30 := by omega
 have z : (p : Int) < s.size := by omega
 have HN := Kept.mk hn
 have HP := Kept.mk hp
 have z92 : (((s[p]'hp).toNat : Nat) : Int) = 92 := nat_byte (k := 92) h92 (by omega)
 clear h92
 go_enter Tryz.func61, Tryz.ntmps61
 by_cases h2 : p + 2 ≤ s.size
 · have zz : (((p : Int) + 1) == (s.size : Int)) = false := by simpa using (fun h => by omega : (p : Int) + 1 ≠ s.size)
   have HF : Kept (o = some (p + 2)) := ⟨by rw [HO.out, if_pos h2]⟩
   clear h2
   go_wp2_with fail
   go_ret
   exact ⟨by rw [HF.out]; show _ = Ending.returned (.int .i64 ((p + 2 : Nat) : Int)); congr 2, rfl⟩
 · have zz : (p : Int) + 1 = s.size := by omega
   have HF : Kept (o = none) := ⟨by rw [HO.out, if_neg h2]⟩
   clear h2
   go_wp2_with fail
   go_ret
   exact ⟨by rw [HF.out]; rfl, rfl⟩
set_option maxHeartbeats 1000000 in
set_option maxRecDepth 100000 in
theorem skip_sq (d : Nat) (_HU : Kept (UntilC d)) (n p : Nat) (s : ByteArray) (w : World) (hn : n + (d + 1) = 31) (hp : p < s.size) (hs : s.size ≤ 20000) (h39 : s[p]'hp = 39) (o : Option Nat) (HO : Kept (o = (quotedAt (toL s) (p + 1)))) :
   Calls Tryz.prog 61 #[.string s, .int .i64 (p : Int), .int .i64 (n : Int)] w fun e w' => e = .returned (.int .i64 (ansN o)) ∧ w' = w := by
 have hn30 : (n : Int) ≤ 30 := by omega
 have z : (p : Int) < s.size := by omega
 have HN := Kept.mk hn
 have HP := Kept.mk hp
 have z39 : (((s[p]'hp).toNat : Nat) : Int) = 39 := nat_byte (k := 39) h39 (by omega)
 clear h39
 go_enter Tryz.func61, Tryz.ntmps61
 go_wp2_with fail
 go_loop [7] (fun i => ∃ k : Nat, p + 1 ≤ k ∧ k ≤ s.size ∧ i = .int .i64 (k : Int) ∧ Kept (o = quotedAt (toL s) k)) (fun i => s.size - (intOf i).toNat)
 case atStart => exact ⟨p + 1, by omega, by omega, by go_num, HO⟩
 case round =>
   obtain ⟨k, hk1, hk2, rfl, HE⟩ := hrel
   by_cases hlt : k < s.size
   · have zk : (k : Int) < s.size := by omega
     by_cases h39k : s[k]'hlt = 39
     · have y39 : (((s[k]'hlt).toNat : Nat) : Int) = 39 := nat_byte (k := 39) h39k (by omega)
       have HF : Kept (o = some (k + 1)) := ⟨by rw [HE.out, quotedAt_close hlt h39k]⟩
       clear h39k HE
       go_wp2_with fail
       go_ret
       exact ⟨by rw [HF.out]; rfl, rfl⟩
     · have y39 : ((((s[k]'hlt).toNat : Nat) : Int) == 39) = false := nat_nbyte (k := 39) h39k (by omega)
       have HE2 : Kept (o = quotedAt (toL s) (k + 1)) := ⟨by rw [HE.out, quotedAt_on hlt h39k]⟩
       clear h39k HE
       go_wp2_with fail
       go_round
       case rel => exact ⟨k + 1, by omega, by omega, by go_num, HE2⟩
       case measure => simp [intOf]; omega
   · have HF : Kept (o = none) := ⟨by rw [HE.out, quotedAt_end (by omega)]⟩
     have zk : ¬ (k : Int) < s.size := by omega
     clear hlt HE
     go_wp2_with fail
     go_ret
     exact ⟨by rw [HF.out]; rfl, rfl⟩
set_option maxHeartbeats 1000000 in
set_option maxRecDepth 100000 in
theorem skip_dq (d : Nat) (HU : Kept (UntilC d)) (n p : Nat) (s : ByteArray) (w : World) (hn : n + (d + 1) = 31) (hp : p < s.size) (hs : s.size ≤ 20000) (h34 : s[p]'hp = 34) (o : Option Nat) (HO : Kept (o = (nestAt d 34 (toL s) (p + 1)))) :
   Calls Tryz.prog 61 #[.string s, .int .i64 (p : Int), .int .i64 (n : Int)] w fun e w' => e = .returned (.int .i64 (ansN o)) ∧ w' = w := by
 have hn30 : (n : Int) ≤ 30 := by omega
 have z : (p : Int) < s.size := by omega
 have HN := Kept.mk hn
 have HP := Kept.mk hp
 have z34 : (((s[p]'hp).toNat : Nat) : Int) = 34 := nat_byte (k := 34) h34 (by omega)
 clear h34
 go_enter Tryz.func61, Tryz.ntmps61
 go_wp2_with fail
 go_at_call 106
 refine (HU.out (n + 1) (p + 1) s 34 _ _ _ _ (by have := HN.out; omega) (by omega) (by omega) rfl (by omega) hs).mono ?_
 rw [← HO.out]
 rintro e0 w4 ⟨rfl, rfl⟩
 go_wp2_with fail
 go_ret
 exact ⟨rfl, rfl⟩
set_option maxHeartbeats 1000000 in
set_option maxRecDepth 100000 in
theorem skip_par (d : Nat) (HU : Kept (UntilC d)) (n p : Nat) (s : ByteArray) (w : World) (hn : n + (d + 1) = 31) (hp : p < s.size) (hs : s.size ≤ 20000) (h36 : s[p]'hp = 36) (hp2 : p + 2 ≤ s.size) (HB1 : Kept (Calls Tryz.prog 105 #[.string s, .int .i64 (p : Int), .string ⟨#[36, 40]⟩] w fun e w' => e = .returned (.bool true) ∧ w' = w)) (o : Option Nat) (HO : Kept (o = (nestAt d 41 (toL s) (p + 2)))) :
   Calls Tryz.prog 61 #[.string s, .int .i64 (p : Int), .int .i64 (n : Int)] w fun e w' => e = .returned (.int .i64 (ansN o)) ∧ w' = w := by
 have hn30 : (n : Int) ≤ 30 := by omega
 have z : (p : Int) < s.size := by omega
 have HN := Kept.mk hn
 have HP := Kept.mk hp
 have z36 : (((s[p]'hp).toNat : Nat) : Int) = 36 := nat_byte (k := 36) h36 (by omega)
 clear h36
 have T1 : Kept True := ⟨trivial⟩
 go_enter Tryz.func61, Tryz.ntmps61
 go_wp2_with (go_at_call 105; refine HB1.out.mono ?_; rintro e0 w3 ⟨rfl, rfl⟩)
 go_at_call 106
 refine (HU.out (n + 1) (p + 2) s 41 _ _ _ _ (by have := HN.out; omega) (by omega) (by omega) rfl hp2 hs).mono ?_
 rw [← HO.out]
 rintro e0 w4 ⟨rfl, rfl⟩
 go_wp2_with fail
 go_ret
 exact ⟨rfl, rfl⟩
set_option maxHeartbeats 1000000 in
set_option maxRecDepth 100000 in
theorem skip_brace (d : Nat) (HU : Kept (UntilC d)) (n p : Nat) (s : ByteArray) (w : World) (hn : n + (d + 1) = 31) (hp : p < s.size) (hs : s.size ≤ 20000) (h36 : s[p]'hp = 36) (hp2 : p + 2 ≤ s.size) (HB1 : Kept (Calls Tryz.prog 105 #[.string s, .int .i64 (p : Int), .string ⟨#[36, 40]⟩] w fun e w' => e = .returned (.bool false) ∧ w' = w)) (HB2 : Kept (Calls Tryz.prog 105 #[.string s, .int .i64 (p : Int), .string ⟨#[36, 123]⟩] w fun e w' => e = .returned (.bool true) ∧ w' = w)) (o : Option Nat) (HO : Kept (o = (nestAt d 125 (toL s) (p + 2)))) :
   Calls Tryz.prog 61 #[.string s, .int .i64 (p : Int), .int .i64 (n : Int)] w fun e w' => e = .returned (.int .i64 (ansN o)) ∧ w' = w := by
 have hn30 : (n : Int) ≤ 30 := by omega
 have z : (p : Int) < s.size := by omega
 have HN := Kept.mk hn
 have HP := Kept.mk hp
 have z36 : (((s[p]'hp).toNat : Nat) : Int) = 36 := nat_byte (k := 36) h36 (by omega)
 clear h36
 have T1 : Kept True := ⟨trivial⟩
 go_enter Tryz.func61, Tryz.ntmps61
 go_wp2_with (first
   | (go_at_call 105; have := T1; refine HB1.out.mono ?_; rintro e0 w3 ⟨rfl, rfl⟩; clear T1 this)
   | (go_at_call 105; refine HB2.out.mono ?_; rintro e0 w3 ⟨rfl, rfl⟩))
 go_at_call 106
 refine (HU.out (n + 1) (p + 2) s 125 _ _ _ _ (by have := HN.out; omega) (by omega) (by omega) rfl hp2 hs).mono ?_
 rw [← HO.out]
 rintro e0 w4 ⟨rfl, rfl⟩
 go_wp2_with fail
 go_ret
 exact ⟨rfl, rfl⟩
set_option maxHeartbeats 1000000 in
set_option maxRecDepth 100000 in
theorem skip_plain (d : Nat) (_HU : Kept (UntilC d)) (n p : Nat) (s : ByteArray) (w : World) (hn : n + (d + 1) = 31) (hp : p < s.size) (hs : s.size ≤ 20000) (h92 : s[p]'hp ≠ 92) (h39 : s[p]'hp ≠ 39) (h34 : s[p]'hp ≠ 34) (HB1 : Kept (Calls Tryz.prog 105 #[.string s, .int .i64 (p : Int), .string ⟨#[36, 40]⟩] w fun e w' => e = .returned (.bool false) ∧ w' = w)) (HB2 : Kept (Calls Tryz.prog 105 #[.string s, .int .i64 (p : Int), .string ⟨#[36, 123]⟩] w fun e w' => e = .returned (.bool false) ∧ w' = w)) (o : Option Nat) (HO : Kept (o = (some (p + 1)))) :
   Calls Tryz.prog 61 #[.string s, .int .i64 (p : Int), .int .i64 (n : Int)] w fun e w' => e = .returned (.int .i64 (ansN o)) ∧ w' = w := by
 have hn30 : (n : Int) ≤ 30 := by omega
 have z : (p : Int) < s.size := by omega
 have HN := Kept.mk hn
 have HP := Kept.mk hp
 have z92 : ((((s[p]'hp).toNat : Nat) : Int) == 92) = false := nat_nbyte (k := 92) h92 (by omega)
 have z39 : ((((s[p]'hp).toNat : Nat) : Int) == 39) = false := nat_nbyte (k := 39) h39 (by omega)
 have z34 : ((((s[p]'hp).toNat : Nat) : Int) == 34) = false := nat_nbyte (k := 34) h34 (by omega)
 clear h92 h39 h34
 have T1 : Kept True := ⟨trivial⟩
 go_enter Tryz.func61, Tryz.ntmps61
 go_wp2_with (first
   | (go_at_call 105; have := T1; refine HB1.out.mono ?_; rintro e0 w3 ⟨rfl, rfl⟩; clear T1 this)
   | (go_at_call 105; refine HB2.out.mono ?_; rintro e0 w3 ⟨rfl, rfl⟩))
 go_ret
 exact ⟨by rw [HO.out]; rfl, rfl⟩
theorem pre_two {s : ByteArray} {p : Nat} (hp : p < s.size) (z : UInt8) : [36, z].isPrefixOf ((toL s).drop p) = decide (s[p]'hp = 36 ∧ ((toL s).drop (p + 1)).head? = some z) := by
 rw [drop_at hp, prefix_two]
 by_cases h : s[p]'hp = 36
 · simp [h]
 · have : ((36 : UInt8) == s[p]'hp) = false := by simpa using fun e => h e.symm
   simp [this, h]
theorem skip_succ (d : Nat) (HU : Kept (UntilC d)) : SkipC (d + 1) := by
 intro n p s w mn mp hn hmn hmp hp hs
 subst hmn hmp
 have hb : ∀ (z : UInt8) (t : Bool), t = decide (s[p]'hp = 36 ∧ ((toL s).drop (p + 1)).head? = some z) → Kept (Calls Tryz.prog 105 #[.string s, .int .i64 (p : Int), .string ⟨#[36, z]⟩] w fun e w' => e = .returned (.bool t) ∧ w' = w) :=
   fun z t ht => ⟨begins_any s ⟨#[36, z]⟩ p w t hs (by show 2 ≤ 20000; omega) (by omega) (ht.trans (pre_two hp z).symm)⟩
 have hlen : ∀ z : UInt8, ((toL s).drop (p + 1)).head? = some z → p + 2 ≤ s.size := fun z hh => by
   have : (toL s).drop (p + 1) ≠ [] := fun e => by rw [e] at hh; cases hh
   rw [ne_eq, List.drop_eq_nil_iff, toL_length] at this
   omega
 have HO := unitAt_step (d := d) (e := 0) hp
 by_cases h1 : s[p]'hp = 92
 · rw [if_pos h1] at HO
   exact skip_esc d HU n p s w hn hp hs h1 _ ⟨HO⟩
 · rw [if_neg h1] at HO
   by_cases h2 : s[p]'hp = 39
   · rw [if_pos ⟨h2, by decide⟩] at HO
     exact skip_sq d HU n p s w hn hp hs h2 _ ⟨HO⟩
   · rw [if_neg (fun h => h2 h.1)] at HO
     by_cases h3 : s[p]'hp = 34
     · rw [if_pos h3] at HO
       exact skip_dq d HU n p s w hn hp hs h3 _ ⟨HO⟩
     · rw [if_neg h3] at HO
       by_cases h4 : s[p]'hp = 36 ∧ ((toL s).drop (p + 1)).head? = some 40
       · rw [if_pos h4] at HO
         exact skip_par d HU n p s w hn hp hs h4.1 (hlen _ h4.2) (hb 40 true (decide_eq_true h4).symm) _ ⟨HO⟩
       · rw [if_neg h4] at HO
         by_cases h5 : s[p]'hp = 36 ∧ ((toL s).drop (p + 1)).head? = some 123
         · rw [if_pos h5] at HO
           exact skip_brace d HU n p s w hn hp hs h5.1 (hlen _ h5.2) (hb 40 false (decide_eq_false h4).symm) (hb 123 true (decide_eq_true h5).symm) _ ⟨HO⟩
         · rw [if_neg h5, if_neg (fun h => absurd h.2 (by decide))] at HO
           exact skip_plain d HU n p s w hn hp hs h1 h2 h3 (hb 40 false (decide_eq_false h4).symm) (hb 123 false (decide_eq_false h5).symm) _ ⟨HO⟩
theorem unit_other {d : Nat} {e : UInt8} {s : ByteArray} {p : Nat} (hp : p < s.size) (h1 : ¬ (e = 34 ∧ s[p]'hp = 39)) (h2 : ¬ (e = 41 ∧ s[p]'hp = 40)) : unitAt d e (toL s) p = unitAt d 0 (toL s) p := by
 cases d with
 | zero => rfl
 | succ d =>
   rw [unitAt_step hp, unitAt_step hp]
   have e0 : ¬ (s[p]'hp = 40 ∧ (0 : UInt8) = 41) := fun h => absurd h.2 (by decide)
   have e1 : ¬ (s[p]'hp = 40 ∧ e = 41) := fun h => h2 ⟨h.2, h.1⟩
   rw [if_neg e0, if_neg e1]
   by_cases h39 : s[p]'hp = 39
   · have : e ≠ 34 := fun h => h1 ⟨h, h39⟩
     rw [if_pos (⟨h39, this⟩ : s[p]'hp = 39 ∧ e ≠ 34), if_pos (⟨h39, by decide⟩ : s[p]'hp = 39 ∧ (0 : UInt8) ≠ 34)]
   · rw [if_neg (fun h => h39 h.1 : ¬ (s[p]'hp = 39 ∧ e ≠ 34)), if_neg (fun h => h39 h.1 : ¬ (s[p]'hp = 39 ∧ (0 : UInt8) ≠ 34))]
theorem unit_sq34v {d : Nat} {s : ByteArray} {p : Nat} (hp : p < s.size) (h : s[p]'hp = 39) : unitAt (d + 1) 34 (toL s) p = some (p + 1) := by
 rw [unitAt_step hp, h]; simp
theorem unit_inv {d : Nat} {s : ByteArray} {p : Nat} (hp : p < s.size) (h : s[p]'hp = 40) : unitAt (d + 1) 41 (toL s) p = nestAt d 41 (toL s) (p + 1) := by
 rw [unitAt_step hp, h]; simp
def InC (d : Nat) : Prop := d = 0 ∨ ∃ c, d = c + 1 ∧ UntilC c
set_option maxHeartbeats 4000000 in
set_option maxRecDepth 100000 in
theorem until_of (d : Nat) (HS : Kept (SkipC d)) (HI : Kept (InC d)) : UntilC d := by
 intro n p s e0 w mn mp me hn hmn hmp hme hp hs
 subst hmn hmp hme
 have HN := Kept.mk hn
 have hn31 : (n : Int) ≤ 31 := by omega
 obtain ⟨o, ho⟩ : ∃ o, o = nestAt d e0 (toL s) p := ⟨_, rfl⟩
 have HO := Kept.mk ho
 rw [← ho]
 clear ho hn
 go_enter Tryz.func106, Tryz.ntmps106
 go_wp2_with fail
 go_loop [1] (fun i => ∃ k : Nat, k ≤ s.size ∧ i = .int .i64 (k : Int) ∧ Kept (o = nestAt d e0 (toL s) k)) (fun i => s.size - (intOf i).toNat)
 case atStart => exact ⟨p, hp, rfl, HO⟩
 case round =>
   obtain ⟨k, hk, rfl, HE⟩ := hrel
   by_cases hlt : k < s.size
   · have zk : (k : Int) < s.size := by omega
     by_cases hc : s[k]'hlt = e0
     · have HF : Kept (o = some (k + 1)) := ⟨by rw [HE.out, nestAt_close hlt hc]⟩
       have y : (((s[k]'hlt).toNat : Nat) : Int) = (e0.toNat : Int) := by rw [hc]
       clear hc HE
       go_wp2_with fail
       go_ret
       exact ⟨by rw [HF.out]; rfl, rfl⟩
     · have hcne : ¬ (((s[k]'hlt).toNat : Nat) : Int) = (e0.toNat : Int) := fun h => hc (UInt8.toNat_inj.1 (by omega))
       have y : ((((s[k]'hlt).toNat : Nat) : Int) == (e0.toNat : Int)) = false := by simpa using fun h => hcne (by omega)
       have HC := Kept.mk hc
       clear hcne
       by_cases hq : e0 = 34 ∧ s[k]'hlt = 39
       · obtain ⟨he, hq⟩ := hq
         have x34 : (e0.toNat : Int) = 34 := nat_byte (k := 34) he (by omega)
         have y39 : (((s[k]'hlt).toNat : Nat) : Int) = 39 := nat_byte (k := 39) hq (by omega)
         cases d with
         | zero =>
           have hn31b : (30 : Int) < (n : Int) := by have := HN.out; omega
           have HF : Kept (o = none) := ⟨by rw [HE.out, nestAt_bad hlt HC.out rfl]⟩
           clear hq he hc HE
           go_wp2_with fail
           go_ret
           exact ⟨by rw [HF.out]; rfl, rfl⟩
         | succ d =>
           have hn30 : ¬ (30 : Int) < (n : Int) := by have := HN.out; omega
           have HE2 : Kept (o = nestAt (d + 1) e0 (toL s) (k + 1)) := ⟨by rw [HE.out, (nestAt_on hlt HC.out (by rw [he]; exact unit_sq34v hlt hq)).1]⟩
           clear hq he hc HE
           go_wp2_with fail
           go_round
           case rel => exact ⟨k + 1, by omega, by go_num, HE2⟩
           case measure => simp [intOf]; omega
       · by_cases hi : e0 = 41 ∧ s[k]'hlt = 40
         · obtain ⟨he, hi⟩ := hi
           have x41 : (e0.toNat : Int) = 41 := nat_byte (k := 41) he (by omega)
           have y40 : (((s[k]'hlt).toNat : Nat) : Int) = 40 := nat_byte (k := 40) hi (by omega)
           rcases HI.out with hd | ⟨c, hd, hU⟩
           · subst hd
             have hn31b : ¬ (n : Int) ≤ 30 := by have := HN.out; omega
             have hn31c : decide ((n : Int) ≤ 30) = false := decide_eq_false hn31b
             have HF : Kept (o = none) := ⟨by rw [HE.out, nestAt_bad hlt HC.out rfl]⟩
             clear hq he hc HE hi
             go_wp2_with fail
             go_ret
             exact ⟨by rw [HF.out]; rfl, rfl⟩
           · subst hd
             have HU := Kept.mk hU
             have hn30 : (n : Int) ≤ 30 := by have := HN.out; omega
             cases hu : nestAt c 41 (toL s) (k + 1) with
             | none =>
               have HF : Kept (o = none) := ⟨by rw [HE.out, nestAt_bad hlt HC.out (by rw [he, unit_inv hlt hi, hu])]⟩
               have HUv := Kept.mk hu
               clear hq he hc HE hi hu hU
               go_wp2_with (go_at_call 106; refine (HU.out (n + 1) (k + 1) s 41 _ _ _ _ (by have := HN.out; omega) (by omega) (by omega) rfl (by omega) hs).mono ?_; rw [HUv.out]; rintro e1 w1 ⟨rfl, rfl⟩; dsimp only [ansN])
               go_ret
               exact ⟨by rw [HF.out]; rfl, rfl⟩
             | some q =>
               obtain ⟨g1, g2, g3⟩ := nestAt_on hlt HC.out (d := c + 1) (q := q) (by rw [he, unit_inv hlt hi, hu])
               have HE2 : Kept (o = nestAt (c + 1) e0 (toL s) q) := ⟨by rw [HE.out, g1]⟩
               have HUv := Kept.mk hu
               clear hq he hc HE hi hu hU g1
               go_wp2_with (go_at_call 106; refine (HU.out (n + 1) (k + 1) s 41 _ _ _ _ (by have := HN.out; omega) (by omega) (by omega) rfl (by omega) hs).mono ?_; rw [HUv.out]; rintro e1 w1 ⟨rfl, rfl⟩; dsimp only [ansN])
               go_round
               case rel => exact ⟨q, by omega, rfl, HE2⟩
               case measure => simp [intOf]; omega
         · have hg1 : ¬ ((e0.toNat : Int) = 34 ∧ (((s[k]'hlt).toNat : Nat) : Int) = 39) := fun h => hq ⟨UInt8.toNat_inj.1 (show e0.toNat = 34 by omega), UInt8.toNat_inj.1 (show (s[k]'hlt).toNat = 39 by omega)⟩
           have hg2 : ¬ ((e0.toNat : Int) = 41 ∧ (((s[k]'hlt).toNat : Nat) : Int) = 40) := fun h => hi ⟨UInt8.toNat_inj.1 (show e0.toNat = 41 by omega), UInt8.toNat_inj.1 (show (s[k]'hlt).toNat = 40 by omega)⟩
           have HUo : Kept (unitAt d e0 (toL s) k = unitAt d 0 (toL s) k) := ⟨unit_other hlt hq hi⟩
           have HG1 := Kept.mk hg1
           have HG2 := Kept.mk hg2
           clear hg1 hg2 hq hi
           cases hu : unitAt d 0 (toL s) k with
           | none =>
             have HF : Kept (o = none) := ⟨by rw [HE.out, nestAt_bad hlt HC.out (by rw [HUo.out, hu])]⟩
             have HUv := Kept.mk hu
             clear hc HE hu
             have H3 : ((e0.toNat : Int) = 34 ∧ ((((s[k]'hlt).toNat : Nat) : Int) == 39) = false) ∨ (((e0.toNat : Int) == 34) = false ∧ (e0.toNat : Int) = 41 ∧ ((((s[k]'hlt).toNat : Nat) : Int) == 40) = false) ∨ (((e0.toNat : Int) == 34) = false ∧ ((e0.toNat : Int) == 41) = false) := by
               by_cases x34 : (e0.toNat : Int) = 34
               · exact .inl ⟨x34, by simpa using fun h => HG1.out ⟨x34, by omega⟩⟩
               · by_cases x41 : (e0.toNat : Int) = 41
                 · exact .inr (.inl ⟨by simpa using x34, x41, by simpa using fun h => HG2.out ⟨x41, by omega⟩⟩)
                 · exact .inr (.inr ⟨by simpa using x34, by simpa using x41⟩)
             rcases H3 with ⟨x34, y39⟩ | ⟨x34, x41, y40⟩ | ⟨x34, x41⟩
             all_goals
               go_wp2_with (go_at_call 61; refine (HS.out n k s _ _ _ HN.out rfl rfl hlt hs).mono ?_; rw [HUv.out]; rintro e1 w1 ⟨rfl, rfl⟩; dsimp only [ansN])
               go_ret
               exact ⟨by rw [HF.out]; rfl, rfl⟩
           | some q =>
             obtain ⟨g1, g2, g3⟩ := nestAt_on hlt HC.out (d := d) (q := q) (by rw [HUo.out, hu])
             have HE2 : Kept (o = nestAt d e0 (toL s) q) := ⟨by rw [HE.out, g1]⟩
             have HUv := Kept.mk hu
             clear hc HE hu g1
             have H3 : ((e0.toNat : Int) = 34 ∧ ((((s[k]'hlt).toNat : Nat) : Int) == 39) = false) ∨ (((e0.toNat : Int) == 34) = false ∧ (e0.toNat : Int) = 41 ∧ ((((s[k]'hlt).toNat : Nat) : Int) == 40) = false) ∨ (((e0.toNat : Int) == 34) = false ∧ ((e0.toNat : Int) == 41) = false) := by
               by_cases x34 : (e0.toNat : Int) = 34
               · exact .inl ⟨x34, by simpa using fun h => HG1.out ⟨x34, by omega⟩⟩
               · by_cases x41 : (e0.toNat : Int) = 41
                 · exact .inr (.inl ⟨by simpa using x34, x41, by simpa using fun h => HG2.out ⟨x41, by omega⟩⟩)
                 · exact .inr (.inr ⟨by simpa using x34, by simpa using x41⟩)
             rcases H3 with ⟨x34, y39⟩ | ⟨x34, x41, y40⟩ | ⟨x34, x41⟩
             all_goals
               go_wp2_with (go_at_call 61; refine (HS.out n k s _ _ _ HN.out rfl rfl hlt hs).mono ?_; rw [HUv.out]; rintro e1 w1 ⟨rfl, rfl⟩; dsimp only [ansN])
               go_round
               case rel => exact ⟨q, by omega, rfl, HE2⟩
               case measure => simp [intOf]; omega
   · have HF : Kept (o = none) := ⟨by rw [HE.out, nestAt_end (by omega)]⟩
     have zk : ¬ (k : Int) < s.size := by omega
     clear hlt HE
     go_wp2_with fail
     go_ret
     exact ⟨by rw [HF.out]; rfl, rfl⟩
theorem both_any : ∀ d, SkipC d ∧ UntilC d
 | 0 => ⟨skip_zero, until_of 0 ⟨skip_zero⟩ ⟨.inl rfl⟩⟩
 | d + 1 =>
   have h := both_any d
   have hs := skip_succ d ⟨h.2⟩
   ⟨hs, until_of (d + 1) ⟨hs⟩ ⟨.inr ⟨d, rfl, h.2⟩⟩⟩
end Lx
end
section
open Go.RowKit Tx
namespace Wx
open Lx
theorem res_two {P : Program} {fn : Func} {p u : Tmp} {ty : TypeId} (h : fn.results = #[.cell p ty, .tmp u]) (tmps : Array Value) (w : World) (g : Nat) (t : TypeId) (cs : Array Value) (fr : Nat × Nat) (d : TypeDesc)
   (hp : tmps.getD p undef = .pointer (some ⟨g, 0, none⟩)) (hg : w.heap[g]? = some (.cells cs t fr))
   (hu : P.underlying ty = some d) (hd : (match d with | .struct _ | .array _ _ => true | _ => false) = true) (hi : (P.info? ty).map (·.size) = some cs.size) :
   (results fn tmps).run P w = .ok (.tuple #[.agg cs, tmps.getD u undef]) w := by
 rw [results_cell_tmp h, hp]
 simp [asAddr, run_loadVar_row w g t ty cs fr d hg hu hd hi, Result.andThen]
def Nw (n : Nat) (g : Nat) : Prop := n ≤ g
structure BrM (w w' : World) (q : Bool) (n o : ByteArray) (v : Value) : Prop where
 r0 : w'.heap[w.heap.size]? = some (.cells #[.int .i64 0, .bool false, .string ⟨#[]⟩, .string ⟨#[]⟩, .string ⟨#[]⟩, .slice none 0 0] 101 (0, 0))
 r1 : w'.heap[w.heap.size + 1]? = some (.cells #[.int .i64 1, .bool q, .string ⟨#[]⟩, .string n, .string o, v] 101 (0, 0))
 bl : Below w.heap.size w w'
theorem BrM.begin (w : World) (q : Bool) : BrM w ((w.alloc (.cells #[.int .i64 0, .bool false, .string ⟨#[]⟩, .string ⟨#[]⟩, .string ⟨#[]⟩, .slice none 0 0] 101)).alloc (.cells #[.int .i64 1, .bool q, .string ⟨#[]⟩, .string ⟨#[]⟩, .string ⟨#[]⟩, .slice none 0 0] 101)) q ⟨#[]⟩ ⟨#[]⟩ (.slice none 0 0) :=
 ⟨(Below.heap_alloc _ _ _ (by simp)).trans (heap_alloc_new w _), by have := heap_alloc_new (w.alloc (.cells #[.int .i64 0, .bool false, .string ⟨#[]⟩, .string ⟨#[]⟩, .string ⟨#[]⟩, .slice none 0 0] 101)) (.cells #[.int .i64 1, .bool q, .string ⟨#[]⟩, .string ⟨#[]⟩, .string ⟨#[]⟩, .slice none 0 0] 101); rwa [World.size_alloc] at this, ((Below.refl _ _).alloc (Nat.le_refl _) _).alloc (by simp) _⟩
section
variable {w w' w1 w2 : World} {q : Bool} {n o : ByteArray} {v : Value}
theorem BrM.below (h : BrM w w1 q n o v) (hb : Below w1.heap.size w1 w2) : BrM w w2 q n o v :=
 ⟨(hb.block _ (Array.getElem?_eq_some_iff.1 h.r0).1).trans h.r0, (hb.block _ (Array.getElem?_eq_some_iff.1 h.r1).1).trans h.r1, h.bl.trans (hb.mono h.bl.size)⟩
theorem BrM.setN (h : BrM w w1 q n o v) (x : ByteArray) : BrM w (w1.setCell ⟨w.heap.size + 1, 3, none⟩ (.string x)) q x o v :=
 ⟨(Below.heap_setCell w1 _ _ _ (by simp)).trans h.r0, by have := heap_setCell_same w1 (w.heap.size + 1) 3 _ _ (.string x) h.r1; simpa using this, h.bl.setCell (by simp) _⟩
theorem BrM.row (h : BrM w w1 q n o v) (cs : Array Value) : (w1.setRow w.heap.size cs).heap[w.heap.size]? = some (.cells cs 101 (0, 0)) ∧ Below w.heap.size w (w1.setRow w.heap.size cs) :=
 ⟨setRow_heap _ _ _ cs _ _ h.r0, h.bl.os, h.bl.tape, h.bl.output, by rw [setRow_size]; exact h.bl.size, fun i hi => (setRow_other _ _ i _ (by omega)).trans (h.bl.block i hi)⟩
theorem BrM.c3 (h : BrM w w' q n o v) : w'.cell? ⟨w.heap.size + 1, 3, none⟩ = some (.string n) := cell_of_row _ _ 3 _ _ _ h.r1
theorem BrM.c4 (h : BrM w w' q n o v) : w'.cell? ⟨w.heap.size + 1, 4, none⟩ = some (.string o) := cell_of_row _ _ 4 _ _ _ h.r1
theorem BrM.c5 (h : BrM w w' q n o v) : w'.cell? ⟨w.heap.size + 1, 5, none⟩ = some v := cell_of_row _ _ 5 _ _ _ h.r1
theorem BrM.f3 (h : BrM w w' q n o v) : w'.frozen? ⟨w.heap.size + 1, 3, none⟩ = false := frozen_of_row _ _ 3 _ _ h.r1
theorem BrM.f4 (h : BrM w w' q n o v) : w'.frozen? ⟨w.heap.size + 1, 4, none⟩ = false := frozen_of_row _ _ 4 _ _ h.r1
theorem BrM.f5 (h : BrM w w' q n o v) : w'.frozen? ⟨w.heap.size + 1, 5, none⟩ = false := frozen_of_row _ _ 5 _ _ h.r1
end
theorem LV.far {w w1 : World} {m : Nat} {v : Value} {l : List Pt} (h : LV (Nw m) w1 v l) (hm : w.heap.size + 2 ≤ m) (u : Value) (cs : Array Value) : LV (Nw w.heap.size) ((w1.setCell ⟨w.heap.size + 1, 5, Option.none⟩ u).setRow w.heap.size cs) v l :=
 h.same (fun g hP hg => ⟨show w.heap.size ≤ g from by have : m ≤ g := hP; omega, (setRow_other _ _ g _ (by have : m ≤ g := hP; omega)).trans (Below.heap_setCell w1 _ _ g (by have : m ≤ g := hP; show g ≠ w.heap.size + 1; omega))⟩) (by rw [setRow_size]; simp [World.setCell])
end Wx
end
section
open Go.RowKit Tx
namespace Wx
open Lx
structure DbM (w w' : World) : Prop where
 r0 : w'.heap[w.heap.size]? = some (.cells #[.int .i64 0, .bool false, .string ⟨#[]⟩, .string ⟨#[]⟩, .string ⟨#[]⟩, .slice none 0 0] 101 (0, 0))
 bl : Below w.heap.size w w'
theorem DbM.begin (w : World) : DbM w (w.alloc (.cells #[.int .i64 0, .bool false, .string ⟨#[]⟩, .string ⟨#[]⟩, .string ⟨#[]⟩, .slice none 0 0] 101)) := ⟨heap_alloc_new w _, (Below.refl _ _).alloc (Nat.le_refl _) _⟩
theorem DbM.below {w w1 w2 : World} (h : DbM w w1) (hb : Below w1.heap.size w1 w2) : DbM w w2 := ⟨(hb.block _ (Array.getElem?_eq_some_iff.1 h.r0).1).trans h.r0, h.bl.trans (hb.mono h.bl.size)⟩
theorem DbM.row {w w1 : World} (h : DbM w w1) (cs : Array Value) : (w1.setRow w.heap.size cs).heap[w.heap.size]? = some (.cells cs 101 (0, 0)) ∧ Below w.heap.size w (w1.setRow w.heap.size cs) :=
 ⟨setRow_heap _ _ _ cs _ _ h.r0, h.bl.os, h.bl.tape, h.bl.output, by rw [setRow_size]; exact h.bl.size, fun i hi => (setRow_other _ _ i _ (by omega)).trans (h.bl.block i hi)⟩
theorem unit_three {c : UInt8} {r : List UInt8} {k : Nat} (h : unit 30 0 (36 :: c :: r) = some k) (hc : c = 40 ∨ c = 123) : 3 ≤ k := by
 rcases hc with rfl | rfl
 · rw [unit_par 29] at h
   obtain ⟨j, hj, rfl⟩ := Option.map_eq_some_iff.1 h
   have := nest_le hj
   omega
 · rw [unit_brace 29] at h
   obtain ⟨j, hj, rfl⟩ := Option.map_eq_some_iff.1 h
   have := nest_le hj
   omega
end Wx
end
section
open Go.RowKit Tx
namespace Wx
open Lx
structure BoxM (w w' : World) (cs : Array Value) : Prop where
 r : w'.heap[w.heap.size]? = some (.cells cs 101 (0, 0))
 bl : Below w.heap.size w w'
section
variable {w w1 w2 : World} {cs ds : Array Value}
theorem BoxM.begin (w : World) (cs : Array Value) : BoxM w (w.alloc (.cells cs 101)) cs := ⟨heap_alloc_new w _, (Below.refl _ _).alloc (Nat.le_refl _) _⟩
theorem BoxM.below (h : BoxM w w1 cs) (hb : Below w1.heap.size w1 w2) : BoxM w w2 cs := ⟨(hb.block _ (Array.getElem?_eq_some_iff.1 h.r).1).trans h.r, h.bl.trans (hb.mono h.bl.size)⟩
theorem BoxM.row (h : BoxM w w1 cs) (ds : Array Value) : BoxM w (w1.setRow w.heap.size ds) ds :=
 ⟨setRow_heap _ _ _ ds _ _ h.r, h.bl.os, h.bl.tape, h.bl.output, by rw [setRow_size]; exact h.bl.size, fun i hi => (setRow_other _ _ i _ (by omega)).trans (h.bl.block i hi)⟩
theorem BoxM.lt (h : BoxM w w1 cs) : w.heap.size + 1 ≤ w1.heap.size := (Array.getElem?_eq_some_iff.1 h.r).1
theorem LV.ahead {m : Nat} {v : Value} {l : List Pt} (h : LV (Nw m) w1 v l) (hm : w.heap.size + 1 ≤ m) (ds : Array Value) : LV (Nw m) (w1.setRow w.heap.size ds) v l :=
 h.same (fun g hP hg => ⟨hP, setRow_other _ _ g _ (by have : m ≤ g := hP; omega)⟩) (by rw [setRow_size]; exact Nat.le_refl _)
theorem LV.nw {m n : Nat} {v : Value} {l : List Pt} (h : LV (Nw m) w1 v l) (hm : n ≤ m) : LV (Nw n) w1 v l := h.mono fun _g hP _ => Nat.le_trans hm hP
end
theorem str_from {s : ByteArray} {k : Nat} (hk : k ≤ s.size) (_hs : s.size ≤ 20000) (W : World) : (Instr.slice 9 (.string s) (some (.int .i64 (k : Int))) none none).run Tryz.prog W = .ok (.string (s.extract k s.size)) W := by
 rw [run_slice_string_from_if W 9 s .i64 _ Tryz.underlying9, if_pos ⟨by omega, by omega⟩, Int.toNat_natCast]
theorem toL_rest (s : ByteArray) (k : Nat) : toL (s.extract k s.size) = (toL s).drop k := by rw [toL_extract, List.take_of_length_le (by rw [List.length_drop, toL_length]; omega)]
theorem size_rest (s : ByteArray) (k : Nat) : (s.extract k s.size).size = s.size - k := by rw [ByteArray.size_extract]; omega
theorem cons_at {s : ByteArray} (h0 : 0 < s.size) : toL s = s[0]'h0 :: (toL s).drop 1 := by have := drop_at h0; rwa [List.drop_zero] at this
end Wx
end
end Go.Proofs.YtahjonfmhejoeaaGreatDoor
