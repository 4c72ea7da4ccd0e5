/-
  The program's words; a token that is added.
-/
import Derived.Test.YtnafecdionhnfaaDoorPl3
import Derived.Deep.RegionHeld3
import Derived.Deep.RegionLaw
import Derived.Laws.AppendOwn
import Derived.OwnWalk
namespace Go.Proofs.YtnafecdionhnfaaDoor
open Go.RowKit Tx
namespace Lx

theorem unitAt_step {d : Nat} {e : UInt8} {s : ByteArray} {p : Nat} (hp : p < s.size) : unitAt (d + 1) e (toL s) p =
    if s[p]'hp = 92 then (if p + 2 ≤ s.size then some (p + 2) else none)
    else if s[p]'hp = 39 ∧ e ≠ 34 then (quoted ((toL s).drop (p + 1))).map (p + 1 + ·)
    else if s[p]'hp = 34 then nestAt d 34 (toL s) (p + 1)
    else if s[p]'hp = 36 ∧ ((toL s).drop (p + 1)).head? = some 40 then nestAt d 41 (toL s) (p + 2)
    else if s[p]'hp = 36 ∧ ((toL s).drop (p + 1)).head? = some 123 then nestAt d 125 (toL s) (p + 2)
    else if s[p]'hp = 40 ∧ e = 41 then nestAt d 41 (toL s) (p + 1)
    else some (p + 1) := by
  have hnil : ((toL s).drop (p + 1) = []) ↔ ¬ p + 2 ≤ s.size := by
    rw [List.drop_eq_nil_iff, toL_length]; omega
  have ht : ((toL s).drop (p + 1)).tail = (toL s).drop (p + 2) := by rw [List.tail_drop]
  have hm : ∀ (k : Nat) (o : Option Nat), (o.map (k + ·)).map (p + ·) = o.map (p + k + ·) := fun k o => by
    rw [Option.map_map]; congr 1; funext x; show p + (k + x) = p + k + x; omega
  unfold unitAt nestAt
  rw [drop_at hp, unit_step, ht]
  by_cases h1 : s[p]'hp = 92
  · rw [if_pos h1, if_pos h1]
    by_cases h2 : p + 2 ≤ s.size
    · rw [if_neg (fun h => hnil.1 h h2), if_pos h2]; rfl
    · rw [if_pos (hnil.2 h2), if_neg h2]; rfl
  · rw [if_neg h1, if_neg h1]
    by_cases h2 : s[p]'hp = 39 ∧ e ≠ 34
    · rw [if_pos h2, if_pos h2, hm]
    · rw [if_neg h2, if_neg h2]
      by_cases h3 : s[p]'hp = 34
      · rw [if_pos h3, if_pos h3, hm]
      · rw [if_neg h3, if_neg h3]
        by_cases h4 : s[p]'hp = 36 ∧ ((toL s).drop (p + 1)).head? = some 40
        · rw [if_pos h4, if_pos h4, hm]
        · rw [if_neg h4, if_neg h4]
          by_cases h5 : s[p]'hp = 36 ∧ ((toL s).drop (p + 1)).head? = some 123
          · rw [if_pos h5, if_pos h5, hm]
          · rw [if_neg h5, if_neg h5]
            by_cases h6 : s[p]'hp = 40 ∧ e = 41
            · rw [if_pos h6, if_pos h6, hm]
            · rw [if_neg h6, if_neg h6]; rfl
theorem pre_any (s r x : ByteArray) (p : Nat) (hr : Kept (toL r = (toL s).drop p)) (w : World) (t : Bool) (ht : (toL x).isPrefixOf ((toL s).drop p) = t) : Calls Tryd.prog 28 #[.string r, .string x] w fun e w' => e = .returned (.bool t) ∧ w' = w := by
  have := prefix_any r (toL x) w t (by rw [hr.out, ht])
  rwa [bs_toL] at this
theorem pre_false {s : ByteArray} {p : Nat} (hp : p < s.size) (h : s[p]'hp ≠ 36) (z : UInt8) : [36, z].isPrefixOf ((toL s).drop p) = false := by
  rw [drop_at hp, prefix_two]
  have : ((36 : UInt8) == s[p]'hp) = false := by simpa using fun e => h e.symm
  rw [this]; rfl
theorem nat_byte {c : UInt8} {k : Nat} (h : c = UInt8.ofNat k) (hk : k < 256) : ((c.toNat : Nat) : Int) = (k : Int) := by subst h; rw [UInt8.toNat_ofNat']; omega
theorem nat_nbyte {c : UInt8} {k : Nat} (h : c ≠ UInt8.ofNat k) (hk : k < 256) : (((c.toNat : Nat) : Int) == (k : Int)) = false := by
  have : ((c.toNat : Nat) : Int) ≠ (k : Int) := fun e => h (UInt8.toNat_inj.1 (by rw [UInt8.toNat_ofNat']; omega))
  simpa using this
theorem unit_succ (d : Nat) (HN : Kept (NestC d)) : UnitC (d + 1) := by
  intro n w b s p v e m mn hn hm hmn h hp oo HO
  subst hm hmn
  have H := Kept.mk h
  rw [unitAt_step hp] at HO
  by_cases h1 : s[p]'hp = 92
  · rw [if_pos h1] at HO
    exact unit_esc d HN n w b s p v e hn H hp ⟨nat_byte (k := 92) h1 (by omega)⟩ oo HO
  · rw [if_neg h1] at HO
    by_cases h2 : s[p]'hp = 39 ∧ e ≠ 34
    · rw [if_pos h2] at HO
      exact unit_sq d HN n w b s p v e hn H hp ⟨nat_byte (k := 39) h2.1 (by omega)⟩ h2.2 oo HO
    · rw [if_neg h2] at HO
      have hnone : s[p]'hp ≠ 36 → Kept (∀ r : ByteArray, Kept (toL r = (toL s).drop p) → ∀ (z : UInt8) (w : World), Calls Tryd.prog 28 #[.string r, .string ⟨#[36, z]⟩] w fun e w' => e = .returned (.bool false) ∧ w' = w) :=
        fun h36 => ⟨fun r hr z w => pre_any s r ⟨#[36, z]⟩ p hr w false (pre_false hp h36 z)⟩
      by_cases h3 : s[p]'hp = 34
      · rw [if_pos h3] at HO
        exact unit_dq d HN n w b s p v e hn H hp ⟨nat_byte (k := 34) h3 (by omega)⟩ oo HO
      · rw [if_neg h3] at HO
        by_cases h36 : s[p]'hp = 36
        · have hz : ∀ z : UInt8, [36, z].isPrefixOf ((toL s).drop p) = decide (((toL s).drop (p + 1)).head? = some z) := fun z => by
            rw [drop_at hp, prefix_two, h36]; simp
          have hlen : ∀ z : UInt8, ((toL s).drop (p + 1)).head? = some z → p + 2 ≤ s.size := fun z hh => by
            have : (toL s).drop (p + 1) ≠ [] := fun e => by rw [e] at hh; cases hh
            rw [ne_eq, List.drop_eq_nil_iff, toL_length] at this
            omega
          by_cases h4 : ((toL s).drop (p + 1)).head? = some 40
          · rw [if_pos ⟨h36, h4⟩] at HO
            exact unit_par d HN n w b s p v e hn H hp ⟨nat_byte (k := 36) h36 (by omega)⟩ (hlen _ h4) ⟨fun r hr w => pre_any s r ⟨#[36, 40]⟩ p hr w true ((hz 40).trans (decide_eq_true h4))⟩ oo HO
          · rw [if_neg (fun h => h4 h.2)] at HO
            by_cases h5 : ((toL s).drop (p + 1)).head? = some 123
            · rw [if_pos ⟨h36, h5⟩] at HO
              exact unit_brace d HN n w b s p v e hn H hp ⟨nat_byte (k := 36) h36 (by omega)⟩ (hlen _ h5) ⟨fun r hr w => ⟨pre_any s r ⟨#[36, 40]⟩ p hr w false ((hz 40).trans (decide_eq_false h4)), pre_any s r ⟨#[36, 123]⟩ p hr w true ((hz 123).trans (decide_eq_true h5))⟩⟩ oo HO
            · rw [if_neg (fun h => h5 h.2), if_neg (fun h => by rw [h36] at h; simp at h)] at HO
              exact unit_plain d HN n w b s p v e hn H hp ⟨nat_nbyte (k := 92) h1 (by omega)⟩ ⟨nat_nbyte (k := 39) (by rw [h36]; decide) (by omega)⟩ ⟨nat_nbyte (k := 34) h3 (by omega)⟩ ⟨nat_nbyte (k := 40) (by rw [h36]; decide) (by omega)⟩ ⟨fun r hr w => ⟨pre_any s r ⟨#[36, 40]⟩ p hr w false ((hz 40).trans (decide_eq_false h4)), pre_any s r ⟨#[36, 123]⟩ p hr w false ((hz 123).trans (decide_eq_false h5))⟩⟩ oo HO
        · have hx : ∀ x : ByteArray, x = ⟨#[36, 40]⟩ ∨ x = ⟨#[36, 123]⟩ → (toL x).isPrefixOf ((toL s).drop p) = false := fun x hx => by rcases hx with rfl | rfl <;> exact pre_false hp h36 _
          rw [if_neg (fun h => h36 h.1), if_neg (fun h => h36 h.1)] at HO
          have HPre : Kept (∀ r : ByteArray, Kept (toL r = (toL s).drop p) → ∀ (w : World), Calls Tryd.prog 28 #[.string r, .string ⟨#[36, 40]⟩] w (fun e w' => e = .returned (.bool false) ∧ w' = w) ∧ Calls Tryd.prog 28 #[.string r, .string ⟨#[36, 123]⟩] w (fun e w' => e = .returned (.bool false) ∧ w' = w)) :=
            ⟨fun r hr w => ⟨pre_any s r _ p hr w false (hx _ (.inl rfl)), pre_any s r _ p hr w false (hx _ (.inr rfl))⟩⟩
          by_cases h40 : s[p]'hp = 40
          · by_cases h6 : e = 41
            · rw [if_pos ⟨h40, h6⟩] at HO
              exact unit_in d HN n w b s p v e hn H hp ⟨nat_byte (k := 40) h40 (by omega)⟩ h6 HPre oo HO
            · rw [if_neg (fun h => h6 h.2)] at HO
              exact unit_plain40 d HN n w b s p v e hn H hp ⟨nat_byte (k := 40) h40 (by omega)⟩ h6 HPre oo HO
          · rw [if_neg (fun h => h40 h.1)] at HO
            by_cases h39 : s[p]'hp = 39
            · have h34 : e = 34 := Decidable.byContradiction fun h => h2 ⟨h39, h⟩
              exact unit_sq34 d HN n w b s p v e hn H hp ⟨nat_byte (k := 39) h39 (by omega)⟩ h34 HPre oo HO
            · exact unit_plain d HN n w b s p v e hn H hp ⟨nat_nbyte (k := 92) h1 (by omega)⟩ ⟨nat_nbyte (k := 39) h39 (by omega)⟩ ⟨nat_nbyte (k := 34) h3 (by omega)⟩ ⟨nat_nbyte (k := 40) h40 (by omega)⟩ HPre oo HO
theorem unit_any : ∀ d, UnitC d
  | 0 => unit_zero
  | d + 1 => unit_succ d ⟨nest_of d ⟨unit_any d⟩⟩

/-! ### Words -/
def wordAt (l : List UInt8) (p : Nat) : Option Nat := (word (l.drop p)).map (p + ·)
theorem wordAt_end {s : ByteArray} {p : Nat} (hp : s.size ≤ p) : wordAt (toL s) p = some p := by unfold wordAt; rw [drop_end hp]; rfl
theorem wordAt_stop {s : ByteArray} {p : Nat} (hp : p < s.size) (h : stops (s[p]'hp) = true) : wordAt (toL s) p = some p := by unfold wordAt; rw [drop_at hp, word_stop h]; rfl
theorem wordAt_bad {s : ByteArray} {p : Nat} (hp : p < s.size) (h : stops (s[p]'hp) = false) (hu : unitAt 30 0 (toL s) p = none) : wordAt (toL s) p = none := by
  unfold wordAt unitAt at *
  rw [drop_at hp] at *
  rw [word_bad h (by simpa using hu)]; rfl
theorem wordAt_on {s : ByteArray} {p q : Nat} (hp : p < s.size) (h : stops (s[p]'hp) = false) (hu : unitAt 30 0 (toL s) p = some q) : wordAt (toL s) p = wordAt (toL s) q := by
  unfold wordAt unitAt at *
  obtain ⟨k, hk, rfl⟩ := Option.map_eq_some_iff.1 hu
  rw [drop_at hp] at hk ⊢
  rw [word_on h hk, ← drop_at hp, List.drop_drop, Option.map_map]
  congr 1
  funext x
  show p + (k + x) = p + k + x
  omega
set_option maxHeartbeats 1000000 in
set_option maxRecDepth 100000 in
theorem word_any (w : World) (b : Nat) (s : ByteArray) (p : Nat) (v : Value) (h : RM w b s p v) (o : Option Nat) (HO : Kept (o = wordAt (toL s) p)) :
    Calls Tryd.prog 25 #[.pointer (some ⟨b, 0, none⟩)] w (Moved w b s v o) := by
  have H := Kept.mk h
  clear h
  go_enter Tryd.func25, Tryd.ntmps25
  go_wp2_with fail
  go_loopw [] (fun wr => ∃ q, Kept (RM wr b s q v) ∧ Kept (Only (· = b) w wr) ∧ Kept (o = wordAt (toL s) q)) (fun wr => s.size - far b wr)
  case atStart => exact ⟨p, H, ⟨Only.refl _ _⟩, HO⟩
  case round =>
    obtain ⟨q, HR, HOn, HE⟩ := hrel
    have c0 := HR.out.rd.c0
    have c1 := HR.out.rd.c1
    by_cases hlt : q < s.size
    · have z : (q : Int) < s.size := by omega
      have HF : Kept (false = decide (q = s.size)) := ⟨(decide_eq_false (by omega)).symm⟩
      have HLT := Kept.mk hlt
      cases hst : stops (s[q]'hlt) with
      | true =>
        have HS : Kept (true = stops (s[q]'hlt)) := ⟨hst.symm⟩
        have HO2 : Kept (o = some q) := ⟨by rw [HE.out, wordAt_stop hlt hst]⟩
        clear hst HE
        go_wp2_with fail
        go_quiet ((first
          | (go_at_call 14; exact Calls.quiet_of (ended_any _ b s q v false (HR.out.rd.drewN _) HF.out))
          | (go_at_call 30; exact Calls.quiet_of_same (stop_any _ _ true HS.out))))
        have HRn := Kept.mk (HR.out.qt ⟨nq, rfl⟩)
        go_wp2_with fail
        refine bodyPost_end (results_none rfl _ _ _) rfl ?_
        obtain rfl := HO2.out
        exact ⟨rfl, ⟨HRn.out.rd⟩, ⟨HOn.out.drewN nq⟩⟩
      | false =>
        have HS : Kept (false = stops (s[q]'hlt)) := ⟨hst.symm⟩
        cases hu : unitAt 30 0 (toL s) q with
        | none =>
          have HO2 : Kept (o = none) := ⟨by rw [HE.out, wordAt_bad hlt hst hu]⟩
          have HU := Kept.mk hu
          clear hst HE hu
          go_wp2_with fail
          go_quiet ((first
            | (go_at_call 14; exact Calls.quiet_of (ended_any _ b s q v false (HR.out.rd.drewN _) HF.out))
            | (go_at_call 30; exact Calls.quiet_of_same (stop_any _ _ false HS.out))))
          have HRn := Kept.mk (HR.out.qt ⟨nq, rfl⟩)
          have HOq : Kept (Only (· = b) w (wr.drewN nq)) := ⟨HOn.out.drewN nq⟩
          go_wp2_with fail
          refine (unit_any 30 1 _ b s q v 0 _ _ rfl rfl rfl HRn.out HLT.out _ ⟨HU.out.symm⟩).mono ?_
          rintro e1 w3 ⟨rfl, ho3⟩
          obtain rfl := HO2.out
          exact ⟨rfl, rfl, ⟨only_trans HOq.out ho3.out⟩⟩
        | some q' =>
          have HO2 : Kept (o = wordAt (toL s) q') := ⟨by rw [HE.out, wordAt_on hlt hst hu]⟩
          have HLe := Kept.mk (unitAt_le hu)
          have HU := Kept.mk hu
          clear hst HE hu
          go_wp2_with fail
          go_quiet ((first
            | (go_at_call 14; exact Calls.quiet_of (ended_any _ b s q v false (HR.out.rd.drewN _) HF.out))
            | (go_at_call 30; exact Calls.quiet_of_same (stop_any _ _ false HS.out))))
          have HRn := Kept.mk (HR.out.qt ⟨nq, rfl⟩)
          have HOq : Kept (Only (· = b) w (wr.drewN nq)) := ⟨HOn.out.drewN nq⟩
          go_wp2_with fail
          refine (unit_any 30 1 _ b s q v 0 _ _ rfl rfl rfl HRn.out HLT.out _ ⟨HU.out.symm⟩).mono ?_
          rintro e1 w3 ⟨rfl, h3, ho3⟩
          have H3 := Kept.mk (HRn.out.mv ⟨h3, ho3⟩)
          have HO3 := Kept.mk (only_trans HOq.out ho3.out)
          have HM : Kept (s.size - far b w3 < s.size - far b wr) := ⟨by rw [H3.out.rd.far, HR.out.rd.far]; have := HLT.out; have := HLe.out; omega⟩
          clear h3 ho3
          go_wp2
          go_roundw
          case rel => exact ⟨q', H3, HO3, HO2⟩
          case measure => exact HM.out
    · have hle := HR.out.rd.le
      have HF : Kept (true = decide (q = s.size)) := ⟨(decide_eq_true (by omega)).symm⟩
      have HO2 : Kept (o = some q) := ⟨by rw [HE.out, wordAt_end (by omega)]⟩
      clear hlt hle HE
      go_wp2_with fail
      go_quiet ((go_at_call 14; exact Calls.quiet_of (ended_any _ b s q v true (HR.out.rd.drewN _) HF.out)))
      have HRn := Kept.mk (HR.out.qt ⟨nq, rfl⟩)
      go_wp2_with fail
      refine bodyPost_end (results_none rfl _ _ _) rfl ?_
      obtain rfl := HO2.out
      exact ⟨rfl, ⟨HRn.out.rd⟩, ⟨HOn.out.drewN nq⟩⟩
end Lx
end Go.Proofs.YtnafecdionhnfaaDoor
