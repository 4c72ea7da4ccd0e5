/-
  The document's side: Number.
-/
import Derived.Test.YtjmblgahoejoiaaGreatDoorTup
namespace Go.Proofs.YtjmblgahoejoiaaGreatDoor
open Go.RowKit Net
namespace Tup

/-- What Number answers: -1 for none. -/
def numI (l : List UInt8) : Int := match num l with | none => -1 | some n => n

theorem worth_take (l : List UInt8) (j : Nat) (hj : j < l.length) : worth (l.take (j + 1)) 0 = worth (l.take j) 0 * 10 + (l[j].toNat - 48) := by
  rw [List.take_succ_eq_append_getElem hj, worth_append]
  rfl
theorem worth_take_lt (l : List UInt8) (j : Nat) (hd : (l.take j).all isDig = true) (hj : j ≤ 9) : worth (l.take j) 0 < 1000000000 := by
  have hb : ∀ l : List UInt8, l.all isDig = true → worth l 0 < 10 ^ l.length := by
    intro l
    induction l with
    | nil => intro _; simp [worth]
    | cons b l ih =>
      intro hd
      simp only [List.all_cons, Bool.and_eq_true] at hd
      have hb := hd.1
      unfold isDig at hb
      simp only [Bool.and_eq_true, decide_eq_true_eq] at hb
      have h2 := ih hd.2
      rw [worth, worth_lt l hd.2]
      simp only [List.length_cons, Nat.pow_succ]
      have h3 : (0 * 10 + (b.toNat - 48)) ≤ 9 := by omega
      have h4 := Nat.mul_le_mul_right (10 ^ l.length) h3
      omega
  have h1 := hb _ hd
  have h2 : (l.take j).length ≤ 9 := by rw [List.length_take]; omega
  have h3 : 10 ^ (l.take j).length ≤ 10 ^ 9 := Nat.pow_le_pow_right (by omega) h2
  omega
theorem all_take_succ (l : List UInt8) (j : Nat) (hj : j < l.length) (h : (l.take j).all isDig = true) (hd : isDig l[j] = true) : (l.take (j + 1)).all isDig = true := by
  rw [List.take_succ_eq_append_getElem hj, List.all_append, h]
  simp [hd]
theorem num_bad_digit {l : List UInt8} {j : Nat} (hj : j < l.length) (h : isDig l[j] = false) : num l = none := by
  unfold num
  split
  · rfl
  · split
    · rename_i ha
      have := List.all_eq_true.1 ha l[j] (List.getElem_mem hj)
      rw [h] at this
      cases this
    · rfl
theorem num_good {l : List UInt8} (h : ¬ (l = [] ∨ 9 < l.length ∨ (l.head? = some 48 ∧ 1 < l.length))) (ha : l.all isDig = true) : num l = some (worth l 0) := by
  unfold num
  rw [if_neg h, if_pos ha]
theorem head_at (s : ByteArray) (h : 0 < s.size) : (toL s).head? = some (s[0]'h) := by
  have e : (toL s)[0]? = some (s[0]'h) := by
    rw [List.getElem?_eq_getElem (by rw [toL_length]; exact h)]
    rfl
  rw [List.head?_eq_getElem?]
  exact e
theorem at_toL (s : ByteArray) (j : Nat) (h : j < s.size) : (toL s)[j]'(by rw [toL_length]; exact h) = s[j]'h := rfl
theorem isDig_iff (b : UInt8) : isDig b = true ↔ (48 : Int) ≤ (b.toNat : Int) ∧ (b.toNat : Int) ≤ 57 := by
  unfold isDig
  simp only [Bool.and_eq_true, decide_eq_true_eq]
  omega

set_option maxRecDepth 100000 in
theorem number_any (s : ByteArray) (w : World) (hs : s.size ≤ 9223372036854775807) :
    Calls Tryz.prog 72 #[.string s] w fun e w' => ∃ v : Int, e = .returned (.int .i64 v) ∧ w' = w ∧ Kept (v = numI (toL s)) := by
  by_cases h0 : s.size = 0
  · have hE : s.toList.isEmpty = true := by
      rw [ByteArray.toList_eq, List.isEmpty_iff]
      exact List.eq_nil_of_length_eq_zero (by have := toL_length s; unfold toL at this; omega)
    have HF : Kept ((-1 : Int) = numI (toL s)) := ⟨by
      have : toL s = [] := List.eq_nil_of_length_eq_zero (by rw [toL_length]; exact h0)
      rw [this]; rfl⟩
    clear h0
    go_enter Tryz.func72, Tryz.ntmps72
    go_wp2
    go_ret
    exact ⟨_, rfl, rfl, HF⟩
  · have hE : s.toList.isEmpty = false := by
      cases he : s.toList.isEmpty with
      | false => rfl
      | true =>
        rw [ByteArray.toList_eq, List.isEmpty_iff] at he
        have := toL_length s
        unfold toL at this
        rw [he] at this
        exact absurd this.symm h0
    by_cases h9 : 9 < s.size
    · have HF : Kept ((-1 : Int) = numI (toL s)) := ⟨by
        unfold numI
        rw [num_long (by rw [toL_length]; exact h9)]⟩
      have z9 : (9 : Int) < s.size := by omega
      clear h9
      go_enter Tryz.func72, Tryz.ntmps72
      go_wp2
      go_ret
      exact ⟨_, rfl, rfl, HF⟩
    · have hp : 0 < s.size := by omega
      have HH := head_at s hp
      by_cases h48 : ((s[0]'hp).toNat : Int) = 48 ∧ 1 < s.size
      · have HF : Kept ((-1 : Int) = numI (toL s)) := ⟨by
          unfold numI num
          rw [if_pos (.inr (.inr ⟨by rw [HH]; congr 1; exact UInt8.toNat_inj.1 (show _ = 48 by omega), by rw [toL_length]; omega⟩))]⟩
        obtain ⟨g48, h1⟩ := h48
        have z1 : (1 : Int) < s.size := by omega
        clear HH
        go_enter Tryz.func72, Tryz.ntmps72
        go_wp2
        go_ret
        exact ⟨_, rfl, rfl, HF⟩
      · have HG : Kept (¬ (toL s = [] ∨ 9 < (toL s).length ∨ ((toL s).head? = some 48 ∧ 1 < (toL s).length))) := ⟨by
          rw [toL_length]
          rintro (h | h | ⟨h, h1⟩)
          · have := toL_length s; rw [h] at this; simp at this; omega
          · omega
          · rw [HH] at h
            injection h with h
            exact h48 ⟨by rw [h]; rfl, h1⟩⟩
        clear HH
        have hs9 : s.size ≤ 9 := by omega
        have hg : ¬ (((s[0]'hp).toNat : Int) = 48 ∧ (1 : Int) < s.size) := fun h => h48 ⟨h.1, by omega⟩
        have H48 := Kept.mk h48
        clear h48 h9 h0
        have hsplit : ((((s[0]'hp).toNat : Int) == 48) = true ∧ decide ((1 : Int) < s.size) = false) ∨ (((s[0]'hp).toNat : Int) == 48) = false := by
          cases hb : (((s[0]'hp).toNat : Int) == 48) with
          | false => exact .inr rfl
          | true => exact .inl ⟨rfl, decide_eq_false (fun h => hg ⟨by simpa using hb, h⟩)⟩
        clear hg
        rcases hsplit with ⟨g48, z1⟩ | g48
        all_goals
          go_enter Tryz.func72, Tryz.ntmps72
          go_wp2
          go_loop [3, 4] (fun x i => ∃ t j : Nat, j ≤ s.size ∧ x = .int .i64 t ∧ i = .int .i64 j ∧ t < 1000000000 ∧ Kept (t = worth ((toL s).take j) 0 ∧ ((toL s).take j).all isDig = true)) (fun _ i => s.size - (intOf i).toNat)
          case atStart => exact ⟨0, 0, by omega, rfl, rfl, by omega, ⟨rfl, rfl⟩⟩
          case round =>
            obtain ⟨t, j, hj, rfl, rfl, ht9, hT⟩ := hrel
            by_cases hlt : j < s.size
            · have hjl : j < (toL s).length := by rw [toL_length]; exact hlt
              have hw := worth_take (toL s) j hjl
              have ha := all_take_succ (toL s) j hjl hT.out.2
              have hl := worth_take_lt (toL s) (j + 1)
              have hbad := num_bad_digit hjl
              have hd := isDig_iff (toL s)[j]
              have z0 : (j : Int) < s.size := by omega
              rw [at_toL s j hlt] at hw ha hbad hd
              by_cases h1 : ((s[j]'hlt).toNat : Int) < 48
              · have HF : Kept ((-1 : Int) = numI (toL s)) := ⟨by
                  unfold numI
                  rw [hbad (by rw [← Bool.not_eq_true, hd]; omega)]⟩
                clear hw ha hl hbad hd
                go_wp2
                go_ret
                exact ⟨_, rfl, rfl, HF⟩
              · by_cases h2 : (57 : Int) < ((s[j]'hlt).toNat : Int)
                · have HF : Kept ((-1 : Int) = numI (toL s)) := ⟨by
                    unfold numI
                    rw [hbad (by rw [← Bool.not_eq_true, hd]; omega)]⟩
                  clear hw ha hl hbad hd
                  go_wp2
                  go_ret
                  exact ⟨_, rfl, rfl, HF⟩
                · have hdt : isDig (s[j]'hlt) = true := hd.2 ⟨by omega, by omega⟩
                  have hT2 : Kept (t * 10 + ((s[j]'hlt).toNat - 48) = worth ((toL s).take (j + 1)) 0 ∧ ((toL s).take (j + 1)).all isDig = true) := ⟨by rw [hw, ← hT.out.1], ha hdt⟩
                  have hl2 := hl (ha hdt) (by omega)
                  rw [← hT2.out.1] at hl2
                  clear hw ha hl hbad hd hdt
                  go_wp2
                  go_round
                  case rel => exact ⟨t * 10 + ((s[j]'hlt).toNat - 48), j + 1, by omega, by go_num, by go_num, hl2, hT2⟩
                  case measure => simp [intOf]; omega
            · have HF : Kept ((t : Int) = numI (toL s)) := ⟨by
                have h := hT.out
                rw [List.take_of_length_le (by rw [toL_length]; omega)] at h
                unfold numI
                rw [num_good HG.out h.2, ← h.1]⟩
              go_wp2
              go_ret
              exact ⟨_, rfl, rfl, HF⟩
end Tup
end Go.Proofs.YtjmblgahoejoiaaGreatDoor
