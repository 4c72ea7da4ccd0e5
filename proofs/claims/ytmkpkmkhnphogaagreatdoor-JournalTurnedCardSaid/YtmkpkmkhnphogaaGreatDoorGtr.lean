/-
  The document's side: Number.
-/
import Derived.Test.YtmkpkmkhnphogaaGreatDoorGtup
import Derived.Deep.RegionHeld3
namespace Go.Proofs.YtmkpkmkhnphogaaGreatDoor
open Go.RowKit Net
namespace Tup

/-- What Number answers: -1 for none. -/
def numI (l : List UInt8) : Int := match num l with | none => -1 | some n => n

theorem worth_take (l : List UInt8) (j : Nat) (hj : j < l.length) : worth (l.take (j + 1)) 0 = worth (l.take j) 0 * 10 + (l[j].toNat - 48) := by
  rw [List.take_succ_eq_append_getElem hj, worth_append]
  rfl
theorem worth_take_lt (l : List UInt8) (j : Nat) (hd : (l.take j).all isDig = true) (hj : j ≤ 9) : worth (l.take j) 0 < 1000000000 := by
  have hb : ∀ l : List UInt8, l.all isDig = true → worth l 0 < 10 ^ l.length := by
    intro l
    induction l with
    | nil => intro _; simp [worth]
    | cons b l ih =>
      intro hd
      simp only [List.all_cons, Bool.and_eq_true] at hd
      have hb := hd.1
      unfold isDig at hb
      simp only [Bool.and_eq_true, decide_eq_true_eq] at hb
      have h2 := ih hd.2
      rw [worth, worth_lt l hd.2]
      simp only [List.length_cons, Nat.pow_succ]
      have h3 : (0 * 10 + (b.toNat - 48)) ≤ 9 := by omega
      have h4 := Nat.mul_le_mul_right (10 ^ l.length) h3
      omega
  have h1 := hb _ hd
  have h2 : (l.take j).length ≤ 9 := by rw [List.length_take]; omega
  have h3 : 10 ^ (l.take j).length ≤ 10 ^ 9 := Nat.pow_le_pow_right (by omega) h2
  omega
theorem all_take_succ (l : List UInt8) (j : Nat) (hj : j < l.length) (h : (l.take j).all isDig = true) (hd : isDig l[j] = true) : (l.take (j + 1)).all isDig = true := by
  rw [List.take_succ_eq_append_getElem hj, List.all_append, h]
  simp [hd]
theorem num_bad_digit {l : List UInt8} {j : Nat} (hj : j < l.length) (h : isDig l[j] = false) : num l = none := by
  unfold num
  split
  · rfl
  · split
    · rename_i ha
      have := List.all_eq_true.1 ha l[j] (List.getElem_mem hj)
      rw [h] at this
      cases this
    · rfl
theorem num_good {l : List UInt8} (h : ¬ (l = [] ∨ 9 < l.length ∨ (l.head? = some 48 ∧ 1 < l.length))) (ha : l.all isDig = true) : num l = some (worth l 0) := by
  unfold num
  rw [if_neg h, if_pos ha]
theorem head_at (s : ByteArray) (h : 0 < s.size) : (toL s).head? = some (s[0]'h) := by
  have e : (toL s)[0]? = some (s[0]'h) := by
    rw [List.getElem?_eq_getElem (by rw [toL_length]; exact h)]
    rfl
  rw [List.head?_eq_getElem?]
  exact e
theorem at_toL (s : ByteArray) (j : Nat) (h : j < s.size) : (toL s)[j]'(by rw [toL_length]; exact h) = s[j]'h := rfl
theorem isDig_iff (b : UInt8) : isDig b = true ↔ (48 : Int) ≤ (b.toNat : Int) ∧ (b.toNat : Int) ≤ 57 := by
  unfold isDig
  simp only [Bool.and_eq_true, decide_eq_true_eq]
  omega

set_option maxRecDepth 100000 in
theorem number_any (s : ByteArray) (w : World) (hs : s.size ≤ 9223372036854775807) :
    Calls Tryz.prog 50 #[.string s] w fun e w' => ∃ v : Int, e = .returned (.int .i64 v) ∧ w' = w ∧ Kept (v = numI (toL s)) := by
  by_cases h0 : s.size = 0
  · have hE : s.toList.isEmpty = true := by
      rw [ByteArray.toList_eq, List.isEmpty_iff]
      exact List.eq_nil_of_length_eq_zero (by have := toL_length s; unfold toL at this; omega)
    have HF : Kept ((-1 : Int) = numI (toL s)) := ⟨by
      have : toL s = [] := List.eq_nil_of_length_eq_zero (by rw [toL_length]; exact h0)
      rw [this]; rfl⟩
    clear h0
    go_enter Tryz.func50, Tryz.ntmps50
    go_wp2
    go_ret
    exact ⟨_, rfl, rfl, HF⟩
  · have hE : s.toList.isEmpty = false := by
      cases he : s.toList.isEmpty with
      | false => rfl
      | true =>
        rw [ByteArray.toList_eq, List.isEmpty_iff] at he
        have := toL_length s
        unfold toL at this
        rw [he] at this
        exact absurd this.symm h0
    by_cases h9 : 9 < s.size
    · have HF : Kept ((-1 : Int) = numI (toL s)) := ⟨by
        unfold numI
        rw [num_long (by rw [toL_length]; exact h9)]⟩
      have z9 : (9 : Int) < s.size := by omega
      clear h9
      go_enter Tryz.func50, Tryz.ntmps50
      go_wp2
      go_ret
      exact ⟨_, rfl, rfl, HF⟩
    · have hp : 0 < s.size := by omega
      have HH := head_at s hp
      by_cases h48 : ((s[0]'hp).toNat : Int) = 48 ∧ 1 < s.size
      · have HF : Kept ((-1 : Int) = numI (toL s)) := ⟨by
          unfold numI num
          rw [if_pos (.inr (.inr ⟨by rw [HH]; congr 1; exact UInt8.toNat_inj.1 (show _ = 48 by omega), by rw [toL_length]; omega⟩))]⟩
        obtain ⟨g48, h1⟩ := h48
        have z1 : (1 : Int) < s.size := by omega
        clear HH
        go_enter Tryz.func50, Tryz.ntmps50
        go_wp2
        go_ret
        exact ⟨_, rfl, rfl, HF⟩
      · have HG : Kept (¬ (toL s = [] ∨ 9 < (toL s).length ∨ ((toL s).head? = some 48 ∧ 1 < (toL s).length))) := ⟨by
          rw [toL_length]
          rintro (h | h | ⟨h, h1⟩)
          · have := toL_length s; rw [h] at this; simp at this; omega
          · omega
          · rw [HH] at h
            injection h with h
            exact h48 ⟨by rw [h]; rfl, h1⟩⟩
        clear HH
        have hs9 : s.size ≤ 9 := by omega
        have hg : ¬ (((s[0]'hp).toNat : Int) = 48 ∧ (1 : Int) < s.size) := fun h => h48 ⟨h.1, by omega⟩
        have H48 := Kept.mk h48
        clear h48 h9 h0
        have hsplit : ((((s[0]'hp).toNat : Int) == 48) = true ∧ decide ((1 : Int) < s.size) = false) ∨ (((s[0]'hp).toNat : Int) == 48) = false := by
          cases hb : (((s[0]'hp).toNat : Int) == 48) with
          | false => exact .inr rfl
          | true => exact .inl ⟨rfl, decide_eq_false (fun h => hg ⟨by simpa using hb, h⟩)⟩
        clear hg
        rcases hsplit with ⟨g48, z1⟩ | g48
        all_goals
          go_enter Tryz.func50, Tryz.ntmps50
          go_wp2
          go_loop [3, 4] (fun x i => ∃ t j : Nat, j ≤ s.size ∧ x = .int .i64 t ∧ i = .int .i64 j ∧ t < 1000000000 ∧ Kept (t = worth ((toL s).take j) 0 ∧ ((toL s).take j).all isDig = true)) (fun _ i => s.size - (intOf i).toNat)
          case atStart => exact ⟨0, 0, by omega, rfl, rfl, by omega, ⟨rfl, rfl⟩⟩
          case round =>
            obtain ⟨t, j, hj, rfl, rfl, ht9, hT⟩ := hrel
            by_cases hlt : j < s.size
            · have hjl : j < (toL s).length := by rw [toL_length]; exact hlt
              have hw := worth_take (toL s) j hjl
              have ha := all_take_succ (toL s) j hjl hT.out.2
              have hl := worth_take_lt (toL s) (j + 1)
              have hbad := num_bad_digit hjl
              have hd := isDig_iff (toL s)[j]
              have z0 : (j : Int) < s.size := by omega
              rw [at_toL s j hlt] at hw ha hbad hd
              by_cases h1 : ((s[j]'hlt).toNat : Int) < 48
              · have HF : Kept ((-1 : Int) = numI (toL s)) := ⟨by
                  unfold numI
                  rw [hbad (by rw [← Bool.not_eq_true, hd]; omega)]⟩
                clear hw ha hl hbad hd
                go_wp2
                go_ret
                exact ⟨_, rfl, rfl, HF⟩
              · by_cases h2 : (57 : Int) < ((s[j]'hlt).toNat : Int)
                · have HF : Kept ((-1 : Int) = numI (toL s)) := ⟨by
                    unfold numI
                    rw [hbad (by rw [← Bool.not_eq_true, hd]; omega)]⟩
                  clear hw ha hl hbad hd
                  go_wp2
                  go_ret
                  exact ⟨_, rfl, rfl, HF⟩
                · have hdt : isDig (s[j]'hlt) = true := hd.2 ⟨by omega, by omega⟩
                  have hT2 : Kept (t * 10 + ((s[j]'hlt).toNat - 48) = worth ((toL s).take (j + 1)) 0 ∧ ((toL s).take (j + 1)).all isDig = true) := ⟨by rw [hw, ← hT.out.1], ha hdt⟩
                  have hl2 := hl (ha hdt) (by omega)
                  rw [← hT2.out.1] at hl2
                  clear hw ha hl hbad hd hdt
                  go_wp2
                  go_round
                  case rel => exact ⟨t * 10 + ((s[j]'hlt).toNat - 48), j + 1, by omega, by go_num, by go_num, hl2, hT2⟩
                  case measure => simp [intOf]; omega
            · have HF : Kept ((t : Int) = numI (toL s)) := ⟨by
                have h := hT.out
                rw [List.take_of_length_le (by rw [toL_length]; omega)] at h
                unfold numI
                rw [num_good HG.out h.2, ← h.1]⟩
              go_wp2
              go_ret
              exact ⟨_, rfl, rfl, HF⟩
end Tup
end Go.Proofs.YtmkpkmkhnphogaaGreatDoor

/-
  The document's side: Decode.
-/
namespace Go.Proofs.YtmkpkmkhnphogaaGreatDoor
open Go.RowKit Net
namespace Tup

/-- What the search for the colon knows. -/
structure Col (t : ByteArray) (c : Nat) : Prop where
  is : colon (toL t) = c
  le : c ≤ t.size
  before : ∀ q (h : q < t.size), q < c → (((t[q]'h).toNat : Int) != 58) = true
  here : ∀ h : c < t.size, (((t[c]'h).toNat : Int) != 58) = false
theorem col_of (t : ByteArray) : Col t (colon (toL t)) := by
  have hle : colon (toL t) ≤ t.size := by have := colon_le (toL t); rw [toL_length] at this; exact this
  refine ⟨rfl, hle, fun q h hq => bne_iff_ne.2 fun he => before_colon hq ?_, fun h => ?_⟩
  · rw [List.getElem?_eq_getElem (by rw [toL_length]; exact h), at_toL t q h]
    congr 1
    exact UInt8.toNat_inj.1 (show _ = 58 by omega)
  · have h1 := colon_at (s := toL t) (by rw [toL_length]; exact h)
    rw [List.getElem?_eq_getElem (by rw [toL_length]; exact h), at_toL t _ h] at h1
    injection h1 with h1
    rw [h1]
    rfl

/-- Why a round ends, or what it finds. -/
inductive Round (t : ByteArray) (c : Nat) : Prop
  | noNum (h : num ((toL t).take c) = none)
  | short (m : Nat) (h : num ((toL t).take c) = some m) (hs : t.size < m + c + 2)
  | noComma (m : Nat) (h : num ((toL t).take c) = some m) (hs : m + c + 2 ≤ t.size) (h44 : (((t[m + c + 1]'(by omega)).toNat : Int) != 44) = true)
  | good (m : Nat) (h : num ((toL t).take c) = some m) (hs : m + c + 2 ≤ t.size) (h44 : (((t[m + c + 1]'(by omega)).toNat : Int) != 44) = false)
theorem round_of (t : ByteArray) (c : Nat) : Round t c := by
  cases h : num ((toL t).take c) with
  | none => exact .noNum h
  | some m =>
    by_cases hs : t.size < m + c + 2
    · exact .short m h hs
    · have hs2 : m + c + 2 ≤ t.size := by omega
      cases hb : (((t[m + c + 1]'(by omega)).toNat : Int) != 44) with
      | true => exact .noComma m h hs2 hb
      | false => exact .good m h hs2 hb
theorem cut_short2 {t : ByteArray} {c m : Nat} (hc : colon (toL t) = c) (h : num ((toL t).take c) = some m) (hs : t.size < m + c + 2) : cut (toL t) = none := by
  subst hc
  unfold cut
  rw [h]
  simp only []
  rw [if_pos (.inl (by rw [toL_length]; exact hs))]
theorem at44 {t : ByteArray} {i : Nat} (h : i < t.size) (b : Bool) (h44 : (((t[i]'h).toNat : Int) != 44) = b) : (toL t)[i]? = some 44 ↔ b = false := by
  rw [List.getElem?_eq_getElem (by rw [toL_length]; exact h), at_toL t i h]
  subst h44
  rw [bne_eq_false_iff_eq]
  constructor
  · intro e
    injection e with e
    rw [e]
    rfl
  · intro e
    congr 1
    exact UInt8.toNat_inj.1 (show _ = 44 by omega)
theorem cut_bad2 {t : ByteArray} {c m : Nat} (hc : colon (toL t) = c) (h : num ((toL t).take c) = some m) (hs : m + c + 2 ≤ t.size) (h44 : (((t[m + c + 1]'(by omega)).toNat : Int) != 44) = true) : cut (toL t) = none := by
  subst hc
  unfold cut
  rw [h]
  simp only []
  rw [if_pos (.inr (fun e => by have := (at44 (by omega) true h44).1 e; cases this))]
theorem cut_good2 {t : ByteArray} {c m : Nat} (hc : colon (toL t) = c) (h : num ((toL t).take c) = some m) (hs : m + c + 2 ≤ t.size) (h44 : (((t[m + c + 1]'(by omega)).toNat : Int) != 44) = false) :
    cut (toL t) = some (toL (t.extract (c + 1) (m + c + 1)), toL (t.extract (m + c + 2) t.size)) := by
  subst hc
  unfold cut
  rw [h]
  simp only []
  rw [if_neg (by
    rintro (h1 | h1)
    · rw [toL_length] at h1; omega
    · exact h1 ((at44 (by omega) false h44).2 rfl)), toL_extract, toL_from, show m + colon (toL t) + 1 - (colon (toL t) + 1) = m by omega]

theorem number_is (a : ByteArray) (w : World) (ha : a.size ≤ 9223372036854775807) (l : List UInt8) (v : Int) (h : toL a = l) (hv : numI l = v) :
    Calls Tryz.prog 50 #[.string a] w fun e w' => e = .returned (.int .i64 v) ∧ w' = w :=
  (number_any a w ha).mono fun e w' ⟨x, he, hw, hx⟩ => ⟨by rw [he, hx.out, h, hv], hw⟩

set_option maxHeartbeats 2000000 in
set_option maxRecDepth 100000 in
theorem refDec_any (s : ByteArray) (w : World) (hs : s.size ≤ 4000000000) :
    Calls Tryz.prog 49 #[.string s] w fun e w' => ∃ v k, e = .returned (.tuple #[v, .int .i64 k]) ∧ Below w.heap.size w w' ∧ Kept (DecIs s w w' v k) := by
  have HS := Kept.mk hs
  clear hs
  go_enter Tryz.func49, Tryz.ntmps49
  go_wp2
  go_loopw [0, 4] (fun r v wr => ∃ (t : ByteArray) (l : List ByteArray), r = .string t ∧ Kept (DecIn w wr s t v l)) (fun r _ _ => match r with | .string t => t.size | _ => 0)
  case atStart => exact ⟨s, [], rfl, ⟨⟨Below.refl _ _, Own.Es.nil _ _ _, Left.start _⟩⟩⟩
  case round =>
    obtain ⟨t, l, rfl, hD⟩ := hrel
    by_cases ht : t.size = 0
    · have HT : Kept (dec (toL s) = some (l.map toL)) := ⟨by
        have := hD.out.left
        rw [List.eq_nil_of_length_eq_zero (l := toL t) (by rw [toL_length]; exact ht)] at this
        exact this.done⟩
      go_wp2
      go_ret2
      exact ⟨_, 0, rfl, hD.out.below, ⟨.inr ⟨l, HT.out, hD.out.es, rfl⟩⟩⟩
    · have hp : (0 : Int) < t.size := by omega
      have HT : Kept (toL t ≠ []) := ⟨fun e => ht (by rw [← toL_length, e]; rfl)⟩
      have hts : t.size ≤ 4000000000 := by have := hD.out.few.1; have := HS.out; omega
      clear ht
      obtain ⟨c, HC⟩ : ∃ c, Kept (Col t c) := ⟨_, ⟨col_of t⟩⟩
      have hcl := HC.out.le
      have hto : ∀ W : World, (Instr.slice 9 (.string t) none (some (.int .i64 (c : Int))) none).run Tryz.prog W = .ok (.string (t.extract 0 c)) W := fun W => by
        rw [run_slice_string_to_if W 9 t .i64 _ Tryz.underlying9, if_pos ⟨by omega, by omega⟩, show ((c : Nat) : Int).toNat = c by omega]
      have hx : (t.extract 0 c).size ≤ 9223372036854775807 := by rw [ByteArray.size_extract]; omega
      rcases round_of t c with h | ⟨m, h, hsm⟩ | ⟨m, h, hsm, h44⟩ | ⟨m, h, hsm, h44⟩
      · have HN : Kept (∀ w, Calls Tryz.prog 50 #[.string (t.extract 0 c)] w fun e w' => e = .returned (.int .i64 (-1)) ∧ w' = w) := ⟨fun w => number_is _ w hx _ _ (toL_to t c) (by unfold numI; rw [h])⟩
        have HF : Kept (cut (toL t) = none) := ⟨cut_num_none (by rw [HC.out.is]; exact h)⟩
        clear h hx
        go_wp2
        go_loop [5] (fun i => ∃ q : Nat, q ≤ c ∧ i = .int .i64 q) (fun i => c - (intOf i).toNat)
        case atStart => exact ⟨0, by omega, rfl⟩
        case round =>
          obtain ⟨q, hq, rfl⟩ := hrel
          by_cases hqc : q < c
          · have hqt : q < t.size := by omega
            have h58 := HC.out.before q hqt hqc
            have z0 : (q : Int) < t.size := by omega
            clear hto
            go_wp2
            go_round
            case rel => exact ⟨q + 1, by omega, by go_num⟩
            case measure => simp [intOf]; omega
          · obtain rfl : q = c := by omega
            clear hqc hq
            have hex : (∃ h : q < t.size, (q : Int) < t.size ∧ (((t[q]'h).toNat : Int) != 58) = false) ∨ ¬ q < t.size := by
              by_cases h : q < t.size
              · exact .inl ⟨h, by omega, HC.out.here h⟩
              · exact .inr h
            rcases hex with ⟨hqt, z0, h58⟩ | z0
            · go_wp2_with (go_at_call 50; refine (HN.out _).mono ?_; rintro e w1 ⟨rfl, rfl⟩)
              go_ret2
              exact ⟨_, 20, rfl, hD.out.below, ⟨.inl ⟨hD.out.left.bad HT.out HF.out, rfl, rfl⟩⟩⟩
            · go_wp2_with (go_at_call 50; refine (HN.out _).mono ?_; rintro e w1 ⟨rfl, rfl⟩)
              go_ret2
              exact ⟨_, 20, rfl, hD.out.below, ⟨.inl ⟨hD.out.left.bad HT.out HF.out, rfl, rfl⟩⟩⟩
      · have HN : Kept (∀ w, Calls Tryz.prog 50 #[.string (t.extract 0 c)] w fun e w' => e = .returned (.int .i64 m) ∧ w' = w) := ⟨fun w => number_is _ w hx _ _ (toL_to t c) (by unfold numI; rw [h])⟩
        have HF : Kept (cut (toL t) = none) := ⟨cut_short2 HC.out.is h hsm⟩
        have hm9 := (num_some h).2.1
        have hmp : ¬ (m : Int) < 0 := by omega
        have hz : (t.size : Int) < m + c + 2 := by omega
        clear h hx hsm
        go_wp2
        go_loop [5] (fun i => ∃ q : Nat, q ≤ c ∧ i = .int .i64 q) (fun i => c - (intOf i).toNat)
        case atStart => exact ⟨0, by omega, rfl⟩
        case round =>
          obtain ⟨q, hq, rfl⟩ := hrel
          by_cases hqc : q < c
          · have hqt : q < t.size := by omega
            have h58 := HC.out.before q hqt hqc
            have z0 : (q : Int) < t.size := by omega
            clear hto
            go_wp2
            go_round
            case rel => exact ⟨q + 1, by omega, by go_num⟩
            case measure => simp [intOf]; omega
          · obtain rfl : q = c := by omega
            clear hqc hq
            have hex : (∃ h : q < t.size, (q : Int) < t.size ∧ (((t[q]'h).toNat : Int) != 58) = false) ∨ ¬ q < t.size := by
              by_cases h : q < t.size
              · exact .inl ⟨h, by omega, HC.out.here h⟩
              · exact .inr h
            rcases hex with ⟨hqt, z0, h58⟩ | z0
            · go_wp2_with (go_at_call 50; refine (HN.out _).mono ?_; rintro e w1 ⟨rfl, rfl⟩)
              go_ret2
              exact ⟨_, 20, rfl, hD.out.below, ⟨.inl ⟨hD.out.left.bad HT.out HF.out, rfl, rfl⟩⟩⟩
            · go_wp2_with (go_at_call 50; refine (HN.out _).mono ?_; rintro e w1 ⟨rfl, rfl⟩)
              go_ret2
              exact ⟨_, 20, rfl, hD.out.below, ⟨.inl ⟨hD.out.left.bad HT.out HF.out, rfl, rfl⟩⟩⟩
      · have HN : Kept (∀ w, Calls Tryz.prog 50 #[.string (t.extract 0 c)] w fun e w' => e = .returned (.int .i64 m) ∧ w' = w) := ⟨fun w => number_is _ w hx _ _ (toL_to t c) (by unfold numI; rw [h])⟩
        have HF : Kept (cut (toL t) = none) := ⟨cut_bad2 HC.out.is h hsm h44⟩
        have hm9 := (num_some h).2.1
        have hmp : ¬ (m : Int) < 0 := by omega
        have hz : ¬ (t.size : Int) < m + c + 2 := by omega
        have hz2 : (m : Int) + c + 1 < t.size := by omega
        have hz3 : (0 : Int) ≤ (m : Int) + c + 1 := by omega
        have hzt : ((m : Int) + c + 1).toNat = m + c + 1 := by omega
        clear h hx
        go_wp2
        go_loop [5] (fun i => ∃ q : Nat, q ≤ c ∧ i = .int .i64 q) (fun i => c - (intOf i).toNat)
        case atStart => exact ⟨0, by omega, rfl⟩
        case round =>
          obtain ⟨q, hq, rfl⟩ := hrel
          by_cases hqc : q < c
          · have hqt : q < t.size := by omega
            have h58 := HC.out.before q hqt hqc
            have z0 : (q : Int) < t.size := by omega
            clear hto
            go_wp2
            go_round
            case rel => exact ⟨q + 1, by omega, by go_num⟩
            case measure => simp [intOf]; omega
          · obtain rfl : q = c := by omega
            clear hqc hq
            have hqt : q < t.size := by omega
            have z0 : (q : Int) < t.size := by omega
            have h58 := HC.out.here hqt
            go_wp2_with (go_at_call 50; refine (HN.out _).mono ?_; rintro e w1 ⟨rfl, rfl⟩)
            go_ret2
            exact ⟨_, 20, rfl, hD.out.below, ⟨.inl ⟨hD.out.left.bad HT.out HF.out, rfl, rfl⟩⟩⟩
      · have HN : Kept (∀ w, Calls Tryz.prog 50 #[.string (t.extract 0 c)] w fun e w' => e = .returned (.int .i64 m) ∧ w' = w) := ⟨fun w => number_is _ w hx _ _ (toL_to t c) (by unfold numI; rw [h])⟩
        have HF : Kept (cut (toL t) = some (toL (t.extract (c + 1) (m + c + 1)), toL (t.extract (m + c + 2) t.size))) := ⟨cut_good2 HC.out.is h hsm h44⟩
        have hm9 := (num_some h).2.1
        have hmp : ¬ (m : Int) < 0 := by omega
        have hz : ¬ (t.size : Int) < m + c + 2 := by omega
        have hz2 : (m : Int) + c + 1 < t.size := by omega
        have hz3 : (0 : Int) ≤ (m : Int) + c + 1 := by omega
        have hzt : ((m : Int) + c + 1).toNat = m + c + 1 := by omega
        have hsl : ∀ W : World, (Instr.slice 9 (.string t) (some (.int .i64 ((c : Int) + 1))) (some (.int .i64 ((m : Int) + c + 1))) none).run Tryz.prog W = .ok (.string (t.extract (c + 1) (m + c + 1))) W := fun W => by
          rw [run_slice_string W 9 t .i64 .i64 _ _ Tryz.underlying9 (by omega) (by omega) (by omega), hzt, show ((c : Int) + 1).toNat = c + 1 by omega]
        have hfr : ∀ W : World, (Instr.slice 9 (.string t) (some (.int .i64 ((m : Int) + c + 2))) none none).run Tryz.prog W = .ok (.string (t.extract (m + c + 2) t.size)) W := fun W => by
          rw [run_slice_string_from_if W 9 t .i64 _ Tryz.underlying9, if_pos ⟨by omega, by omega⟩, show ((m : Int) + c + 2).toNat = m + c + 2 by omega]
        have HM : Kept ((t.extract (m + c + 2) t.size).size < t.size) := ⟨by rw [ByteArray.size_extract]; omega⟩
        clear h hx
        go_wp2
        go_loop [5] (fun i => ∃ q : Nat, q ≤ c ∧ i = .int .i64 q) (fun i => c - (intOf i).toNat)
        case atStart => exact ⟨0, by omega, rfl⟩
        case round =>
          obtain ⟨q, hq, rfl⟩ := hrel
          by_cases hqc : q < c
          · have hqt : q < t.size := by omega
            have h58 := HC.out.before q hqt hqc
            have z0 : (q : Int) < t.size := by omega
            clear hto
            go_wp2
            go_round
            case rel => exact ⟨q + 1, by omega, by go_num⟩
            case measure => simp [intOf]; omega
          · obtain rfl : q = c := by omega
            clear hqc hq
            have hqt : q < t.size := by omega
            have z0 : (q : Int) < t.size := by omega
            have h58 := HC.out.here hqt
            go_wp2_with (first
              | (go_at_call 50; refine (HN.out _).mono ?_; rintro e w1 ⟨rfl, rfl⟩)
              | (refine Own.wpList_append1 strTy str_one rfl _ _ rfl rfl hD.out.es hD.out.below.size (t.extract (q + 1) (m + q + 1)) _ rfl rfl (by have := hD.out.few; have := HS.out; omega) (by have := hD.out.few; have := HS.out; unfold maxLen; omega) ?_; intro v2 w2 hE2 hg2 _))
            have HD2 := Kept.mk (hD.out.push HT.out HF.out hE2 hg2)
            clear hE2 hg2
            go_wp2
            go_roundw
            case rel => exact ⟨_, l ++ [t.extract (q + 1) (m + q + 1)], rfl, HD2⟩
            case measure => exact HM.out
end Tup
end Go.Proofs.YtmkpkmkhnphogaaGreatDoor

/-
  The document's side: Digits and Encode.
-/
namespace Go.Proofs.YtmkpkmkhnphogaaGreatDoor
open Go.RowKit Net
namespace Tup

theorem byteTy' : By.Ty Tryz.prog 51 5 := ⟨Tryz.underlying51, Tryz.underlying5, by kernel_rfl⟩

theorem bs_append (a b : List UInt8) : bs a ++ bs b = bs (a ++ b) := by
  apply toL_inj
  rw [toL_bs]
  unfold toL bs
  simp
theorem digit_byte (d : Nat) (h : d < 10) : IntKind.u8.wrap (48 + (d : Int)) = ((UInt8.ofNat (48 + d)).toNat : Int) := by
  rw [toNat_dig d h]
  exact IntWalk.u8_in _ (by omega)

theorem one_digit (d : Nat) (h : d < 10) : (⟨#[48 + UInt8.ofNat d]⟩ : ByteArray) = bs [UInt8.ofNat (48 + d)] := by
  have all : ∀ j : Fin 10, (⟨#[48 + UInt8.ofNat j.val]⟩ : ByteArray) = bs [UInt8.ofNat (48 + j.val)] := by
    intro j
    unfold bs
    have e : (48 + UInt8.ofNat j.val : UInt8) = UInt8.ofNat (48 + j.val) := by
      revert j
      decide +kernel
    rw [e]
  exact all ⟨d, h⟩
theorem dig_small {n : Nat} (h : n < 10) : dig n = [UInt8.ofNat (48 + n % 10)] := by
  rw [dig, if_pos h, Nat.mod_eq_of_lt h]
theorem dig_big {n : Nat} (h : ¬ n < 10) : dig n = dig (n / 10) ++ [UInt8.ofNat (48 + n % 10)] := by
  rw [dig, if_neg h]

theorem one_bs (n : Nat) (w : World) : By.Bs (w.alloc (.cells #[.int .u8 (48 + (n : Int) % 10)] 5)) 0 (.slice (some ⟨w.heap.size, 0, none⟩) 1 1) [UInt8.ofNat (48 + n % 10)] := by
  refine Row.Is.bs (E := 5) ⟨rfl, .inr ⟨w.heap.size, 1, _, rfl, Nat.zero_le _, heap_alloc_new w _, Nat.le_refl _, by decide, rfl, ?_⟩⟩
  have h := toNat_dig (n % 10) (Nat.mod_lt _ (by omega))
  simp only [List.length_singleton, List.take_succ_cons, Nat.mul_one, List.take_zero, By.cells, By.cell, List.map_cons, List.map_nil]
  rw [h, show ((48 + n % 10 : Nat) : Int) = 48 + (n : Int) % 10 by omega]

set_option maxRecDepth 100000 in
theorem digits_any : ∀ (n : Nat) (w : World), n ≤ 100000000000 →
    Calls Tryz.prog 54 #[.int .i64 n] w fun e w' => ∃ t : ByteArray, e = .returned (.string t) ∧ Below w.heap.size w w' ∧ Kept (t = bs (dig n)) := by
  intro n
  induction n using Nat.strongRecOn with
  | _ n ih =>
    intro w hn
    have hm : n % 10 < 10 := Nat.mod_lt _ (by omega)
    by_cases h10 : n < 10
    · have HT : Kept ((⟨#[48 + UInt8.ofNat (n % 10)]⟩ : ByteArray) = bs (dig n)) := ⟨by rw [one_digit _ hm, dig_small h10]⟩
      clear ih
      go_enter Tryz.func54, Tryz.ntmps54
      go_wp2_with (refine By.wpList_string byteTy' rfl 9 _ rfl Tryz.underlying9 rfl (one_bs n w) ?_)
      go_ret
      exact ⟨_, rfl, (Below.refl _ _).alloc (Nat.le_refl _) _, HT⟩
    · have HT : Kept (∀ t : ByteArray, t = bs (dig (n / 10)) → t ++ (⟨#[48 + UInt8.ofNat (n % 10)]⟩ : ByteArray) = bs (dig n)) := ⟨fun t ht => by rw [one_digit _ hm, dig_big h10, ht, bs_append]⟩
      have HI : Kept (∀ w, Calls Tryz.prog 54 #[.int .i64 ((n : Int) / 10)] w fun e w' => ∃ t : ByteArray, e = .returned (.string t) ∧ Below w.heap.size w w' ∧ Kept (t = bs (dig (n / 10))) ∧ t.size ≤ 12) := ⟨fun w => by
        rw [show ((n : Int) / 10) = ((n / 10 : Nat) : Int) by omega]
        refine (ih (n / 10) (by omega) w (by omega)).mono ?_
        rintro e w' ⟨t, he, hb, ht⟩
        refine ⟨t, he, hb, ht, ?_⟩
        rw [ht.out, bs_size]
        exact dig_length (n / 10) 11 (by omega)⟩
      clear ih
      go_enter Tryz.func54, Tryz.ntmps54
      go_wp2_with (first
        | (refine By.wpList_string byteTy' rfl 9 _ rfl Tryz.underlying9 rfl (one_bs n w) ?_)
        | (go_at_call 54; refine (HI.out _).mono ?_; rintro e w2 ⟨t, rfl, hb, ht, h12⟩; have HB := Kept.mk hb; clear hb; have hSm : ¬ 9223372036854775807 < t.size + 1 := by omega))
      go_ret
      exact ⟨_, rfl, ((Below.refl _ _).alloc (Nat.le_refl _) _).trans (HB.out.mono (by simp)), ⟨HT.out t ht.out⟩⟩

/-- One text more. -/
theorem cat_one (o t s : ByteArray) (l : List ByteArray) (ho : o = bs (enc (l.map toL))) (ht : t = bs (dig s.size)) : o ++ t ++ ⟨#[58]⟩ ++ s ++ ⟨#[44]⟩ = bs (enc ((l ++ [s]).map toL)) := by
  obtain ⟨x, rfl⟩ : ∃ x, s = bs x := ⟨toL s, (bs_toL s).symm⟩
  have e1 : (⟨#[58]⟩ : ByteArray) = bs [58] := rfl
  have e2 : (⟨#[44]⟩ : ByteArray) = bs [44] := rfl
  rw [enc_snoc, ho, ht, e1, e2, bs_append, bs_append, bs_append, bs_append, toL_bs, bs_size]
  unfold one
  simp

set_option maxHeartbeats 1000000 in
set_option maxRecDepth 100000 in
theorem refEnc_any (l : List ByteArray) (A : Option Addr) (n k : Nat) (w : World) (hR : Rd w A l) (hn : l.length = n) (hn2 : n ≤ 100000) (hs : ∀ s ∈ l, s.size ≤ 1000000) :
    Calls Tryz.prog 53 #[.slice A n k] w fun e w' => ∃ t : ByteArray, e = .returned (.string t) ∧ Below w.heap.size w w' ∧ Kept (t = bs (enc (l.map toL))) := by
  have HR := Kept.mk hR
  have HN := Kept.mk hn
  have HS := Kept.mk hs
  clear hR hn hs
  go_enter Tryz.func53, Tryz.ntmps53
  go_wp2
  go_loopw [3, 4] (fun v i wr => ∃ (j : Nat) (o : ByteArray), j ≤ n ∧ i = .int .i64 j ∧ v = .string o ∧ Kept (Below w.heap.size w wr) ∧ Kept (o = bs (enc ((l.take j).map toL)))) (fun _ i _ => n - (intOf i).toNat)
  case atStart => exact ⟨0, ⟨#[]⟩, by omega, rfl, rfl, ⟨Below.refl _ _⟩, ⟨rfl⟩⟩
  case round =>
    obtain ⟨j, o, hj, rfl, rfl, hB, hO⟩ := hrel
    by_cases hlt : j < n
    · obtain ⟨g, off, rfl, hg, hc⟩ := (HR.out.below hB.out) j (by rw [HN.out]; exact hlt)
      have hsz := HS.out _ (List.getElem_mem (l := l) (n := j) (by rw [HN.out]; exact hlt))
      have HT : Kept (l.take (j + 1) = l.take j ++ [l[j]'(by rw [HN.out]; exact hlt)]) := ⟨List.take_succ_eq_append_getElem _⟩
      have hos : o.size ≤ 1000000000000 := by
        have := enc_take HS.out n (by rw [HN.out]; exact Nat.le_refl _) j
        rw [hO.out, bs_size]
        omega
      generalize l[j]'(by rw [HN.out]; exact hlt) = s at hc hsz HT
      have hcd : wr.drew.cell? ⟨g, off + j, none⟩ = some (.string s) := hc
      have HG : Kept (g < wr.heap.size) := ⟨hg⟩
      have HC := Kept.mk hc
      have z0 : (0 : Int) ≤ (j : Int) := by omega
      have z1 : (j : Int) < n := by omega
      clear hg
      go_wp2
      go_region_with (go_at_call 54
                      refine (digits_any s.size _ (by omega)).mono ?_
                      rintro e w2 ⟨t, rfl, hb2, ht⟩
                      have hts : t.size ≤ 12 := by rw [ht.out, bs_size]; exact dig_length s.size 11 (by omega)
                      have hc2 : w2.cell? ⟨g, off + j, none⟩ = some (.string s) := (hb2.cell HG.out).trans HC.out
                      have HB2 : Kept (Below w.heap.size w w2) := ⟨hB.out.drew.trans (hb2.mono hB.out.size)⟩
                      have hS1 : ¬ 9223372036854775807 < o.size + t.size := by omega
                      have hS2 : ¬ 9223372036854775807 < o.size + t.size + 1 := by omega
                      have hS3 : ¬ 9223372036854775807 < o.size + t.size + 1 + s.size := by omega
                      have hS4 : ¬ 9223372036854775807 < o.size + t.size + 1 + s.size + 1 := by omega
                      clear hb2)
      all_goals
        go_wp2
        go_roundw
        case rel => exact ⟨j + 1, _, by omega, by go_num, rfl, HB2, ⟨by rw [HT.out]; exact cat_one o t s _ hO.out ht.out⟩⟩
        case measure => simp [intOf]; omega
    · have HE : Kept (l.take j = l) := ⟨List.take_of_length_le (by rw [HN.out]; omega)⟩
      go_wp2
      go_ret
      exact ⟨_, rfl, hB.out, ⟨by have := hO.out; rw [HE.out] at this; exact this⟩⟩
end Tup
end Go.Proofs.YtmkpkmkhnphogaaGreatDoor

/-
  append(v, m...), m a list of texts that is read, nil too. Nothing of the program stands here.
-/
namespace Go.Proofs.YtmkpkmkhnphogaaGreatDoor
open Go.RowKit Net
namespace Tup
theorem run_append_nil {P : Program} {T E : TypeId} {z : Value} {bytes : Nat} (k : Own.Ty P T E z bytes) (ty : TypeId) {w : World} {B : Nat} {v : Value} {l : List ByteArray} (h : Own.Es Value.string w B v l) :
    (Builtin.append_ #[T, T] ty #[v, .slice none 0 0]).run P w = .ok v w := by
  obtain ⟨i, hi, _, _, _⟩ := info_parts k.info
  rcases h with ⟨rfl, rfl⟩ | ⟨g, cap, rfl, _, _, hnc, _⟩
  · simp [Builtin.append_, run_underlying k.und, sizeOf, typeInfo, hi, Builtin.lenOf, Builtin.firstCells]
  · simp [Builtin.append_, run_underlying k.und, sizeOf, typeInfo, hi, Builtin.lenOf, Builtin.firstCells, hnc, storeCells]

/-- append(v, m...), m a list that is read. -/
theorem wpList_appendRd {P : Program} {T E : TypeId} {z : Value} {bytes : Nat} {ops : Array Oper} {rest : List Oper} {o : Oper} {a : Act} {Q : Exit → Act → World → Prop} {w : World} {B : Nat} {v : Value} {l m : List ByteArray} {A : Option Addr} {n q : Nat}
    (k : Own.Ty P T E z bytes) (hgd : o.guard = none) (s x : Operand) (ho : o.op = .call { callee := .builtin .append, args := #[s, x], argTypes := #[T, T] }) (hs : a.eval s = v) (hb : Own.Es Value.string w B v l) (hB : B ≤ w.heap.size)
    (hx : a.eval x = .slice A n q) (hR : Rd w A m) (hn : m.length = n) (hA : A = none → n = 0 ∧ q = 0) (hlen : (l.length + n) * bytes ≤ 140737488355328) (hmx : l.length + n ≤ maxLen)
    (h : ∀ v' w', Own.Es Value.string w' B v' (l ++ m) → w.grownBy w' v.ownBlock → wpList P ops Q rest (a.put o.dst v') w') : wpList P ops Q (o :: rest) a w := by
  have hrun : ∃ v' w', (Builtin.append_ #[T, T] o.type #[v, .slice A n q]).run P w = .ok v' w' ∧ Own.Es Value.string w' B v' (l ++ m) ∧ w.grownBy w' v.ownBlock := by
    subst hn
    cases A with
    | none =>
      obtain ⟨h1, rfl⟩ := hA rfl
      have hm : m = [] := List.eq_nil_of_length_eq_zero h1
      subst hm
      exact ⟨v, w, run_append_nil k o.type hb, by rw [List.append_nil]; exact hb, World.grownBy.refl _ _⟩
    | some ad =>
      obtain ⟨v', w', hr, h1, h2, _⟩ := Own.run_append (P := P) (c := Value.string) k str_one o.type hb hB ad m.length q m rfl (fun j u hu => by
        rw [List.getElem?_map, Option.map_eq_some_iff] at hu
        obtain ⟨y, hy, rfl⟩ := hu
        obtain ⟨hj, rfl⟩ := List.getElem?_eq_some_iff.1 hy
        obtain ⟨g, off, e, _, hc⟩ := hR j hj
        injection e with e
        subst e
        rw [Addr.add_lit]
        exact hc) hlen hmx
      exact ⟨v', w', hr, h1, h2⟩
  obtain ⟨v', w', hr, h1, h2⟩ := hrun
  refine wpList_plain hgd fun K hK => ?_
  unfold Oper.wp execOp
  simp only [ho, resolve, invoke, builtin, Sem.run_bind, Sem.run_pure, Result.andThen_ok, List.map_toArray, List.map_cons, List.map_nil, hs, hx, hr]
  exact hK _ _ (h v' w' h1 h2)
end Tup
end Go.Proofs.YtmkpkmkhnphogaaGreatDoor
