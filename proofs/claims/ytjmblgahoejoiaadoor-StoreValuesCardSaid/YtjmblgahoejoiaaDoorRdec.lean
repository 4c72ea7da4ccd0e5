/-
  The document's side: Decode.
-/
import Derived.Test.YtjmblgahoejoiaaDoorNum
import Derived.Test.YtjmblgahoejoiaaDoorDec
namespace Go.Proofs.YtjmblgahoejoiaaDoor
open Go.RowKit Net
namespace Tup

/-- What the search for the colon knows. -/
structure Col (t : ByteArray) (c : Nat) : Prop where
  is : colon (toL t) = c
  le : c ≤ t.size
  before : ∀ q (h : q < t.size), q < c → (((t[q]'h).toNat : Int) != 58) = true
  here : ∀ h : c < t.size, (((t[c]'h).toNat : Int) != 58) = false
theorem col_of (t : ByteArray) : Col t (colon (toL t)) := by
  have hle : colon (toL t) ≤ t.size := by have := colon_le (toL t); rw [toL_length] at this; exact this
  refine ⟨rfl, hle, fun q h hq => bne_iff_ne.2 fun he => before_colon hq ?_, fun h => ?_⟩
  · rw [List.getElem?_eq_getElem (by rw [toL_length]; exact h), at_toL t q h]
    congr 1
    exact UInt8.toNat_inj.1 (show _ = 58 by omega)
  · have h1 := colon_at (s := toL t) (by rw [toL_length]; exact h)
    rw [List.getElem?_eq_getElem (by rw [toL_length]; exact h), at_toL t _ h] at h1
    injection h1 with h1
    rw [h1]
    rfl

/-- Why a round ends, or what it finds. -/
inductive Round (t : ByteArray) (c : Nat) : Prop
  | noNum (h : num ((toL t).take c) = none)
  | short (m : Nat) (h : num ((toL t).take c) = some m) (hs : t.size < m + c + 2)
  | noComma (m : Nat) (h : num ((toL t).take c) = some m) (hs : m + c + 2 ≤ t.size) (h44 : (((t[m + c + 1]'(by omega)).toNat : Int) != 44) = true)
  | good (m : Nat) (h : num ((toL t).take c) = some m) (hs : m + c + 2 ≤ t.size) (h44 : (((t[m + c + 1]'(by omega)).toNat : Int) != 44) = false)
theorem round_of (t : ByteArray) (c : Nat) : Round t c := by
  cases h : num ((toL t).take c) with
  | none => exact .noNum h
  | some m =>
    by_cases hs : t.size < m + c + 2
    · exact .short m h hs
    · have hs2 : m + c + 2 ≤ t.size := by omega
      cases hb : (((t[m + c + 1]'(by omega)).toNat : Int) != 44) with
      | true => exact .noComma m h hs2 hb
      | false => exact .good m h hs2 hb
theorem cut_short2 {t : ByteArray} {c m : Nat} (hc : colon (toL t) = c) (h : num ((toL t).take c) = some m) (hs : t.size < m + c + 2) : cut (toL t) = none := by
  subst hc
  unfold cut
  rw [h]
  simp only []
  rw [if_pos (.inl (by rw [toL_length]; exact hs))]
theorem at44 {t : ByteArray} {i : Nat} (h : i < t.size) (b : Bool) (h44 : (((t[i]'h).toNat : Int) != 44) = b) : (toL t)[i]? = some 44 ↔ b = false := by
  rw [List.getElem?_eq_getElem (by rw [toL_length]; exact h), at_toL t i h]
  subst h44
  rw [bne_eq_false_iff_eq]
  constructor
  · intro e
    injection e with e
    rw [e]
    rfl
  · intro e
    congr 1
    exact UInt8.toNat_inj.1 (show _ = 44 by omega)
theorem cut_bad2 {t : ByteArray} {c m : Nat} (hc : colon (toL t) = c) (h : num ((toL t).take c) = some m) (hs : m + c + 2 ≤ t.size) (h44 : (((t[m + c + 1]'(by omega)).toNat : Int) != 44) = true) : cut (toL t) = none := by
  subst hc
  unfold cut
  rw [h]
  simp only []
  rw [if_pos (.inr (fun e => by have := (at44 (by omega) true h44).1 e; cases this))]
theorem cut_good2 {t : ByteArray} {c m : Nat} (hc : colon (toL t) = c) (h : num ((toL t).take c) = some m) (hs : m + c + 2 ≤ t.size) (h44 : (((t[m + c + 1]'(by omega)).toNat : Int) != 44) = false) :
    cut (toL t) = some (toL (t.extract (c + 1) (m + c + 1)), toL (t.extract (m + c + 2) t.size)) := by
  subst hc
  unfold cut
  rw [h]
  simp only []
  rw [if_neg (by
    rintro (h1 | h1)
    · rw [toL_length] at h1; omega
    · exact h1 ((at44 (by omega) false h44).2 rfl)), toL_extract, toL_from, show m + colon (toL t) + 1 - (colon (toL t) + 1) = m by omega]

theorem number_is (a : ByteArray) (w : World) (ha : a.size ≤ 9223372036854775807) (l : List UInt8) (v : Int) (h : toL a = l) (hv : numI l = v) :
    Calls Tryd.prog 27 #[.string a] w fun e w' => e = .returned (.int .i64 v) ∧ w' = w :=
  (number_any a w ha).mono fun e w' ⟨x, he, hw, hx⟩ => ⟨by rw [he, hx.out, h, hv], hw⟩

set_option maxHeartbeats 2000000 in
set_option maxRecDepth 100000 in
theorem refDec_any (s : ByteArray) (w : World) (hs : s.size ≤ 4000000000) :
    Calls Tryd.prog 26 #[.string s] w fun e w' => ∃ v k, e = .returned (.tuple #[v, .int .i64 k]) ∧ Below w.heap.size w w' ∧ Kept (DecIs s w w' v k) := by
  have HS := Kept.mk hs
  clear hs
  go_enter Tryd.func26, Tryd.ntmps26
  go_wp2
  go_loopw [0, 4] (fun r v wr => ∃ (t : ByteArray) (l : List ByteArray), r = .string t ∧ Kept (DecIn w wr s t v l)) (fun r _ _ => match r with | .string t => t.size | _ => 0)
  case atStart => exact ⟨s, [], rfl, ⟨⟨Below.refl _ _, Own.Es.nil _ _ _, Left.start _⟩⟩⟩
  case round =>
    obtain ⟨t, l, rfl, hD⟩ := hrel
    by_cases ht : t.size = 0
    · have HT : Kept (dec (toL s) = some (l.map toL)) := ⟨by
        have := hD.out.left
        rw [List.eq_nil_of_length_eq_zero (l := toL t) (by rw [toL_length]; exact ht)] at this
        exact this.done⟩
      go_wp2
      go_ret2
      exact ⟨_, 0, rfl, hD.out.below, ⟨.inr ⟨l, HT.out, hD.out.es, rfl⟩⟩⟩
    · have hp : (0 : Int) < t.size := by omega
      have HT : Kept (toL t ≠ []) := ⟨fun e => ht (by rw [← toL_length, e]; rfl)⟩
      have hts : t.size ≤ 4000000000 := by have := hD.out.few.1; have := HS.out; omega
      clear ht
      obtain ⟨c, HC⟩ : ∃ c, Kept (Col t c) := ⟨_, ⟨col_of t⟩⟩
      have hcl := HC.out.le
      have hto : ∀ W : World, (Instr.slice 9 (.string t) none (some (.int .i64 (c : Int))) none).run Tryd.prog W = .ok (.string (t.extract 0 c)) W := fun W => by
        rw [run_slice_string_to_if W 9 t .i64 _ Tryd.underlying9, if_pos ⟨by omega, by omega⟩, show ((c : Nat) : Int).toNat = c by omega]
      have hx : (t.extract 0 c).size ≤ 9223372036854775807 := by rw [ByteArray.size_extract]; omega
      rcases round_of t c with h | ⟨m, h, hsm⟩ | ⟨m, h, hsm, h44⟩ | ⟨m, h, hsm, h44⟩
      · have HN : Kept (∀ w, Calls Tryd.prog 27 #[.string (t.extract 0 c)] w fun e w' => e = .returned (.int .i64 (-1)) ∧ w' = w) := ⟨fun w => number_is _ w hx _ _ (toL_to t c) (by unfold numI; rw [h])⟩
        have HF : Kept (cut (toL t) = none) := ⟨cut_num_none (by rw [HC.out.is]; exact h)⟩
        clear h hx
        go_wp2
        go_loop [5] (fun i => ∃ q : Nat, q ≤ c ∧ i = .int .i64 q) (fun i => c - (intOf i).toNat)
        case atStart => exact ⟨0, by omega, rfl⟩
        case round =>
          obtain ⟨q, hq, rfl⟩ := hrel
          by_cases hqc : q < c
          · have hqt : q < t.size := by omega
            have h58 := HC.out.before q hqt hqc
            have z0 : (q : Int) < t.size := by omega
            clear hto
            go_wp2
            go_round
            case rel => exact ⟨q + 1, by omega, by go_num⟩
            case measure => simp [intOf]; omega
          · obtain rfl : q = c := by omega
            clear hqc hq
            have hex : (∃ h : q < t.size, (q : Int) < t.size ∧ (((t[q]'h).toNat : Int) != 58) = false) ∨ ¬ q < t.size := by
              by_cases h : q < t.size
              · exact .inl ⟨h, by omega, HC.out.here h⟩
              · exact .inr h
            rcases hex with ⟨hqt, z0, h58⟩ | z0
            · go_wp2_with (go_at_call 27; refine (HN.out _).mono ?_; rintro e w1 ⟨rfl, rfl⟩)
              go_ret2
              exact ⟨_, 20, rfl, hD.out.below, ⟨.inl ⟨hD.out.left.bad HT.out HF.out, rfl, rfl⟩⟩⟩
            · go_wp2_with (go_at_call 27; refine (HN.out _).mono ?_; rintro e w1 ⟨rfl, rfl⟩)
              go_ret2
              exact ⟨_, 20, rfl, hD.out.below, ⟨.inl ⟨hD.out.left.bad HT.out HF.out, rfl, rfl⟩⟩⟩
      · have HN : Kept (∀ w, Calls Tryd.prog 27 #[.string (t.extract 0 c)] w fun e w' => e = .returned (.int .i64 m) ∧ w' = w) := ⟨fun w => number_is _ w hx _ _ (toL_to t c) (by unfold numI; rw [h])⟩
        have HF : Kept (cut (toL t) = none) := ⟨cut_short2 HC.out.is h hsm⟩
        have hm9 := (num_some h).2.1
        have hmp : ¬ (m : Int) < 0 := by omega
        have hz : (t.size : Int) < m + c + 2 := by omega
        clear h hx hsm
        go_wp2
        go_loop [5] (fun i => ∃ q : Nat, q ≤ c ∧ i = .int .i64 q) (fun i => c - (intOf i).toNat)
        case atStart => exact ⟨0, by omega, rfl⟩
        case round =>
          obtain ⟨q, hq, rfl⟩ := hrel
          by_cases hqc : q < c
          · have hqt : q < t.size := by omega
            have h58 := HC.out.before q hqt hqc
            have z0 : (q : Int) < t.size := by omega
            clear hto
            go_wp2
            go_round
            case rel => exact ⟨q + 1, by omega, by go_num⟩
            case measure => simp [intOf]; omega
          · obtain rfl : q = c := by omega
            clear hqc hq
            have hex : (∃ h : q < t.size, (q : Int) < t.size ∧ (((t[q]'h).toNat : Int) != 58) = false) ∨ ¬ q < t.size := by
              by_cases h : q < t.size
              · exact .inl ⟨h, by omega, HC.out.here h⟩
              · exact .inr h
            rcases hex with ⟨hqt, z0, h58⟩ | z0
            · go_wp2_with (go_at_call 27; refine (HN.out _).mono ?_; rintro e w1 ⟨rfl, rfl⟩)
              go_ret2
              exact ⟨_, 20, rfl, hD.out.below, ⟨.inl ⟨hD.out.left.bad HT.out HF.out, rfl, rfl⟩⟩⟩
            · go_wp2_with (go_at_call 27; refine (HN.out _).mono ?_; rintro e w1 ⟨rfl, rfl⟩)
              go_ret2
              exact ⟨_, 20, rfl, hD.out.below, ⟨.inl ⟨hD.out.left.bad HT.out HF.out, rfl, rfl⟩⟩⟩
      · have HN : Kept (∀ w, Calls Tryd.prog 27 #[.string (t.extract 0 c)] w fun e w' => e = .returned (.int .i64 m) ∧ w' = w) := ⟨fun w => number_is _ w hx _ _ (toL_to t c) (by unfold numI; rw [h])⟩
        have HF : Kept (cut (toL t) = none) := ⟨cut_bad2 HC.out.is h hsm h44⟩
        have hm9 := (num_some h).2.1
        have hmp : ¬ (m : Int) < 0 := by omega
        have hz : ¬ (t.size : Int) < m + c + 2 := by omega
        have hz2 : (m : Int) + c + 1 < t.size := by omega
        have hz3 : (0 : Int) ≤ (m : Int) + c + 1 := by omega
        have hzt : ((m : Int) + c + 1).toNat = m + c + 1 := by omega
        clear h hx
        go_wp2
        go_loop [5] (fun i => ∃ q : Nat, q ≤ c ∧ i = .int .i64 q) (fun i => c - (intOf i).toNat)
        case atStart => exact ⟨0, by omega, rfl⟩
        case round =>
          obtain ⟨q, hq, rfl⟩ := hrel
          by_cases hqc : q < c
          · have hqt : q < t.size := by omega
            have h58 := HC.out.before q hqt hqc
            have z0 : (q : Int) < t.size := by omega
            clear hto
            go_wp2
            go_round
            case rel => exact ⟨q + 1, by omega, by go_num⟩
            case measure => simp [intOf]; omega
          · obtain rfl : q = c := by omega
            clear hqc hq
            have hqt : q < t.size := by omega
            have z0 : (q : Int) < t.size := by omega
            have h58 := HC.out.here hqt
            go_wp2_with (go_at_call 27; refine (HN.out _).mono ?_; rintro e w1 ⟨rfl, rfl⟩)
            go_ret2
            exact ⟨_, 20, rfl, hD.out.below, ⟨.inl ⟨hD.out.left.bad HT.out HF.out, rfl, rfl⟩⟩⟩
      · have HN : Kept (∀ w, Calls Tryd.prog 27 #[.string (t.extract 0 c)] w fun e w' => e = .returned (.int .i64 m) ∧ w' = w) := ⟨fun w => number_is _ w hx _ _ (toL_to t c) (by unfold numI; rw [h])⟩
        have HF : Kept (cut (toL t) = some (toL (t.extract (c + 1) (m + c + 1)), toL (t.extract (m + c + 2) t.size))) := ⟨cut_good2 HC.out.is h hsm h44⟩
        have hm9 := (num_some h).2.1
        have hmp : ¬ (m : Int) < 0 := by omega
        have hz : ¬ (t.size : Int) < m + c + 2 := by omega
        have hz2 : (m : Int) + c + 1 < t.size := by omega
        have hz3 : (0 : Int) ≤ (m : Int) + c + 1 := by omega
        have hzt : ((m : Int) + c + 1).toNat = m + c + 1 := by omega
        have hsl : ∀ W : World, (Instr.slice 9 (.string t) (some (.int .i64 ((c : Int) + 1))) (some (.int .i64 ((m : Int) + c + 1))) none).run Tryd.prog W = .ok (.string (t.extract (c + 1) (m + c + 1))) W := fun W => by
          rw [run_slice_string W 9 t .i64 .i64 _ _ Tryd.underlying9 (by omega) (by omega) (by omega), hzt, show ((c : Int) + 1).toNat = c + 1 by omega]
        have hfr : ∀ W : World, (Instr.slice 9 (.string t) (some (.int .i64 ((m : Int) + c + 2))) none none).run Tryd.prog W = .ok (.string (t.extract (m + c + 2) t.size)) W := fun W => by
          rw [run_slice_string_from_if W 9 t .i64 _ Tryd.underlying9, if_pos ⟨by omega, by omega⟩, show ((m : Int) + c + 2).toNat = m + c + 2 by omega]
        have HM : Kept ((t.extract (m + c + 2) t.size).size < t.size) := ⟨by rw [ByteArray.size_extract]; omega⟩
        clear h hx
        go_wp2
        go_loop [5] (fun i => ∃ q : Nat, q ≤ c ∧ i = .int .i64 q) (fun i => c - (intOf i).toNat)
        case atStart => exact ⟨0, by omega, rfl⟩
        case round =>
          obtain ⟨q, hq, rfl⟩ := hrel
          by_cases hqc : q < c
          · have hqt : q < t.size := by omega
            have h58 := HC.out.before q hqt hqc
            have z0 : (q : Int) < t.size := by omega
            clear hto
            go_wp2
            go_round
            case rel => exact ⟨q + 1, by omega, by go_num⟩
            case measure => simp [intOf]; omega
          · obtain rfl : q = c := by omega
            clear hqc hq
            have hqt : q < t.size := by omega
            have z0 : (q : Int) < t.size := by omega
            have h58 := HC.out.here hqt
            go_wp2_with (first
              | (go_at_call 27; refine (HN.out _).mono ?_; rintro e w1 ⟨rfl, rfl⟩)
              | (refine Own.wpList_append1 strTy str_one rfl _ _ rfl rfl hD.out.es hD.out.below.size (t.extract (q + 1) (m + q + 1)) _ rfl rfl (by have := hD.out.few; have := HS.out; omega) (by have := hD.out.few; have := HS.out; unfold maxLen; omega) ?_; intro v2 w2 hE2 hg2 _))
            have HD2 := Kept.mk (hD.out.push HT.out HF.out hE2 hg2)
            clear hE2 hg2
            go_wp2
            go_roundw
            case rel => exact ⟨_, l ++ [t.extract (q + 1) (m + q + 1)], rfl, HD2⟩
            case measure => exact HM.out
end Tup
end Go.Proofs.YtjmblgahoejoiaaDoor
