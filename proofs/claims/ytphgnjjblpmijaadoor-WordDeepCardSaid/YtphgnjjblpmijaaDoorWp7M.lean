/-
  Where the first byte is that ends a run: strings.IndexAny at four bytes, whatever the text.
-/
import Derived.Test.YtphgnjjblpmijaaDoorWp2M
import Derived.Laws.Runes
import Derived.Deep.QuietTactic
import Derived.BigRegion
import Derived.IntWalk
import Derived.Deep.LoopGhost
import Derived.Deep.RegionLaw
import Derived.WalkMore
import Derived.ScopeJumps
namespace Go.Proofs.YtphgnjjblpmijaaDoor
open Go.RowKit Tx
namespace Wx

theorem getB_at (s : ByteArray) (i : Nat) (h : i < s.size) : s.get! i = s[i]'h := by
  unfold ByteArray.get!
  exact getElem!_pos s.data i h
theorem of_bound {s : ByteArray} {i : Nat} {p : Bool} (h : (decide (i < s.size) && p) = true) : i < s.size ∧ p = true := by
  rw [Bool.and_eq_true, decide_eq_true_eq] at h; exact h
/-- A character of more than one byte: all its bytes are large. -/
theorem decode_high (s : ByteArray) (k : Nat) (hk : k < s.size) (h : 128 ≤ (s[k]'hk).toNat) :
    128 ≤ (Utf8.decode s k).1 ∧ (Utf8.decode s k).1 ≤ 1114111 ∧ 1 ≤ (Utf8.decode s k).2 ∧ ∀ j, j < (Utf8.decode s k).2 → ∃ hj : k + j < s.size, 128 ≤ (s[k + j]'hj).toNat := by
  have h0 : (s.get! (k + 0)).toNat = (s[k]'hk).toNat := by rw [Nat.add_zero, getB_at s k hk]
  have one : ∀ j, j < 1 → ∃ hj : k + j < s.size, 128 ≤ (s[k + j]'hj).toNat := fun j hj => by
    have : j = 0 := by omega
    subst this
    exact ⟨hk, h⟩
  have cont : ∀ j, (decide (k + j < s.size) && (s.get! (k + j)).toNat / 64 == 2) = true → ∃ hj : k + j < s.size, 128 ≤ (s[k + j]'hj).toNat := fun j hj => by
    obtain ⟨h1, h2⟩ := of_bound hj
    rw [getB_at s _ h1, beq_iff_eq] at h2
    exact ⟨h1, by omega⟩
  unfold Utf8.decode
  simp only [h0]
  rw [if_neg (by omega)]
  split
  · rename_i h1
    rw [Bool.and_eq_true] at h1
    split
    · refine ⟨by omega, by have := (s[k]'hk).toNat_lt; omega, by omega, fun j hj => ?_⟩
      rcases j with _ | _ | j
      · exact ⟨hk, h⟩
      · exact cont 1 h1.2
      · omega
    · exact ⟨by decide, by decide, by decide, one⟩
  · split
    · rename_i _ h1
      rw [Bool.and_eq_true, Bool.and_eq_true] at h1
      split
      · rename_i h2
        rw [Bool.and_eq_true, decide_eq_true_eq] at h2
        have h2 := h2.1
        refine ⟨by omega, by omega, by omega, fun j hj => ?_⟩
        rcases j with _ | _ | _ | j
        · exact ⟨hk, h⟩
        · exact cont 1 h1.1.2
        · exact cont 2 h1.2
        · omega
      · exact ⟨by decide, by decide, by decide, one⟩
    · split
      · rename_i _ _ h1
        rw [Bool.and_eq_true, Bool.and_eq_true, Bool.and_eq_true] at h1
        split
        · rename_i h2
          rw [Bool.and_eq_true, decide_eq_true_eq] at h2
          have h3 := h2.2
          have h2 := h2.1
          refine ⟨by omega, ?_, by omega, fun j hj => ?_⟩
          · simp only [Utf8.valid] at h3
            simp at h3
            omega
          · rcases j with _ | _ | _ | _ | j
            · exact ⟨hk, h⟩
            · exact cont 1 h1.1.1.2
            · exact cont 2 h1.1.2
            · exact cont 3 h1.2
            · omega
        · exact ⟨by decide, by decide, by decide, one⟩
      · exact ⟨by decide, by decide, by decide, one⟩
def marks : ByteArray := ⟨#[92, 39, 34, 36]⟩
theorem mark_at (c : UInt8) : (0 : Int) ≤ Lib.indexByte [92, 39, 34, 36] c ↔ lit c = false := by
  have hl : lit c = false ↔ c = 92 ∨ c = 39 ∨ c = 34 ∨ c = 36 := by
    simp only [lit, Bool.and_eq_false_iff, bne_eq_false_iff_eq]
    constructor
    · rintro (((h | h) | h) | h) <;> simp [h]
    · rintro (h | h | h | h) <;> simp [h]
  rw [hl]
  by_cases h1 : c = 92
  · subst h1; decide
  by_cases h2 : c = 39
  · subst h2; decide
  by_cases h3 : c = 34
  · subst h3; decide
  by_cases h4 : c = 36
  · subst h4; decide
  · have n1 : ((92 : UInt8) == c) = false := by simpa using fun e : (92 : UInt8) = c => h1 e.symm
    have n2 : ((39 : UInt8) == c) = false := by simpa using fun e : (39 : UInt8) = c => h2 e.symm
    have n3 : ((34 : UInt8) == c) = false := by simpa using fun e : (34 : UInt8) = c => h3 e.symm
    have n4 : ((36 : UInt8) == c) = false := by simpa using fun e : (36 : UInt8) = c => h4 e.symm
    simp [Lib.indexByte, n1, n2, n3, n4, h1, h2, h3, h4]
theorem lit_high {c : UInt8} (h : 128 ≤ c.toNat) : lit c = true := by
  simp only [lit, Bool.and_eq_true, bne_iff_ne]
  refine ⟨⟨⟨?_, ?_⟩, ?_⟩, ?_⟩ <;> (rintro rfl; exact absurd h (by decide))
theorem marks_size : marks.size = 4 := rfl
theorem marks_small : ∀ k (h : k < marks.size), (marks[k]'h).toNat < 128 ∧ (marks[k]'h).toNat ≠ 65533 := by
  intro k h
  have hk : k < 4 := h
  have hm : (marks[k]'h) ∈ [(92 : UInt8), 39, 34, 36] := by
    match k, hk with
    | 0, _ => exact List.mem_of_getElem? (i := 0) rfl
    | 1, _ => exact List.mem_of_getElem? (i := 1) rfl
    | 2, _ => exact List.mem_of_getElem? (i := 2) rfl
    | 3, _ => exact List.mem_of_getElem? (i := 3) rfl
  generalize (marks[k]'h) = c at hm
  simp only [List.mem_cons, List.not_mem_nil, or_false] at hm
  rcases hm with rfl | rfl | rfl | rfl <;> decide
theorem marks_none (c : UInt8) (h : 128 ≤ c.toNat) (a : Nat) : Lib.indexByte (toL (marks.extract a marks.size)) c = -1 := by
  have : ∀ l : List UInt8, (∀ b ∈ l, b ≠ c) → Lib.indexByte l c = -1 := by
    intro l
    induction l with
    | nil => intro _; rfl
    | cons b l ih =>
      intro hb
      have h1 : (b == c) = false := by simpa using hb b (by simp)
      unfold Lib.indexByte
      rw [h1, ih fun x hx => hb x (List.mem_cons_of_mem _ hx)]
      rfl
  refine this _ fun b hb e => ?_
  subst e
  rw [toL_extract] at hb
  have hm := List.mem_of_mem_drop (List.mem_of_mem_take hb)
  have : b ∈ [(92 : UInt8), 39, 34, 36] := hm
  simp only [List.mem_cons, List.not_mem_nil, or_false] at this
  rcases this with rfl | rfl | rfl | rfl <;> exact absurd h (by decide)
set_option maxHeartbeats 4000000 in
set_option maxRecDepth 100000 in
theorem idxRune_err (w : World) : Calls Tryd.prog 62 #[.string marks, .int .i32 65533] w fun e w' => e = .returned (.int .i64 (-1)) ∧ Below w.heap.size w w' := by
  go_enter Tryd.func62, Tryd.ntmps62
  go_wp2_with fail
  go_loopw [5, 6] (fun _ _ wr => ∃ k : Nat, k ≤ marks.size ∧ wr = w.iter marks k) (fun _ _ wr => marks.size - wr.iterPos w.heap.size)
  case atStart => exact ⟨0, by omega, rfl⟩
  case round =>
    obtain ⟨k, hk, rfl⟩ := hrel
    by_cases hlt : k < marks.size
    · have hnx := fun ty => run_next_any (P := Tryd.prog) w marks k ty hlt
      obtain ⟨m1, m2⟩ := marks_small k hlt
      rw [decode_ascii marks k hlt m1] at hnx
      obtain ⟨z, hz⟩ : ∃ z, z = (marks[k]'hlt).toNat := ⟨_, rfl⟩
      rw [← hz] at hnx m2
      have m3 : ¬ (z : Int) = 65533 := by omega
      clear hz m1
      go_wp2_with fail
      go_roundw
      case rel => exact ⟨k + 1, by omega, rfl⟩
      case measure => simp; omega
    · have hnx := fun ty => run_next_end (P := Tryd.prog) w marks k ty hlt
      clear hlt
      go_wp2_with fail
      go_ret
      exact ⟨rfl, iter_below w marks _⟩
set_option maxHeartbeats 4000000 in
set_option maxRecDepth 100000 in
theorem idxRune_high (z : Nat) (hz : 128 ≤ z) (hz2 : z ≤ 1114111) (w : World) : Calls Tryd.prog 62 #[.string marks, .int .i32 (z : Int)] w fun e w' => e = .returned (.int .i64 (-1)) ∧ Below w.heap.size w w' := by
  by_cases he : z = 65533
  · subst he
    exact idxRune_err w
  · have z1 : (0 : Int) ≤ (z : Int) := by omega
    have z2 : ¬ (z : Int) < 128 := by omega
    have z3 : ¬ (z : Int) = 65533 := by omega
    cases hv : Lib.validRune (z : Int) with
    | false =>
      have HV : Kept (∀ W : World, Calls Tryd.prog 83 #[.int .i32 (z : Int)] W fun e w' => e = .returned (.bool false) ∧ w' = W) := ⟨fun W => by
        have := Tryd.utf8_ValidRune (z : Int) W
        rwa [hv] at this⟩
      clear hv he
      go_enter Tryd.func62, Tryd.ntmps62
      go_wp2_with (go_at_call 83; refine (HV.out _).mono ?_; rintro e w1 ⟨rfl, rfl⟩)
      go_ret
      exact ⟨rfl, Below.refl _ _⟩
    | true =>
      have HV : Kept (∀ W : World, Calls Tryd.prog 83 #[.int .i32 (z : Int)] W fun e w' => e = .returned (.bool true) ∧ w' = W) := ⟨fun W => by
        have := Tryd.utf8_ValidRune (z : Int) W
        rwa [hv] at this⟩
      have hvu : Utf8.valid (z : Int) = true := by
        simp only [Utf8.valid]
        simp only [Lib.validRune] at hv
        simp at hv ⊢
        omega
      obtain ⟨e1, e2, e3⟩ := encode_facts (z : Int) hvu (by omega)
      obtain ⟨X, hX⟩ : ∃ X, X = Utf8.encode (z : Int) := ⟨_, rfl⟩
      have hcv : ∀ W : World, (convert 21 9 (.int .i32 (z : Int))).run Tryd.prog W = .ok (.string X) W := fun W => by
        rw [hX]; exact run_convert_int_string W _ _ _ _ (by rw [Tryd.underlying21]; rfl) Tryd.underlying9
      rw [← hX] at e1 e2 e3
      obtain ⟨m, hm⟩ : ∃ m, X.size = m + 1 := ⟨X.size - 1, by omega⟩
      have hml : m < X.size := by omega
      have hbig : 128 ≤ (X[m]'hml).toNat := by
        have := e3 (by omega)
        simpa [hm] using this
      have hm4 : m < marks.size := by rw [marks_size]; omega
      have hne : ¬ ((marks[m]'hm4).toNat : Int) = ((X[m]'hml).toNat : Int) := by have := (marks_small m hm4).1; omega
      obtain ⟨Y, hY⟩ : ∃ Y, Y = marks.extract (m + 1) marks.size := ⟨_, rfl⟩
      have hsl : ∀ W : World, (Instr.slice 9 (.string marks) (some (.int .i64 ((m : Int) + 1))) none none).run Tryd.prog W = .ok (.string Y) W := fun W => by
        rw [run_slice_string_from_if W 9 marks .i64 _ Tryd.underlying9, if_pos ⟨by omega, by omega⟩, hY, show ((m : Int) + 1).toNat = m + 1 by omega]
      have HI : Kept (∀ W : World, Calls Tryd.prog 82 #[.string Y, .int .u8 ((X[m]'hml).toNat : Int)] W fun e w' => e = .returned (.int .i64 (-1)) ∧ w' = W) := ⟨fun W => by
        refine (Tryd.strings_IndexByte Y _ W).mono ?_
        rintro e w' ⟨rfl, rfl⟩
        refine ⟨?_, rfl⟩
        rw [show (((X[m]'hml).toNat : Nat) : Int).toNat.toUInt8 = X[m]'hml by rw [Int.toNat_natCast]; simp]
        have := marks_none (X[m]'hml) hbig (m + 1)
        rw [← hY] at this
        exact congrArg (fun z => Ending.returned (Value.int .i64 z)) this⟩
      have hxs : (X.size : Int) = (m : Int) + 1 := by omega
      have m0 : (0 : Int) ≤ (m : Int) := by omega
      have m3 : (m : Int) < 4 := by have := hm4; rw [marks_size] at this; omega
      have m4 : (m : Int) < (m : Int) + 1 := by omega
      have m5 : IntKind.i64.wrap ((m : Int) + 1) = (m : Int) + 1 := IntWalk.i64_in _ (by omega)
      clear hv he hvu e1 e2 e3 hX hY hbig hm
      go_enter Tryd.func62, Tryd.ntmps62
      go_wp2_with (go_at_call 83; refine (HV.out _).mono ?_; rintro e w1 ⟨rfl, rfl⟩)
      go_step3
      go_wp2_with fail
      go_loopg [9, 11, 10] 1 (fun n sv _ _ wr => n = 1 ∧ sv = .int .i64 (m : Int) ∧ wr = w1)
      case atStart => exact ⟨rfl, rfl, rfl⟩
      case round =>
        obtain ⟨_, rfl, rfl⟩ := hrel
        go_wp2_with fail
        go_step3
        go_wp2_with fail
        go_region
        go_wp2_with fail
        go_region_law (first
          | (go_simp; go_at_call 82; refine (HI.out _).mono ?_; rintro e w2 ⟨rfl, rfl⟩)
          | go_simp)
        all_goals
          go_wp2_with fail
          rw [Exit.noGoto_ret]
          go_wp2_with fail
          rw [Exit.noGoto_ret]
          go_wp2_with fail
          go_ret
          exact ⟨rfl, (Below.refl _ _).drew.drew⟩
end Wx
end Go.Proofs.YtphgnjjblpmijaaDoor
