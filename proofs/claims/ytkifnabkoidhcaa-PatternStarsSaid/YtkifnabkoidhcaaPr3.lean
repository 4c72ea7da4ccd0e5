/-
  The document's patterns: does a pattern match; what is removed.
-/
import Derived.Test.YtkifnabkoidhcaaPr2
import Derived.Laws.Slices
import Derived.Laws.Small
import Derived.Laws.Unary
import Derived.Deep.LoopGhost
import Derived.BigQuiet
import Derived.Deep.QuietTactic
namespace Go.Proofs.Ytkifnabkoidhcaa
open Go.RowKit Tx
namespace Pm

theorem str_from {s : ByteArray} {k : Nat} (hk : k ≤ s.size) (_hs : s.size ≤ 20000) (W : World) : (Instr.slice 9 (.string s) (some (.int .i64 (k : Int))) none none).run Try.prog W = .ok (.string (s.extract k s.size)) W := by
  rw [run_slice_string_from_if W 9 s .i64 _ Try.underlying9, if_pos ⟨by omega, by omega⟩, Int.toNat_natCast]
theorem str_to {s : ByteArray} {k : Nat} (hk : k ≤ s.size) (W : World) : (Instr.slice 9 (.string s) none (some (.int .i64 (k : Int))) none).run Try.prog W = .ok (.string (s.extract 0 k)) W := by
  rw [run_slice_string_to_if W 9 s .i64 _ Try.underlying9, if_pos ⟨by omega, by omega⟩, Int.toNat_natCast]
theorem toL_rest (s : ByteArray) (k : Nat) : toL (s.extract k s.size) = (toL s).drop k := by rw [toL_extract, List.take_of_length_le (by rw [List.length_drop, toL_length]; omega)]
theorem toL_to (s : ByteArray) (m : Nat) : toL (s.extract 0 m) = (toL s).take m := by rw [toL_extract, List.drop_zero, Nat.sub_zero]
theorem size_rest (s : ByteArray) (k : Nat) : (s.extract k s.size).size = s.size - k := by rw [ByteArray.size_extract]; omega
theorem size_to (s : ByteArray) (m : Nat) (h : m ≤ s.size) : (s.extract 0 m).size = m := by rw [ByteArray.size_extract]; omega
theorem empty_of {s : ByteArray} (h : s.size = 0) : s = ⟨#[]⟩ := by
  obtain ⟨d⟩ := s
  have : d.size = 0 := h
  rw [Array.eq_empty_of_size_eq_zero this]
theorem not_empty {s : ByteArray} (h : 0 < s.size) : (s.toList == ([] : List UInt8)) = false := by
  have e : (⟨#[]⟩ : ByteArray).toList = [] := by decide +kernel
  rw [← e, beq_str, decide_eq_false]
  intro h2
  rw [h2] at h
  exact absurd h (by decide)
/-- The same world, but for draws. -/
def Qt (w w' : World) : Prop := ∃ n, w' = w.drewN n
theorem Qt.refl (w : World) : Qt w w := ⟨0, rfl⟩
theorem Qt.trans {a b c : World} (h : Qt a b) (k : Qt b c) : Qt a c := by
  obtain ⟨n, rfl⟩ := h
  obtain ⟨m, rfl⟩ := k
  exact ⟨n + m, by rw [World.drewN_drewN]⟩
theorem Qt.on {a b : World} (h : Qt a b) (n : Nat) : Qt a (b.drewN n) := h.trans ⟨n, rfl⟩
theorem Qt.below {w w' : World} (k : Qt w w') : Below w.heap.size w w' := by obtain ⟨n, rfl⟩ := k; exact below_drewN (Below.refl _ _) n
def MatC (n : Nat) : Prop := ∀ (p s : ByteArray) (w : World) (b : Bool), p.size ≤ n → p.size ≤ 1000 → s.size ≤ 1000 → Kept (b = mat (toL p) (toL s)) →
  Calls Try.prog 14 #[.string p, .string s] w fun e w' => e = .returned (.bool b) ∧ Qt w w'
theorem isEmpty_of (s : ByteArray) : (toL s).isEmpty = decide (s.size = 0) := by
  rw [← toL_length]
  cases toL s <;> simp
set_option maxHeartbeats 1000000 in
set_option maxRecDepth 100000 in
theorem mat_zero : MatC 0 := by
  intro p s w b hp _ hs HB
  obtain rfl := empty_of (s := p) (by omega)
  have hb : b = decide (s.size = 0) := by rw [HB.out]; show mat [] (toL s) = _; rw [mat_nil, isEmpty_of]
  clear HB hp
  by_cases h0 : s.size = 0
  · obtain rfl := empty_of h0
    obtain rfl : b = true := by rw [hb]; rfl
    clear hb h0
    go_enter Try.func14, Try.ntmps14
    go_wp2_with fail
    go_ret
    exact ⟨rfl, Qt.refl _⟩
  · have hne := not_empty (s := s) (by omega)
    obtain rfl : b = false := by rw [hb, decide_eq_false h0]
    clear hb h0
    go_enter Try.func14, Try.ntmps14
    go_wp2_with fail
    go_ret
    exact ⟨rfl, Qt.refl _⟩
set_option maxHeartbeats 4000000 in
set_option maxRecDepth 100000 in
theorem mat_next (n : Nat) (HM : Kept (MatC n)) : MatC (n + 1) := by
  intro p s w b hp hp1 hs HB
  by_cases h0 : p.size = 0
  · obtain rfl := empty_of h0
    exact mat_zero _ s w b (by decide) (by decide) hs HB
  have h1 : 0 < p.size := by omega
  have hpe := not_empty h1
  have hd := drop_at h1
  rw [List.drop_zero] at hd
  obtain ⟨x, hx⟩ : ∃ x, x = p[0]'h1 := ⟨_, rfl⟩
  obtain ⟨r, hr⟩ : ∃ r, r = (toL p).drop 1 := ⟨_, rfl⟩
  rw [← hx, ← hr] at hd
  rw [hd] at HB
  by_cases h42 : x = 42
  · subst h42
    have z42 : ((p[0]'h1).toNat : Int) = 42 := by rw [← hx]; rfl
    obtain ⟨P, hP⟩ : ∃ P, P = p.extract 1 p.size := ⟨_, rfl⟩
    have hPl : toL P = r := by rw [hP, toL_rest, hr]
    have hPz : P.size ≤ n := by rw [hP, size_rest]; omega
    have hPs : ∀ W : World, (Instr.slice 9 (.string p) (some (.int .i64 1)) none none).run Try.prog W = .ok (.string P) W := fun W => by rw [hP]; exact str_from (k := 1) h1 (by omega) W
    have HPP : Kept (toL P = r ∧ P.size ≤ n ∧ P.size ≤ 1000) := ⟨hPl, hPz, by rw [hP, size_rest]; omega⟩
    rw [mat_star] at HB
    clear hd hx hr hP hPl hPz h0 hp hp1
    go_enter Try.func14, Try.ntmps14
    go_wp2_with fail
    go_loopg [5] (s.size + 1) (fun m iv wr => ∃ j : Nat, iv = .int .i64 (j : Int) ∧ j ≤ s.size + 1 ∧ s.size + 1 - j ≤ m ∧ Kept (∀ k, k < j → mat r ((toL s).drop k) = false) ∧ Kept (Qt w wr))
    case atStart => exact ⟨0, rfl, by omega, by omega, ⟨fun k hk => by omega⟩, ⟨Qt.refl _⟩⟩
    case round =>
      obtain ⟨j, rfl, hj, hjm, HF, HQ⟩ := hrel
      by_cases hlt : j ≤ s.size
      · have hl2 : (j : Int) ≤ (s.size : Int) := by omega
        have hj5 : (j : Int) ≤ 1000 := by omega
        obtain ⟨S, hS⟩ : ∃ S, S = s.extract j s.size := ⟨_, rfl⟩
        have hSl : toL S = (toL s).drop j := by rw [hS, toL_rest]
        have hSs : ∀ W : World, (Instr.slice 9 (.string s) (some (.int .i64 (j : Int))) none none).run Try.prog W = .ok (.string S) W := fun W => by rw [hS]; exact str_from hlt (by omega) W
        have hSz : S.size ≤ 1000 := by rw [hS, size_rest]; omega
        obtain ⟨b', hb'⟩ : ∃ b', b' = mat (toL P) (toL S) := ⟨_, rfl⟩
        have HC : Kept (∀ W : World, Calls Try.prog 14 #[.string P, .string S] W fun e w' => e = .returned (.bool b') ∧ ∃ n, w' = W.drewN n) := ⟨fun W => HM.out P S W b' HPP.out.2.1 HPP.out.2.2 hSz ⟨hb'⟩⟩
        rw [HPP.out.1, hSl] at hb'
        cases hbb : b' with
        | true =>
          have HR : Kept (b = true) := ⟨by
            rw [HB.out, List.any_eq_true]
            exact ⟨j, by rw [List.mem_range, toL_length]; omega, by rw [← hb', hbb]⟩⟩
          rw [hbb] at HC
          clear hb' hbb hS hSl hSz HF
          go_wp2_with fail
          go_quiet (first | (go_at_call 14; exact Calls.quiet_of (HC.out _)))
          go_wp2_with fail
          go_ret
          exact ⟨by rw [HR.out]; rfl, HQ.out.on _⟩
        | false =>
          have HF2 : Kept (∀ k, k < j + 1 → mat r ((toL s).drop k) = false) := ⟨fun k hk => by
            by_cases h : k < j
            · exact HF.out k h
            · obtain rfl : k = j := by omega
              rw [← hb', hbb]⟩
          rw [hbb] at HC
          clear hb' hbb hS hSl hSz HF
          go_wp2_with fail
          go_quiet (first | (go_at_call 14; exact Calls.quiet_of (HC.out _)))
          go_wp2_with fail
          go_roundg (s.size + 1 - (j + 1))
          case measure => omega
          case rel => exact ⟨j + 1, by go_num, by omega, Nat.le_refl _, HF2, ⟨HQ.out.on _⟩⟩
      · have HR : Kept (b = false) := ⟨by
          rw [HB.out, List.any_eq_false]
          intro k hk
          rw [List.mem_range, toL_length] at hk
          rw [HF.out k (by omega)]; simp⟩
        have hl2 : ¬ (j : Int) ≤ (s.size : Int) := by omega
        clear hlt HF
        go_wp2_with fail
        go_ret
        exact ⟨by rw [HR.out]; rfl, HQ.out⟩
  · have z42 : ¬ ((p[0]'h1).toNat : Int) = 42 := by rw [← hx]; exact toNat_ne (b := 42) h42
    by_cases hs0 : s.size = 0
    · obtain rfl := empty_of hs0
      obtain rfl : b = false := by rw [HB.out]; exact mat_none h42 r
      clear hd hx hr h0 hp hp1 hs0 HB
      go_enter Try.func14, Try.ntmps14
      go_wp2_with fail
      go_ret
      exact ⟨rfl, Qt.refl _⟩
    · have hs1 : 0 < s.size := by omega
      have hse := not_empty hs1
      have hds := drop_at hs1
      rw [List.drop_zero] at hds
      rw [hds, mat_one h42] at HB
      have HO := one_any p w (s[0]'hs1) h1 hp1 x r ⟨hd⟩ _ ⟨rfl⟩ _ ⟨rfl⟩
      have hsuf := (elem_suf x r).trans (List.suffix_cons x r)
      have hle := (elem_suf x r).length_le
      have hrl : r.length = p.size - 1 := by rw [hr, List.length_drop, toL_length]
      have hsd := suf_drop hsuf
      rw [← hd, toL_length] at hsd
      obtain ⟨k, hk⟩ : ∃ k, k = p.size - (elem x r).2.length := ⟨_, rfl⟩
      rw [← hk] at HO hsd
      have hk1 : 1 ≤ k ∧ k ≤ p.size := by omega
      obtain ⟨P, hP⟩ : ∃ P, P = p.extract k p.size := ⟨_, rfl⟩
      have hPl : toL P = (elem x r).2 := by rw [hP, toL_rest, ← hsd]
      have hPs : ∀ W : World, (Instr.slice 9 (.string p) (some (.int .i64 (k : Int))) none none).run Try.prog W = .ok (.string P) W := fun W => by rw [hP]; exact str_from hk1.2 (by omega) W
      have hPz : P.size ≤ n ∧ P.size ≤ 1000 := by rw [hP, size_rest]; omega
      obtain ⟨S, hS⟩ : ∃ S, S = s.extract 1 s.size := ⟨_, rfl⟩
      have hSl : toL S = (toL s).drop 1 := by rw [hS, toL_rest]
      have hSs : ∀ W : World, (Instr.slice 9 (.string s) (some (.int .i64 1)) none none).run Try.prog W = .ok (.string S) W := fun W => by rw [hS]; exact str_from (k := 1) hs1 (by omega) W
      have hSz : S.size ≤ 1000 := by rw [hS, size_rest]; omega
      have HC : ∀ W : World, Calls Try.prog 14 #[.string P, .string S] W fun e w' => e = .returned (.bool (mat (elem x r).2 ((toL s).drop 1))) ∧ ∃ n, w' = W.drewN n := fun W => HM.out P S W (mat (elem x r).2 ((toL s).drop 1)) hPz.1 hPz.2 hSz ⟨by rw [hPl, hSl]⟩
      obtain ⟨o, ho⟩ : ∃ o, o = (elem x r).1 (s[0]'hs1) := ⟨_, rfl⟩
      obtain ⟨m, hm⟩ : ∃ m, m = mat (elem x r).2 ((toL s).drop 1) := ⟨_, rfl⟩
      rw [← ho] at HO HB
      rw [← hm] at HC HB
      have HO := Kept.mk HO
      have HC := Kept.mk HC
      clear hd hx hr h0 hp hp1 hds hsuf hle hrl hsd hk hP hPl hPz hS hSl hSz ho hm hs0
      cases o with
      | false =>
        obtain rfl : b = false := by rw [HB.out]; rfl
        go_enter Try.func14, Try.ntmps14
        go_wp2_with (go_at_call 27; refine HO.out.mono ?_; rintro e1 w1 ⟨rfl, rfl⟩)
        go_quiet (fail)
        go_wp2_with fail
        go_ret
        exact ⟨rfl, ⟨_, rfl⟩⟩
      | true =>
        obtain rfl : b = m := by rw [HB.out, Bool.true_and]
        go_enter Try.func14, Try.ntmps14
        go_wp2_with (go_at_call 27; refine HO.out.mono ?_; rintro e1 w1 ⟨rfl, rfl⟩)
        go_quiet (first | (go_at_call 14; exact Calls.quiet_of (HC.out _)))
        go_wp2_with fail
        go_ret
        exact ⟨rfl, ⟨_, rfl⟩⟩
theorem matC : ∀ n, MatC n
  | 0 => mat_zero
  | n + 1 => mat_next n ⟨matC n⟩
theorem refMat_any (p s : ByteArray) (w : World) (hp : p.size ≤ 1000) (hs : s.size ≤ 1000) (b : Bool) (hb : b = mat (toL p) (toL s)) : Calls Try.prog 14 #[.string p, .string s] w fun e w' => e = .returned (.bool b) ∧ Qt w w' := matC p.size p s w b (Nat.le_refl _) hp hs ⟨hb⟩
end Pm
end Go.Proofs.Ytkifnabkoidhcaa
