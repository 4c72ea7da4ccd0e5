/-
  The document's patterns: what is removed.
-/
import Derived.Test.YtkifnabkoidhcaaPr3
import Derived.Deep.DeepCutAuto
import Derived.Deep.CutBlock
import Derived.Deep.LoopGhost
namespace Go.Proofs.Ytkifnabkoidhcaa
open Go.RowKit Tx
namespace Pm

/-- No place ahead of it serves. -/
def NoneTo (s p : List UInt8) (e most : Bool) (j : Nat) : Prop := ∀ i, i < j → mat p (partAt s e (howFar s most i)) = false
theorem rem_at {s p : List UInt8} {e most : Bool} {j : Nat} (h : NoneTo s p e most j) (hj : j ≤ s.length) (hm : mat p (partAt s e (howFar s most j)) = true) : rem s p e most = cutAt s e (howFar s most j) := by
  have hf : (List.range (s.length + 1)).find? (fun k => mat p (partAt s e (howFar s most k))) = some j := by
    rw [List.find?_range_eq_some]
    exact ⟨hm, by rw [List.mem_range]; omega, fun i hi => by rw [h i hi]; rfl⟩
  unfold rem
  rw [hf]
theorem rem_none {s p : List UInt8} {e most : Bool} (h : NoneTo s p e most (s.length + 1)) : rem s p e most = s := by
  have hf : (List.range (s.length + 1)).find? (fun k => mat p (partAt s e (howFar s most k))) = none := by
    rw [List.find?_eq_none]
    intro i hi
    rw [List.mem_range] at hi
    rw [h i hi]
    simp
  unfold rem
  rw [hf]
set_option maxHeartbeats 4000000 in
set_option maxRecDepth 100000 in
theorem refRem_any (s p : ByteArray) (e most : Bool) (w : World) (hs : s.size ≤ 300) (hp : p.size ≤ 300) (x : ByteArray) (hx : x = bs (rem (toL s) (toL p) e most)) :
    Calls Try.prog 22 #[.string s, .string p, .bool e, .bool most] w fun z w' => z = .returned (.string x) ∧ Qt w w' := by
  have HX := Kept.mk hx
  clear hx
  go_enter Try.func22, Try.ntmps22
  go_wp2_with fail
  go_loopg [9] (s.size + 1) (fun m kv wr => ∃ j : Nat, kv = .int .i64 (j : Int) ∧ j ≤ s.size + 1 ∧ s.size + 1 - j ≤ m ∧ Kept (NoneTo (toL s) (toL p) e most j) ∧ Kept (Qt w wr))
  case atStart => exact ⟨0, rfl, by omega, by omega, ⟨fun i hi => by omega⟩, ⟨Qt.refl _⟩⟩
  case round =>
    obtain ⟨j, rfl, hj, hjm, HN, HQ⟩ := hrel
    have hj5 : (j : Int) ≤ 1000 := by omega
    by_cases hlt : j ≤ s.size
    · have hl2 : (j : Int) ≤ (s.size : Int) := by omega
      go_upto_if 18 with fail
      go_cut [10] (fun nv wx => ∃ n : Nat, nv = .int .i64 (n : Int) ∧ n ≤ s.size ∧ Kept (n = howFar (toL s) most j) ∧ wr = wx)
      case first =>
        cases most with
        | true =>
          go_wp2_with fail
          go_meet
          exact ⟨s.size - j, by rw [show ((s.size - j : Nat) : Int) = (s.size : Int) - (j : Int) by omega], by omega, ⟨by show _ = (toL s).length - j; rw [toL_length]⟩, rfl⟩
        | false =>
          go_wp2_with fail
          go_meet
          exact ⟨j, rfl, hlt, ⟨rfl⟩, rfl⟩
      case rest =>
        obtain ⟨n, rfl, hn, HF, rfl⟩ := hcut
        have hn2 : (n : Int) ≤ (s.size : Int) := by omega
        have hn0 : 0 ≤ (s.size : Int) - (n : Int) := by omega
        have hn3 : (s.size : Int) - (n : Int) ≤ (s.size : Int) := by omega
        obtain ⟨b, hb⟩ : ∃ b, b = mat (toL p) (partAt (toL s) e n) := ⟨_, rfl⟩
        cases e with
        | false =>
          obtain ⟨A, hA⟩ : ∃ A, A = s.extract 0 n := ⟨_, rfl⟩
          have hAs : ∀ W : World, (Instr.slice 9 (.string s) none (some (.int .i64 (n : Int))) none).run Try.prog W = .ok (.string A) W := fun W => by rw [hA]; exact str_to hn W
          have hAl : toL A = partAt (toL s) false n := by rw [hA, toL_to]; rfl
          have hAz : A.size ≤ 1000 := by rw [hA, size_to s n hn]; omega
          obtain ⟨C, hC⟩ : ∃ C, C = s.extract n s.size := ⟨_, rfl⟩
          have hCs : ∀ W : World, (Instr.slice 9 (.string s) (some (.int .i64 (n : Int))) none none).run Try.prog W = .ok (.string C) W := fun W => by rw [hC]; exact str_from hn (by omega) W
          have hCl : C = bs (cutAt (toL s) false n) := by rw [show cutAt (toL s) false n = (toL s).drop n from rfl, ← toL_rest, bs_toL, hC]
          have HM := Kept.mk (refMat_any p A wr (by omega) hAz b (by rw [hAl]; exact hb))
          cases hbb : b with
          | true =>
            have HR : Kept (x = C) := ⟨by rw [HX.out, hCl, rem_at HN.out (by rw [toL_length]; exact hlt) (by rw [← HF.out, ← hb, hbb]), HF.out]⟩
            rw [hbb] at HM
            clear hb hbb hA hAl hAz hC hCl
            go_wp2_with (go_at_call 14; refine HM.out.mono ?_; rintro z w1 ⟨rfl, hq⟩; have HQ2 := Kept.mk (HQ.out.trans hq); clear hq)
            go_ret
            exact ⟨by rw [HR.out]; rfl, HQ2.out⟩
          | false =>
            have HN2 : Kept (NoneTo (toL s) (toL p) false most (j + 1)) := ⟨fun i hi => by
              by_cases h : i < j
              · exact HN.out i h
              · obtain rfl : i = j := by omega
                rw [← HF.out, ← hb, hbb]⟩
            rw [hbb] at HM
            clear hb hbb hA hAl hAz hC hCl
            go_wp2_with (go_at_call 14; refine HM.out.mono ?_; rintro z w1 ⟨rfl, hq⟩; have HQ2 := Kept.mk (HQ.out.trans hq); clear hq)
            go_roundg (s.size + 1 - (j + 1))
            case measure => omega
            case rel => exact ⟨j + 1, by go_num, by omega, Nat.le_refl _, HN2, HQ2⟩
        | true =>
          obtain ⟨A, hA⟩ : ∃ A, A = s.extract (s.size - n) s.size := ⟨_, rfl⟩
          have hAs : ∀ W : World, (Instr.slice 9 (.string s) (some (.int .i64 ((s.size : Int) - (n : Int)))) none none).run Try.prog W = .ok (.string A) W := fun W => by
            have := str_from (s := s) (k := s.size - n) (by omega) (by omega) W
            rw [show ((s.size - n : Nat) : Int) = (s.size : Int) - (n : Int) by omega] at this
            rw [hA]; exact this
          have hAl : toL A = partAt (toL s) true n := by rw [hA, toL_rest]; show _ = (toL s).drop ((toL s).length - n); rw [toL_length]
          have hAz : A.size ≤ 1000 := by rw [hA, size_rest]; omega
          obtain ⟨C, hC⟩ : ∃ C, C = s.extract 0 (s.size - n) := ⟨_, rfl⟩
          have hCs : ∀ W : World, (Instr.slice 9 (.string s) none (some (.int .i64 ((s.size : Int) - (n : Int)))) none).run Try.prog W = .ok (.string C) W := fun W => by
            have := str_to (s := s) (k := s.size - n) (by omega) W
            rw [show ((s.size - n : Nat) : Int) = (s.size : Int) - (n : Int) by omega] at this
            rw [hC]; exact this
          have hCl : C = bs (cutAt (toL s) true n) := by
            have : cutAt (toL s) true n = (toL s).take (s.size - n) := by show (toL s).take ((toL s).length - n) = _; rw [toL_length]
            rw [this, ← toL_to, bs_toL, hC]
          have HM := Kept.mk (refMat_any p A wr (by omega) hAz b (by rw [hAl]; exact hb))
          cases hbb : b with
          | true =>
            have HR : Kept (x = C) := ⟨by rw [HX.out, hCl, rem_at HN.out (by rw [toL_length]; exact hlt) (by rw [← HF.out, ← hb, hbb]), HF.out]⟩
            rw [hbb] at HM
            clear hb hbb hA hAl hAz hC hCl
            go_wp2_with (go_at_call 14; refine HM.out.mono ?_; rintro z w1 ⟨rfl, hq⟩; have HQ2 := Kept.mk (HQ.out.trans hq); clear hq)
            go_ret
            exact ⟨by rw [HR.out]; rfl, HQ2.out⟩
          | false =>
            have HN2 : Kept (NoneTo (toL s) (toL p) true most (j + 1)) := ⟨fun i hi => by
              by_cases h : i < j
              · exact HN.out i h
              · obtain rfl : i = j := by omega
                rw [← HF.out, ← hb, hbb]⟩
            rw [hbb] at HM
            clear hb hbb hA hAl hAz hC hCl
            go_wp2_with (go_at_call 14; refine HM.out.mono ?_; rintro z w1 ⟨rfl, hq⟩; have HQ2 := Kept.mk (HQ.out.trans hq); clear hq)
            go_roundg (s.size + 1 - (j + 1))
            case measure => omega
            case rel => exact ⟨j + 1, by go_num, by omega, Nat.le_refl _, HN2, HQ2⟩
    · have hl2 : ¬ (j : Int) ≤ (s.size : Int) := by omega
      have HR : Kept (x = s) := ⟨by
        rw [HX.out, rem_none, bs_toL]
        rw [toL_length]
        exact fun i hi => HN.out i (by omega)⟩
      clear hlt
      go_wp2_with fail
      go_ret
      exact ⟨by rw [HR.out]; rfl, HQ.out⟩
end Pm
end Go.Proofs.Ytkifnabkoidhcaa
