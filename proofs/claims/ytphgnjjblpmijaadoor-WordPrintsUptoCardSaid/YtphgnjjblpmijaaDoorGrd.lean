/-
  The document's text of a text in quotes.
-/
import Derived.Test.YtphgnjjblpmijaaDoorWr4M
import Derived.Laws.Concat
import Derived.BigRegion
import Derived.RegionTactic
namespace Go.Proofs.YtphgnjjblpmijaaDoor
open Go.RowKit Tx
namespace Wx

def sq (c : UInt8) : List UInt8 := if c = 39 then [39, 92, 39, 39] else [c]
theorem single_is (l : List UInt8) : single l = 39 :: (l.flatMap sq) ++ [39] := rfl
theorem sq_len (c : UInt8) : (sq c).length ≤ 4 := by unfold sq; split <;> simp
theorem sq_flat (l : List UInt8) : (l.flatMap sq).length ≤ 4 * l.length := by
  induction l with
  | nil => simp
  | cons c l ih => rw [List.flatMap_cons, List.length_append, List.length_cons]; have := sq_len c; omega
theorem sq_snoc {s : ByteArray} {j : Nat} (hj : j < s.size) : ((toL s).take (j + 1)).flatMap sq = ((toL s).take j).flatMap sq ++ sq (s[j]'hj) := by
  rw [List.take_succ_eq_append_getElem (by rw [toL_length]; exact hj), List.flatMap_append]
  congr 1
  rw [List.flatMap_cons, List.flatMap_nil, List.append_nil]
  rfl
theorem one_ext (s : ByteArray) (j : Nat) (hj : j < s.size) : s.extract j (j + 1) = bs [s[j]'hj] := by
  apply toL_inj
  rw [toL_extract, toL_bs, List.drop_eq_getElem_cons (by rw [toL_length]; exact hj), show j + 1 - j = 1 by omega]
  rfl
set_option maxHeartbeats 1000000 in
set_option maxRecDepth 100000 in
theorem single_any (s : ByteArray) (w : World) (hs : s.size ≤ 1000000) : Calls Tryd.prog 21 #[.string s] w fun e w' => e = .returned (.string (bs (single (toL s)))) ∧ w = w' := by
  go_enter Tryd.func21, Tryd.ntmps21
  go_wp2_with fail
  go_loop [3, 4] (fun v i => ∃ j : Nat, j ≤ s.size ∧ i = .int .i64 (j : Int) ∧ v = .string (bs (39 :: ((toL s).take j).flatMap sq))) (fun _ i => s.size - (intOf i).toNat)
  case atStart => exact ⟨0, by omega, rfl, rfl⟩
  case round =>
    obtain ⟨j, hj, rfl, rfl⟩ := hrel
    have hl := sq_flat ((toL s).take j)
    have hl2 : ((toL s).take j).length ≤ s.size := by rw [List.length_take, toL_length]; omega
    have hb : (bs (39 :: ((toL s).take j).flatMap sq)).size ≤ 4000001 := by rw [bs_size, List.length_cons]; omega
    by_cases hlt : j < s.size
    · have z : (j : Int) < s.size := by omega
      by_cases h39 : s[j]'hlt = 39
      · have y : (((s[j]'hlt).toNat : Nat) : Int) = 39 := by rw [h39]; rfl
        have HR : Kept (bs (39 :: ((toL s).take j).flatMap sq) ++ (⟨#[39, 92, 39, 39]⟩ : ByteArray) = bs (39 :: ((toL s).take (j + 1)).flatMap sq)) := ⟨by
          rw [show (⟨#[39, 92, 39, 39]⟩ : ByteArray) = bs [39, 92, 39, 39] from rfl, bs_append, sq_snoc hlt, h39]; rfl⟩
        clear h39 hl hl2
        generalize bs (39 :: ((toL s).take j).flatMap sq) = x at *
        have q1 : ¬ 9223372036854775807 < x.size + (⟨#[39, 92, 39, 39]⟩ : ByteArray).size := by show ¬ _ < x.size + 4; omega
        go_wp2_with fail
        go_round
        case rel => exact ⟨j + 1, by omega, by go_num, by rw [HR.out]⟩
        case measure => simp [intOf]; omega
      · have y : ((((s[j]'hlt).toNat : Nat) : Int) == 39) = false := by
          have : ¬ (((s[j]'hlt).toNat : Nat) : Int) = 39 := fun h => h39 (UInt8.toNat_inj.1 (show _ = 39 by omega))
          simpa using fun h => this (by omega)
        have HR : Kept (bs (39 :: ((toL s).take j).flatMap sq) ++ s.extract j (j + 1) = bs (39 :: ((toL s).take (j + 1)).flatMap sq)) := ⟨by
          rw [one_ext s j hlt, bs_append, sq_snoc hlt]
          unfold sq
          rw [if_neg h39]; rfl⟩
        have hx : (s.extract j (j + 1)).size = 1 := by rw [one_ext s j hlt]; rfl
        have hsl : ∀ W : World, (Instr.slice 9 (.string s) (some (.int .i64 (j : Int))) (some (.int .i64 ((j : Int) + 1))) none).run Tryd.prog W = .ok (.string (s.extract j (j + 1))) W := fun W => by
          rw [run_slice_string_if W 9 s .i64 .i64 _ _ Tryd.underlying9, if_pos ⟨by omega, by omega⟩, if_pos ⟨by omega, by omega⟩, Int.toNat_natCast]
          rw [show ((j : Int) + 1).toNat = j + 1 by omega]
        clear h39 hl hl2
        generalize bs (39 :: ((toL s).take j).flatMap sq) = x at *
        generalize s.extract j (j + 1) = x2 at *
        have q1 : ¬ 9223372036854775807 < x.size + x2.size := by omega
        go_wp2_with fail
        go_round
        case rel => exact ⟨j + 1, by omega, by go_num, by rw [HR.out]⟩
        case measure => simp [intOf]; omega
    · have z : ¬ (j : Int) < s.size := by omega
      have HR : Kept (bs (39 :: ((toL s).take j).flatMap sq) ++ (⟨#[39]⟩ : ByteArray) = bs (single (toL s))) := ⟨by
        rw [show (⟨#[39]⟩ : ByteArray) = bs [39] from rfl, bs_append, single_is, List.take_of_length_le (by rw [toL_length]; omega)]⟩
      clear hl hl2 hlt
      generalize bs (39 :: ((toL s).take j).flatMap sq) = x at *
      have q1 : ¬ 9223372036854775807 < x.size + (⟨#[39]⟩ : ByteArray).size := by show ¬ _ < x.size + 1; omega
      go_wp2_with fail
      go_ret
      exact ⟨by rw [← HR.out]; rfl, rfl⟩
end Wx
end Go.Proofs.YtphgnjjblpmijaaDoor

/-
  The document's lists of parts: two that are alike.
-/
namespace Go.Proofs.YtphgnjjblpmijaaDoor
open Go.RowKit Tx
namespace Wx

set_option maxHeartbeats 4000000 in
set_option maxRecDepth 100000 in
theorem same_any (N : Nat) : ∀ (P Q : Nat → Prop) (l : List Pt) (A C : Option Addr) (n m k q : Nat) (w : World), cnt l = N → LV P w (.slice A n k) l → LV Q w (.slice C m q) l → cnt l ≤ 100000 →
    Calls Tryd.prog 13 #[.slice A n k, .slice C m q] w fun e w' => e = .returned (.bool true) ∧ Below w.heap.size w w' := by
  induction N using Nat.strongRecOn with
  | _ N ih =>
    intro P Q l A C n m k q w hN h1 h2 hsz
    have IH := Kept.mk ih
    have HSz := Kept.mk hsz
    obtain rfl := h1.len
    obtain rfl := h2.len
    have hlen : l.length ≤ 100000 := Nat.le_trans (cnt_len l) hsz
    have H1 := Kept.mk h1
    have H2 := Kept.mk h2
    have HN := Kept.mk hN
    obtain ⟨ll, hll⟩ : ∃ ll, ll = l.length := ⟨_, rfl⟩
    have HLL := Kept.mk hll
    rw [← hll] at hlen H1 H2 ⊢
    clear ih hsz h1 h2 hN hll
    go_enter Tryd.func13, Tryd.ntmps13
    go_wp2_with fail
    go_loopw [5] (fun i wr => ∃ j : Nat, j ≤ ll ∧ i = .int .i64 (j : Int) ∧ Kept (Below w.heap.size w wr)) (fun i _ => ll - (intOf i).toNat)
    case atStart => exact ⟨0, by omega, rfl, ⟨Below.refl _ _⟩⟩
    case round =>
      obtain ⟨j, hj, rfl, HB⟩ := hrel
      have j0 : (0 : Int) ≤ j := by omega
      by_cases hlt : j < ll
      · have j1 : (j : Int) < (ll : Int) := by omega
        have hjl : j < l.length := by have := HLL.out; omega
        obtain ⟨g, off, kk, qq, t, nn, o, wd, v, e, hg, hp, hv, hwd, c0, c1, c2, c3, c4, c5⟩ := (H1.out.keep HB.out).get hjl
        subst e
        obtain ⟨g2, off2, kk2, qq2, t2, nn2, o2, wd2, v2, e2, hg2, hp2, hv2, hwd2, d0, d1, d2, d3, d4, d5⟩ := (H2.out.keep HB.out).get hjl
        subst e2
        rw [hp] at hp2
        injection hp2 with e1 e2 e3 e4 e5 e6
        subst e1 e2 e3 e4 e5 e6
        obtain ⟨A2, k2, rfl⟩ := hwd.slice
        obtain ⟨C2, q2, rfl⟩ := hwd2.slice
        have hcw := cnt_word hjl hp
        have HWd := Kept.mk (And.intro hwd hwd2)
        have HCw : Kept (cnt wd < N ∧ cnt wd ≤ 100000) := ⟨by have := HN.out; have := HSz.out; omega⟩
        clear hcw hp hjl hwd hwd2
        generalize hwl : wd.length = wl at *
        clear hwl
        go_wp2_with fail
        have HBg : Kept (∀ o1 o2 : Obj, Below wr.heap.size wr ((wr.alloc o1).alloc o2).drew) := ⟨fun o1 o2 => (((Below.refl _ _).alloc (Nat.le_refl _) _).alloc (by simp) _).drew⟩
        go_region
        all_goals
          go_wp2_with (go_at_call 13
                       refine (IH.out (cnt wd) HCw.out.1 _ _ wd A2 C2 wl wl k2 q2 _ rfl (HWd.out.1.keep (HBg.out _ _)) (HWd.out.2.keep (HBg.out _ _)) HCw.out.2).mono ?_
                       rintro e w4 ⟨rfl, hb4⟩
                       have HB4 : Kept (Below w.heap.size w w4) := ⟨HB.out.trans (((HBg.out _ _).trans (hb4.mono (by simp; omega))).mono HB.out.size)⟩
                       clear hb4)
          go_roundw
          case rel => exact ⟨j + 1, by omega, by go_num, HB4⟩
          case measure => simp [intOf]; omega
      · have j1 : ¬ (j : Int) < (ll : Int) := by omega
        clear hlt
        go_wp2_with fail
        go_ret
        exact ⟨rfl, HB.out⟩
end Wx
end Go.Proofs.YtphgnjjblpmijaaDoor
