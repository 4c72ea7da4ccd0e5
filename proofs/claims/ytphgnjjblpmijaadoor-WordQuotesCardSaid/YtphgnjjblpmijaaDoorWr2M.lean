/-
  The document's lists of parts: is there a command; one more part; all quoted.
-/
import Derived.Test.YtphgnjjblpmijaaDoorWr1M
import Derived.Laws.AppendOwnNone
import Derived.Laws.NewBlocks
import Derived.Laws.Pointers
namespace Go.Proofs.YtphgnjjblpmijaaDoor
open Go.RowKit Tx
namespace Wx
variable {P : Nat → Prop}

mutual
/-- How many parts there are, at any depth. -/
def cnt : List Pt → Nat
  | [] => 0
  | p :: l => cntP p + cnt l
def cntP : Pt → Nat
  | .mk _ _ _ _ _ w => 1 + cnt w
end
theorem cnt_get {l : List Pt} {j : Nat} (hj : j < l.length) : cntP l[j] ≤ cnt l := by
  induction l generalizing j with
  | nil => simp at hj
  | cons p l ih =>
    cases j with
    | zero => show cntP p ≤ cntP p + cnt l; omega
    | succ j =>
      have := ih (j := j) (by simpa using hj)
      show cntP (l[j]'(by simpa using hj)) ≤ cntP p + cnt l
      omega
theorem cntP_pos (p : Pt) : 1 ≤ cntP p := by
  cases p with
  | mk k q t n o w => rw [cntP]; omega
theorem cnt_len (l : List Pt) : l.length ≤ cnt l := by
  induction l with
  | nil => exact Nat.zero_le _
  | cons p l ih => have := cntP_pos p; show l.length + 1 ≤ cntP p + cnt l; omega
theorem cnt_word {l : List Pt} {j : Nat} (hj : j < l.length) {k : Int} {q : Bool} {t n o : List UInt8} {wd : List Pt} (h : l[j] = .mk k q t n o wd) : cnt wd < cnt l := by
  have := cnt_get hj
  rw [h] at this
  have h2 : cntP (.mk k q t n o wd) = 1 + cnt wd := by rw [cntP]
  omega
theorem cmds_nil : cmds [] = false := by rw [cmds]
theorem cmds_drop {l : List Pt} {j : Nat} (hj : j < l.length) : cmds (l.drop j) = (cmdP l[j] || cmds (l.drop (j + 1))) := by
  rw [List.drop_eq_getElem_cons hj, cmds]
set_option maxHeartbeats 1000000 in
set_option maxRecDepth 100000 in
theorem commands_any (N : Nat) : ∀ (l : List Pt) (A : Option Addr) (n k : Nat) (w : World) (b : Bool), cnt l = N → LV P w (.slice A n k) l → cnt l ≤ 1000000 → b = cmds l →
    Calls Tryd.prog 46 #[.slice A n k] w fun e w' => e = .returned (.bool b) ∧ w = w' := by
  induction N using Nat.strongRecOn with
  | _ N ih =>
    intro l A n k w b hN hl hcnt hb
    have IH := Kept.mk ih
    have HCn := Kept.mk hcnt
    have hlen : l.length ≤ 1000000 := Nat.le_trans (cnt_len l) hcnt
    clear ih hcnt
    obtain rfl := hl.len
    have H := Kept.mk hl
    have HB := Kept.mk hb
    have HN := Kept.mk hN
    obtain ⟨ll, hll⟩ : ∃ ll, ll = l.length := ⟨_, rfl⟩
    have HLL := Kept.mk hll
    rw [← hll] at hlen H ⊢
    clear hl hb hN hll
    go_enter Tryd.func46, Tryd.ntmps46
    go_wp2_with fail
    go_loop [3] (fun i => ∃ j : Nat, j ≤ ll ∧ i = .int .i64 (j : Int) ∧ Kept (b = cmds (l.drop j))) (fun i => ll - (intOf i).toNat)
    case atStart => exact ⟨0, by omega, rfl, HB⟩
    case round =>
      obtain ⟨j, hj, rfl, HJ⟩ := hrel
      have j0 : (0 : Int) ≤ j := by omega
      by_cases hlt : j < ll
      · have j1 : (j : Int) < (ll : Int) := by omega
        have hjl : j < l.length := by have := HLL.out; omega
        obtain ⟨g, off, kk, q, t, nn, o, wd, v, e, hg, hp, hv, hwd, c0, c1, c2, c3, c4, c5⟩ := H.out.get hjl
        subst e
        have hcw := cnt_word hjl hp
        have hcp : cmdP l[j] = (kk == 2 || cmds wd) := by rw [hp, cmdP]
        clear c1 c2 c3 c4 hg
        by_cases hk : kk = 2
        · subst hk
          have HR : Kept (b = true) := ⟨by rw [HJ.out, cmds_drop hjl, hcp]; rfl⟩
          clear hcp hcw hp hjl
          go_wp2_with fail
          go_ret
          exact ⟨by rw [HR.out]; rfl, rfl⟩
        · have kb : (kk == 2) = false := by simpa using hk
          obtain ⟨A2, k2, rfl⟩ := hwd.slice
          have HC := Kept.mk (IH.out (cnt wd) (by have := HN.out; omega) wd A2 wd.length k2 w (cmds wd) rfl hwd (by have := HCn.out; omega) rfl)
          cases hc : cmds wd with
          | true =>
            have HR : Kept (b = true) := ⟨by rw [HJ.out, cmds_drop hjl, hcp, hc]; simp⟩
            rw [hc] at HC
            clear hcp hcw hp hjl hk hc hwd
            generalize wd.length = wl at *
            go_wp2_with (go_at_call 46; refine HC.out.mono ?_; rintro e w1 ⟨rfl, rfl⟩)
            go_ret
            exact ⟨by rw [HR.out]; rfl, rfl⟩
          | false =>
            have HR : Kept (b = cmds (l.drop (j + 1))) := ⟨by rw [HJ.out, cmds_drop hjl, hcp, hc, kb]; rfl⟩
            rw [hc] at HC
            clear hcp hcw hp hjl hk hc hwd
            generalize wd.length = wl at *
            go_wp2_with (go_at_call 46; refine HC.out.mono ?_; rintro e w1 ⟨rfl, rfl⟩)
            go_round
            case rel => exact ⟨j + 1, by omega, by go_num, HR⟩
            case measure => simp [intOf]; omega
      · have j1 : ¬ (j : Int) < (ll : Int) := by omega
        have HR : Kept (b = false) := ⟨by rw [HJ.out, List.drop_eq_nil_of_le (by have := HLL.out; omega), cmds_nil]⟩
        clear hlt
        go_wp2_with fail
        go_ret
        exact ⟨by rw [HR.out]; rfl, rfl⟩
end Wx
end Go.Proofs.YtphgnjjblpmijaaDoor
