/-
  The document's Print.
-/
import Derived.Test.YtphgnjjblpmijaaDoorGrd
import Derived.Deep.RegionHeld3
namespace Go.Proofs.YtphgnjjblpmijaaDoor
open Go.RowKit Tx
namespace Wx

theorem print_append (a b : List Pt) : print (a ++ b) = print a ++ print b := by
  induction a with
  | nil => rw [List.nil_append, show print [] = [] by rw [print], List.nil_append]
  | cons p a ih => rw [List.cons_append, print, print, ih, List.append_assoc]
theorem print_take {l : List Pt} {j : Nat} (hj : j < l.length) : print (l.take (j + 1)) = print (l.take j) ++ printP l[j] := by
  rw [List.take_succ_eq_append_getElem hj, print_append]
  congr 1
  rw [print, show print [] = [] by rw [print], List.append_nil]
theorem about_len (q : Bool) (l : List UInt8) : (about q l).length ≤ l.length + 2 := by unfold about; split <;> simp
mutual
theorem print_len : ∀ (l : List Pt), (print l).length ≤ 8 * wt l
  | [] => by rw [print, wt]; simp
  | p :: l => by
    rw [print, wt, List.length_append]
    have := print_len l
    have := printP_len p
    omega
theorem printP_len : ∀ (p : Pt), (printP p).length ≤ 8 * wtP p
  | .mk k q t n o w => by
    rw [printP, wtP]
    have h1 := print_len w
    have h2 := sq_flat t
    split
    · split
      · rw [single_is]; simp at h2 ⊢; omega
      · omega
    · split
      · refine Nat.le_trans (about_len _ _) ?_; simp; omega
      · split
        · refine Nat.le_trans (about_len _ _) ?_; simp; omega
        · split
          · refine Nat.le_trans (about_len _ _) ?_
            split
            · simp; omega
            · simp; omega
          · refine Nat.le_trans (about_len _ _) ?_; simp; omega
end
theorem wt_take (l : List Pt) (j : Nat) : wt (l.take j) ≤ wt l := by
  conv => rhs; rw [← List.take_append_drop j l]
  rw [wt_append]; omega
theorem cat_run (a b : ByteArray) (h : a.size + b.size ≤ 9223372036854775807) (W : World) : (binOp .add 9 (.string a) (.string b)).run Tryd.prog W = .ok (.string (a ++ b)) W := by
  have h2 : ¬ 9223372036854775807 < a.size + b.size := by omega
  go_simp
theorem add_no {a b : ByteArray} (h : a.size + b.size ≤ 9223372036854775807) : ¬ 9223372036854775807 < a.size + b.size := by omega
set_option maxHeartbeats 4000000 in
set_option maxRecDepth 100000 in
theorem print_any (N : Nat) : ∀ (P : Nat → Prop) (l : List Pt) (A : Option Addr) (n k : Nat) (w : World), cnt l = N → LV P w (.slice A n k) l → wt l ≤ 100000 →
    Calls Tryd.prog 15 #[.slice A n k] w fun e w' => e = .returned (.string (bs (print l))) ∧ Below w.heap.size w w' := by
  induction N using Nat.strongRecOn with
  | _ N ih =>
    intro P l A n k w hN h1 hsz
    have IH := Kept.mk ih
    have HSz := Kept.mk hsz
    obtain rfl := h1.len
    have hlen : l.length ≤ 100000 := Nat.le_trans (wt_len l) hsz
    have H1 := Kept.mk h1
    have HN := Kept.mk hN
    obtain ⟨ll, hll⟩ : ∃ ll, ll = l.length := ⟨_, rfl⟩
    have HLL := Kept.mk hll
    rw [← hll] at hlen H1 ⊢
    clear ih hsz h1 hN hll
    go_enter Tryd.func15, Tryd.ntmps15
    go_wp2_with fail
    go_loopw [3, 4] (fun v i wr => ∃ j : Nat, j ≤ ll ∧ i = .int .i64 (j : Int) ∧ v = .string (bs (print (l.take j))) ∧ Kept (Below w.heap.size w wr)) (fun _ i _ => ll - (intOf i).toNat)
    case atStart => exact ⟨0, by omega, rfl, by rw [List.take_zero, print]; rfl, ⟨Below.refl _ _⟩⟩
    case round =>
      obtain ⟨j, hj, rfl, rfl, HB⟩ := hrel
      have j0 : (0 : Int) ≤ j := by omega
      have hpl : (bs (print (l.take j))).size ≤ 800000 := by rw [bs_size]; have := print_len (l.take j); have := wt_take l j; have := HSz.out; omega
      by_cases hlt : j < ll
      · have j1 : (j : Int) < (ll : Int) := by omega
        have hjl : j < l.length := by have := HLL.out; omega
        obtain ⟨g, off, kk, q, t, nn, o, wd, v, e, hg, hp, hv, hwd, c0, c1, c2, c3, c4, c5⟩ := (H1.out.keep HB.out).get hjl
        subst e
        obtain ⟨A2, kc, rfl⟩ := hwd.slice
        have hcw := cnt_word hjl hp
        have HT : Kept (bs (print (l.take (j + 1))) = bs (print (l.take j)) ++ bs (printP (.mk kk q t nn o wd))) := ⟨by rw [print_take hjl, ← bs_append, hp]⟩
        have hwt : wtP (.mk kk q t nn o wd) ≤ 100000 := by
          have h1 := wt_drop hjl
          have h2 := HSz.out
          rw [hp] at h1
          have h3 : wt l = wt (l.take j) + wt (l.drop j) := by rw [← wt_append, List.take_append_drop]
          omega
        have hwp := print_len wd
        rw [wtP] at hwt
        have hts : (bs t).size ≤ 100000 := by rw [bs_size]; omega
        have hns : (bs nn).size ≤ 100000 := by rw [bs_size]; omega
        have hos : (bs o).size ≤ 100000 := by rw [bs_size]; omega
        have hws : (bs (print wd)).size ≤ 800000 := by rw [bs_size]; omega
        have hss : (bs (single t)).size ≤ 500000 := by rw [bs_size, single_is]; have := sq_flat t; simp at this ⊢; omega
        have HWd := Kept.mk hwd
        have HCw : Kept (cnt wd < N ∧ wt wd ≤ 100000) := ⟨by have := HN.out; omega⟩
        have HBx : Kept (Below wr.heap.size wr (wr.alloc (.cells #[.int .i64 kk, .bool q, .string (bs t), .string (bs nn), .string (bs o), .slice A2 wd.length kc] 39))) := ⟨(Below.refl _ _).alloc (Nat.le_refl _) _⟩
        have HB1 : Kept (Below w.heap.size w (wr.alloc (.cells #[.int .i64 kk, .bool q, .string (bs t), .string (bs nn), .string (bs o), .slice A2 wd.length kc] 39))) := ⟨HB.out.trans (HBx.out.mono HB.out.size)⟩
        clear hcw hp hjl hwd hwt hwp hg
        generalize hwl : wd.length = wl at *
        clear hwl
        by_cases hk0 : kk = 0
        · have kz : (kk == 0) = true := by simpa using hk0
          cases q with
          | true =>
            have HF : Kept (bs (print (l.take (j + 1))) = bs (print (l.take j)) ++ bs (single t)) := ⟨by rw [HT.out, printP, if_pos hk0]; rfl⟩
            have HSi : Kept (∀ w, Calls Tryd.prog 21 #[.string (bs t)] w fun e w' => e = .returned (.string (bs (single t))) ∧ w = w') := ⟨fun w => by have := single_any (bs t) w (by omega); rwa [toL_bs] at this⟩
            clear hk0 HT
            generalize bs (print (l.take j)) = x at *
            generalize bs (single t) = x2 at *
            have q1 := add_no (show x.size + x2.size ≤ 9223372036854775807 by omega)
            go_wp2_with (go_at_call 21; refine (HSi.out _).mono ?_; rintro e w4 ⟨rfl, rfl⟩)
            go_roundw
            case rel => exact ⟨j + 1, by omega, by go_num, by rw [HF.out], HB1⟩
            case measure => simp [intOf]; omega
          | false =>
            have HF : Kept (bs (print (l.take (j + 1))) = bs (print (l.take j)) ++ bs t) := ⟨by rw [HT.out, printP, if_pos hk0]; rfl⟩
            clear hk0 HT
            generalize bs (print (l.take j)) = x at *
            generalize bs t = x2 at *
            have q1 := add_no (show x.size + x2.size ≤ 9223372036854775807 by omega)
            go_wp2_with fail
            go_roundw
            case rel => exact ⟨j + 1, by omega, by go_num, by rw [HF.out], HB1⟩
            case measure => simp [intOf]; omega
        · have kz : (kk == 0) = false := by simpa using hk0
          by_cases hk2 : kk = 2
          · have k2 : (kk == 2) = true := by simpa using hk2
            have HX : Kept ((⟨#[36, 40]⟩ : ByteArray) ++ bs t ++ (⟨#[41]⟩ : ByteArray) = bs ([36, 40] ++ t ++ [41])) := ⟨by rw [← bs_append, ← bs_append]; rfl⟩
            have q1 := add_no (show (⟨#[36, 40]⟩ : ByteArray).size + (bs t).size ≤ 9223372036854775807 by show 2 + _ ≤ _; omega)
            have q2 := add_no (show ((⟨#[36, 40]⟩ : ByteArray) ++ bs t).size + (⟨#[41]⟩ : ByteArray).size ≤ 9223372036854775807 by rw [ByteArray.size_append]; show 2 + _ + 1 ≤ _; omega)
            have HXs : Kept (((⟨#[36, 40]⟩ : ByteArray) ++ bs t ++ (⟨#[41]⟩ : ByteArray)).size ≤ 200000) := ⟨by rw [ByteArray.size_append, ByteArray.size_append]; show 2 + _ + 1 ≤ _; omega⟩
            cases q with
            | true =>
              have HF : Kept (bs (print (l.take (j + 1))) = bs (print (l.take j)) ++ ((⟨#[34]⟩ : ByteArray) ++ ((⟨#[36, 40]⟩ : ByteArray) ++ bs t ++ (⟨#[41]⟩ : ByteArray)) ++ (⟨#[34]⟩ : ByteArray))) := ⟨by
                rw [HT.out, printP, if_neg hk0, if_pos hk2, HX.out]
                show _ = _ ++ (bs [34] ++ bs _ ++ bs [34])
                rw [bs_append, bs_append]; rfl⟩
              have q3 := add_no (show (⟨#[34]⟩ : ByteArray).size + ((⟨#[36, 40]⟩ : ByteArray) ++ bs t ++ (⟨#[41]⟩ : ByteArray)).size ≤ 9223372036854775807 by have := HXs.out; show 1 + _ ≤ _; omega)
              have q4 := add_no (show ((⟨#[34]⟩ : ByteArray) ++ ((⟨#[36, 40]⟩ : ByteArray) ++ bs t ++ (⟨#[41]⟩ : ByteArray))).size + (⟨#[34]⟩ : ByteArray).size ≤ 9223372036854775807 by have := HXs.out; rw [ByteArray.size_append]; show 1 + _ + 1 ≤ _; omega)
              have q5 := add_no (show (bs (print (l.take j))).size + ((⟨#[34]⟩ : ByteArray) ++ ((⟨#[36, 40]⟩ : ByteArray) ++ bs t ++ (⟨#[41]⟩ : ByteArray)) ++ (⟨#[34]⟩ : ByteArray)).size ≤ 9223372036854775807 by have := HXs.out; rw [ByteArray.size_append, ByteArray.size_append]; show _ + (1 + _ + 1) ≤ _; omega)
              clear hk0 hk2 HT HX
              generalize bs (print (l.take j)) = x at *
              go_wp2_with fail
              go_roundw
              case rel => exact ⟨j + 1, by omega, by go_num, by rw [HF.out], HB1⟩
              case measure => simp [intOf]; omega
            | false =>
              have HF : Kept (bs (print (l.take (j + 1))) = bs (print (l.take j)) ++ ((⟨#[36, 40]⟩ : ByteArray) ++ bs t ++ (⟨#[41]⟩ : ByteArray))) := ⟨by
                rw [HT.out, printP, if_neg hk0, if_pos hk2, HX.out]; rfl⟩
              have q5 := add_no (show (bs (print (l.take j))).size + ((⟨#[36, 40]⟩ : ByteArray) ++ bs t ++ (⟨#[41]⟩ : ByteArray)).size ≤ 9223372036854775807 by have := HXs.out; omega)
              clear hk0 hk2 HT HX
              generalize bs (print (l.take j)) = x at *
              go_wp2_with fail
              go_roundw
              case rel => exact ⟨j + 1, by omega, by go_num, by rw [HF.out], HB1⟩
              case measure => simp [intOf]; omega
          have k2 : (kk == 2) = false := by simpa using hk2
          by_cases hk3 : kk = 3
          · have k3 : (kk == 3) = true := by simpa using hk3
            have HX : Kept ((⟨#[36, 40, 40]⟩ : ByteArray) ++ bs t ++ (⟨#[41, 41]⟩ : ByteArray) = bs ([36, 40, 40] ++ t ++ [41, 41])) := ⟨by rw [← bs_append, ← bs_append]; rfl⟩
            have q1 := add_no (show (⟨#[36, 40, 40]⟩ : ByteArray).size + (bs t).size ≤ 9223372036854775807 by show 3 + _ ≤ _; omega)
            have q2 := add_no (show ((⟨#[36, 40, 40]⟩ : ByteArray) ++ bs t).size + (⟨#[41, 41]⟩ : ByteArray).size ≤ 9223372036854775807 by rw [ByteArray.size_append]; show 3 + _ + 2 ≤ _; omega)
            have HXs : Kept (((⟨#[36, 40, 40]⟩ : ByteArray) ++ bs t ++ (⟨#[41, 41]⟩ : ByteArray)).size ≤ 200000) := ⟨by rw [ByteArray.size_append, ByteArray.size_append]; show 3 + _ + 2 ≤ _; omega⟩
            cases q with
            | true =>
              have HF : Kept (bs (print (l.take (j + 1))) = bs (print (l.take j)) ++ ((⟨#[34]⟩ : ByteArray) ++ ((⟨#[36, 40, 40]⟩ : ByteArray) ++ bs t ++ (⟨#[41, 41]⟩ : ByteArray)) ++ (⟨#[34]⟩ : ByteArray))) := ⟨by
                rw [HT.out, printP, if_neg hk0, if_neg hk2, if_pos hk3, HX.out]
                show _ = _ ++ (bs [34] ++ bs _ ++ bs [34])
                rw [bs_append, bs_append]; rfl⟩
              have q3 := add_no (show (⟨#[34]⟩ : ByteArray).size + ((⟨#[36, 40, 40]⟩ : ByteArray) ++ bs t ++ (⟨#[41, 41]⟩ : ByteArray)).size ≤ 9223372036854775807 by have := HXs.out; show 1 + _ ≤ _; omega)
              have q4 := add_no (show ((⟨#[34]⟩ : ByteArray) ++ ((⟨#[36, 40, 40]⟩ : ByteArray) ++ bs t ++ (⟨#[41, 41]⟩ : ByteArray))).size + (⟨#[34]⟩ : ByteArray).size ≤ 9223372036854775807 by have := HXs.out; rw [ByteArray.size_append]; show 1 + _ + 1 ≤ _; omega)
              have q5 := add_no (show (bs (print (l.take j))).size + ((⟨#[34]⟩ : ByteArray) ++ ((⟨#[36, 40, 40]⟩ : ByteArray) ++ bs t ++ (⟨#[41, 41]⟩ : ByteArray)) ++ (⟨#[34]⟩ : ByteArray)).size ≤ 9223372036854775807 by have := HXs.out; rw [ByteArray.size_append, ByteArray.size_append]; show _ + (1 + _ + 1) ≤ _; omega)
              clear hk0 hk3 HT HX
              generalize bs (print (l.take j)) = x at *
              go_wp2_with fail
              go_roundw
              case rel => exact ⟨j + 1, by omega, by go_num, by rw [HF.out], HB1⟩
              case measure => simp [intOf]; omega
            | false =>
              have HF : Kept (bs (print (l.take (j + 1))) = bs (print (l.take j)) ++ ((⟨#[36, 40, 40]⟩ : ByteArray) ++ bs t ++ (⟨#[41, 41]⟩ : ByteArray))) := ⟨by
                rw [HT.out, printP, if_neg hk0, if_neg hk2, if_pos hk3, HX.out]; rfl⟩
              have q5 := add_no (show (bs (print (l.take j))).size + ((⟨#[36, 40, 40]⟩ : ByteArray) ++ bs t ++ (⟨#[41, 41]⟩ : ByteArray)).size ≤ 9223372036854775807 by have := HXs.out; omega)
              clear hk0 hk3 HT HX
              generalize bs (print (l.take j)) = x at *
              go_wp2_with fail
              go_roundw
              case rel => exact ⟨j + 1, by omega, by go_num, by rw [HF.out], HB1⟩
              case measure => simp [intOf]; omega
          have k3 : (kk == 3) = false := by simpa using hk3
          by_cases hk1 : kk = 1
          · have k1 : (kk == 1) = true := by simpa using hk1
            have hbx : (wr.alloc (.cells #[.int .i64 kk, .bool q, .string (bs t), .string (bs nn), .string (bs o), .slice A2 wl kc] 39)).heap[wr.heap.size]? = some (.cells #[.int .i64 kk, .bool q, .string (bs t), .string (bs nn), .string (bs o), .slice A2 wl kc] 39 (0, 0)) := heap_alloc_new wr _
            have HX0 : Kept ((wr.alloc (.cells #[.int .i64 kk, .bool q, .string (bs t), .string (bs nn), .string (bs o), .slice A2 wl kc] 39)).drew.heap[wr.heap.size]? = some (.cells #[.int .i64 kk, .bool q, .string (bs t), .string (bs nn), .string (bs o), .slice A2 wl kc] 39 (0, 0))) := ⟨hbx⟩
            have HBd : Kept (Below wr.heap.size wr (wr.alloc (.cells #[.int .i64 kk, .bool q, .string (bs t), .string (bs nn), .string (bs o), .slice A2 wl kc] 39)).drew) := ⟨HBx.out.drew⟩
            have HPr := Kept.mk (IH.out (cnt wd) HCw.out.1 _ wd A2 wl kc _ rfl (HWd.out.keep HBd.out) HCw.out.2)
            have HL : Kept (((bs o).toList == ([108, 101, 110] : List UInt8)) = decide (o = lenOp)) := ⟨by
              have := beq_str (bs o) ⟨#[108, 101, 110]⟩
              have e : (⟨#[108, 101, 110]⟩ : ByteArray).toList = [108, 101, 110] := by decide +kernel
              rw [e] at this
              rw [this, decide_eq_decide]
              exact ⟨fun h => by have := congrArg toL h; rw [toL_bs] at this; exact this, fun h => by rw [h]; rfl⟩⟩
            have HX : Kept (bs ([36, 123] ++ nn ++ o ++ print wd ++ [125]) = (⟨#[36, 123]⟩ : ByteArray) ++ bs nn ++ bs o ++ bs (print wd) ++ (⟨#[125]⟩ : ByteArray)) := ⟨by rw [← bs_append, ← bs_append, ← bs_append, ← bs_append]; rfl⟩
            have HY : Kept (bs ([36, 123, 35] ++ nn ++ [125]) = (⟨#[36, 123, 35]⟩ : ByteArray) ++ bs nn ++ (⟨#[125]⟩ : ByteArray)) := ⟨by rw [← bs_append, ← bs_append]; rfl⟩
            have HFq : Kept (∀ X : List UInt8, q = true → printP (.mk kk q t nn o wd) = about q X → bs (print (l.take (j + 1))) = bs (print (l.take j)) ++ ((⟨#[34]⟩ : ByteArray) ++ bs X ++ (⟨#[34]⟩ : ByteArray))) := ⟨fun X hq hX => by
              rw [HT.out, hX, hq]
              show _ = _ ++ (bs [34] ++ bs _ ++ bs [34])
              rw [bs_append, bs_append]; rfl⟩
            have HFn : Kept (∀ X : List UInt8, q = false → printP (.mk kk q t nn o wd) = about q X → bs (print (l.take (j + 1))) = bs (print (l.take j)) ++ bs X) := ⟨fun X hq hX => by rw [HT.out, hX, hq]; rfl⟩
            have HPl : Kept (o = lenOp → printP (.mk kk q t nn o wd) = about q ([36, 123, 35] ++ nn ++ [125])) := ⟨fun h => by rw [printP, if_neg hk0, if_neg hk2, if_neg hk3, if_pos hk1, if_pos h]⟩
            have HPo : Kept (o ≠ lenOp → printP (.mk kk q t nn o wd) = about q ([36, 123] ++ nn ++ o ++ print wd ++ [125])) := ⟨fun h => by rw [printP, if_neg hk0, if_neg hk2, if_neg hk3, if_pos hk1, if_neg h]⟩
            obtain ⟨sX, hsX⟩ : ∃ sX, sX = (⟨#[36, 123]⟩ : ByteArray) ++ bs nn ++ bs o ++ bs (print wd) ++ (⟨#[125]⟩ : ByteArray) := ⟨_, rfl⟩
            obtain ⟨sY, hsY⟩ : ∃ sY, sY = (⟨#[36, 123, 35]⟩ : ByteArray) ++ bs nn ++ (⟨#[125]⟩ : ByteArray) := ⟨_, rfl⟩
            have HsX := Kept.mk hsX
            have HsY := Kept.mk hsY
            have hsXs : sX.size ≤ 1000010 := by rw [hsX, ByteArray.size_append, ByteArray.size_append, ByteArray.size_append, ByteArray.size_append]; show 2 + _ + _ + _ + 1 ≤ _; omega
            have hsYs : sY.size ≤ 1000010 := by rw [hsY, ByteArray.size_append, ByteArray.size_append]; show 3 + _ + 1 ≤ _; omega
            have HFr : Kept (bs (print (l.take (j + 1))) = bs (print (l.take j)) ++ (if q then (⟨#[34]⟩ : ByteArray) ++ (if o = lenOp then sY else sX) ++ (⟨#[34]⟩ : ByteArray) else (if o = lenOp then sY else sX))) := ⟨by
              cases hq : q with
              | true =>
                by_cases ho : o = lenOp
                · rw [HFq.out _ hq (HPl.out ho), if_pos rfl, if_pos ho, hsY, HY.out]
                · rw [HFq.out _ hq (HPo.out ho), if_pos rfl, if_neg ho, hsX, HX.out]
              | false =>
                by_cases ho : o = lenOp
                · rw [HFn.out _ hq (HPl.out ho), if_neg (by simp), if_pos ho, hsY, HY.out]
                · rw [HFn.out _ hq (HPo.out ho), if_neg (by simp), if_neg ho, hsX, HX.out]⟩
            clear hk0 hk1 hk2 hk3 HT HX HY HFq HFn HPl HPo hbx hsX hsY
            generalize bs (print (l.take j)) = x at *
            generalize hx' : bs (print (l.take (j + 1))) = x' at *
            have HXp := Kept.mk hx'
            clear hx'
            generalize bs (print wd) = xw at *
            have d3 : (wr.alloc (.cells #[.int .i64 kk, .bool q, .string (bs t), .string (bs nn), .string (bs o), .slice A2 wl kc] 39)).drew.cell? ⟨wr.heap.size, 3, none⟩ = some (.string (bs nn)) := cell_of_row _ _ 3 _ _ _ HX0.out
            have d4 : (wr.alloc (.cells #[.int .i64 kk, .bool q, .string (bs t), .string (bs nn), .string (bs o), .slice A2 wl kc] 39)).drew.cell? ⟨wr.heap.size, 4, none⟩ = some (.string (bs o)) := cell_of_row _ _ 4 _ _ _ HX0.out
            have d5 : (wr.alloc (.cells #[.int .i64 kk, .bool q, .string (bs t), .string (bs nn), .string (bs o), .slice A2 wl kc] 39)).drew.cell? ⟨wr.heap.size, 5, none⟩ = some (.slice A2 wl kc) := cell_of_row _ _ 5 _ _ _ HX0.out
            have d1 : (wr.alloc (.cells #[.int .i64 kk, .bool q, .string (bs t), .string (bs nn), .string (bs o), .slice A2 wl kc] 39)).drew.cell? ⟨wr.heap.size, 1, none⟩ = some (.bool q) := cell_of_row _ _ 1 _ _ _ HX0.out
            generalize bs nn = xn at *
            have HOp := HL
            generalize hxo : bs o = xo at *
            clear hxo
            have q1 : ¬ 9223372036854775807 < 2 + xn.size := by omega
            have q2 : ¬ 9223372036854775807 < 2 + xn.size + xo.size := by omega
            have q3 : ¬ 9223372036854775807 < 2 + xn.size + xo.size + xw.size := by omega
            have q4 : ¬ 9223372036854775807 < 2 + xn.size + xo.size + xw.size + 1 := by omega
            go_wp2_with fail
            go_region_held3 (fun w' => w'.cell? ⟨wr.heap.size, 3, none⟩ = some (.string xn) ∧ w'.cell? ⟨wr.heap.size, 4, none⟩ = some (.string xo) ∧ w'.cell? ⟨wr.heap.size, 5, none⟩ = some (.slice A2 wl kc))
              (first
                | exact ⟨d3, d4, d5⟩
                | exact ⟨e3, e4, e5⟩)
              (first
                | (go_at_call 15
                   refine HPr.out.mono ?_
                   rintro e w4 ⟨rfl, hb4⟩
                   have HB4 : Kept (Below w.heap.size w w4) := ⟨HB.out.trans ((HBd.out.trans (hb4.mono HBd.out.size)).mono HB.out.size)⟩
                   have hx4 := (hb4.block wr.heap.size (by simp)).trans HX0.out
                   have HX4 := Kept.mk hx4
                   have e1 := cell_of_row _ _ 1 _ _ _ hx4
                   have e3 := cell_of_row _ _ 3 _ _ _ hx4
                   have e4 := cell_of_row _ _ 4 _ _ _ hx4
                   have e5 := cell_of_row _ _ 5 _ _ _ hx4
                   simp at e1 e3 e4 e5
                   clear hx4 hb4))
            by_cases ho : o = lenOp
            · have l1 : (xo.toList == ([108, 101, 110] : List UInt8)) = true := by rw [HOp.out]; exact decide_eq_true ho
              have hE : ((⟨#[36, 123, 35]⟩ : ByteArray) ++ xn ++ (⟨#[125]⟩ : ByteArray)).size ≤ 1000010 := by rw [← HsY.out]; exact hsYs
              have r1 := add_no (show (⟨#[36, 123, 35]⟩ : ByteArray).size + xn.size ≤ 9223372036854775807 by show 3 + _ ≤ _; omega)
              have r2 := add_no (show ((⟨#[36, 123, 35]⟩ : ByteArray) ++ xn).size + (⟨#[125]⟩ : ByteArray).size ≤ 9223372036854775807 by rw [ByteArray.size_append]; show 3 + _ + 1 ≤ _; omega)
              clear hsYs hsXs
              cases q with
              | true =>
                have HFf : Kept (x' = x ++ ((⟨#[34]⟩ : ByteArray) ++ ((⟨#[36, 123, 35]⟩ : ByteArray) ++ xn ++ (⟨#[125]⟩ : ByteArray)) ++ (⟨#[34]⟩ : ByteArray))) := ⟨by rw [HFr.out]; rw [if_pos rfl, if_pos ho, HsY.out]⟩
                have u3 := add_no (show (⟨#[34]⟩ : ByteArray).size + ((⟨#[36, 123, 35]⟩ : ByteArray) ++ xn ++ (⟨#[125]⟩ : ByteArray)).size ≤ 9223372036854775807 by show 1 + _ ≤ _; omega)
                have u4 := add_no (show ((⟨#[34]⟩ : ByteArray) ++ ((⟨#[36, 123, 35]⟩ : ByteArray) ++ xn ++ (⟨#[125]⟩ : ByteArray))).size + (⟨#[34]⟩ : ByteArray).size ≤ 9223372036854775807 by rw [ByteArray.size_append]; show 1 + _ + 1 ≤ _; omega)
                have u5 := add_no (show x.size + ((⟨#[34]⟩ : ByteArray) ++ ((⟨#[36, 123, 35]⟩ : ByteArray) ++ xn ++ (⟨#[125]⟩ : ByteArray)) ++ (⟨#[34]⟩ : ByteArray)).size ≤ 9223372036854775807 by rw [ByteArray.size_append, ByteArray.size_append]; show _ + (1 + _ + 1) ≤ _; omega)
                clear ho HFr
                go_wp2_with fail
                go_roundw
                case rel => exact ⟨j + 1, by omega, by go_num, by rw [HXp.out, HFf.out], HB4⟩
                case measure => simp [intOf]; omega
              | false =>
                have HFf : Kept (x' = x ++ ((⟨#[36, 123, 35]⟩ : ByteArray) ++ xn ++ (⟨#[125]⟩ : ByteArray))) := ⟨by rw [HFr.out]; rw [if_neg (by simp), if_pos ho, HsY.out]⟩
                have u5 := add_no (show x.size + ((⟨#[36, 123, 35]⟩ : ByteArray) ++ xn ++ (⟨#[125]⟩ : ByteArray)).size ≤ 9223372036854775807 by omega)
                clear ho HFr
                go_wp2_with fail
                go_roundw
                case rel => exact ⟨j + 1, by omega, by go_num, by rw [HXp.out, HFf.out], HB4⟩
                case measure => simp [intOf]; omega
            · have l1 : (xo.toList == ([108, 101, 110] : List UInt8)) = false := by rw [HOp.out]; exact decide_eq_false ho
              rw [← HsX.out]
              clear hsYs
              cases q with
              | true =>
                have HFf : Kept (x' = x ++ ((⟨#[34]⟩ : ByteArray) ++ sX ++ (⟨#[34]⟩ : ByteArray))) := ⟨by rw [HFr.out]; rw [if_pos rfl, if_neg ho]⟩
                have u3 := add_no (show (⟨#[34]⟩ : ByteArray).size + sX.size ≤ 9223372036854775807 by show 1 + _ ≤ _; omega)
                have u4 := add_no (show ((⟨#[34]⟩ : ByteArray) ++ sX).size + (⟨#[34]⟩ : ByteArray).size ≤ 9223372036854775807 by rw [ByteArray.size_append]; show 1 + _ + 1 ≤ _; omega)
                have u5 := add_no (show x.size + ((⟨#[34]⟩ : ByteArray) ++ sX ++ (⟨#[34]⟩ : ByteArray)).size ≤ 9223372036854775807 by rw [ByteArray.size_append, ByteArray.size_append]; show _ + (1 + _ + 1) ≤ _; omega)
                clear ho HFr
                go_wp2_with fail
                go_roundw
                case rel => exact ⟨j + 1, by omega, by go_num, by rw [HXp.out, HFf.out], HB4⟩
                case measure => simp [intOf]; omega
              | false =>
                have HFf : Kept (x' = x ++ sX) := ⟨by rw [HFr.out]; rw [if_neg (by simp), if_neg ho]⟩
                have u5 := add_no (show x.size + sX.size ≤ 9223372036854775807 by omega)
                clear ho HFr
                go_wp2_with fail
                go_roundw
                case rel => exact ⟨j + 1, by omega, by go_num, by rw [HXp.out, HFf.out], HB4⟩
                case measure => simp [intOf]; omega
          have k1 : (kk == 1) = false := by simpa using hk1
          have hU : printP (.mk kk q t nn o wd) = about q [] := by
            rw [printP, if_neg hk0, if_neg hk2, if_neg hk3, if_neg hk1]
          cases q with
          | true =>
            have HF : Kept (bs (print (l.take (j + 1))) = bs (print (l.take j)) ++ (⟨#[34, 34]⟩ : ByteArray)) := ⟨by rw [HT.out, hU]; rfl⟩
            clear hk0 hk1 hk2 hk3 HT hU
            generalize bs (print (l.take j)) = x at *
            have u5 := add_no (show x.size + (⟨#[34, 34]⟩ : ByteArray).size ≤ 9223372036854775807 by show _ + 2 ≤ _; omega)
            go_wp2_with fail
            go_roundw
            case rel => exact ⟨j + 1, by omega, by go_num, by rw [HF.out]; rfl, HB1⟩
            case measure => simp [intOf]; omega
          | false =>
            have HF : Kept (bs (print (l.take (j + 1))) = bs (print (l.take j)) ++ (⟨#[]⟩ : ByteArray)) := ⟨by rw [HT.out, hU]; rfl⟩
            clear hk0 hk1 hk2 hk3 HT hU
            generalize bs (print (l.take j)) = x at *
            have u5 := add_no (show x.size + (⟨#[]⟩ : ByteArray).size ≤ 9223372036854775807 by show _ + 0 ≤ _; omega)
            go_wp2_with fail
            go_roundw
            case rel => exact ⟨j + 1, by omega, by go_num, by rw [HF.out], HB1⟩
            case measure => simp [intOf]; omega
      · have j1 : ¬ (j : Int) < (ll : Int) := by omega
        have HR : Kept (bs (print (l.take j)) = bs (print l)) := ⟨by rw [List.take_of_length_le (by have := HLL.out; omega)]⟩
        clear hlt
        go_wp2_with fail
        go_ret
        exact ⟨by rw [← HR.out]; rfl, HB.out⟩
end Wx
end Go.Proofs.YtphgnjjblpmijaaDoor
