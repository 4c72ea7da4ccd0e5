/-
  The sum of texts of each length about a block's end is the document's: the law's call.
-/
import Derived.Test.YtojncfnlcmacgaaDoorAwake
import Derived.Test.YtojncfnlcmacgaaDoorRefT
import Derived.Deep.RegionWith
import Derived.Deep.DrawnRows
namespace Go.Proofs.YtojncfnlcmacgaaDoor
open Go.RowKit
namespace Sha

theorem Bs.get {w : World} {B g n cap : Nat} {l : List UInt8} (h : By.Bs w B (.slice (some ⟨g, 0, none⟩) n cap) l) (j : Nat) (hj : j < l.length) : w.cell? ⟨g, j, none⟩ = some (.int .u8 (l[j].toNat : Int)) ∧ w.frozen? ⟨g, j, none⟩ = false := by
  rcases h with ⟨e, _⟩ | ⟨g', cap', e, h1, h2, h3, h4, h5, h6⟩
  · cases e
  · injection e with e1 _ e3
    injection e1 with e1
    injection e1 with e1
    subst e1 e3
    exact ⟨h6 j _ (by simp [By.cells, By.cell, hj]), (h5 j (by omega)).2⟩
theorem Bs.put {w : World} {B g n cap : Nat} {l : List UInt8} (h : By.Bs w B (.slice (some ⟨g, 0, none⟩) n cap) l) (j : Nat) (hj : j < l.length) (x : UInt8) (u : Int) (hu : u = x.toNat) : By.Bs (w.setCell ⟨g, j, none⟩ (.int .u8 u)) B (.slice (some ⟨g, 0, none⟩) n cap) (l.set j x) := by
  subst hu
  rcases h with ⟨e, _⟩ | ⟨g', cap', e, h1, h2, h3, h4, h5, h6⟩
  · cases e
  · injection e with e1 e2 e3
    injection e1 with e1
    injection e1 with e1
    subst e1 e3 e2
    have hold : w.cell? ⟨g, j, none⟩ = some (By.cell l[j]) := h6 j _ (by simp [By.cells, hj])
    refine .inr ⟨g, cap, by rw [List.length_set], h1, by simpa [World.setCell] using h2, by rw [List.length_set]; exact h3, h4, fun i hi => ⟨?_, ?_⟩, fun i v hv => ?_⟩
    · by_cases e : i = j
      · subst e
        rw [World.cell?_setCell_same _ _ _ hold]
        rfl
      · rw [World.cell?_setCell_other _ _ _ _ (fun e' => e (by injection e' with _ e2; exact e2.symm))]
        exact (h5 i hi).1
    · rw [show (w.setCell ⟨g, j, none⟩ (.int .u8 (x.toNat : Int))).frozen? ⟨g, i, none⟩ = w.frozen? ⟨g, i, none⟩ from World.frozen?_setCells g [.int .u8 (x.toNat : Int)] j w _]
      exact (h5 i hi).2
    · unfold By.cells at hv
      rw [List.map_set] at hv
      by_cases e : i = j
      · subst e
        rw [World.cell?_setCell_same _ _ _ hold]
        rw [List.getElem?_set_self (by simpa using hj)] at hv
        exact hv
      · rw [World.cell?_setCell_other _ _ _ _ (fun e' => e (by injection e' with _ e2; exact e2.symm))]
        rw [List.getElem?_set_ne (fun e' => e e'.symm)] at hv
        exact h6 i v hv

structure LenIn (w wr : World) (v : Value) (l : List UInt8) : Prop where
  below : Below w.heap.size w wr
  bs : By.Bs wr w.heap.size v l
theorem LenIn.on {w wr w2 : World} {v : Value} {l : List UInt8} (h : LenIn w wr v l) (hb : Below wr.heap.size wr w2) : LenIn w w2 v l := ⟨h.below.trans (hb.mono h.below.size), h.bs.below hb (Nat.le_refl _)⟩
theorem LenIn.drew {w wr : World} {v : Value} {l : List UInt8} (h : LenIn w wr v l) : LenIn w wr.drew v l := ⟨h.below.drew, h.bs.drew⟩
theorem LenIn.drewN {w wr : World} {v : Value} {l : List UInt8} (h : LenIn w wr v l) (n : Nat) : LenIn w (wr.drewN n) v l := ⟨below_drewN h.below n, h.bs.drewN n⟩
theorem made {w w2 : World} {B m : Nat} (h : w2.ownsRow B 5 1 (.slice (some ⟨w.heap.size, 0, none⟩) m m) m (madeCells (Value.int .u8 0).cells (m * 1)).toList) : By.Bs w2 B (.slice (some ⟨w.heap.size, 0, none⟩) m m) (List.replicate m 0) := by
  refine By.Bs.of_own (e := 5) (n := m) ?_
  have e : (madeCells (Value.int .u8 0).cells (m * 1)).toList = By.cells (List.replicate m 0) := by
    rw [show (Value.int .u8 0).cells = #[Value.int .u8 0] from rfl, toList_madeCells_one, Nat.mul_one]
    simp [By.cells, By.cell]
  rw [← e]
  exact h
theorem wpList_made {w0 w : World} {ops : Array Oper} {rest : List Oper} {o : Oper} {a : Act} {Q : Exit → Act → World → Prop} (hg : o.guard = none) (l c : Operand) (hop : o.op = Op.makeSlice 25 l c)
    (L C : Int) (m : Nat) (hl : a.eval l = .int .i64 L) (hc : a.eval c = .int .i64 C) (hL : L = (m : Int)) (hC : C = (m : Int)) (hm : m ≤ 1000) (hB : Below w0.heap.size w0 w)
    (hK : ∀ w', LenIn w0 w' (.slice (some ⟨w.heap.size, 0, none⟩) m m) (List.replicate m 0) → wpList Tryd.prog ops Q rest (a.put o.dst (.slice (some ⟨w.heap.size, 0, none⟩) m m)) w') : wpList Tryd.prog ops Q (o :: rest) a w := by
  obtain ⟨i, hi, hz, hs, hby⟩ := info_parts byteTy.info
  refine wpList_make_full w hg l c 25 hop w0.heap.size 5 i _ 1 Tryd.underlying25 hi hz hs .i64 .i64 L C m hl hc hL hC (by rw [hby]; omega) (by unfold maxLen; omega) hB.size fun w' h1 h2 => hK w' ⟨hB.grown h2 hB.size (fun k hk => by cases hk), made h1⟩

attribute [local go_sem ↓] Go.wp_at_zero Go.wp_at_succ
set_option maxRecDepth 100000 in
set_option maxHeartbeats 4000000 in
theorem lengths_any (n c : Nat) (w : World) (hn : n < 256) (hc : c < 256) (hK : Tab w) :
    Calls Tryd.prog 4 #[.int .u8 (n : Int), .int .u8 (c : Int)] w fun e w' => e = .returned (.bool true) ∧ Below w.heap.size w w' := by
  have HK := Kept.mk hK
  clear hK
  have n0 : (0 : Int) ≤ (n : Int) := by omega
  have n1 : (n : Int) < 256 := by omega
  obtain ⟨m1, hm1⟩ : ∃ m1 : Nat, m1 = 50 + n % 20 := ⟨_, rfl⟩
  obtain ⟨m2, hm2⟩ : ∃ m2 : Nat, m2 = 114 + n % 20 := ⟨_, rfl⟩
  have H1 : Kept ((50 : Int) + (n : Int) % 20 = (m1 : Int)) := ⟨by omega⟩
  have H2 : Kept ((114 : Int) + (n : Int) % 20 = (m2 : Int)) := ⟨by omega⟩
  have b1 : m1 ≤ 133 := by omega
  have b2 : m2 ≤ 133 := by omega
  clear hm1 hm2
  by_cases hbig : 128 ≤ n
  · have hbig' : (128 : Int) ≤ (n : Int) := by omega
    go_enter Tryd.func4, Tryd.ntmps4
    go_wp2_with (first
      | (refine wpList_made (w0 := w) rfl (.tmp 10) (.tmp 10) rfl _ _ m1 rfl rfl H1.out H1.out (by omega) (Below.refl _ _) ?_; intro w1 hI1)
      | (refine wpList_made (w0 := w) rfl (.tmp 17) (.tmp 17) rfl _ _ m2 rfl rfl H2.out H2.out (by omega) hI1.below ?_; intro w2 hI2))
    obtain ⟨q, hq⟩ : ∃ l : List UInt8, l = List.replicate m2 0 := ⟨_, rfl⟩
    have hql : q.length = m2 := by rw [hq]; simp
    rw [← hq] at hI2
    generalize w1.heap.size = g at *
    have HI := Kept.mk (And.intro hql hI2)
    clear hq hql hI2
    go_loopw [6] (fun x wr => ∃ (i : Nat) (l : List UInt8), i ≤ m2 ∧ x = .int .i64 (i : Int) ∧ l.length = m2 ∧ LenIn w wr (.slice (some ⟨g, 0, none⟩) m2 m2) l) (fun x _ => m2 - (intOf x).toNat)
    case atStart => exact ⟨0, q, by omega, rfl, HI.out.1, HI.out.2⟩
    case round =>
      clear HI
      obtain ⟨i, l, hi, rfl, hl, hI⟩ := hrel
      by_cases hlt : i < m2
      · obtain ⟨k1, k2⟩ := Bs.get hI.bs i (by omega)
        generalize l[i].toNat = old at *
        have HI := Kept.mk hI
        have HL := Kept.mk hl
        have i0 : (0 : Int) ≤ (i : Int) := by omega
        have i1 : (i : Int) < (m2 : Int) := by omega
        clear hI hl
        go_wp2
        go_roundw
        case rel =>
          refine ⟨i + 1, l.set i (UInt8.ofNat (c + i)), by omega, by go_num, by rw [List.length_set, HL.out], (HI.out.below.setCell ?_ _), (Bs.put HI.out.bs i (by rw [HL.out]; exact hlt) (UInt8.ofNat (c + i)) _ ?_)⟩
          · exact (HI.out.bs.lt g rfl).1
          · rw [UInt8.toNat_ofNat']
            omega
        case measure => simp [intOf]; omega
      · obtain ⟨T, hT⟩ : ∃ T : ByteArray, T = ⟨l.toArray⟩ := ⟨_, rfl⟩
        have hTs : T.size ≤ 300 := by rw [hT]; show l.length ≤ 300; omega
        have HT := Kept.mk hTs
        have HC : Kept (∀ W : World, LenIn w W (.slice (some ⟨g, 0, none⟩) m2 m2) l → (convert 25 9 (.slice (some ⟨g, 0, none⟩) m2 m2)).run Tryd.prog W = .ok (.string T) W) := ⟨fun W h => by rw [hT]; exact By.run_string byteTy 9 Tryd.underlying9 h.bs⟩
        have HI := Kept.mk hI
        clear hT hTs hI
        go_wp2
        go_region_with (first
          | (go_at_call 6; refine (awake_any _ (HK.out.below HI.out.below.drew)).mono ?_; rintro e wA ⟨rfl, hb⟩
             have HA : Kept (LenIn w wA (.slice (some ⟨g, 0, none⟩) m2 m2) l) := ⟨LenIn.on HI.out.drew hb⟩
             have rA := HC.out wA HA.out
             clear hb)
          | (go_at_call 7; refine (sum_kept T _ (by have := HT.out; unfold maxLen; omega) (HK.out.below HA.out.below)).mono ?_; rintro e wS ⟨t, rfl, hb, ht⟩
             have HS : Kept (LenIn w wS (.slice (some ⟨g, 0, none⟩) m2 m2) l) := ⟨LenIn.on HA.out hb⟩
             have rS := HC.out wS HS.out
             clear hb)
          | (go_at_call 8; refine (refSum_any T _ HT.out).mono ?_; rintro e wR ⟨t2, rfl, hb, ht2⟩; obtain rfl : t2 = t := ht2.out.trans ht.out.symm
             have HR : Kept (LenIn w wR (.slice (some ⟨g, 0, none⟩) m2 m2) l) := ⟨LenIn.on HS.out hb⟩
             clear hb))
        all_goals
          go_wp2
          go_ret
          exact ⟨rfl, HR.out.below⟩
  · have hbig' : ¬ (128 : Int) ≤ (n : Int) := by omega
    go_enter Tryd.func4, Tryd.ntmps4
    go_wp2_with (refine wpList_made (w0 := w) rfl (.tmp 10) (.tmp 10) rfl _ _ m1 rfl rfl H1.out H1.out (by omega) (Below.refl _ _) ?_; intro w1 hI1)
    obtain ⟨q, hq⟩ : ∃ l : List UInt8, l = List.replicate m1 0 := ⟨_, rfl⟩
    have hql : q.length = m1 := by rw [hq]; simp
    rw [← hq] at hI1
    have HI := Kept.mk (And.intro hql hI1)
    clear hq hql hI1
    go_loopw [6] (fun x wr => ∃ (i : Nat) (l : List UInt8), i ≤ m1 ∧ x = .int .i64 (i : Int) ∧ l.length = m1 ∧ LenIn w wr (.slice (some ⟨w.heap.size, 0, none⟩) m1 m1) l) (fun x _ => m1 - (intOf x).toNat)
    case atStart => exact ⟨0, q, by omega, rfl, HI.out.1, HI.out.2⟩
    case round =>
      clear HI
      obtain ⟨i, l, hi, rfl, hl, hI⟩ := hrel
      by_cases hlt : i < m1
      · obtain ⟨k1, k2⟩ := Bs.get hI.bs i (by omega)
        generalize l[i].toNat = old at *
        have HI := Kept.mk hI
        have HL := Kept.mk hl
        have i0 : (0 : Int) ≤ (i : Int) := by omega
        have i1 : (i : Int) < (m1 : Int) := by omega
        clear hI hl
        go_wp2
        go_roundw
        case rel =>
          refine ⟨i + 1, l.set i (UInt8.ofNat (c + i)), by omega, by go_num, by rw [List.length_set, HL.out], (HI.out.below.setCell ?_ _), (Bs.put HI.out.bs i (by rw [HL.out]; exact hlt) (UInt8.ofNat (c + i)) _ ?_)⟩
          · exact (HI.out.bs.lt w.heap.size rfl).1
          · rw [UInt8.toNat_ofNat']
            omega
        case measure => simp [intOf]; omega
      · obtain ⟨T, hT⟩ : ∃ T : ByteArray, T = ⟨l.toArray⟩ := ⟨_, rfl⟩
        have hTs : T.size ≤ 300 := by rw [hT]; show l.length ≤ 300; omega
        have HT := Kept.mk hTs
        have HC : Kept (∀ W : World, LenIn w W (.slice (some ⟨w.heap.size, 0, none⟩) m1 m1) l → (convert 25 9 (.slice (some ⟨w.heap.size, 0, none⟩) m1 m1)).run Tryd.prog W = .ok (.string T) W) := ⟨fun W h => by rw [hT]; exact By.run_string byteTy 9 Tryd.underlying9 h.bs⟩
        have HI := Kept.mk hI
        clear hT hTs hI
        go_wp2
        go_region_with (first
          | (go_at_call 6; refine (awake_any _ (HK.out.below HI.out.below.drew)).mono ?_; rintro e wA ⟨rfl, hb⟩
             have HA : Kept (LenIn w wA (.slice (some ⟨w.heap.size, 0, none⟩) m1 m1) l) := ⟨LenIn.on HI.out.drew hb⟩
             have rA := HC.out wA HA.out
             clear hb)
          | (go_at_call 7; refine (sum_kept T _ (by have := HT.out; unfold maxLen; omega) (HK.out.below HA.out.below)).mono ?_; rintro e wS ⟨t, rfl, hb, ht⟩
             have HS : Kept (LenIn w wS (.slice (some ⟨w.heap.size, 0, none⟩) m1 m1) l) := ⟨LenIn.on HA.out hb⟩
             have rS := HC.out wS HS.out
             clear hb)
          | (go_at_call 8; refine (refSum_any T _ HT.out).mono ?_; rintro e wR ⟨t2, rfl, hb, ht2⟩; obtain rfl : t2 = t := ht2.out.trans ht.out.symm
             have HR : Kept (LenIn w wR (.slice (some ⟨w.heap.size, 0, none⟩) m1 m1) l) := ⟨LenIn.on HS.out hb⟩
             clear hb))
        all_goals
          go_wp2
          go_ret
          exact ⟨rfl, HR.out.below⟩
end Sha
end Go.Proofs.YtojncfnlcmacgaaDoor
