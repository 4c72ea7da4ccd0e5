/-
  Parts of the proof, merged.
-/
import Derived.BigRegion
import Derived.Deep.RegionHeld3
import Derived.RegionTactic
import Derived.Test.YtahjonfmhejoeaaGreatDoorVa31
import Derived.Test.YtahjonfmhejoeaaGreatDoorVa43
namespace Go.Proofs.YtahjonfmhejoeaaGreatDoor
section
open Go.RowKit Tx
namespace Sy
open Wx (Pt LV cnt)
inductive Few9 : Nd → Prop
 | mk (k : Int) (q : Bool) (n : List UInt8) (ws : List (List Pt)) (gs rs : List (List UInt8 × List Pt)) (os : List (List UInt8)) (ks : List Nd)
     (hw : ws.length ≤ 100000 ∧ ∀ p ∈ ws, cnt p ≤ 100000) (hg : gs.length ≤ 100000 ∧ ∀ p ∈ gs, cnt p.2 ≤ 100000) (hr : rs.length ≤ 100000 ∧ ∀ p ∈ rs, cnt p.2 ≤ 100000) (ho : os.length ≤ 100000) (hk : ks.length ≤ 100000) (h : ∀ x ∈ ks, Few9 x) : Few9 (.mk k q n ws gs rs os ks)
theorem AC.get {P : Nat → Prop} {w : World} {xs : List Value} {l : List (List UInt8 × List Pt)} (h : AC P w xs l) : ∀ {j : Nat} (hj : j < l.length), ∃ v, xs[j * 2]? = some (.string (bs l[j].1)) ∧ xs[j * 2 + 1]? = some v ∧ LV P w v l[j].2 := by
 induction h with
 | nil => intro j hj; simp at hj
 | cons n v p xs l h1 h hr ih =>
   intro j hj
   cases j with
   | zero => exact ⟨v, rfl, rfl, h⟩
   | succ j =>
     obtain ⟨u, h0, hu, hl⟩ := ih (j := j) (by simpa using hj)
     refine ⟨u, ?_, ?_, hl⟩
     · rw [show (j + 1) * 2 = j * 2 + 2 by omega]; simpa using h0
     · rw [show (j + 1) * 2 + 1 = j * 2 + 1 + 2 by omega]; simpa using hu
theorem SL.getA {P : Nat → Prop} {w : World} {A : Option Addr} {n k : Nat} {l : List (List UInt8 × List Pt)} (h : SL P w (AC P w) (.slice A n k) l) {j : Nat} (hj : j < l.length) : ∃ g off B b, A = some ⟨g, off, none⟩ ∧ w.cell? ⟨g, off + j * 2, none⟩ = some (.string (bs l[j].1)) ∧ w.cell? ⟨g, off + j * 2 + 1, none⟩ = some (.slice B l[j].2.length b) ∧ LV P w (.slice B l[j].2.length b) l[j].2 := by
 cases h with
 | nil A cap h => simp at hj
 | «at» g off n cap xs l hn hm hP hg hc h =>
   obtain ⟨v, h0, hv, hl⟩ := AC.get h hj
   obtain ⟨B, b, rfl⟩ := hl.slice
   exact ⟨g, off, B, b, rfl, hc _ _ h0, by have := hc _ _ hv; rwa [← Nat.add_assoc] at this, hl⟩
theorem SL.getO {P : Nat → Prop} {w : World} {A : Option Addr} {n k : Nat} {l : List (List UInt8)} (h : SL P w OC (.slice A n k) l) {j : Nat} (hj : j < l.length) : ∃ g off, A = some ⟨g, off, none⟩ ∧ w.cell? ⟨g, off + j, none⟩ = some (.string (bs l[j])) := by
 cases h with
 | nil A cap h => simp at hj
 | «at» g off n cap xs l hn hm hP hg hc h =>
   have h : xs = l.map fun x => Value.string (bs x) := h
   exact ⟨g, off, rfl, hc j _ (by rw [h]; simp [hj])⟩
theorem NL.getN {P : Nat → Prop} {w : World} {A : Option Addr} {n k : Nat} {l : List Nd} (h : NL P w (.slice A n k) l) {j : Nat} (hj : j < l.length) : ∃ g off k q nm A1 n1 k1 A2 n2 k2 A3 n3 k3 A4 n4 k4 A5 n5 k5, A = some ⟨g, off, none⟩ ∧ NV P w (.agg #[.int .i64 k, .bool q, .string (bs nm), .slice A1 n1 k1, .slice A2 n2 k2, .slice A3 n3 k3, .slice A4 n4 k4, .slice A5 n5 k5]) l[j] ∧
   w.cell? ⟨g, off + j * 8, none⟩ = some (.int .i64 k) ∧ w.cell? ⟨g, off + j * 8 + 1, none⟩ = some (.bool q) ∧ w.cell? ⟨g, off + j * 8 + 2, none⟩ = some (.string (bs nm)) ∧ w.cell? ⟨g, off + j * 8 + 3, none⟩ = some (.slice A1 n1 k1) ∧ w.cell? ⟨g, off + j * 8 + 4, none⟩ = some (.slice A2 n2 k2) ∧ w.cell? ⟨g, off + j * 8 + 5, none⟩ = some (.slice A3 n3 k3) ∧ w.cell? ⟨g, off + j * 8 + 6, none⟩ = some (.slice A4 n4 k4) ∧ w.cell? ⟨g, off + j * 8 + 7, none⟩ = some (.slice A5 n5 k5) := by
 cases h with
 | nil A cap h => simp at hj
 | «at» g off n cap xs l hn hm hP hg hc h =>
   obtain ⟨k, q, nm, ws, gs, rs, os, ks, vw, va, vr, vo, vk, he, hp, h1, hk, hx⟩ := NC.get h hj
   obtain ⟨A1, k1, rfl⟩ := hp.words.slice
   obtain ⟨A2, k2, rfl⟩ := hp.assigns.slice
   obtain ⟨A3, k3, rfl⟩ := hp.redirs.slice
   obtain ⟨A4, k4, rfl⟩ := hp.ops.slice
   obtain ⟨A5, k5, rfl⟩ := hk.slice
   have hat : ∀ i u, (nvs k q nm (.slice A1 ws.length k1) (.slice A2 gs.length k2) (.slice A3 rs.length k3) (.slice A4 os.length k4) (.slice A5 ks.length k5))[i]? = some u → w.cell? ⟨g, off + j * 8 + i, none⟩ = some u := fun i u hu => by
     have := hc _ _ (hx i u hu)
     rwa [← Nat.add_assoc] at this
   refine ⟨g, off, k, q, nm, A1, _, k1, A2, _, k2, A3, _, k3, A4, _, k4, A5, _, k5, rfl, ?_, hat 0 _ rfl, hat 1 _ rfl, hat 2 _ rfl, hat 3 _ rfl, hat 4 _ rfl, hat 5 _ rfl, hat 6 _ rfl, hat 7 _ rfl⟩
   rw [he]
   exact .mk k q nm ws gs rs os ks _ _ _ _ _ hp h1 hk
theorem SL.len {α : Type} {P : Nat → Prop} {w : World} {C : List Value → List α → Prop} {A : Option Addr} {n k : Nat} {l : List α} (h : SL P w C (.slice A n k) l) : n = l.length := by
 cases h with
 | nil A cap h => rfl
 | «at» g off n cap xs l hn hm hP hg hc h => exact hn.symm
theorem SL.keepA {P : Nat → Prop} {w w' : World} {v : Value} {l : List (List UInt8 × List Pt)} (h : SL P w (AC P w) v l) (hb : Below w.heap.size w w') : SL P w' (AC P w') v l :=
 h.same (fun g hP hg => ⟨hP, hb.block g hg⟩) hb.size fun _xs _l hc => hc.same (fun g hP hg => ⟨hP, hb.block g hg⟩) hb.size
theorem SL.keepO {P : Nat → Prop} {w w' : World} {v : Value} {l : List (List UInt8)} (h : SL P w OC v l) (hb : Below w.heap.size w w') : SL P w' OC v l :=
 h.same (fun g hP hg => ⟨hP, hb.block g hg⟩) hb.size fun _xs _l hc => hc
set_option maxHeartbeats 8000000 in
set_option maxRecDepth 100000 in
theorem same_any {x : Nd} (hs : Few9 x) : ∀ (P Q : Nat → Prop) (u v : Value) (w : World), NV P w u x → NV Q w v x →
   Calls Tryz.prog 16 #[u, v] w fun e w' => e = .returned (.bool true) ∧ Below w.heap.size w w' := by
 induction hs with
 | mk k q n ws gs rs os ks hw hg hr ho hk h ih =>
 intro P Q u v w h1 h2
 obtain ⟨k', q', n', A1, n1, k1, A2, n2, k2, A3, n3, k3, A4, n4, k4, A5, n5, k5, ws', gs', rs', os', ks', rfl, hxe, hp1, hkd1⟩ := nv_parts h1
 cases hxe
 obtain ⟨k', q', n', C1, m1, q1, C2, m2, q2, C3, m3, q3, C4, m4, q4, C5, m5, q5, ws', gs', rs', os', ks', rfl, hxe, hp2, hkd2⟩ := nv_parts h2
 cases hxe
 obtain ⟨nw, hnw⟩ : ∃ nw, nw = ws.length := ⟨_, rfl⟩
 obtain ⟨ng, hng⟩ : ∃ ng, ng = gs.length := ⟨_, rfl⟩
 obtain ⟨nr, hnr⟩ : ∃ nr, nr = rs.length := ⟨_, rfl⟩
 obtain ⟨no, hno⟩ : ∃ no, no = os.length := ⟨_, rfl⟩
 obtain ⟨nk, hnk⟩ : ∃ nk, nk = ks.length := ⟨_, rfl⟩
 obtain rfl : n1 = nw := hp1.words.len.trans hnw.symm
 obtain rfl : n2 = ng := hp1.assigns.len.trans hng.symm
 obtain rfl : n3 = nr := hp1.redirs.len.trans hnr.symm
 obtain rfl : n4 = no := hp1.ops.len.trans hno.symm
 obtain rfl : n5 = nk := (nl_len hkd1).trans hnk.symm
 obtain rfl : m1 = n1 := hp2.words.len.trans hnw.symm
 obtain rfl : m2 = n2 := hp2.assigns.len.trans hng.symm
 obtain rfl : m3 = n3 := hp2.redirs.len.trans hnr.symm
 obtain rfl : m4 = n4 := hp2.ops.len.trans hno.symm
 obtain rfl : m5 = n5 := (nl_len hkd2).trans hnk.symm
 have hB0 : Below w.heap.size w ((w.alloc (.cells #[.int .i64 k, .bool q, .string (bs n), .slice A1 m1 k1, .slice A2 m2 k2, .slice A3 m3 k3, .slice A4 m4 k4, .slice A5 m5 k5] 31)).alloc (.cells #[.int .i64 k, .bool q, .string (bs n), .slice C1 m1 q1, .slice C2 m2 q2, .slice C3 m3 q3, .slice C4 m4 q4, .slice C5 m5 q5] 31)) := ((Below.refl _ _).alloc (Nat.le_refl _) _).alloc (by simp) _
 have HB0 := Kept.mk hB0
 have HW := Kept.mk (And.intro (hp1.words.keepW hB0) (hp2.words.keepW hB0))
 have HG := Kept.mk (And.intro (hp1.assigns.keepA hB0) (hp2.assigns.keepA hB0))
 have HR := Kept.mk (And.intro (hp1.redirs.keepA hB0) (hp2.redirs.keepA hB0))
 have HO := Kept.mk (And.intro (hp1.ops.keepO hB0) (hp2.ops.keepO hB0))
 have HK := Kept.mk (And.intro (hkd1.keep hB0) (hkd2.keep hB0))
 have HRo : Kept (∀ wr, Below ((w.alloc (.cells #[.int .i64 k, .bool q, .string (bs n), .slice A1 m1 k1, .slice A2 m2 k2, .slice A3 m3 k3, .slice A4 m4 k4, .slice A5 m5 k5] 31)).alloc (.cells #[.int .i64 k, .bool q, .string (bs n), .slice C1 m1 q1, .slice C2 m2 q2, .slice C3 m3 q3, .slice C4 m4 q4, .slice C5 m5 q5] 31)).heap.size ((w.alloc (.cells #[.int .i64 k, .bool q, .string (bs n), .slice A1 m1 k1, .slice A2 m2 k2, .slice A3 m3 k3, .slice A4 m4 k4, .slice A5 m5 k5] 31)).alloc (.cells #[.int .i64 k, .bool q, .string (bs n), .slice C1 m1 q1, .slice C2 m2 q2, .slice C3 m3 q3, .slice C4 m4 q4, .slice C5 m5 q5] 31)) wr → wr.heap[w.heap.size]? = some (.cells #[.int .i64 k, .bool q, .string (bs n), .slice A1 m1 k1, .slice A2 m2 k2, .slice A3 m3 k3, .slice A4 m4 k4, .slice A5 m5 k5] 31 (0, 0)) ∧ wr.heap[w.heap.size + 1]? = some (.cells #[.int .i64 k, .bool q, .string (bs n), .slice C1 m1 q1, .slice C2 m2 q2, .slice C3 m3 q3, .slice C4 m4 q4, .slice C5 m5 q5] 31 (0, 0))) := ⟨fun wr hb => by
   refine ⟨(hb.block _ (by simp; omega)).trans ?_, (hb.block _ (by simp)).trans ?_⟩
   · rw [Below.heap_alloc _ _ _ (by simp)]
     exact heap_alloc_new w _
   · have := heap_alloc_new (w.alloc (.cells #[.int .i64 k, .bool q, .string (bs n), .slice A1 m1 k1, .slice A2 m2 k2, .slice A3 m3 k3, .slice A4 m4 k4, .slice A5 m5 k5] 31)) (.cells #[.int .i64 k, .bool q, .string (bs n), .slice C1 m1 q1, .slice C2 m2 q2, .slice C3 m3 q3, .slice C4 m4 q4, .slice C5 m5 q5] 31)
     simpa using this⟩
 have HSw := Kept.mk hw
 have HSg := Kept.mk hg
 have HSr := Kept.mk hr
 have HIh := Kept.mk ih
 have l1 : m1 ≤ 100000 := by omega
 have l2 : m2 ≤ 100000 := by omega
 have l3 : m3 ≤ 100000 := by omega
 have l4 : m4 ≤ 100000 := by omega
 have l5 : m5 ≤ 100000 := by omega
 have HN := Kept.mk (And.intro hnw (And.intro hng (And.intro hnr (And.intro hno hnk))))
 clear hw hg hr ho hk h ih hp1 hp2 hkd1 hkd2 h1 h2 hnw hng hnr hno hnk hB0
 go_enter Tryz.func16, Tryz.ntmps16
 go_upto_region 1 with fail
 generalize (w.alloc (.cells #[.int .i64 k, .bool q, .string (bs n), .slice A1 m1 k1, .slice A2 m2 k2, .slice A3 m3 k3, .slice A4 m4 k4, .slice A5 m5 k5] 31)).alloc (.cells #[.int .i64 k, .bool q, .string (bs n), .slice C1 m1 q1, .slice C2 m2 q2, .slice C3 m3 q3, .slice C4 m4 q4, .slice C5 m5 q5] 31) = w2 at *
 have HB : Kept (Below w2.heap.size w2 w2) := ⟨Below.refl _ _⟩
 have x0 := cell_of_row _ _ 0 _ _ _ (HRo.out _ HB.out).1
 have y0 := cell_of_row _ _ 0 _ _ _ (HRo.out _ HB.out).2
 have x1 := cell_of_row _ _ 1 _ _ _ (HRo.out _ HB.out).1
 have y1 := cell_of_row _ _ 1 _ _ _ (HRo.out _ HB.out).2
 have x2 := cell_of_row _ _ 2 _ _ _ (HRo.out _ HB.out).1
 have y2 := cell_of_row _ _ 2 _ _ _ (HRo.out _ HB.out).2
 have x3 := cell_of_row _ _ 3 _ _ _ (HRo.out _ HB.out).1
 have y3 := cell_of_row _ _ 3 _ _ _ (HRo.out _ HB.out).2
 have x4 := cell_of_row _ _ 4 _ _ _ (HRo.out _ HB.out).1
 have y4 := cell_of_row _ _ 4 _ _ _ (HRo.out _ HB.out).2
 have x5 := cell_of_row _ _ 5 _ _ _ (HRo.out _ HB.out).1
 have y5 := cell_of_row _ _ 5 _ _ _ (HRo.out _ HB.out).2
 have x6 := cell_of_row _ _ 6 _ _ _ (HRo.out _ HB.out).1
 have y6 := cell_of_row _ _ 6 _ _ _ (HRo.out _ HB.out).2
 have x7 := cell_of_row _ _ 7 _ _ _ (HRo.out _ HB.out).1
 have y7 := cell_of_row _ _ 7 _ _ _ (HRo.out _ HB.out).2
 have e1 : (k != k) = false := bne_self_eq_false k
 have e2 : (q != q) = false := bne_self_eq_false q
 go_upto_region 3 with (first
   | (go_at_call 31; refine (sameWords_any P Q ws A1 C1 m1 m1 k1 q1 _ HW.out.1 HW.out.2 HN.out.1 HN.out.1 (by have := HSw.out.1; omega) HSw.out.2).mono ?_; rintro e w3 ⟨rfl, hb⟩; have HB3 := Kept.mk hb; have x4' := cell_of_row _ _ 4 _ _ _ (HRo.out w3 hb).1; have y4' := cell_of_row _ _ 4 _ _ _ (HRo.out w3 hb).2; have x5' := cell_of_row _ _ 5 _ _ _ (HRo.out w3 hb).1; have y5' := cell_of_row _ _ 5 _ _ _ (HRo.out w3 hb).2; have x6' := cell_of_row _ _ 6 _ _ _ (HRo.out w3 hb).1; have y6' := cell_of_row _ _ 6 _ _ _ (HRo.out w3 hb).2; have x7' := cell_of_row _ _ 7 _ _ _ (HRo.out w3 hb).1; have y7' := cell_of_row _ _ 7 _ _ _ (HRo.out w3 hb).2; clear hb))
 clear x0 y0 x1 y1 x2 y2 x3 y3 x4 y4 x5 y5 x6 y6 x7 y7 x4' y4' x5' y5' x6' y6' x7' y7' e1 e2 HB
 go_wp2_with fail
 go_loopw [5] (fun i wr => ∃ j : Nat, j ≤ m2 ∧ i = .int .i64 (j : Int) ∧ Kept (Below w2.heap.size w2 wr)) (fun i _ => m2 - (intOf i).toNat)
 case atStart => exact ⟨0, by omega, rfl, HB3⟩
 case round =>
   obtain ⟨j, hj, rfl, HB⟩ := hrel
   have j0 : (0 : Int) ≤ j := by omega
   have x4 := cell_of_row _ _ 4 _ _ _ (HRo.out _ HB.out).1
   have y4 := cell_of_row _ _ 4 _ _ _ (HRo.out _ HB.out).2
   by_cases hlt : j < m2
   · have j1 : (j : Int) < (m2 : Int) := by omega
     have hjl : j < gs.length := by have := HN.out; omega
     obtain ⟨g, off, B, b, rfl, c0, c1, hv⟩ := (HG.out.1.keepA HB.out).getA hjl
     obtain ⟨g2, off2, B2, b2, rfl, d0, d1, hv2⟩ := (HG.out.2.keepA HB.out).getA hjl
     have HV := Kept.mk (And.intro hv hv2)
     have HCw : Kept (cnt gs[j].2 ≤ 100000) := ⟨HSg.out.2 _ (List.getElem_mem hjl)⟩
     generalize gs[j].2 = wd at *
     generalize gs[j].1 = nm at *
     clear hjl hv hv2
     generalize hwl : wd.length = wl at *
     have HWl := Kept.mk hwl
     clear hwl
     go_wp2_with fail
     have hq : ∀ (p : Addr) (v : Value) (wa wb : World), wa.cell? p = some v → Below wa.heap.size wa wb → wb.cell? p = some v := fun p v wa wb h hb => (hb.cell (World.block_lt_of_cell? wa _ h)).trans h
     have HQ := Kept.mk hq
     clear hq
     go_region_held3 (fun w' => (w'.cell? ⟨w.heap.size, 4, none⟩ = some (.slice (some ⟨g, off, none⟩) m2 k2) ∧ w'.cell? ⟨w.heap.size + 1, 4, none⟩ = some (.slice (some ⟨g2, off2, none⟩) m2 q2)) ∧ (w'.cell? ⟨g, off + j * 2, none⟩ = some (.string (bs nm)) ∧ w'.cell? ⟨g, off + j * 2 + 1, none⟩ = some (.slice B wl b)) ∧ (w'.cell? ⟨g2, off2 + j * 2, none⟩ = some (.string (bs nm)) ∧ w'.cell? ⟨g2, off2 + j * 2 + 1, none⟩ = some (.slice B2 wl b2)))
       (first
         | exact ⟨⟨xx', yy'⟩, ⟨c0', c1'⟩, ⟨d0', d1'⟩⟩
         | exact ⟨⟨x4, y4⟩, ⟨c0, c1⟩, ⟨d0, d1⟩⟩)
       (first
         | (go_at_call 32
            refine (Wx.same_any (cnt wd) P Q wd B B2 wl wl b b2 _ rfl (HV.out.1.keep ((Below.refl _ _).drew)) (HV.out.2.keep ((Below.refl _ _).drew)) HCw.out).mono ?_
            rintro e w4 ⟨rfl, hb4⟩
            have hb5 := (Below.refl wr.heap.size wr).drew.trans hb4
            have HB4 : Kept (Below w2.heap.size w2 w4) := ⟨HB.out.trans (hb5.mono HB.out.size)⟩
            have xx' := HQ.out _ _ _ _ x4 hb5
            have yy' := HQ.out _ _ _ _ y4 hb5
            have c0' := HQ.out _ _ _ _ c0 hb5
            have c1' := HQ.out _ _ _ _ c1 hb5
            have d0' := HQ.out _ _ _ _ d0 hb5
            have d1' := HQ.out _ _ _ _ d1 hb5
            clear hb4 hb5))
     all_goals
       go_wp2_with fail
       go_roundw
       case rel => exact ⟨j + 1, by omega, by go_num, HB4⟩
       case measure => simp [intOf]; omega
   · have j1 : ¬ (j : Int) < (m2 : Int) := by omega
     go_wp2_with fail
     clear j1 j0 hlt x4 y4
     have HBs := HB
     clear HB hj
     go_loopw [6] (fun i wr => ∃ j : Nat, j ≤ m3 ∧ i = .int .i64 (j : Int) ∧ Kept (Below w2.heap.size w2 wr)) (fun i _ => m3 - (intOf i).toNat)
     case atStart => exact ⟨0, by omega, rfl, HBs⟩
     case round =>
       obtain ⟨j, hj, rfl, HB⟩ := hrel
       have j0 : (0 : Int) ≤ j := by omega
       have x5 := cell_of_row _ _ 5 _ _ _ (HRo.out _ HB.out).1
       have y5 := cell_of_row _ _ 5 _ _ _ (HRo.out _ HB.out).2
       by_cases hlt : j < m3
       · have j1 : (j : Int) < (m3 : Int) := by omega
         have hjl : j < rs.length := by have := HN.out; omega
         obtain ⟨g, off, B, b, rfl, c0, c1, hv⟩ := (HR.out.1.keepA HB.out).getA hjl
         obtain ⟨g2, off2, B2, b2, rfl, d0, d1, hv2⟩ := (HR.out.2.keepA HB.out).getA hjl
         have HV := Kept.mk (And.intro hv hv2)
         have HCw : Kept (cnt rs[j].2 ≤ 100000) := ⟨HSr.out.2 _ (List.getElem_mem hjl)⟩
         generalize rs[j].2 = wd at *
         generalize rs[j].1 = nm at *
         clear hjl hv hv2
         generalize hwl : wd.length = wl at *
         have HWl := Kept.mk hwl
         clear hwl
         go_wp2_with fail
         have hq : ∀ (p : Addr) (v : Value) (wa wb : World), wa.cell? p = some v → Below wa.heap.size wa wb → wb.cell? p = some v := fun p v wa wb h hb => (hb.cell (World.block_lt_of_cell? wa _ h)).trans h
         have HQ := Kept.mk hq
         clear hq
         go_region_held3 (fun w' => (w'.cell? ⟨w.heap.size, 5, none⟩ = some (.slice (some ⟨g, off, none⟩) m3 k3) ∧ w'.cell? ⟨w.heap.size + 1, 5, none⟩ = some (.slice (some ⟨g2, off2, none⟩) m3 q3)) ∧ (w'.cell? ⟨g, off + j * 2, none⟩ = some (.string (bs nm)) ∧ w'.cell? ⟨g, off + j * 2 + 1, none⟩ = some (.slice B wl b)) ∧ (w'.cell? ⟨g2, off2 + j * 2, none⟩ = some (.string (bs nm)) ∧ w'.cell? ⟨g2, off2 + j * 2 + 1, none⟩ = some (.slice B2 wl b2)))
           (first
             | exact ⟨⟨xx', yy'⟩, ⟨c0', c1'⟩, ⟨d0', d1'⟩⟩
             | exact ⟨⟨x5, y5⟩, ⟨c0, c1⟩, ⟨d0, d1⟩⟩)
           (first
             | (go_at_call 32
                refine (Wx.same_any (cnt wd) P Q wd B B2 wl wl b b2 _ rfl (HV.out.1.keep ((Below.refl _ _).drew)) (HV.out.2.keep ((Below.refl _ _).drew)) HCw.out).mono ?_
                rintro e w4 ⟨rfl, hb4⟩
                have hb5 := (Below.refl wr.heap.size wr).drew.trans hb4
                have HB4 : Kept (Below w2.heap.size w2 w4) := ⟨HB.out.trans (hb5.mono HB.out.size)⟩
                have xx' := HQ.out _ _ _ _ x5 hb5
                have yy' := HQ.out _ _ _ _ y5 hb5
                have c0' := HQ.out _ _ _ _ c0 hb5
                have c1' := HQ.out _ _ _ _ c1 hb5
                have d0' := HQ.out _ _ _ _ d0 hb5
                have d1' := HQ.out _ _ _ _ d1 hb5
                clear hb4 hb5))
         all_goals
           go_wp2_with fail
           go_roundw
           case rel => exact ⟨j + 1, by omega, by go_num, HB4⟩
           case measure => simp [intOf]; omega
       · have j1 : ¬ (j : Int) < (m3 : Int) := by omega
         go_wp2_with fail
         clear j1 j0 hlt x5 y5
         have HBs := HB
         clear HB hj
         go_loopw [7] (fun i wr => ∃ j : Nat, j ≤ m4 ∧ i = .int .i64 (j : Int) ∧ Kept (Below w2.heap.size w2 wr)) (fun i _ => m4 - (intOf i).toNat)
         case atStart => exact ⟨0, by omega, rfl, HBs⟩
         case round =>
           obtain ⟨j, hj, rfl, HB⟩ := hrel
           have j0 : (0 : Int) ≤ j := by omega
           have x6 := cell_of_row _ _ 6 _ _ _ (HRo.out _ HB.out).1
           have y6 := cell_of_row _ _ 6 _ _ _ (HRo.out _ HB.out).2
           by_cases hlt : j < m4
           · have j1 : (j : Int) < (m4 : Int) := by omega
             have hjl : j < os.length := by have := HN.out; omega
             obtain ⟨g, off, rfl, c0⟩ := (HO.out.1.keepO HB.out).getO hjl
             obtain ⟨g2, off2, rfl, d0⟩ := (HO.out.2.keepO HB.out).getO hjl
             generalize os[j] = nm at *
             have HB4 : Kept (Below w2.heap.size w2 wr.drew) := ⟨HB.out.trans (((Below.refl wr.heap.size wr).drew).mono HB.out.size)⟩
             clear hjl
             go_wp2_with fail
             go_region_held3 (fun w' => (w'.cell? ⟨w.heap.size, 6, none⟩ = some (.slice (some ⟨g, off, none⟩) m4 k4) ∧ w'.cell? ⟨w.heap.size + 1, 6, none⟩ = some (.slice (some ⟨g2, off2, none⟩) m4 q4)) ∧ (w'.cell? ⟨g, off + j, none⟩ = some (.string (bs nm)) ∧ w'.cell? ⟨g2, off2 + j, none⟩ = some (.string (bs nm))))
               (exact ⟨⟨x6, y6⟩, ⟨c0, d0⟩⟩)
               (fail)
             all_goals
               go_wp2_with fail
               go_roundw
               case rel => exact ⟨j + 1, by omega, by go_num, HB4⟩
               case measure => simp [intOf]; omega
           · have j1 : ¬ (j : Int) < (m4 : Int) := by omega
             go_wp2_with fail
             clear j1 j0 hlt x6 y6
             have HBs := HB
             clear HB hj
             go_loopw [8] (fun i wr => ∃ j : Nat, j ≤ m5 ∧ i = .int .i64 (j : Int) ∧ Kept (Below w2.heap.size w2 wr)) (fun i _ => m5 - (intOf i).toNat)
             case atStart => exact ⟨0, by omega, rfl, HBs⟩
             case round =>
               obtain ⟨j, hj, rfl, HB⟩ := hrel
               have j0 : (0 : Int) ≤ j := by omega
               have x7 := cell_of_row _ _ 7 _ _ _ (HRo.out _ HB.out).1
               have y7 := cell_of_row _ _ 7 _ _ _ (HRo.out _ HB.out).2
               by_cases hlt : j < m5
               · have j1 : (j : Int) < (m5 : Int) := by omega
                 have hjl : j < ks.length := by have := HN.out; omega
                 obtain ⟨g, off, k0, b0, nm, B1, r1, s1, B2, r2, s2, B3, r3, s3, B4, r4, s4, B5, r5, s5, rfl, hv, c0, c1, c2, c3, c4, c5, c6, c7⟩ := (HK.out.1.keep HB.out).getN hjl
                 obtain ⟨g2, off2, k02, b02, nm2, D1, t1, v1, D2, t2, v2, D3, t3, v3, D4, t4, v4, D5, t5, v5, rfl, hv2, d0, d1, d2, d3, d4, d5, d6, d7⟩ := (HK.out.2.keep HB.out).getN hjl
                 have HV := Kept.mk (And.intro hv hv2)
                 have HI := Kept.mk (HIh.out ks[j] (List.getElem_mem hjl))
                 generalize ks[j] = kid at *
                 clear hjl hv hv2
                 go_wp2_with fail
                 have hq : ∀ (p : Addr) (v : Value) (wa wb : World), wa.cell? p = some v → Below wa.heap.size wa wb → wb.cell? p = some v := fun p v wa wb h hb => (hb.cell (World.block_lt_of_cell? wa _ h)).trans h
                 have HQ := Kept.mk hq
                 clear hq
                 go_region_held3 (fun w' => (w'.cell? ⟨w.heap.size, 7, none⟩ = some (.slice (some ⟨g, off, none⟩) m5 k5) ∧ w'.cell? ⟨w.heap.size + 1, 7, none⟩ = some (.slice (some ⟨g2, off2, none⟩) m5 q5)) ∧ (w'.cell? ⟨g, off + j * 8, none⟩ = some (.int .i64 k0) ∧ w'.cell? ⟨g, off + j * 8 + 1, none⟩ = some (.bool b0) ∧ w'.cell? ⟨g, off + j * 8 + 2, none⟩ = some (.string (bs nm)) ∧ w'.cell? ⟨g, off + j * 8 + 3, none⟩ = some (.slice B1 r1 s1) ∧ w'.cell? ⟨g, off + j * 8 + 4, none⟩ = some (.slice B2 r2 s2) ∧ w'.cell? ⟨g, off + j * 8 + 5, none⟩ = some (.slice B3 r3 s3) ∧ w'.cell? ⟨g, off + j * 8 + 6, none⟩ = some (.slice B4 r4 s4) ∧ w'.cell? ⟨g, off + j * 8 + 7, none⟩ = some (.slice B5 r5 s5)) ∧ (w'.cell? ⟨g2, off2 + j * 8, none⟩ = some (.int .i64 k02) ∧ w'.cell? ⟨g2, off2 + j * 8 + 1, none⟩ = some (.bool b02) ∧ w'.cell? ⟨g2, off2 + j * 8 + 2, none⟩ = some (.string (bs nm2)) ∧ w'.cell? ⟨g2, off2 + j * 8 + 3, none⟩ = some (.slice D1 t1 v1) ∧ w'.cell? ⟨g2, off2 + j * 8 + 4, none⟩ = some (.slice D2 t2 v2) ∧ w'.cell? ⟨g2, off2 + j * 8 + 5, none⟩ = some (.slice D3 t3 v3) ∧ w'.cell? ⟨g2, off2 + j * 8 + 6, none⟩ = some (.slice D4 t4 v4) ∧ w'.cell? ⟨g2, off2 + j * 8 + 7, none⟩ = some (.slice D5 t5 v5)))
                   (first
                     | exact ⟨⟨xx', yy'⟩, ⟨c0', c1', c2', c3', c4', c5', c6', c7'⟩, ⟨d0', d1', d2', d3', d4', d5', d6', d7'⟩⟩
                     | exact ⟨⟨x7, y7⟩, ⟨c0, c1, c2, c3, c4, c5, c6, c7⟩, ⟨d0, d1, d2, d3, d4, d5, d6, d7⟩⟩)
                   (first
                     | (go_at_call 16
                        refine (HI.out P Q _ _ _ (HV.out.1.keep ((Below.refl _ _).drew)) (HV.out.2.keep ((Below.refl _ _).drew))).mono ?_
                        rintro e w4 ⟨rfl, hb4⟩
                        have hb5 := (Below.refl wr.heap.size wr).drew.trans hb4
                        have HB4 : Kept (Below w2.heap.size w2 w4) := ⟨HB.out.trans (hb5.mono HB.out.size)⟩
                        have xx' := HQ.out _ _ _ _ x7 hb5
                        have yy' := HQ.out _ _ _ _ y7 hb5
                        have c0' := HQ.out _ _ _ _ c0 hb5
                        have c1' := HQ.out _ _ _ _ c1 hb5
                        have c2' := HQ.out _ _ _ _ c2 hb5
                        have c3' := HQ.out _ _ _ _ c3 hb5
                        have c4' := HQ.out _ _ _ _ c4 hb5
                        have c5' := HQ.out _ _ _ _ c5 hb5
                        have c6' := HQ.out _ _ _ _ c6 hb5
                        have c7' := HQ.out _ _ _ _ c7 hb5
                        have d0' := HQ.out _ _ _ _ d0 hb5
                        have d1' := HQ.out _ _ _ _ d1 hb5
                        have d2' := HQ.out _ _ _ _ d2 hb5
                        have d3' := HQ.out _ _ _ _ d3 hb5
                        have d4' := HQ.out _ _ _ _ d4 hb5
                        have d5' := HQ.out _ _ _ _ d5 hb5
                        have d6' := HQ.out _ _ _ _ d6 hb5
                        have d7' := HQ.out _ _ _ _ d7 hb5
                        clear hb4 hb5))
                 all_goals
                   go_wp2_with fail
                   go_roundw
                   case rel => exact ⟨j + 1, by omega, by go_num, HB4⟩
                   case measure => simp [intOf]; omega
               · have j1 : ¬ (j : Int) < (m5 : Int) := by omega
                 go_wp2_with fail
                 go_ret
                 exact ⟨rfl, HB0.out.trans (HB.out.mono HB0.out.size)⟩
end Sy
end
end Go.Proofs.YtahjonfmhejoeaaGreatDoor
