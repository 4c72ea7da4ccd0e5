/-
  The printer: the next part is told, or a list ends.
-/
import Derived.Test.YtphgnjjblpmijaaDoorWq6M
import Derived.Deep.CutBlock
import Derived.Deep.LoopGhost
namespace Go.Proofs.YtphgnjjblpmijaaDoor
open Go.RowKit Tx
namespace Wx
variable {P : Nat → Prop}

theorem lt_of_cell {w : World} {a : Addr} {v : Value} (h : w.cell? a = some v) : a.block < w.heap.size := by
  rcases Nat.lt_or_ge a.block w.heap.size with h1 | h1
  · exact h1
  · simp [World.cell?, Array.getElem?_eq_none h1] at h
theorem Told.eq {P : Nat → Prop} {w0 w : World} {b : Nat} {T T' : List UInt8} {M M' : Nat} (h : Told P w0 w b T M) (hT : T = T') (hM : M ≤ M') : Told P w0 w b T' M' := by
  obtain ⟨p, v, vl, out, ls, h1, h2, h3⟩ := h
  exact ⟨p, v, vl, out, ls, h1, h2.trans hT, Nat.le_trans h3 hM⟩
set_option maxHeartbeats 8000000 in
set_option maxRecDepth 100000 in
theorem printOn_end (w0 w : World) (b : Nat) (p v vl : Value) (out : List UInt8) (ls : Lists) (bh : List UInt8) (h : PrM P w0 w b p v vl out (ls ++ [([], bh)])) (hs : out.length + bh.length ≤ 1000000) (hl : ls.length ≤ 1000000) :
    Calls Tryd.prog 19 #[.pointer (some ⟨b, 0, none⟩)] w fun e w' => e = .returned (.tuple #[]) ∧ ∃ p' v' vl', Kept (PrM P w0 w' b p' v' vl' (out ++ bh) ls) := by
  obtain ⟨g, k, u, rfl, hu, hlv, d0, d1, fz, hgb, hk⟩ := h.last
  obtain ⟨A, ku, rfl⟩ := hlv.slice
  have c2 := h.c2
  have H := Kept.mk h
  have HS := Kept.mk hs
  generalize hL : ls.length = L at *
  have HLe := Kept.mk hL
  clear h hs hlv hL
  go_enter Tryd.func19, Tryd.ntmps19
  go_wp2_with fail
  go_region
  have H2 : Kept (PrM P w0 w.drew b p v (.slice (some ⟨g, 0, none⟩) (L + 1) k) out (ls ++ [([], bh)])) := ⟨H.out.below (Below.refl _ _).drew⟩
  have e0 : w.drew.cell? ⟨g, L * 2, none⟩ = some (.slice A 0 ku) := d0
  have e1 : w.drew.cell? ⟨g, L * 2 + 1, none⟩ = some (.string (bs bh)) := d1
  clear H d0 d1 c2 fz
  generalize w.drew = W at *
  go_wp2_with fail
  go_region_law (first
    | (go_simp; go_at_call 28
       refine (Bl.writeString_any 50 [.slice (some ⟨g, 0, none⟩) (L + 1) k] (Bl.lies_printer _) _ _ p v _ (bs bh) _ (H2.out.below (Below.refl _ _).drew).at_ H2.out.self H2.out.hb (by have := HS.out; rw [bs_size]; omega) H2.out.bel.size).mono ?_
       rintro e w1 ⟨rfl, v1, hA1, hL1⟩
       have HP : Kept (PrM P w0 w1 b (.pointer (some ⟨b, 0, none⟩)) v1 (.slice (some ⟨g, 0, none⟩) (L + 1) k) (out ++ bh) (ls ++ [([], bh)])) := ⟨by have := (H2.out.below (Below.refl _ _).drew).wrote (.inr rfl) hA1 hL1; rwa [toL_bs] at this⟩
       clear hA1 hL1)
    | go_simp)
  have c2 := HP.out.c2
  have f2 := HP.out.at_.fz 2
  go_wp2_with fail
  go_region
  go_wp2_with fail
  refine bodyPost_ret (results_none rfl _ _ _) rfl ?_
  obtain ⟨hLe⟩ := HLe
  subst hLe
  exact ⟨rfl, _, _, _, ⟨(PrM.pop HP.out).below (Below.refl _ _).drew⟩⟩
set_option maxHeartbeats 8000000 in
set_option maxRecDepth 100000 in
theorem printOn_on (w0 w : World) (b : Nat) (p v vl : Value) (out : List UInt8) (ls : Lists) (bh : List UInt8) (x : Pt) (l : List Pt) (h : PrM P w0 w b p v vl out (ls ++ [(x :: l, bh)])) (hs : out.length ≤ 900000) (hl : ls.length ≤ 100000) (hw : wtP x ≤ 25000) :
    Calls Tryd.prog 19 #[.pointer (some ⟨b, 0, none⟩)] w fun e w' => e = .returned (.tuple #[]) ∧ Kept (Told P w0 w' b (out ++ told (ls ++ [(x :: l, bh)])) (meas ls + 2 * wt l + 2 * wtP x)) := by
  obtain ⟨g, k, u, rfl, hu, hlv, d0, d1, fz, hgb, hk⟩ := h.last
  obtain ⟨A, ku, rfl⟩ := hlv.slice
  obtain ⟨gp, off, kk, q, t, nn, o, wd, vw, rfl, hg, hx, hv, hwd, x0, x1, x2, x3, x4, x5⟩ := hlv.get (j := 0) (by simp)
  have hx : x = .mk kk q t nn o wd := hx
  subst hx
  obtain ⟨Aw, kw, rfl⟩ := hwd.slice
  have c2 := h.c2
  have H := Kept.mk h
  have HS := Kept.mk hs
  obtain ⟨At, ct, hsl, hT⟩ := hlv.tail
  have HT := Kept.mk hT
  clear hT
  have HWd := Kept.mk hwd
  have HWt := Kept.mk hw
  rw [List.length_cons] at d0
  have hb0 := h.bel
  have y : ∀ j u, w0.cell? ⟨gp, off + 0 * 6 + j, none⟩ = some u → w.cell? ⟨gp, off + j, none⟩ = some u := fun j u hj => by
    rw [Nat.zero_mul, Nat.add_zero] at hj
    exact (hb0.cell (p := ⟨gp, off + j, none⟩) hg).trans hj
  have y0 := y 0 _ x0
  have y1 := y 1 _ x1
  have y2 := y 2 _ x2
  have y3 := y 3 _ x3
  have y4 := y 4 _ x4
  have y5 := y 5 _ x5
  rw [Nat.add_zero] at y0
  clear x0 x1 x2 x3 x4 x5 y hb0 hs h hlv hwd hw hx
  generalize hL : ls.length = L at *
  have HLe := Kept.mk hL
  clear hL
  rw [List.length_cons] at hu
  generalize hn : l.length = n at *
  have HN := Kept.mk hn
  clear hn
  generalize wd.length = wl at *
  have hn1 : ¬ (n : Int) + 1 = 0 := by omega
  go_enter Tryd.func19, Tryd.ntmps19
  go_wp2_with fail
  go_region
  have H2 := Kept.mk (H.out.below (Below.refl _ _).drew)
  have hgl : g < w.drew.heap.size := lt_of_cell d0
  have HG : Kept (g < w.drew.heap.size) := ⟨hgl⟩
  have z0 : w.drew.cell? ⟨gp, off, none⟩ = some (.int .i64 kk) := y0
  have z1 : w.drew.cell? ⟨gp, off + 1, none⟩ = some (.bool q) := y1
  have z2 : w.drew.cell? ⟨gp, off + 2, none⟩ = some (.string (bs t)) := y2
  have z3 : w.drew.cell? ⟨gp, off + 3, none⟩ = some (.string (bs nn)) := y3
  have z4 : w.drew.cell? ⟨gp, off + 4, none⟩ = some (.string (bs o)) := y4
  have z5 : w.drew.cell? ⟨gp, off + 5, none⟩ = some (.slice Aw wl kw) := y5
  have e0 : w.drew.cell? ⟨g, L * 2, none⟩ = some (.slice (some ⟨gp, off, none⟩) (n + 1) ku) := d0
  have a0 : (w.drew.alloc (.cells #[.int .i64 kk, .bool q, .string (bs t), .string (bs nn), .string (bs o), .slice Aw wl kw] 39)).cell? ⟨g, L * 2, none⟩ = some (.slice (some ⟨gp, off, none⟩) (n + 1) ku) := (World.cell?_of_block (a := ⟨g, L * 2, none⟩) (Below.heap_alloc w.drew _ g hgl)).trans e0
  have af : (w.drew.alloc (.cells #[.int .i64 kk, .bool q, .string (bs t), .string (bs nn), .string (bs o), .slice Aw wl kw] 39)).frozen? ⟨g, L * 2, none⟩ = false := (World.frozen?_of_block (a := ⟨g, L * 2, none⟩) (Below.heap_alloc w.drew _ g hgl)).trans fz
  clear y0 y1 y2 y3 y4 y5 d0 d1 c2 fz H hgl
  generalize w.drew = W at *
  have HXn := Kept.mk (heap_alloc_new W (.cells #[.int .i64 kk, .bool q, .string (bs t), .string (bs nn), .string (bs o), .slice Aw wl kw] 39))
  go_upto_block 0 with fail
  have HX : Kept (((W.alloc (.cells #[.int .i64 kk, .bool q, .string (bs t), .string (bs nn), .string (bs o), .slice Aw wl kw] 39)).setCell ⟨g, L * 2, none⟩ (.slice At n ct)).heap[W.heap.size]? = some (.cells #[.int .i64 kk, .bool q, .string (bs t), .string (bs nn), .string (bs o), .slice Aw wl kw] 39 (0, 0))) := ⟨(Below.heap_setCell _ _ _ _ (by have := HG.out; show W.heap.size ≠ g; omega)).trans HXn.out⟩
  have HP : Kept (PrM P w0 ((W.alloc (.cells #[.int .i64 kk, .bool q, .string (bs t), .string (bs nn), .string (bs o), .slice Aw wl kw] 39)).setCell ⟨g, L * 2, none⟩ (.slice At n ct)) b p v (.slice (some ⟨g, 0, none⟩) (L + 1) k) out (ls ++ [(l, bh)])) := ⟨by
    obtain ⟨h1⟩ := HLe
    subst h1
    exact (H2.out.below ((Below.refl _ _).alloc (Nat.le_refl _) _)).cut rfl HT.out⟩
  have HWp : Kept (1 + wt wd + t.length + nn.length + o.length ≤ wtP (.mk kk q t nn o wd)) := ⟨by rw [wtP]; omega⟩
  have HTs : Kept (t.length + nn.length + o.length ≤ 25000) := ⟨by have := HWp.out; have := HWt.out; omega⟩
  clear H2 z0 z1 z2 z3 z4 z5 e0 a0 af HXn hsl HT
  generalize (W.alloc (.cells #[.int .i64 kk, .bool q, .string (bs t), .string (bs nn), .string (bs o), .slice Aw wl kw] 39)).setCell ⟨g, L * 2, none⟩ (.slice At n ct) = V at *
  generalize W.heap.size = gx at *
  have q0 : V.cell? ⟨gx, 0, none⟩ = some (.int .i64 kk) := cell_of_row _ _ 0 _ _ _ HX.out
  have q1 : V.cell? ⟨gx, 1, none⟩ = some (.bool q) := cell_of_row _ _ 1 _ _ _ HX.out
  have q2 : V.cell? ⟨gx, 2, none⟩ = some (.string (bs t)) := cell_of_row _ _ 2 _ _ _ HX.out
  have q3 : V.cell? ⟨gx, 3, none⟩ = some (.string (bs nn)) := cell_of_row _ _ 3 _ _ _ HX.out
  have q4 : V.cell? ⟨gx, 4, none⟩ = some (.string (bs o)) := cell_of_row _ _ 4 _ _ _ HX.out
  have q5 : V.cell? ⟨gx, 5, none⟩ = some (.slice Aw wl kw) := cell_of_row _ _ 5 _ _ _ HX.out
  clear HX
  by_cases k0 : kk = 0
  · subst k0
    cases q with
    | true =>
      go_wp2_with (go_at_call 30; refine (Bl.replaceAll_any (bs t) _ (by have := HTs.out; rw [bs_size]; omega)).mono ?_; rintro e w1 ⟨rfl, hb1⟩; have HQ := Kept.mk (HP.out.below hb1); clear hb1)
      go_at_call 29
      refine (write_any w0 _ b p v _ out _ ⟨#[39]⟩ (bs (Bl.esc t)) ⟨#[39]⟩ HQ.out (by have := HS.out; have := HTs.out; have h3 := Bl.esc_len t; have h4 := List.count_le_length (a := (39 : UInt8)) (l := t); simp [bs_size, lits]; omega)).mono ?_
      rintro e w2 ⟨rfl, p2, v2, h2, _⟩
      have HR := h2
      clear h2
      go_wp2_with fail
      refine bodyPost_end (results_none rfl _ _ _) rfl ?_
      exact ⟨rfl, ⟨p2, v2, _, _, _, HR.out, by rw [told_snoc, told_snoc, print, printP, if_pos rfl, toL_bs]; simp [toL_lit, single, Bl.esc, List.append_assoc], by rw [meas_snoc]; have := HWp.out; omega⟩⟩
    | false =>
      have HQ := HP
      go_wp2_with fail
      go_at_call 29
      refine (write_any w0 _ b p v _ out _ ⟨#[]⟩ (bs t) ⟨#[]⟩ HQ.out (by have := HS.out; have := HTs.out; simp [bs_size, lits]; omega)).mono ?_
      rintro e w2 ⟨rfl, p2, v2, h2, _⟩
      have HR := h2
      clear h2
      go_wp2_with fail
      refine bodyPost_end (results_none rfl _ _ _) rfl ?_
      exact ⟨rfl, ⟨p2, v2, _, _, _, HR.out, by rw [told_snoc, told_snoc, print, printP, if_pos rfl, toL_bs]; simp [toL_lit, List.append_assoc], by rw [meas_snoc]; have := HWp.out; omega⟩⟩
  · have HK0 := Kept.mk k0
    cases q with
    | true =>
      go_wp2_with fail
      go_at_call 31
      refine (exp_any w0 _ b p v _ out _ kk true true t nn o wd (.slice Aw wl kw) HP.out rfl HWd.out (by have := HS.out; have := HTs.out; omega) (by rw [List.length_append]; have := HLe.out; show _ + 1 ≤ _; omega)).mono ?_
      rintro e w2 ⟨rfl, h2⟩
      have HR := h2
      clear h2
      go_wp2_with fail
      refine bodyPost_end (results_none rfl _ _ _) rfl ?_
      refine ⟨rfl, ⟨HR.out.eq ?_ ?_⟩⟩
      · rw [told_snoc, told_snoc, print, printP_core HK0.out]; simp [List.append_assoc]
      · rw [meas_snoc]; have := HWp.out; omega
    | false =>
      go_wp2_with fail
      go_at_call 31
      refine (exp_any w0 _ b p v _ out _ kk false false t nn o wd (.slice Aw wl kw) HP.out rfl HWd.out (by have := HS.out; have := HTs.out; omega) (by rw [List.length_append]; have := HLe.out; show _ + 1 ≤ _; omega)).mono ?_
      rintro e w2 ⟨rfl, h2⟩
      have HR := h2
      clear h2
      go_wp2_with fail
      refine bodyPost_end (results_none rfl _ _ _) rfl ?_
      refine ⟨rfl, ⟨HR.out.eq ?_ ?_⟩⟩
      · rw [told_snoc, told_snoc, print, printP_core HK0.out]; simp [List.append_assoc]
      · rw [meas_snoc]; have := HWp.out; omega
end Wx
end Go.Proofs.YtphgnjjblpmijaaDoor

/-
  The program's Print.
-/
namespace Go.Proofs.YtphgnjjblpmijaaDoor
open Go.RowKit Tx
namespace Wx
variable {P : Nat → Prop}

/-- The printer as it begins. -/
theorem PrM.start {w : World} {l : List Pt} {A : Option Addr} {n k : Nat} (h : LV P w (.slice A n k) l) :
    PrM P w ((w.alloc (.cells #[.slice A n k, .string ⟨#[]⟩] 44)).alloc (.cells #[.pointer none, .slice none 0 0, .slice (some ⟨w.heap.size, 0, none⟩) 1 1] 50)) (w.heap.size + 1) (.pointer none) (.slice none 0 0) (.slice (some ⟨w.heap.size, 0, none⟩) 1 1) [] [(l, [])] := by
  have h1 := heap_alloc_new w (.cells #[.slice A n k, .string ⟨#[]⟩] 44)
  have h2 := heap_alloc_new (w.alloc (.cells #[.slice A n k, .string ⟨#[]⟩] 44)) (.cells #[.pointer none, .slice none 0 0, .slice (some ⟨w.heap.size, 0, none⟩) 1 1] 50)
  rw [World.size_alloc] at h2
  refine ⟨⟨h2, World.ownsRowF_nil _ _ _ _, by decide⟩, .inl rfl, by omega, ⟨[.slice A n k, .string (bs [])], ?_, .cons _ _ _ _ _ rfl h .nil⟩, ((Below.refl _ _).alloc (Nat.le_refl _) _).alloc (by simp) _⟩
  exact ⟨rfl, .inr ⟨w.heap.size, 1, _, rfl, Nat.le_refl _, (Below.heap_alloc _ _ _ (by simp)).trans h1, Nat.le_refl _, by decide, rfl, rfl⟩⟩
set_option maxHeartbeats 8000000 in
set_option maxRecDepth 100000 in
theorem progPrint_any (l : List Pt) (A : Option Addr) (n k : Nat) (w : World) (h : LV P w (.slice A n k) l) (hw : wt l ≤ 20000) :
    Calls Tryd.prog 14 #[.slice A n k] w fun e w' => e = .returned (.string (bs (print l))) ∧ Below w.heap.size w w' := by
  have H0 := Kept.mk (PrM.start h)
  have HL : Kept ((print l).length ≤ 160000) := ⟨by have := print_len l; omega⟩
  have HM : Kept (2 * wt l + 1 ≤ 50000) := ⟨by omega⟩
  clear h hw
  go_enter Tryd.func14, Tryd.ntmps14
  go_wp2_with fail
  go_loopg [] (2 * wt l + 1) (fun m wr => m ≤ 50000 ∧ ∃ p v vl out ls, Kept (PrM P w wr (w.heap.size + 1) p v vl out ls) ∧ Kept (out ++ told ls = print l) ∧ Kept (meas ls ≤ m))
  case atStart => exact ⟨HM.out, _, _, _, _, _, ⟨H0.out⟩, ⟨by show _ ++ told ([] ++ [(l, [])]) = _; rw [told_snoc, told_nil]; simp⟩, ⟨by show meas ([] ++ [(l, [])]) ≤ _; rw [meas_snoc]; simp [meas]⟩⟩
  case round =>
    obtain ⟨hgk, p, v, vl, out, ls, HP, HT, HMs⟩ := hrel
    obtain ⟨A1, k1, rfl⟩ := HP.out.slice
    have c2 := HP.out.c2
    have HLo : Kept (out.length + (told ls).length ≤ 160000) := ⟨by rw [← List.length_append, HT.out]; exact HL.out⟩
    rcases List.eq_nil_or_concat ls with h0 | ⟨ls', x, h0⟩
    · subst h0
      have HE : Kept (out = print l) := ⟨by have := HT.out; rwa [told_nil, List.append_nil] at this⟩
      have c2 : wr.cell? ⟨w.heap.size + 1, 2, none⟩ = some (.slice A1 0 k1) := c2
      go_wp2_with fail
      go_at_call 20
      refine (Bl.string_any _ _ _ _ _ _ _ _ HP.out.at_ HP.out.bel.size).mono ?_
      rintro e w2 ⟨rfl, hb⟩
      have HB := Kept.mk (HP.out.bel.trans hb)
      clear hb
      go_wp2_with fail
      go_ret
      exact ⟨by rw [HE.out]; rfl, HB.out⟩
    · have h1 : ls = ls' ++ [x] := by rw [h0, List.concat_eq_append]
      obtain ⟨lx, bh⟩ := x
      clear h0
      subst h1
      have HLs : Kept (ls'.length ≤ 100000) := ⟨by have := meas_len (ls' ++ [(lx, bh)]); rw [List.length_append] at this; have := HMs.out; omega⟩
      rw [List.length_append, List.length_singleton] at c2
      have hn1 : (0 : Int) < (ls'.length : Int) + 1 := by omega
      cases lx with
      | nil =>
        go_wp2_with fail
        go_at_call 19
        refine (printOn_end w wr _ p v _ out ls' bh HP.out (by have := HLo.out; rw [told_snoc] at this; simp at this; omega) (by have := HLs.out; omega)).mono ?_
        rintro e w2 ⟨rfl, p2, v2, vl2, h2⟩
        have HR := h2
        clear h2
        go_wp2_with fail
        go_roundg (meas ls')
        case measure => have := HMs.out; rw [meas_snoc] at this; omega
        case rel => exact ⟨by have := HMs.out; rw [meas_snoc] at this; omega, _, _, _, _, _, HR, ⟨by have := HT.out; rw [told_snoc] at this; rw [← this]; simp [print]⟩, ⟨Nat.le_refl _⟩⟩
      | cons y r =>
        have HW : Kept (wtP y ≤ 25000) := ⟨by have := HMs.out; rw [meas_snoc, wt] at this; omega⟩
        go_wp2_with fail
        go_at_call 19
        refine (printOn_on w wr _ p v _ out ls' bh y r HP.out (by have := HLo.out; omega) HLs.out HW.out).mono ?_
        rintro e w2 ⟨rfl, h2⟩
        have HR := h2
        clear h2
        go_wp2_with fail
        go_roundg (meas ls' + 2 * wt r + 2 * wtP y)
        case measure => have := HMs.out; rw [meas_snoc, wt] at this; omega
        case rel =>
          obtain ⟨p2, v2, vl2, out2, ls2, h1, h2, h3⟩ := HR.out
          exact ⟨by have := HMs.out; rw [meas_snoc, wt] at this; omega, p2, v2, vl2, out2, ls2, ⟨h1⟩, ⟨h2.trans HT.out⟩, ⟨h3⟩⟩
end Wx
end Go.Proofs.YtphgnjjblpmijaaDoor
