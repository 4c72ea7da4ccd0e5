/-
  The program's Remove.
-/
import Derived.Test.YtkifnabkoidhcaaPpi
namespace Go.Proofs.Ytkifnabkoidhcaa
open Go.RowKit Go.Shelf Tx
attribute [local go_sem] Oper.semAt_some
namespace Pm

def lastD (ys : List Nat) : Nat := ys.getLast?.getD 0
/-- Remove, between two rounds. -/
structure RI (w : World) (mb rb : Nat) (most : Bool) (ys : List Nat) (W : World) : Prop where
  first : most = false → ys = []
  r : W.heap[rb]? = some (.cells #[.int .i64 ((lastD ys : Nat) : Int)] 3 (0, 0))
  c : W.cell? ⟨mb, 0, none⟩ = some (.bool most)
  bel : Below w.heap.size w W
/-- Where the first one is enough. -/
structure RX (w : World) (rb : Nat) (most : Bool) (id : Nat) (c : Code) (ys : List Nat) (W : World) : Prop where
  c : c = .exit id
  first : most = false
  one : ∃ x, ys = [x]
  r : W.heap[rb]? = some (.cells #[.int .i64 ((lastD ys : Nat) : Int)] 3 (0, 0))
  bel : Below w.heap.size w W
theorem RI.low {w : World} {mb rb n : Nat} {most : Bool} (h1 : mb < n) (h2 : rb < n) (h3 : w.heap.size ≤ n) : Rg.Low n (RI w mb rb most) := fun _ys _A _B h hb =>
  ⟨h.first, (hb.block rb h2).trans h.r, (World.cell?_of_block (a := ⟨mb, 0, none⟩) (hb.block mb h1)).trans h.c, h.bel.trans (hb.mono h3)⟩
theorem RX.low {w : World} {rb n : Nat} {most : Bool} {id : Nat} (c : Code) (h2 : rb < n) (h3 : w.heap.size ≤ n) : Rg.Low n (RX w rb most id c) := fun _ys _A _B h hb =>
  ⟨h.c, h.first, h.one, (hb.block rb h2).trans h.r, h.bel.trans (hb.mono h3)⟩
theorem res_remove (tmps : Array Value) (W : World) (v : Value) (ht : tmps[8]?.getD undef = v) : (results Try.f21 tmps).run Try.prog W = .ok v W := by
  simp [results, Try.f21, go_sem, ht]
theorem lastD_snoc (ys : List Nat) (n : Nat) : lastD (ys ++ [n]) = n := by simp [lastD]
/-- What is left, by what has come. -/
theorem rem_done {p : List UInt8} {l l2 : List El} {s s2 : List UInt8} {e most : Bool} {ys : List Nat} (hm : ∀ t, mat p t = matE l t) (hl : l2 = if e then l.reverse else l) (hs : s2 = if e then s.reverse else s) (h : Whole l2 s2 ys) (hf : most = false → ys = []) : rem s p e most = cutAt s e (lastD ys) ∧ lastD ys ≤ s.length := by
  have hlen : s2.length = s.length := by rw [hs]; split <;> simp
  rcases List.eq_nil_or_concat ys with rfl | ⟨zs, n, rfl⟩
  · exact ⟨wrem_none hm hl hs most h, Nat.zero_le _⟩
  · rw [List.concat_eq_append] at h hf ⊢
    have hmost : most = true := by
      cases most with
      | true => rfl
      | false => have := hf rfl; simp at this
    subst hmost
    rw [lastD_snoc]
    exact ⟨rem_most hm hl hs h, by have := ((h.2 n).1 (by simp)).1; omega⟩
theorem rem_first {p : List UInt8} {l l2 : List El} {s s2 : List UInt8} {e : Bool} {ys : List Nat} (hm : ∀ t, mat p t = matE l t) (hl : l2 = if e then l.reverse else l) (hs : s2 = if e then s.reverse else s) (h : Part l2 s2 ys) (hx : ∃ x, ys = [x]) : rem s p e false = cutAt s e (lastD ys) ∧ lastD ys ≤ s.length := by
  have hlen : s2.length = s.length := by rw [hs]; split <;> simp
  obtain ⟨x, rfl⟩ := hx
  exact ⟨rem_least hm hl hs h, by have := (h.2.1 x (by simp)).1; show x ≤ _; omega⟩
theorem cut_to {s : ByteArray} {N : Nat} (W : World) (h : N ≤ s.size) : (Instr.slice 9 (.string s) none (some (.int .i64 ((s.size : Int) - (N : Int)))) none).run Try.prog W = .ok (.string (bs (cutAt (toL s) true N))) W := by
  have e : bs (cutAt (toL s) true N) = s.extract 0 (s.size - N) := by
    apply toL_inj
    rw [toL_bs, toL_extract]
    unfold cutAt
    rw [if_pos rfl, toL_length]
    simp
  rw [e, run_slice_string_to_if W 9 s .i64 _ Try.underlying9, if_pos ⟨by omega, by omega⟩, show ((s.size : Int) - (N : Int)).toNat = s.size - N by omega]
theorem cut_from {s : ByteArray} {N : Nat} (W : World) (h : N ≤ s.size) : (Instr.slice 9 (.string s) (some (.int .i64 (N : Int))) none none).run Try.prog W = .ok (.string (bs (cutAt (toL s) false N))) W := by
  have e : bs (cutAt (toL s) false N) = s.extract N s.size := by
    apply toL_inj
    rw [toL_bs, toL_extract]
    unfold cutAt
    rw [if_neg (by decide), List.take_of_length_le (by rw [List.length_drop, toL_length]; omega)]
  rw [e, run_slice_string_from_if W 9 s .i64 _ Try.underlying9, if_pos ⟨by omega, by omega⟩, Int.toNat_natCast]
set_option maxHeartbeats 4000000 in
set_option maxRecDepth 100000 in
theorem remove_false (s p : ByteArray) (most : Bool) (w : World) (hp : p.size ≤ 2000) (hs : s.size ≤ 2000) : Calls Try.prog 21 #[.string s, .string p, .bool false, .bool most] w fun e w' => e = .returned (.string (bs (rem (toL s) (toL p) false most))) ∧ Below w.heap.size w w' := by
  have HP := Kept.mk hp
  have HS := Kept.mk hs
  clear hp hs
  refine (callsIn_wide (n := 5)).1 ?_
  refine callsIn_of_wp_marks Try.func21 rfl trivial ?_ rfl
  simp only [Try.ntmps21, List.size_toArray, List.length_cons, List.length_nil, Nat.reduceAdd, Nat.reduceSub, Array.replicate_succ, Array.replicate_zero, List.push_toArray, List.append_toArray, List.nil_append, List.cons_append]
  gi_wp2_with fail
  refine ⟨trivial, ?_⟩
  gi_at_call 26
  have h0 := heap_alloc_new w (.cells #[.bool most] 4)
  have hA := (Below.refl w.heap.size w).alloc (Nat.le_refl _) (.cells #[.bool most] 4)
  generalize w.alloc (.cells #[.bool most] 4) = W0 at *
  refine (callsIn_wide.2 (elements_any p W0 HP.out)).mono ?_
  rintro e w1 ⟨v, ts, l, rfl, HE, HES1, HB1, HF1⟩
  have h1 := (HB1.out.block w.heap.size (Array.getElem?_eq_some_iff.1 h0).1).trans h0
  have hb1 : Below w.heap.size w w1 := hA.trans (HB1.out.mono hA.size)
  have hz0 : w.heap.size < W0.heap.size := (Array.getElem?_eq_some_iff.1 h0).1
  have H1 := Kept.mk (And.intro h1 hb1)
  obtain ⟨A2, q2, rfl⟩ := own_shape HES1.out.own
  obtain ⟨n2, hn2⟩ : ∃ n2, n2 = ts.length := ⟨_, rfl⟩
  rw [← hn2] at HES1
  have HN2 := Kept.mk hn2
  rw [← hn2]
  clear h0 h1 hb1 hA hn2
  obtain ⟨s2, hs2⟩ : ∃ s2, s2 = s := ⟨_, rfl⟩
  obtain ⟨w3, hw3⟩ : ∃ w3, w3 = w1 := ⟨_, rfl⟩
  obtain ⟨l2, hl2⟩ : ∃ l2, l2 = l := ⟨_, rfl⟩
  obtain ⟨ts2, hts2⟩ : ∃ ts2, ts2 = ts := ⟨_, rfl⟩
  have HSz : Kept (s.size ≤ 2000) := HS
  have hES3 : ES w1 W0.heap.size (.slice A2 n2 q2) ts2 l2 := by rw [hl2, hts2]; exact HES1.out
  have hlr : l2.length ≤ 2000 := by rw [hl2]; exact HF1.out
  have H3 : Kept (w1.heap[w.heap.size]? = some (.cells #[.bool most] 4 (0, 0)) ∧ Below w.heap.size w w1) := H1
  have HL2 : Kept (fns l2 = fns l) := ⟨by rw [hl2]⟩
  have HT2 : Kept (toL s = toL s) := ⟨rfl⟩
  clear hl2 hts2 hs2 hw3 HES1 H1
  have hES4 : ES (w1.alloc (.cells #[.int .i64 0] 3)) W0.heap.size (.slice A2 n2 q2) ts2 l2 := MM.es_below hES3 ((Below.refl _ _).alloc (Nat.le_refl _) _)
  have h4 := heap_alloc_new w1 (.cells #[.int .i64 0] 3)
  have h4m := (Below.heap_alloc w1 (.cells #[.int .i64 0] 3) w.heap.size (Array.getElem?_eq_some_iff.1 H3.out.1).1).trans H3.out.1
  have h4b : Below w.heap.size w (w1.alloc (.cells #[.int .i64 0] 3)) := H3.out.2.alloc H3.out.2.size _
  obtain ⟨rb, hrb⟩ : ∃ rb, rb = w1.heap.size := ⟨_, rfl⟩
  have hmr : w.heap.size < rb := by rw [hrb]; exact (Array.getElem?_eq_some_iff.1 H3.out.1).1
  have HRB := Kept.mk hrb
  rw [← hrb] at h4
  clear hES3 hrb H3
  gi_wp2_with fail
  rw [← HRB.out]
  generalize w1.alloc (.cells #[.int .i64 0] 3) = w4 at *
  have hap := hES4.apart h4 (by decide) (by decide)
  have hrz : rb < w4.heap.size := (Array.getElem?_eq_some_iff.1 h4).1
  refine ⟨trivial, ?_⟩
  gi_at_call 25
  refine (callsIn_wide.2 (prefixes_any w4 A2 n2 q2 s)).mono ?_
  rintro e w5 ⟨rfl, rfl⟩
  have hA5 := ((Below.refl w4.heap.size w4).alloc (Nat.le_refl _) (.cells #[.slice A2 n2 q2] 40)).alloc (by simp) (.cells #[.string s] 9)
  have hl5 : ((w4.alloc (.cells #[.slice A2 n2 q2] 40)).alloc (.cells #[.string s] 9)).cell? ⟨w4.heap.size, 0, none⟩ = some (.slice A2 n2 q2) := cell_of_row _ _ 0 _ _ _ ((Below.heap_alloc _ _ _ (by simp)).trans (heap_alloc_new w4 _))
  have hs5 : ((w4.alloc (.cells #[.slice A2 n2 q2] 40)).alloc (.cells #[.string s] 9)).cell? ⟨w4.heap.size + 1, 0, none⟩ = some (.string s) := by
    have := heap_alloc_new (w4.alloc (.cells #[.slice A2 n2 q2] 40)) (.cells #[.string s] 9)
    rw [World.size_alloc] at this
    exact cell_of_row _ _ 0 _ _ _ this
  have hz5 : ((w4.alloc (.cells #[.slice A2 n2 q2] 40)).alloc (.cells #[.string s] 9)).heap.size = w4.heap.size + 2 := by simp
  have hES5 := MM.es_below hES4 hA5
  have h5 := (hA5.block rb hrz).trans h4
  have h5m := (hA5.block w.heap.size (by omega)).trans h4m
  have h5b := h4b.trans (hA5.mono h4b.size)
  clear hES4 h4 h4m h4b hA5
  generalize ((w4.alloc (.cells #[.slice A2 n2 q2] 40)).alloc (.cells #[.string s] 9)) = w5 at *
  have HEls : Kept (∀ t, mat (toL p) t = matE (fns l) t) := ⟨els_mat HE.out (toL p) rfl (fun h => by cases h)⟩
  have HI0 : RI w w.heap.size rb most [] w5 := ⟨fun _ => rfl, h5, cell_of_row _ _ 0 _ _ _ h5m, h5b⟩
  have hit := iter_any (5 - 1) rb w5 W0.heap.size w4.heap.size (w4.heap.size + 1) _ ts2 l2 s hl5 hs5 hES5 ⟨hlr, HSz.out⟩ ⟨by omega, by omega, hap⟩ (by omega) (by omega)
  clear hES5 h5 h5m h5b hl5 hs5 hap
  gi_wp2_with fail
  refine Rg.range_low rfl (by omega) (gf := 36) (lb := #[.pointer (some ⟨w4.heap.size, 0, none⟩), .pointer (some ⟨w4.heap.size + 1, 0, none⟩)]) rfl trivial (enters_of Try.func36 (by kernel_rfl) rfl)
    hit (Below.refl _ _) (by omega) rfl (RI w w.heap.size rb most) (RX w rb most 0) (RI.low (by omega) (by omega) (by omega)) (fun c => RX.low c (by omega) (by omega)) HI0
    (fun x => { tmps := #[.string s, .string p, .bool false, .bool most, undef, undef, undef, .pointer (some ⟨w.heap.size, 0, none⟩), .string ⟨#[]⟩, .slice A2 n2 q2, .string s, .pointer (some ⟨rb, 0, none⟩), .int .i64 (x : Int), .string p, .slice A2 n2 q2, .string s, .bool false, undef, undef, undef, undef, .slice A2 n2 q2, .string s, .func (.func 36) #[] #[.pointer (some ⟨w4.heap.size, 0, none⟩), .pointer (some ⟨w4.heap.size + 1, 0, none⟩)], .int .i64 (x : Int), undef, undef, undef, undef, undef, undef, undef, undef, undef, undef, undef, undef, undef], defers := [] }) ?assign ?body ?done ?stop
  case assign =>
    intro lp x W K hK
    gi_wp2
    exact hK
  case body =>
    rintro lp pre x W hI _
    have HI := Kept.mk hI
    have r0 := cell_of_row _ _ 0 _ _ _ hI.r
    have rf := frozen_of_row _ _ 0 _ _ hI.r
    have m0 : (W.setCell ⟨rb, 0, none⟩ (.int .i64 (x : Int))).cell? ⟨w.heap.size, 0, none⟩ = some (.bool most) := (World.cell?_setCell_other _ _ _ _ (by simp)).trans hI.c
    have HR : Kept ((W.setCell ⟨rb, 0, none⟩ (.int .i64 (x : Int))).heap[rb]? = some (.cells #[.int .i64 ((lastD (pre ++ [x]) : Nat) : Int)] 3 (0, 0))) := ⟨by
      rw [lastD_snoc]
      have := heap_setCell_same W rb 0 _ _ (.int .i64 (x : Int)) hI.r
      simpa using this⟩
    have HB : Kept (Below w.heap.size w (W.setCell ⟨rb, 0, none⟩ (.int .i64 (x : Int)))) := ⟨hI.bel.setCell (p := ⟨rb, 0, none⟩) (by show w.heap.size ≤ rb; omega) _⟩
    have HM0 := Kept.mk m0
    clear hI hit HI0
    cases most with
    | true =>
      gi_wp2
      exact ⟨(Rg.But.refl _ _).cell _, fun h => (by cases h), HR.out, HM0.out, HB.out⟩
    | false =>
      have HPre := Kept.mk (HI.out.first rfl)
      gi_wp2
      exact ⟨(Rg.But.refl _ _).cell _, rfl, rfl, ⟨x, by rw [HPre.out]; rfl⟩, HR.out, HB.out⟩
  case done =>
    rintro D9 xs W hD9 hxs hI hK9
    have HAns := Kept.mk (rem_done (e := false) HEls.out (by rw [if_neg (by decide)]; exact HL2.out) (by rw [if_neg (by decide)]) hxs hI.first)
    have HBel := Kept.mk hI.bel
    have HRow := Kept.mk hI.r
    have HK9 := Kept.mk hK9
    have HD9 := Kept.mk hD9
    clear hxs hI hit HI0 hK9
    generalize lastD xs = N at *
    have r0 := cell_of_row _ _ 0 _ _ _ HRow.out
    have hNs : N ≤ s.size := by have := HAns.out.2; rwa [toL_length] at this
    have hnS : (N : Int) ≤ (s.size : Int) := by omega
    have hn0 : (0 : Int) ≤ (N : Int) := by omega
    obtain ⟨Y, hY⟩ : ∃ Y, Y = bs (cutAt (toL s) false N) := ⟨_, rfl⟩
    have hsl : ∀ W : World, (Instr.slice 9 (.string s) (some (.int .i64 (N : Int))) none none).run Try.prog W = .ok (.string Y) W := fun W => by
      rw [hY, cut_from W (by omega)]
    have HYk := Kept.mk hY
    clear hY
    gi_wp2
    refine ⟨by simp, .inl ⟨_, _, rfl, run_takeDeferred HK9.out, ?_⟩⟩
    exact ⟨_, res_remove _ _ _ rfl, by rw [HAns.out.1, HYk.out]; rfl, HBel.out.trans (Rg.put_low _ (by have := HD9.out; omega))⟩
  case stop =>
    rintro D9 c pre W hD9 hpre hX hK9
    obtain rfl := hX.c
    obtain rfl := hX.first
    have HAns := Kept.mk (rem_first (e := false) HEls.out (by rw [if_neg (by decide)]; exact HL2.out) (by rw [if_neg (by decide)]) hpre hX.one)
    have HBel := Kept.mk hX.bel
    have HRow := Kept.mk hX.r
    have HK9 := Kept.mk hK9
    have HD9 := Kept.mk hD9
    clear hpre hX hit HI0 hK9
    generalize lastD pre = N at *
    have r0 := cell_of_row _ _ 0 _ _ _ HRow.out
    have hNs : N ≤ s.size := by have := HAns.out.2; rwa [toL_length] at this
    have hnS : (N : Int) ≤ (s.size : Int) := by omega
    have hn0 : (0 : Int) ≤ (N : Int) := by omega
    obtain ⟨Y, hY⟩ : ∃ Y, Y = bs (cutAt (toL s) false N) := ⟨_, rfl⟩
    have hsl : ∀ W : World, (Instr.slice 9 (.string s) (some (.int .i64 (N : Int))) none none).run Try.prog W = .ok (.string Y) W := fun W => by
      rw [hY, cut_from W (by omega)]
    have HYk := Kept.mk hY
    clear hY
    gi_wp2
    refine ⟨by simp, .inl ⟨_, _, rfl, run_takeDeferred HK9.out, ?_⟩⟩
    exact ⟨_, res_remove _ _ _ rfl, by rw [HAns.out.1, HYk.out]; rfl, HBel.out.trans (Rg.put_low _ (by have := HD9.out; omega))⟩
set_option maxHeartbeats 4000000 in
set_option maxRecDepth 100000 in
theorem remove_true (s p : ByteArray) (most : Bool) (w : World) (hp : p.size ≤ 2000) (hs : s.size ≤ 2000) : Calls Try.prog 21 #[.string s, .string p, .bool true, .bool most] w fun e w' => e = .returned (.string (bs (rem (toL s) (toL p) true most))) ∧ Below w.heap.size w w' := by
  have HP := Kept.mk hp
  have HS := Kept.mk hs
  clear hp hs
  refine (callsIn_wide (n := 5)).1 ?_
  refine callsIn_of_wp_marks Try.func21 rfl trivial ?_ rfl
  simp only [Try.ntmps21, List.size_toArray, List.length_cons, List.length_nil, Nat.reduceAdd, Nat.reduceSub, Array.replicate_succ, Array.replicate_zero, List.push_toArray, List.append_toArray, List.nil_append, List.cons_append]
  gi_wp2_with fail
  refine ⟨trivial, ?_⟩
  gi_at_call 26
  have h0 := heap_alloc_new w (.cells #[.bool most] 4)
  have hA := (Below.refl w.heap.size w).alloc (Nat.le_refl _) (.cells #[.bool most] 4)
  generalize w.alloc (.cells #[.bool most] 4) = W0 at *
  refine (callsIn_wide.2 (elements_any p W0 HP.out)).mono ?_
  rintro e w1 ⟨v, ts, l, rfl, HE, HES1, HB1, HF1⟩
  have h1 := (HB1.out.block w.heap.size (Array.getElem?_eq_some_iff.1 h0).1).trans h0
  have hb1 : Below w.heap.size w w1 := hA.trans (HB1.out.mono hA.size)
  have hz0 : w.heap.size < W0.heap.size := (Array.getElem?_eq_some_iff.1 h0).1
  have H1 := Kept.mk (And.intro h1 hb1)
  obtain ⟨A2, q2, rfl⟩ := own_shape HES1.out.own
  obtain ⟨n2, hn2⟩ : ∃ n2, n2 = ts.length := ⟨_, rfl⟩
  rw [← hn2] at HES1
  have HN2 := Kept.mk hn2
  rw [← hn2]
  clear h0 h1 hb1 hA hn2
  gi_wp2_with fail
  refine ⟨trivial, ?_⟩
  gi_at_call 34
  refine (callsIn_wide.2 (reve_any w1 W0.heap.size _ ts l HES1.out HF1.out)).mono ?_
  rintro e w2 ⟨rfl, hES2, hB2⟩
  have HES2 := Kept.mk hES2
  have H2 : Kept (w2.heap[w.heap.size]? = some (.cells #[.bool most] 4 (0, 0)) ∧ Below w.heap.size w w2) := ⟨(hB2.block w.heap.size hz0).trans H1.out.1, H1.out.2.trans (hB2.mono (by omega))⟩
  clear hES2 hB2
  gi_wp2_with fail
  refine ⟨trivial, ?_⟩
  gi_at_call 35
  refine (callsIn_wide.2 (backwards_any w2 s HS.out)).mono ?_
  rintro e w3 ⟨rfl, hB3⟩
  obtain ⟨s2, hs2⟩ : ∃ s2, s2 = bs (toL s).reverse := ⟨_, rfl⟩
  rw [← hs2]
  have HS2 : Kept (toL s2 = (toL s).reverse) := ⟨by rw [hs2, toL_bs]⟩
  have HSz : Kept (s2.size ≤ 2000) := ⟨by rw [hs2, bs_size, List.length_reverse, toL_length]; exact HS.out⟩
  have hES3 : ES w3 W0.heap.size (.slice A2 n2 q2) ts.reverse l.reverse := MM.es_below HES2.out hB3
  have hlr : l.reverse.length ≤ 2000 := by rw [List.length_reverse]; exact HF1.out
  have hfr : fns l.reverse = (fns l).reverse := by simp [fns]
  have H3 : Kept (w3.heap[w.heap.size]? = some (.cells #[.bool most] 4 (0, 0)) ∧ Below w.heap.size w w3) := ⟨(hB3.block w.heap.size (Array.getElem?_eq_some_iff.1 H2.out.1).1).trans H2.out.1, H2.out.2.trans (hB3.mono H2.out.2.size)⟩
  have HL2 : Kept (fns l.reverse = (fns l).reverse) := ⟨hfr⟩
  have HT2 : Kept (toL s2 = (toL s).reverse) := ⟨HS2.out⟩
  clear hB3 hs2 hfr HES1 H1 HES2 H2
  generalize l.reverse = l2 at *
  generalize ts.reverse = ts2 at *
  have hES4 : ES (w3.alloc (.cells #[.int .i64 0] 3)) W0.heap.size (.slice A2 n2 q2) ts2 l2 := MM.es_below hES3 ((Below.refl _ _).alloc (Nat.le_refl _) _)
  have h4 := heap_alloc_new w3 (.cells #[.int .i64 0] 3)
  have h4m := (Below.heap_alloc w3 (.cells #[.int .i64 0] 3) w.heap.size (Array.getElem?_eq_some_iff.1 H3.out.1).1).trans H3.out.1
  have h4b : Below w.heap.size w (w3.alloc (.cells #[.int .i64 0] 3)) := H3.out.2.alloc H3.out.2.size _
  obtain ⟨rb, hrb⟩ : ∃ rb, rb = w3.heap.size := ⟨_, rfl⟩
  have hmr : w.heap.size < rb := by rw [hrb]; exact (Array.getElem?_eq_some_iff.1 H3.out.1).1
  have HRB := Kept.mk hrb
  rw [← hrb] at h4
  clear hES3 hrb H3
  gi_wp2_with fail
  rw [← HRB.out]
  generalize w3.alloc (.cells #[.int .i64 0] 3) = w4 at *
  have hap := hES4.apart h4 (by decide) (by decide)
  have hrz : rb < w4.heap.size := (Array.getElem?_eq_some_iff.1 h4).1
  refine ⟨trivial, ?_⟩
  gi_at_call 25
  refine (callsIn_wide.2 (prefixes_any w4 A2 n2 q2 s2)).mono ?_
  rintro e w5 ⟨rfl, rfl⟩
  have hA5 := ((Below.refl w4.heap.size w4).alloc (Nat.le_refl _) (.cells #[.slice A2 n2 q2] 40)).alloc (by simp) (.cells #[.string s2] 9)
  have hl5 : ((w4.alloc (.cells #[.slice A2 n2 q2] 40)).alloc (.cells #[.string s2] 9)).cell? ⟨w4.heap.size, 0, none⟩ = some (.slice A2 n2 q2) := cell_of_row _ _ 0 _ _ _ ((Below.heap_alloc _ _ _ (by simp)).trans (heap_alloc_new w4 _))
  have hs5 : ((w4.alloc (.cells #[.slice A2 n2 q2] 40)).alloc (.cells #[.string s2] 9)).cell? ⟨w4.heap.size + 1, 0, none⟩ = some (.string s2) := by
    have := heap_alloc_new (w4.alloc (.cells #[.slice A2 n2 q2] 40)) (.cells #[.string s2] 9)
    rw [World.size_alloc] at this
    exact cell_of_row _ _ 0 _ _ _ this
  have hz5 : ((w4.alloc (.cells #[.slice A2 n2 q2] 40)).alloc (.cells #[.string s2] 9)).heap.size = w4.heap.size + 2 := by simp
  have hES5 := MM.es_below hES4 hA5
  have h5 := (hA5.block rb hrz).trans h4
  have h5m := (hA5.block w.heap.size (by omega)).trans h4m
  have h5b := h4b.trans (hA5.mono h4b.size)
  clear hES4 h4 h4m h4b hA5
  generalize ((w4.alloc (.cells #[.slice A2 n2 q2] 40)).alloc (.cells #[.string s2] 9)) = w5 at *
  have HEls : Kept (∀ t, mat (toL p) t = matE (fns l) t) := ⟨els_mat HE.out (toL p) rfl (fun h => by cases h)⟩
  have HI0 : RI w w.heap.size rb most [] w5 := ⟨fun _ => rfl, h5, cell_of_row _ _ 0 _ _ _ h5m, h5b⟩
  have hit := iter_any (5 - 1) rb w5 W0.heap.size w4.heap.size (w4.heap.size + 1) _ ts2 l2 s2 hl5 hs5 hES5 ⟨hlr, HSz.out⟩ ⟨by omega, by omega, hap⟩ (by omega) (by omega)
  clear hES5 h5 h5m h5b hl5 hs5 hap
  gi_wp2_with fail
  refine Rg.range_low rfl (by omega) (gf := 36) (lb := #[.pointer (some ⟨w4.heap.size, 0, none⟩), .pointer (some ⟨w4.heap.size + 1, 0, none⟩)]) rfl trivial (enters_of Try.func36 (by kernel_rfl) rfl)
    hit (Below.refl _ _) (by omega) rfl (RI w w.heap.size rb most) (RX w rb most 0) (RI.low (by omega) (by omega) (by omega)) (fun c => RX.low c (by omega) (by omega)) HI0
    (fun x => { tmps := #[.string s, .string p, .bool true, .bool most, undef, undef, undef, .pointer (some ⟨w.heap.size, 0, none⟩), .string ⟨#[]⟩, .slice A2 n2 q2, .string s2, .pointer (some ⟨rb, 0, none⟩), .int .i64 (x : Int), .string p, .slice A2 n2 q2, .string s, .bool true, .slice A2 n2 q2, .tuple #[], .string s, .string s2, .slice A2 n2 q2, .string s2, .func (.func 36) #[] #[.pointer (some ⟨w4.heap.size, 0, none⟩), .pointer (some ⟨w4.heap.size + 1, 0, none⟩)], .int .i64 (x : Int), undef, undef, undef, undef, undef, undef, undef, undef, undef, undef, undef, undef, undef], defers := [] }) ?assign ?body ?done ?stop
  case assign =>
    intro lp x W K hK
    gi_wp2
    exact hK
  case body =>
    rintro lp pre x W hI _
    have HI := Kept.mk hI
    have r0 := cell_of_row _ _ 0 _ _ _ hI.r
    have rf := frozen_of_row _ _ 0 _ _ hI.r
    have m0 : (W.setCell ⟨rb, 0, none⟩ (.int .i64 (x : Int))).cell? ⟨w.heap.size, 0, none⟩ = some (.bool most) := (World.cell?_setCell_other _ _ _ _ (by simp)).trans hI.c
    have HR : Kept ((W.setCell ⟨rb, 0, none⟩ (.int .i64 (x : Int))).heap[rb]? = some (.cells #[.int .i64 ((lastD (pre ++ [x]) : Nat) : Int)] 3 (0, 0))) := ⟨by
      rw [lastD_snoc]
      have := heap_setCell_same W rb 0 _ _ (.int .i64 (x : Int)) hI.r
      simpa using this⟩
    have HB : Kept (Below w.heap.size w (W.setCell ⟨rb, 0, none⟩ (.int .i64 (x : Int)))) := ⟨hI.bel.setCell (p := ⟨rb, 0, none⟩) (by show w.heap.size ≤ rb; omega) _⟩
    have HM0 := Kept.mk m0
    clear hI hit HI0
    cases most with
    | true =>
      gi_wp2
      exact ⟨(Rg.But.refl _ _).cell _, fun h => (by cases h), HR.out, HM0.out, HB.out⟩
    | false =>
      have HPre := Kept.mk (HI.out.first rfl)
      gi_wp2
      exact ⟨(Rg.But.refl _ _).cell _, rfl, rfl, ⟨x, by rw [HPre.out]; rfl⟩, HR.out, HB.out⟩
  case done =>
    rintro D9 xs W hD9 hxs hI hK9
    have HAns := Kept.mk (rem_done (e := true) HEls.out (by rw [if_pos rfl]; exact HL2.out) (by rw [if_pos rfl]; exact HT2.out) hxs hI.first)
    have HBel := Kept.mk hI.bel
    have HRow := Kept.mk hI.r
    have HK9 := Kept.mk hK9
    have HD9 := Kept.mk hD9
    clear hxs hI hit HI0 hK9
    generalize lastD xs = N at *
    have r0 := cell_of_row _ _ 0 _ _ _ HRow.out
    have hNs : N ≤ s.size := by have := HAns.out.2; rwa [toL_length] at this
    have hnS : (N : Int) ≤ (s.size : Int) := by omega
    have hn0 : (0 : Int) ≤ (N : Int) := by omega
    obtain ⟨Y, hY⟩ : ∃ Y, Y = bs (cutAt (toL s) true N) := ⟨_, rfl⟩
    have hwn : IntKind.i64.wrap ((s.size : Int) - (N : Int)) = (s.size : Int) - (N : Int) := IntWalk.i64_in _ (by have := HS.out; omega)
    have hsl : ∀ W : World, (Instr.slice 9 (.string s) none (some (.int .i64 ((s.size : Int) - (N : Int)))) none).run Try.prog W = .ok (.string Y) W := fun W => by
      rw [hY, cut_to W (by omega)]
    have HYk := Kept.mk hY
    clear hY
    gi_wp2
    refine ⟨by simp, .inl ⟨_, _, rfl, run_takeDeferred HK9.out, ?_⟩⟩
    exact ⟨_, res_remove _ _ _ rfl, by rw [HAns.out.1, HYk.out]; rfl, HBel.out.trans (Rg.put_low _ (by have := HD9.out; omega))⟩
  case stop =>
    rintro D9 c pre W hD9 hpre hX hK9
    obtain rfl := hX.c
    obtain rfl := hX.first
    have HAns := Kept.mk (rem_first (e := true) HEls.out (by rw [if_pos rfl]; exact HL2.out) (by rw [if_pos rfl]; exact HT2.out) hpre hX.one)
    have HBel := Kept.mk hX.bel
    have HRow := Kept.mk hX.r
    have HK9 := Kept.mk hK9
    have HD9 := Kept.mk hD9
    clear hpre hX hit HI0 hK9
    generalize lastD pre = N at *
    have r0 := cell_of_row _ _ 0 _ _ _ HRow.out
    have hNs : N ≤ s.size := by have := HAns.out.2; rwa [toL_length] at this
    have hnS : (N : Int) ≤ (s.size : Int) := by omega
    have hn0 : (0 : Int) ≤ (N : Int) := by omega
    obtain ⟨Y, hY⟩ : ∃ Y, Y = bs (cutAt (toL s) true N) := ⟨_, rfl⟩
    have hwn : IntKind.i64.wrap ((s.size : Int) - (N : Int)) = (s.size : Int) - (N : Int) := IntWalk.i64_in _ (by have := HS.out; omega)
    have hsl : ∀ W : World, (Instr.slice 9 (.string s) none (some (.int .i64 ((s.size : Int) - (N : Int)))) none).run Try.prog W = .ok (.string Y) W := fun W => by
      rw [hY, cut_to W (by omega)]
    have HYk := Kept.mk hY
    clear hY
    gi_wp2
    refine ⟨by simp, .inl ⟨_, _, rfl, run_takeDeferred HK9.out, ?_⟩⟩
    exact ⟨_, res_remove _ _ _ rfl, by rw [HAns.out.1, HYk.out]; rfl, HBel.out.trans (Rg.put_low _ (by have := HD9.out; omega))⟩
theorem remove_any (s p : ByteArray) (e most : Bool) (w : World) (hp : p.size ≤ 2000) (hs : s.size ≤ 2000) : Calls Try.prog 21 #[.string s, .string p, .bool e, .bool most] w fun x w' => x = .returned (.string (bs (rem (toL s) (toL p) e most))) ∧ Below w.heap.size w w' := by
  cases e with
  | true => exact remove_true s p most w hp hs
  | false => exact remove_false s p most w hp hs
end Pm
end Go.Proofs.Ytkifnabkoidhcaa
