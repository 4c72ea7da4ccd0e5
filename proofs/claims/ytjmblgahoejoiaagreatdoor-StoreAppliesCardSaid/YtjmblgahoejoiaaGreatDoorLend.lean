/-
  The program's store: End.
-/
import Derived.Test.YtjmblgahoejoiaaGreatDoorLtch
import Derived.Test.YtjmblgahoejoiaaGreatDoorRput
import Derived.Deep.DeepCutAuto
import Derived.Deep.RegionHeld3
import Derived.Deep.RegionLaw
import Derived.Deep.CutBlock
namespace Go.Proofs.YtjmblgahoejoiaaGreatDoor
open Go.RowKit Go.Maps Go.Sort Go.Shelf Tx
namespace St

set_option maxRecDepth 100000 in
theorem rdKeys_any (b : Option Nat) (w : World) : Calls Tryz.prog 37 #[.map b] w fun e w' => e = .returned (.func (.func 59) #[] #[.pointer (some ⟨w.heap.size, 0, none⟩)]) ∧ w' = w.alloc (.cells #[.map b] 66) := by
  go_enter Tryz.func37, Tryz.ntmps37
  go_wp2
  go_ret
  exact ⟨rfl, rfl⟩

/-- What was read, told. -/
def told (t : Tree) (xs : List Rd) : List Tch := xs.map fun x => ⟨x, valR t x⟩
theorem told_snoc (t : Tree) (xs : List Rd) {j : Nat} (hj : j < xs.length) : tvs (told t (xs.take (j + 1))) = tvs (told t (xs.take j)) ++ tv ⟨xs[j], valR t xs[j]⟩ := by
  rw [List.take_succ_eq_append_getElem hj]
  unfold told
  rw [List.map_append]
  simp [tvs]
/-- The slice v holds the reads xs. -/
def RdL (w : World) (v : Value) (l : List Rd) : Prop := (v = .slice none 0 0 ∧ l = []) ∨ ∃ q cap, v = .slice (some ⟨q, 0, none⟩) l.length cap ∧ q < w.heap.size ∧ ∀ j (hj : j < l.length), w.cell? ⟨q, j * 2, none⟩ = some (.string l[j].path) ∧ w.cell? ⟨q, j * 2 + 1, none⟩ = some (.bool l[j].names)
theorem RdL.of_own {w : World} {B n : Nat} {e : TypeId} {v : Value} {l : List Rd} (h : w.ownsRow B e 2 v n (rvs l)) : RdL w v l := by
  have hn : n = l.length := by have := h.1; rw [rvs_length] at this; omega
  subst hn
  rcases h.2 with ⟨rfl, h0⟩ | ⟨g, cap, cur, rfl, hB, hg, hnc, hcm, hcs, htake⟩
  · exact .inl ⟨rfl, List.eq_nil_of_length_eq_zero h0⟩
  · have hc : ∀ i u, (rvs l)[i]? = some u → w.cell? ⟨g, i, none⟩ = some u := fun i u hu => by
      rw [← htake, List.getElem?_take] at hu
      rw [cell_of_row w g i cur e (0, 0) hg]
      split at hu
      · simpa using hu
      · cases hu
    exact .inr ⟨g, cap, rfl, (Array.getElem?_eq_some_iff.1 hg).1, fun j hj => ⟨hc _ _ (rvs_at hj (i := 0) rfl), hc _ _ (rvs_at hj (i := 1) rfl)⟩⟩
theorem es_len {w : World} {v : Value} {l : List ByteArray} {B n : Nat} (hn : l.length = n) (h : Own.Es Value.string w B v l) : ∃ A k, v = .slice A n k ∧ Kept (Tup.Rd w A l) := by
  subst hn
  obtain ⟨A, k, e, hr⟩ := Tup.Rd.of_es h
  exact ⟨A, k, e, ⟨hr⟩⟩
theorem row_below {w w' : World} {B n size : Nat} {e : TypeId} {v : Value} {xs : List Value} (h : w.ownsRow B e size v n xs) (hb : Below w.heap.size w w') : w'.ownsRow B e size v n xs := by
  refine ⟨h.1, ?_⟩
  rcases h.2 with h0 | ⟨g, cap, cur, rfl, hB, hg, r⟩
  · exact .inl h0
  · exact .inr ⟨g, cap, cur, rfl, hB, (hb.block g (Array.getElem?_eq_some_iff.1 hg).1).trans hg, r⟩
theorem step_append_own {P : Program} {w : World} {ops : Array Oper} {o : Oper} {a : Go.Act} {K : Go.Act → World → Prop} {Q : Exit → Go.Act → World → Prop} {R : Prop} (hgd : o.guard = none) (s x : Operand) (t : TypeId)
    (ho : o.op = .call { callee := .builtin .append, args := #[s, x], argTypes := #[t, t] })
    (base : Nat) (e : TypeId) (i : TypeInfo) (z : Value) (size bytes : Nat) (ht : P.underlying t = some (.slice e)) (hi : P.info? e = some i) (hz : i.zero = some z)
    (hsize : i.size = size) (hby : i.bytes = bytes) (hzs : z.cells.size = size) (hsz : 0 < size)
    (v : Value) (n : Nat) (xs : List Value) (hs : a.eval s = v) (hown : w.ownsRow base e size v n xs)
    (ad : Addr) (m c : Nat) (news : List Value) (hx : a.eval x = .slice (some ad) m c) (hl : news.length = m * size) (hnews : ∀ j u, news[j]? = some u → w.cell? (ad.add j) = some u) (h1 : ∀ u ∈ news, u.oneCell' = true)
    (h63 : n + m ≤ maxLen) (hbytes : (n + m) * bytes ≤ 140737488355328) (hbase : base ≤ w.heap.size)
    (h : ∀ v' w', w'.ownsRow base e size v' (n + m) (xs ++ news) → w.grownBy w' v.ownBlock → (v' = .slice none 0 0 ↔ v = .slice none 0 0 ∧ m = 0) → K (a.put o.dst v') w') : if Region.wanted o (yielded ops a.tmps) = true then Oper.wp P o a w K Q else R := by
  rw [if_pos (by simp [Region.wanted, hgd])]
  exact wp_append_own w s x t ho base e i z size bytes ht hi hz hsize hby hzs hsz v n xs hs hown ad m c news hx hl hnews h1 h63 hbytes hbase h
/-- While it is told: what has come lies in a row above B. -/
structure EndIn (w2 wr : World) (v : Value) (n : Nat) (l : List Tch) : Prop where
  below : Below w2.heap.size w2 wr
  out : wr.ownsRow w2.heap.size 82 3 v n (tvs l)

set_option maxHeartbeats 4000000 in
set_option maxRecDepth 100000 in
theorem end_any (g b n lg bb nb br nr bp np : Nat) (t t0 : Tree) (DR DP : DataW Unit) (w : World) (h : LSto w g b n lg bb nb br nr bp np t t0 DR DP) (hK : Tup.Kit w) (KP : ∀ w2, Below (w.setCell ⟨g, 1, none⟩ lvNone).heap.size (w.setCell ⟨g, 1, none⟩ lvNone) w2 → Tup.Kit w2) (hS : Small t) (hS0 : Small t0) (ht : t.length ≤ 1000) (ht0 : t0.length ≤ 1000) (hnr : nr ≤ 1000) (hnp : np ≤ 1000)
    (hR : ∀ x : Rd, x.path.size ≤ maxLen → Maps.has DR (rk x) = true → x.path.size ≤ 10) (hP : ∀ s, Maps.has DP (key s) = true → s.size ≤ 10) :
    Calls Tryz.prog 17 #[.pointer (some ⟨g, 0, none⟩)] w fun e w' => ∃ (vr vw : Value) (xs : List Rd) (l : List ByteArray), e = .returned (.tuple #[vr, vw]) ∧ AllRd DR xs ∧ xs.Pairwise rlt ∧ (∀ s, s ∈ l ↔ Maps.has DP (key s) = true) ∧
      Kept (xs.length ≤ 1000 ∧ l.length ≤ 1000 ∧ TL w' vr (told t0 xs) ∧ TL w' vw (told t (l.map fun p => ⟨p, false⟩)) ∧ (∀ k, vr.ownBlock = some k → w.heap.size ≤ k) ∧ (∀ k, vw.ownBlock = some k → w.heap.size ≤ k) ∧ PSto w' g b n lvNone t) ∧ Only (· = g) w w' := by
  obtain ⟨i0, hi, hz0, hz1, hz2⟩ := info_parts tchInfo
  have H := Kept.mk h
  have HK := Kept.mk hK
  have HS := Kept.mk hS
  have HS0 := Kept.mk hS0
  have HRb := Kept.mk hR
  have HPb := Kept.mk hP
  have c1 := h.p.c1
  have f1 := h.p.f1
  have H1 : Kept (PSto (w.setCell ⟨g, 1, none⟩ lvNone) g b n lvNone t) := ⟨h.p.relog ⟨trivial⟩⟩
  have hgl := h.nes
  have HO1 : Kept (Only (· = g) w (w.setCell ⟨g, 1, none⟩ lvNone)) := ⟨(Only.refl _ w).setCell _ _ (fun _ => rfl)⟩
  have hlog : (w.setCell ⟨g, 1, none⟩ lvNone).heap[lg]? = some (.cells #[.map (some bb), .map (some br), .map (some bp)] 69 (0, 0)) := (HO1.out.block lg (blk h.log) (by omega)).trans h.log
  have HL1 := Kept.mk hlog
  obtain ⟨l0, l1, l2⟩ := box3 hlog
  have HRe : Kept ((w.setCell ⟨g, 1, none⟩ lvNone).ownsMap Tryz.prog 72 unR br nr DR) := ⟨own_below h.reads (HO1.out.block br h.reads.lt (by omega))⟩
  have HBe : Kept ((w.setCell ⟨g, 1, none⟩ lvNone).ownsMap Tryz.prog 9 entR bb nb (dat (all t0))) := ⟨own_below h.before (HO1.out.block bb h.before.lt (by omega))⟩
  have HPu : Kept ((w.setCell ⟨g, 1, none⟩ lvNone).ownsMap Tryz.prog 9 unR bp np DP) := ⟨own_below h.puts (HO1.out.block bp h.puts.lt (by omega))⟩
  have HK1 : Kept (∀ w2, Below (w.setCell ⟨g, 1, none⟩ lvNone).heap.size (w.setCell ⟨g, 1, none⟩ lvNone) w2 → Tup.Kit w2) := ⟨fun w2 hb => KP w2 hb⟩
  have HCe : Kept (((w.setCell ⟨g, 1, none⟩ lvNone).alloc (.cells #[.map (some br)] 66)).cell? ⟨w.heap.size, 0, none⟩ = some (.map (some br))) := ⟨by
    have := heap_alloc_new (w.setCell ⟨g, 1, none⟩ lvNone) (.cells #[.map (some br)] 66)
    rw [World.size_setCell] at this
    exact cell_of_row _ _ 0 _ _ _ this⟩
  clear h hK hS hS0 hR hP hlog hgl
  go_enter Tryz.func17, Tryz.ntmps17
  go_upto_block 0 with (first
    | (go_at_call 37
       refine (rdKeys_any _ _).mono ?_
       rintro e w1 ⟨rfl, rfl⟩)
    | (go_at_call 36
       refine (sortedReads_any _ br nr DR _ (by simp) HCe.out (HRe.out.alloc _) (Nat.le_trans HRe.out.size_le (by omega))).mono ?_
       rintro e w2 ⟨sv, xs, rfl, hx1, hx2, hx3, hx4, hb2⟩
       have HB2 : Kept (Below (w.setCell ⟨g, 1, none⟩ lvNone).heap.size (w.setCell ⟨g, 1, none⟩ lvNone) w2) := ⟨((Below.refl _ _).alloc (Nat.le_refl _) _).trans (hb2.mono (by simp))⟩
       have HX1 := Kept.mk hx1
       have HX3 := Kept.mk hx3
       have hrl := RdL.of_own hx4.out
       obtain ⟨As, ks, rfl⟩ := own_form hx4.out
       clear hx1 hx3 hx4 hb2))
  have HP2 : Kept (PSto w2 g b n lvNone t) := ⟨H1.out.below HB2.out⟩
  have HL2 : Kept (w2.heap[lg]? = some (.cells #[.map (some bb), .map (some br), .map (some bp)] 69 (0, 0))) := ⟨(HB2.out.block lg (blk HL1.out)).trans HL1.out⟩
  have HBe2 : Kept (w2.ownsMap Tryz.prog 9 entR bb nb (dat (all t0))) := ⟨own_below HBe.out (HB2.out.block bb HBe.out.lt)⟩
  have HPu2 : Kept (w2.ownsMap Tryz.prog 9 unR bp np DP) := ⟨own_below HPu.out (HB2.out.block bp HPu.out.lt)⟩
  have HK2 : Kept (Tup.Kit w2) := ⟨HK1.out _ HB2.out⟩
  have HO2 : Kept (Only (· = g) w w2) := ⟨HO1.out.below HB2.out⟩
  have HXs : Kept (∀ x ∈ xs, x.path.size ≤ 10) := ⟨fun x hx => HRb.out x (HX1.out.size x hx) ((HX1.out.mem x (HX1.out.size x hx)).1 hx)⟩
  have HRl := Kept.mk hrl
  have hxl : xs.length ≤ 1000 := Nat.le_trans hx2 (Nat.le_trans HRe.out.size_le hnr)
  clear hrl l0 l1 l2 c1 f1
  go_cut [2, 25] (fun v _ wx => ∃ n : Nat, Kept (EndIn w2 wx v n (told t0 xs)))
  case first =>
    go_wp2_with fail
    go_loopw [2, 25] (fun v x wr => ∃ j : Nat, j ≤ xs.length ∧ x = .int .i64 j ∧ Kept (EndIn w2 wr v j (told t0 (xs.take j)))) (fun _ x _ => xs.length - (intOf x).toNat)
    case atStart => exact ⟨0, by omega, rfl, ⟨⟨Below.refl _ _, World.ownsRow_nil _ _ _ _⟩⟩⟩
    case round =>
      obtain ⟨j, hj, rfl, hD⟩ := hrel
      have j0 : (0 : Int) ≤ j := by omega
      by_cases hlt : j < xs.length
      · have j1 : (j : Int) < (xs.length : Int) := by omega
        rcases HRl.out with ⟨_, h0⟩ | ⟨q, cap, e, hq, hc⟩
        · subst h0; simp at hlt
        · injection e with e1 e2 e3
          subst e1 e3
          obtain ⟨y0, y1⟩ := hc j hlt
          have z0 := (hD.out.below.cell (p := ⟨q, j * 2, none⟩) hq).trans y0
          have z1 := (hD.out.below.cell (p := ⟨q, j * 2 + 1, none⟩) hq).trans y1
          have HLr : Kept (wr.heap[lg]? = some (.cells #[.map (some bb), .map (some br), .map (some bp)] 69 (0, 0))) := ⟨(hD.out.below.block lg (blk HL2.out)).trans HL2.out⟩
          have HBr : Kept (wr.ownsMap Tryz.prog 9 entR bb nb (dat (all t0))) := ⟨own_below HBe2.out (hD.out.below.block bb HBe2.out.lt)⟩
          have HKr : Kept (Tup.Kit wr) := ⟨HK2.out.below hD.out.below⟩
          have hpx := HXs.out _ (List.getElem_mem hlt)
          have HTs := Kept.mk (told_snoc t0 xs hlt)
          generalize xs[j] = x at z0 z1 hpx HTs
          clear hc y0 y1
          have HA : Kept ((wr.alloc (.cells #[.string x.path, .bool x.names] 72)).drew.heap[wr.heap.size]? = some (.cells #[.string x.path, .bool x.names] 72 (0, 0))) := ⟨heap_alloc_new wr _⟩
          have HB3 : Kept (Below wr.heap.size wr (wr.alloc (.cells #[.string x.path, .bool x.names] 72)).drew) := ⟨((Below.refl _ _).alloc (Nat.le_refl _) _).drew⟩
          have HL3 := Kept.mk ((HB3.out.block lg (blk HLr.out)).trans HLr.out)
          have HV := Kept.mk (valueIn_any bb nb t0 x _ (own_below HBr.out (HB3.out.block bb HBr.out.lt)) HS0.out ht0 (by omega) (HKr.out.below HB3.out))
          generalize valR t0 x = vx at HV HTs
          obtain ⟨xp, xn⟩ := x
          simp only at z0 z1 hpx HTs HA HB3 HL3 HV
          have d0 : (wr.alloc (.cells #[.string xp, .bool xn] 72)).drew.cell? ⟨wr.heap.size, 0, none⟩ = some (.string xp) := cell_of_row _ _ 0 _ _ _ HA.out
          have d1 : (wr.alloc (.cells #[.string xp, .bool xn] 72)).drew.cell? ⟨wr.heap.size, 1, none⟩ = some (.bool xn) := cell_of_row _ _ 1 _ _ _ HA.out
          have d2 : (wr.alloc (.cells #[.string xp, .bool xn] 72)).drew.cell? ⟨lg, 0, none⟩ = some (.map (some bb)) := cell_of_row _ _ 0 _ _ _ HL3.out
          go_wp2
          go_region_held3 (fun w' => w'.cell? ⟨wr.heap.size, 0, none⟩ = some (.string xp) ∧ w'.cell? ⟨wr.heap.size, 1, none⟩ = some (.bool xn) ∧ w'.cell? ⟨lg, 0, none⟩ = some (.map (some bb)))
            (first
              | exact ⟨d0, d1, d2⟩
              | exact ⟨e0, e1, e2⟩
              | exact ⟨g0 _, g1 _, g2 _⟩
              | exact ⟨f0, f1, f2⟩)
            (first
              | (go_at_call 39
                 refine HV.out.mono ?_
                 rintro e w4 ⟨rfl, hb4⟩
                 have HB4 := Kept.mk (HB3.out.trans (hb4.mono HB3.out.size))
                 have HA4 := Kept.mk ((hb4.block _ (blk HA.out)).trans HA.out)
                 have HL4 := Kept.mk ((hb4.block _ (blk HL3.out)).trans HL3.out)
                 have e0 := cell_of_row _ _ 0 _ _ _ HA4.out
                 have e1 := cell_of_row _ _ 1 _ _ _ HA4.out
                 have e2 := cell_of_row _ _ 0 _ _ _ HL4.out
                 simp at e0 e1 e2
                 have HO4 := Kept.mk (row_below hD.out.out HB4.out)
                 have HS4 : Kept (w2.heap.size ≤ w4.heap.size) := ⟨Nat.le_trans hD.out.below.size HB4.out.size⟩
                 have g0 : ∀ o, (w4.alloc o).cell? ⟨wr.heap.size, 0, none⟩ = some (.string xp) := fun o => (World.cell?_of_block (a := ⟨wr.heap.size, 0, none⟩) (Below.heap_alloc w4 o _ (blk HA4.out))).trans e0
                 have g1 : ∀ o, (w4.alloc o).cell? ⟨wr.heap.size, 1, none⟩ = some (.bool xn) := fun o => (World.cell?_of_block (a := ⟨wr.heap.size, 1, none⟩) (Below.heap_alloc w4 o _ (blk HA4.out))).trans e1
                 have g2 : ∀ o, (w4.alloc o).cell? ⟨lg, 0, none⟩ = some (.map (some bb)) := fun o => (World.cell?_of_block (a := ⟨lg, 0, none⟩) (Below.heap_alloc w4 o _ (blk HL4.out))).trans e2
                 clear hb4)
              | (first
                   | refine step_append_own rfl _ _ 29 rfl w2.heap.size 82 i0 _ 3 40 Tryz.underlying29 hi hz0 hz1 hz2 rfl (by decide) _ _ _ rfl (HO4.out.alloc _) ⟨w4.heap.size, 0, none⟩ 1 1 (tv ⟨⟨xp, xn⟩, vx⟩) rfl rfl (tv_new w4 ⟨⟨xp, xn⟩, vx⟩ _) (tv_one _) (by unfold maxLen; omega) (by omega) (by have := HS4.out; simp; omega) ?_
                   | refine wp_append_own _ _ _ 29 rfl w2.heap.size 82 i0 _ 3 40 Tryz.underlying29 hi hz0 hz1 hz2 rfl (by decide) _ _ _ rfl (HO4.out.alloc _) ⟨w4.heap.size, 0, none⟩ 1 1 (tv ⟨⟨xp, xn⟩, vx⟩) rfl rfl (tv_new w4 ⟨⟨xp, xn⟩, vx⟩ _) (tv_one _) (by unfold maxLen; omega) (by omega) (by have := HS4.out; simp; omega) ?_
                 intro v5 w5 ho5 hg5 _
                 have hg6 := (World.grownBy_alloc w4 (.cells #[.string xp, .bool xn, .string vx] 82) _).trans hg5
                 have hne : ∀ k, k < w2.heap.size → some k ≠ u2.ownBlock := fun k hk e => by have := (HO4.out.lt k e.symm).1; omega
                 have hE5 : Kept (EndIn w2 w5 v5 (j + 1) (told t0 (xs.take (j + 1)))) := ⟨⟨(hD.out.below.trans (HB4.out.mono hD.out.below.size)).grown hg6 HS4.out (fun k hk => (HO4.out.lt k hk).1), by rw [HTs.out]; exact ho5⟩⟩
                 have hn5 : some wr.heap.size ≠ u2.ownBlock := fun e => by have := (hD.out.out.lt _ e.symm).2; omega
                 have f0 := (World.cell?_of_block (a := ⟨wr.heap.size, 0, none⟩) (hg6.block _ (blk HA4.out) hn5)).trans e0
                 have f1 := (World.cell?_of_block (a := ⟨wr.heap.size, 1, none⟩) (hg6.block _ (blk HA4.out) hn5)).trans e1
                 have f2 := (World.cell?_of_block (a := ⟨lg, 0, none⟩) (hg6.block lg (blk HL4.out) (hne lg (blk HL2.out)))).trans e2
                 clear ho5 hg5))
          go_wp2
          go_roundw
          case rel => exact ⟨j + 1, by omega, by go_num, hE5⟩
          case measure => simp [intOf]; omega
      · have j1 : ¬ (j : Int) < (xs.length : Int) := by omega
        go_wp2
        go_meet
        refine ⟨j, ?_⟩
        have := hD.out
        rw [List.take_of_length_le (by omega)] at this
        exact ⟨this⟩
  case rest =>
    obtain ⟨n1, hD1⟩ := hcut
    have HBw : Kept (Below w2.heap.size w2 wc) := ⟨hD1.out.below⟩
    have HLw : Kept (wc.heap[lg]? = some (.cells #[.map (some bb), .map (some br), .map (some bp)] 69 (0, 0))) := ⟨(HBw.out.block lg (blk HL2.out)).trans HL2.out⟩
    have HPw : Kept (wc.ownsMap Tryz.prog 9 unR bp np DP) := ⟨own_below HPu2.out (HBw.out.block bp HPu2.out.lt)⟩
    obtain ⟨l0, l1, l2⟩ := box3 HLw.out
    go_wp2_with (first
      | (go_at_call 41
         refine (putKeys_any _ _).mono ?_
         rintro e w3 ⟨rfl, rfl⟩)
      | (go_at_call 40
         refine (putSorted_any bp np DP wc HPw.out (Nat.le_trans HPw.out.size_le (by omega))).mono ?_
         rintro e w4 ⟨pv, l, rfl, hpv, hll, hmem, hb4⟩
         obtain ⟨A4, k4, rfl, hr4⟩ := es_len rfl hpv.out
         have HR4 := Kept.mk hr4.out
         have HB4 := Kept.mk hb4
         have HM4 := Kept.mk hmem
         clear hpv hmem hb4 hr4))
    have HO4 : Kept (Below w2.heap.size w2 w4) := ⟨HBw.out.trans (HB4.out.mono HBw.out.size)⟩
    have HP4 : Kept (PSto w4 g b n lvNone t) := ⟨HP2.out.below HO4.out⟩
    have HK4 : Kept (Tup.Kit w4) := ⟨HK2.out.below HO4.out⟩
    have hll2 : l.length ≤ 1000 := Nat.le_trans hll (Nat.le_trans HPw.out.size_le hnp)
    have HLs : Kept (∀ s ∈ l, s.size ≤ 10) := ⟨fun s hs => HPb.out s ((HM4.out s).1 hs)⟩
    clear l0 l1 l2
    go_loopw [3, 51] (fun v x wr => ∃ j : Nat, j ≤ l.length ∧ x = .int .i64 j ∧ Kept (EndIn w4 wr v j (told t ((l.map fun p => (⟨p, false⟩ : Rd)).take j)))) (fun _ x _ => l.length - (intOf x).toNat)
    case atStart => exact ⟨0, by omega, rfl, ⟨⟨Below.refl _ _, World.ownsRow_nil _ _ _ _⟩⟩⟩
    case round =>
      obtain ⟨j, hj, rfl, hD⟩ := hrel
      have j0 : (0 : Int) ≤ j := by omega
      by_cases hlt : j < l.length
      · have j1 : (j : Int) < (l.length : Int) := by omega
        obtain ⟨q, off, rfl, hq, hc⟩ := HR4.out j hlt
        have z0 := (hD.out.below.cell (p := ⟨q, off + j, none⟩) hq).trans hc
        have HPr := Kept.mk (HP4.out.below hD.out.below)
        have HKr : Kept (Tup.Kit wr) := ⟨HK4.out.below hD.out.below⟩
        have c0 := HPr.out.c0
        have hpx := HLs.out _ (List.getElem_mem hlt)
        have HTs : Kept (tvs (told t ((l.map fun p => (⟨p, false⟩ : Rd)).take (j + 1))) = tvs (told t ((l.map fun p => (⟨p, false⟩ : Rd)).take j)) ++ tv ⟨⟨l[j], false⟩, valR t ⟨l[j], false⟩⟩) := ⟨by have := told_snoc t (l.map fun p => (⟨p, false⟩ : Rd)) (j := j) (by simpa using hlt); rw [this]; simp⟩
        generalize l[j] = s at z0 hpx HTs hc
        have HV := Kept.mk (valueIn_any b n t ⟨s, false⟩ wr HPr.out.own HS.out ht (by simp; omega) HKr.out)
        generalize valR t ⟨s, false⟩ = vx at HV HTs
        clear hc
        go_wp2_with (first
          | (go_at_call 39
             refine HV.out.mono ?_
             rintro e w5 ⟨rfl, hb5⟩
             have HB5 := Kept.mk hb5
             have HO5 := Kept.mk (row_below hD.out.out hb5)
             have HS5 : Kept (w4.heap.size ≤ w5.heap.size) := ⟨Nat.le_trans hD.out.below.size hb5.size⟩
             clear hb5)
          | (at_builtin
             refine wpList_append_own _ rfl _ _ 29 rfl w4.heap.size 82 i0 _ 3 40 Tryz.underlying29 hi hz0 hz1 hz2 rfl (by decide) _ _ _ rfl (HO5.out.alloc _) ⟨w5.heap.size, 0, none⟩ 1 1 (tv ⟨⟨s, false⟩, vx⟩) rfl rfl (tv_new w5 ⟨⟨s, false⟩, vx⟩ _) (tv_one _) (by unfold maxLen; omega) (by omega) (by have := HS5.out; simp; omega) ?_
             intro v6 w6 ho6 hg6 _
             have hg7 := (World.grownBy_alloc w5 (.cells #[.string s, .bool false, .string vx] 82) _).trans hg6
             have hE6 : Kept (EndIn w4 w6 v6 (j + 1) (told t ((l.map fun p => (⟨p, false⟩ : Rd)).take (j + 1)))) := ⟨⟨(hD.out.below.trans (HB5.out.mono hD.out.below.size)).grown hg7 HS5.out (fun k hk => (HO5.out.lt k hk).1), by rw [HTs.out]; exact ho6⟩⟩
             clear ho6 hg6))
        go_roundw
        case rel => exact ⟨j + 1, by omega, by go_num, hE6⟩
        case measure => simp [intOf]; omega
      · have j1 : ¬ (j : Int) < (l.length : Int) := by omega
        go_wp2
        go_ret2
        have e1 := HO2.out.size
        have e2 := HO4.out.size
        have eT : (l.map fun p => (⟨p, false⟩ : Rd)).take j = l.map fun p => (⟨p, false⟩ : Rd) := List.take_of_length_le (by simp; omega)
        have hD2 := hD.out
        rw [eT] at hD2
        refine ⟨u2, u3, rfl, xs, HX1.out, HX3.out, l, HM4.out, ⟨hxl, hll2, ?_, TL.of_own hD2.out, fun k hk => ?_, fun k hk => ?_, HP4.out.below hD2.below⟩, (HO2.out.below HO4.out).below hD2.below⟩
        · have hb : Below wc.heap.size wc w4 := HB4.out
          exact ((TL.of_own hD1.out.out).below hb).below (hD2.below.mono hb.size |> fun h => ⟨h.os, h.tape, h.output, hD2.below.size, fun k hk => hD2.below.block k hk⟩)
        · have := (hD1.out.out.lt k hk).1; omega
        · have := (hD2.out.lt k hk).1; omega
end St
end Go.Proofs.YtjmblgahoejoiaaGreatDoor
