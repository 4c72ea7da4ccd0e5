/-
  The program's store while it records: Copy, Begin; At, Names, Put.
-/
import Derived.Test.YtjmblgahoejoiaaGreatDoorLval
import Derived.Test.YtjmblgahoejoiaaGreatDoorPat
import Derived.Test.YtjmblgahoejoiaaGreatDoorSbox
import Derived.Maps.OwnSet
namespace Go.Proofs.YtjmblgahoejoiaaGreatDoor
open Go.RowKit Go.Maps Tx
namespace St

/-- The store at g, its map b; its log at lg: the map bb of what was there, the maps br and bp of what was read and put. -/
structure LSto (w : World) (g b n lg bb nb br nr bp np : Nat) (t t0 : Tree) (DR DP : DataW Unit) : Prop where
  p : PSto w g b n (.pointer (some ⟨lg, 0, none⟩)) t
  log : w.heap[lg]? = some (.cells #[.map (some bb), .map (some br), .map (some bp)] 69 (0, 0))
  before : w.ownsMap Tryz.prog 9 entR bb nb (dat (all t0))
  reads : w.ownsMap Tryz.prog 72 unR br nr DR
  puts : w.ownsMap Tryz.prog 9 unR bp np DP
  apart : [g, b, lg, bb, br, bp].Nodup
section
variable {w w' : World} {g b n lg bb nb br nr bp np : Nat} {t t0 t' : Tree} {DR DP DR' DP' : DataW Unit}
theorem LSto.keep (h : LSto w g b n lg bb nb br nr bp np t t0 DR DP) (hk : ∀ k, k < w.heap.size → w'.heap[k]? = w.heap[k]?) (hs : w.heap.size ≤ w'.heap.size) : LSto w' g b n lg bb nb br nr bp np t t0 DR DP :=
  ⟨h.p.keep (hk _ h.p.lt) (hk _ h.p.own.lt) hs, (hk _ (blk h.log)).trans h.log, own_below h.before (hk _ h.before.lt), own_below h.reads (hk _ h.reads.lt), own_below h.puts (hk _ h.puts.lt), h.apart⟩
theorem LSto.below (h : LSto w g b n lg bb nb br nr bp np t t0 DR DP) (hb : Below w.heap.size w w') : LSto w' g b n lg bb nb br nr bp np t t0 DR DP := h.keep (fun k hk => hb.block k hk) hb.size
theorem LSto.drew (h : LSto w g b n lg bb nb br nr bp np t t0 DR DP) : LSto w.drew g b n lg bb nb br nr bp np t t0 DR DP := h.below (Below.refl _ _).drew
theorem LSto.alloc (h : LSto w g b n lg bb nb br nr bp np t t0 DR DP) (o : Obj) : LSto (w.alloc o) g b n lg bb nb br nr bp np t t0 DR DP := h.below ((Below.refl _ _).alloc (Nat.le_refl _) _)
theorem LSto.nes (h : LSto w g b n lg bb nb br nr bp np t t0 DR DP) : (g ≠ b ∧ g ≠ lg ∧ g ≠ bb ∧ g ≠ br ∧ g ≠ bp) ∧ (b ≠ lg ∧ b ≠ bb ∧ b ≠ br ∧ b ≠ bp) ∧ (lg ≠ bb ∧ lg ≠ br ∧ lg ≠ bp) ∧ (bb ≠ br ∧ bb ≠ bp) ∧ br ≠ bp := by
  have := h.apart
  simp at this
  omega
theorem LSto.read (h : LSto w g b n lg bb nb br nr bp np t t0 DR DP) {m : Nat} (ho : w'.ownsMap Tryz.prog 72 unR br m DR') (hg : w.grownBy w' (some br)) : LSto w' g b n lg bb nb br m bp np t t0 DR' DP := by
  obtain ⟨h1, h2, h3, h4, h5⟩ := h.nes
  have hk : ∀ k, k < w.heap.size → k ≠ br → w'.heap[k]? = w.heap[k]? := fun k hk hn => hg.block k hk (fun e => hn (by injection e))
  exact ⟨h.p.keep (hk _ h.p.lt (by omega)) (hk _ h.p.own.lt (by omega)) hg.size, (hk _ (blk h.log) (by omega)).trans h.log, own_below h.before (hk _ h.before.lt (by omega)), ho, own_below h.puts (hk _ h.puts.lt (by omega)), h.apart⟩
theorem LSto.wrote (h : LSto w g b n lg bb nb br nr bp np t t0 DR DP) {m : Nat} (ho : w'.ownsMap Tryz.prog 9 unR bp m DP') (hg : w.grownBy w' (some bp)) : LSto w' g b n lg bb nb br nr bp m t t0 DR DP' := by
  obtain ⟨h1, h2, h3, h4, h5⟩ := h.nes
  have hk : ∀ k, k < w.heap.size → k ≠ bp → w'.heap[k]? = w.heap[k]? := fun k hk hn => hg.block k hk (fun e => hn (by injection e))
  exact ⟨h.p.keep (hk _ h.p.lt (by omega)) (hk _ h.p.own.lt (by omega)) hg.size, (hk _ (blk h.log) (by omega)).trans h.log, own_below h.before (hk _ h.before.lt (by omega)), own_below h.reads (hk _ h.reads.lt (by omega)), ho, h.apart⟩
theorem LSto.set (h : LSto w g b n lg bb nb br nr bp np t t0 DR DP) {m : Nat} (hp : PSto w' g b m (.pointer (some ⟨lg, 0, none⟩)) t') (hg : w.grownBy w' (some b)) : LSto w' g b m lg bb nb br nr bp np t' t0 DR DP := by
  obtain ⟨h1, h2, h3, h4, h5⟩ := h.nes
  have hk : ∀ k, k < w.heap.size → k ≠ b → w'.heap[k]? = w.heap[k]? := fun k hk hn => hg.block k hk (fun e => hn (by injection e))
  exact ⟨hp, (hk _ (blk h.log) (by omega)).trans h.log, own_below h.before (hk _ h.before.lt (by omega)), own_below h.reads (hk _ h.reads.lt (by omega)), own_below h.puts (hk _ h.puts.lt (by omega)), h.apart⟩
end
theorem PSto.relog {w : World} {g b n : Nat} {lv lv' : Value} {t : Tree} (h : PSto w g b n lv t) (_ : Kept True) : PSto (w.setCell ⟨g, 1, none⟩ lv') g b n lv' t :=
  ⟨by simpa [World.setCell] using h.lt, h.ne, (World.cell?_setCell_other w _ _ _ (by simp)).trans h.c0, World.cell?_setCell_same w _ _ h.c1, by rw [World.frozen?_setCell]; exact h.f1, h.own.setCell (fun e => h.ne e.symm) _, h.good⟩
theorem only_box {B : Nat → Prop} {w w' : World} (h : Only B w w') (cells : Array Value) : Only B w (w'.setRow w.heap.size cells) :=
  ⟨h.os, h.tape, h.output, by rw [setRow_size]; exact h.size, fun k hk hn => (setRow_other w' _ k cells (by omega)).trans (h.block k hk hn)⟩
theorem BoxIn.grown {w W W' : World} {cs : Array Value} {row : Option Nat} (h : BoxIn w W cs) (hg : W.grownBy W' row) (hr : row ≠ some w.heap.size) : W'.heap[w.heap.size]? = some (.cells cs 37 (0, 0)) :=
  (hg.block _ (blk h.box) (fun e => hr e.symm)).trans h.box
theorem LSto.keep2 {w : World} {k g b n lg bb nb br nr bp np : Nat} {t t0 : Tree} {DR DP : DataW Unit} {cs cells : Array Value} {ty : TypeId} (h : LSto w g b n lg bb nb br nr bp np t t0 DR DP) (hbox : w.heap[k]? = some (.cells cs ty (0, 0))) (hn : k ≠ g ∧ k ≠ lg) : LSto (w.setRow k cells) g b n lg bb nb br nr bp np t t0 DR DP := by
  have hm : ∀ {j : Nat} {K : TypeId} {R : Value → Option (DataW Unit × List MemPlace)} {q : Nat} {D : DataW Unit}, w.ownsMap Tryz.prog K R j q D → (w.setRow k cells).heap[j]? = w.heap[j]? := by
    rintro j K R q D ⟨es, clock, hb, -⟩
    exact setRow_other w k j cells (fun e => by subst e; rw [hbox] at hb; cases hb)
  exact ⟨h.p.keep (setRow_other w k g cells (fun e => hn.1 e.symm)) (hm h.p.own) (by rw [setRow_size]; exact Nat.le_refl _), (setRow_other w k lg cells (fun e => hn.2 e.symm)).trans h.log, own_below h.before (hm h.before), own_below h.reads (hm h.reads), own_below h.puts (hm h.puts), h.apart⟩
theorem LSto.more {w : World} {g b n lg bb nb br nr bp np : Nat} {t t0 : Tree} {DR DP : DataW Unit} (h : LSto w g b n lg bb nb br nr bp np t t0 DR DP) : LSto w g b n lg bb nb br (nr + 1) bp np t t0 DR DP := ⟨h.p, h.log, h.before, h.reads.mono (Nat.le_succ _), h.puts, h.apart⟩
theorem zeroUn (w : World) : (zeroValue 65).run Tryz.prog w = .ok (.agg #[]) w := by kernel_rfl

set_option maxRecDepth 100000 in
theorem hasPut_any (g b n lg bb nb br nr bp np : Nat) (t t0 : Tree) (DR DP : DataW Unit) (s : ByteArray) (w : World) (h : LSto w g b n lg bb nb br nr bp np t t0 DR DP) (hs : s.size ≤ maxLen) :
    Calls Tryz.prog 34 #[.pointer (some ⟨lg, 0, none⟩), .string s] w fun e w' => e = .returned (.bool (Maps.has DP (key s))) ∧ Below w.heap.size w w' := by
  obtain ⟨v, ps, hr, hv⟩ := h.puts.look_ok strK Tryz.underlying67 (zeroUn w) unR_V (keyStr s hs)
  have e := unR_inv hv
  subst e
  obtain ⟨l0, l1, l2⟩ := box3 h.log
  clear hv h
  generalize Maps.has DP (key s) = x at hr ⊢
  go_enter Tryz.func34, Tryz.ntmps34
  go_wp2
  go_ret
  exact ⟨rfl, (Below.refl _ _).alloc (Nat.le_refl _) _⟩

set_option maxRecDepth 100000 in
theorem copy_any (g b n : Nat) (lv : Value) (t : Tree) (w : World) (h : PSto w g b n lv t) :
    Calls Tryz.prog 9 #[.pointer (some ⟨g, 0, none⟩)] w fun e w' => ∃ g2 b2, e = .returned (.pointer (some ⟨g2, 0, none⟩)) ∧ w.heap.size ≤ g2 ∧ w.heap.size ≤ b2 ∧ Kept (PSto w' g2 b2 n lvNone t) ∧ Below w.heap.size w w' := by
  have H := Kept.mk h
  have c0 := h.c0
  clear h
  go_enter Tryz.func9, Tryz.ntmps9
  go_wp2_with (go_at_call 32; refine (AnyW.maps_Clone_owns Tryz.clone32 9 entR b n _ _ H.out.own).mono ?_; rintro e w1 ⟨rfl, h1, h2, hb⟩; have HB := Kept.mk hb; have H1 := Kept.mk h1; clear hb h1 h2)
  go_ret
  refine ⟨w1.heap.size, w.heap.size, rfl, HB.out.size, Nat.le_refl _, ⟨⟨by simp, fun e => by have := H1.out.lt; omega, cell_of_row _ _ _ _ _ (0, 0) (heap_alloc_new w1 _), cell_of_row _ _ _ _ _ (0, 0) (heap_alloc_new w1 _), frozen_of_row _ _ _ _ _ (heap_alloc_new w1 _), H1.out.alloc _, H.out.good⟩⟩, HB.out.alloc HB.out.size _⟩

set_option maxRecDepth 100000 in
theorem begin_any (g b n : Nat) (t : Tree) (w : World) (h : PSto w g b n lvNone t) :
    Calls Tryz.prog 14 #[.pointer (some ⟨g, 0, none⟩)] w fun e w' => e = .returned (.tuple #[]) ∧ ∃ lg bb br bp, Kept (LSto w' g b n lg bb n br 0 bp 0 t t (.map []) (.map [])) ∧ (w.heap.size ≤ lg ∧ w.heap.size ≤ bb ∧ w.heap.size ≤ br ∧ w.heap.size ≤ bp) ∧ Only (· = g) w w' := by
  have H := Kept.mk h
  have c0 := h.c0
  clear h
  have hmm := @run_makeMap Tryz.prog
  go_enter Tryz.func14, Tryz.ntmps14
  go_wp2_with (go_at_call 32; refine (AnyW.maps_Clone_owns Tryz.clone32 9 entR b n _ _ H.out.own).mono ?_; rintro e w1 ⟨rfl, h1, h2, hb⟩; have HB := Kept.mk hb; have H1 := Kept.mk h1; have H3 := Kept.mk ((((H.out.below hb).alloc (.map #[] 0)).alloc (.map #[] 0)).alloc (.cells #[.map (some w.heap.size), .map (some w1.heap.size), .map (some (w1.heap.size + 1))] 69)); have c1 := H3.out.c1; have f1 := H3.out.f1; clear hb h1 h2 c0)
  refine bodyPost_end (results_none rfl _ _ _) rfl ?_
  have e1 := H1.out.lt
  have e2 := (H.out.below HB.out).lt
  have e3 := H.out.lt
  have e4 := H.out.own.lt
  have e5 := H.out.ne
  have e6 := HB.out.size
  refine ⟨rfl, w1.heap.size + 1 + 1, w.heap.size, w1.heap.size, w1.heap.size + 1, ⟨⟨H3.out.relog (Kept.mk trivial), ?_, ?_, ?_, ?_, by simp; omega⟩⟩, ⟨by omega, Nat.le_refl _, e6, by omega⟩, ?_⟩
  · rw [Below.heap_setCell _ _ _ _ (by simp; omega)]
    have := heap_alloc_new ((w1.alloc (.map #[] 0)).alloc (.map #[] 0)) (.cells #[.map (some w.heap.size), .map (some w1.heap.size), .map (some (w1.heap.size + 1))] 69)
    simp only [World.size_alloc] at this
    exact this
  · exact (((H1.out.alloc _).alloc _).alloc _).setCell (by simp; omega) _
  · exact (((World.ownsMap_made _ _ _ _).alloc _).alloc _).setCell (by simp; omega) _
  · have := World.ownsMap_made (w1.alloc (.map #[] 0)) Tryz.prog 9 unR
    rw [World.size_alloc] at this
    exact (this.alloc _).setCell (by simp; omega) _
  · refine Only.setCell ((((Only.refl _ w).below HB.out).alloc _ |>.alloc _).alloc _) _ _ (fun _ => rfl)

set_option maxRecDepth 100000 in
theorem at_log (g b n lg bb nb br nr bp np : Nat) (t t0 : Tree) (DR DP : DataW Unit) (s : ByteArray) (w : World) (h : LSto w g b n lg bb nb br nr bp np t t0 DR DP) (hs : s.size ≤ maxLen) (hn : nr < 100000) :
    Calls Tryz.prog 15 #[.pointer (some ⟨g, 0, none⟩), .string s] w fun e w' => e = .returned (entV (get t s)) ∧ Kept (LSto w' g b n lg bb nb br (nr + 1) bp np t t0 (if Maps.has DP (key s) = true then DR else DR.put (rk ⟨s, false⟩) unD) DP) ∧ Only (· = br) w w' := by
  have HL := Kept.mk (h.alloc (.cells #[.int .i64 0, .int .i64 0, .string ⟨#[]⟩] 37))
  have HH := Kept.mk (hasPut_any g b n lg bb nb br nr bp np t t0 DR DP s _ HL.out hs)
  have c1 := HL.out.p.c1
  have HX : Kept (BoxIn w (w.alloc (.cells #[.int .i64 0, .int .i64 0, .string ⟨#[]⟩] 37)) #[.int .i64 0, .int .i64 0, .string ⟨#[]⟩]) := ⟨⟨heap_alloc_new w _, (Below.refl _ _).alloc (Nat.le_refl _) _⟩⟩
  have HBr : Kept (br < w.heap.size) := ⟨h.reads.lt⟩
  have HGl : Kept (g < w.heap.size ∧ lg < w.heap.size) := ⟨h.p.lt, blk h.log⟩
  obtain ⟨k, m, d, hget⟩ : ∃ k m d, get t s = ⟨k, m, d⟩ := ⟨_, _, _, rfl⟩
  have HG := Kept.mk hget
  clear h hget
  generalize Maps.has DP (key s) = x at HH ⊢
  cases x
  · go_enter Tryz.func15, Tryz.ntmps15
    go_wp2_with (first
      | (go_at_call 34
         refine HH.out.mono ?_
         rintro e w1 ⟨rfl, hb1⟩
         have HL1 := Kept.mk (HL.out.below hb1)
         have HX1 := Kept.mk (HX.out.on hb1)
         clear c1 hb1
         obtain ⟨w2, hrun, ho2, hg2⟩ := HL1.out.reads.update rdK Tryz.underlying66 (by unfold maxLen; omega) (keyRd ⟨s, false⟩ hs) unR_V
         unfold encRd at hrun
         have c1 := HL1.out.p.c1
         obtain ⟨l0, l1, l2⟩ := box3 HL1.out.log
         have HL2 := Kept.mk (HL1.out.read ho2 hg2)
         have hbox := HX1.out.grown hg2 (fun e => by have := HBr.out; injection e; omega)
         have HO2 : Kept (Only (· = br) w w2) := ⟨((Only.refl _ w).below HX1.out.below).grown hg2 (fun k hk _ => by injection hk with hk; exact hk.symm)⟩
         have c02 := HL2.out.p.c0
         have hlk := own_look HL2.out.p.own s hs
         rw [HG.out] at hlk
         unfold entV at hlk
         clear ho2 hg2)
      | (refine wpList_store_row rfl 37 _ _ rfl _ _ rfl rfl _ _ hbox (by kernel_rfl) rfl (by simp [Value.oneCell']) ?_))
    have hset := setRow_heap w2 _ _ #[.int .i64 k, .int .i64 m, .string d] _ _ hbox
    refine bodyPost_ret (results_cell_row rfl _ _ w.heap.size _ _ (0, 0) _ rfl hset Tryz.underlying37 rfl (by kernel_rfl)) rfl ?_
    refine ⟨by first | rfl | (rw [HG.out]; rfl), ⟨?_⟩, only_box HO2.out _⟩
    exact HL2.out.keep2 hbox (by have := HGl.out; omega)
  · go_enter Tryz.func15, Tryz.ntmps15
    go_wp2_with (first
      | (go_at_call 34
         refine HH.out.mono ?_
         rintro e w1 ⟨rfl, hb1⟩
         have HL2 := Kept.mk (HL.out.below hb1).more
         have HX1 := Kept.mk (HX.out.on hb1)
         have hbox := HX1.out.box
         have HO2 : Kept (Only (· = br) w w1) := ⟨(Only.refl _ w).below HX1.out.below⟩
         clear c1 hb1
         have c02 := HL2.out.p.c0
         have hlk := own_look HL2.out.p.own s hs
         rw [HG.out] at hlk
         unfold entV at hlk)
      | (refine wpList_store_row rfl 37 _ _ rfl _ _ rfl rfl _ _ hbox (by kernel_rfl) rfl (by simp [Value.oneCell']) ?_))
    have hset := setRow_heap w1 _ _ #[.int .i64 k, .int .i64 m, .string d] _ _ hbox
    refine bodyPost_ret (results_cell_row rfl _ _ w.heap.size _ _ (0, 0) _ rfl hset Tryz.underlying37 rfl (by kernel_rfl)) rfl ?_
    refine ⟨by first | rfl | (rw [HG.out]; rfl), ⟨?_⟩, only_box HO2.out _⟩
    exact HL2.out.keep2 hbox (by have := HGl.out; omega)

set_option maxRecDepth 100000 in
theorem names_log (g b n lg bb nb br nr bp np : Nat) (t t0 : Tree) (DR DP : DataW Unit) (s : ByteArray) (w : World) (h : LSto w g b n lg bb nb br nr bp np t t0 DR DP) (hs : s.size ≤ 1000000) (hn : nr < 100000) (ht : t.length ≤ 100000) :
    Calls Tryz.prog 16 #[.pointer (some ⟨g, 0, none⟩), .string s] w fun e w' => ∃ v, e = .returned v ∧ Kept (Own.Es Value.string w' w.heap.size v (names t s)) ∧ Kept (LSto w' g b n lg bb nb br (nr + 1) bp np t t0 (DR.put (rk ⟨s, true⟩) unD) DP) ∧ Only (· = br) w w' := by
  have HL := Kept.mk h
  have c1 := h.p.c1
  obtain ⟨l0, l1, l2⟩ := box3 h.log
  obtain ⟨w2, hrun, ho2, hg2⟩ := h.reads.update rdK Tryz.underlying66 (by unfold maxLen; omega) (keyRd ⟨s, true⟩ (show s.size ≤ maxLen by unfold maxLen; omega)) unR_V
  unfold encRd at hrun
  have HL2 := Kept.mk (h.read ho2 hg2)
  have HO2 : Kept (Only (· = br) w w2) := ⟨(Only.refl _ w).grown hg2 (fun k hk _ => by injection hk with hk; exact hk.symm)⟩
  have c02 := HL2.out.p.c0
  clear h ho2 hg2
  go_enter Tryz.func16, Tryz.ntmps16
  go_wp2_with (go_at_call 35; refine (namesIn_any b n t s w2 HL2.out.p.own HL2.out.p.good ht (by omega)).mono ?_; rintro e w3 ⟨v, rfl, hv, hb3⟩)
  go_ret
  exact ⟨v, rfl, ⟨hv.out.more HO2.out.size⟩, ⟨HL2.out.below hb3⟩, HO2.out.below hb3⟩
end St
end Go.Proofs.YtjmblgahoejoiaaGreatDoor
