/-
  Parts of the proof, merged.
-/
import Derived.BigRegion
import Derived.Deep.AppendLies
import Derived.Deep.MidRow
import Derived.Deep.RegionHeld3
import Derived.Deep.RegionLaw
import Derived.Laws.Slices
import Derived.Test.YtlggpefmojacoaaGreatDoorLa01
import Derived.Test.YtlggpefmojacoaaGreatDoorLa30
namespace Go.Proofs.YtlggpefmojacoaaGreatDoor
section
open Go.RowKit Tx
namespace Wx
def setL : Array Value → Nat → List Value → Array Value
 | cur, _, [] => cur
 | cur, o, v :: r => setL (cur.setIfInBounds o v) (o + 1) r
theorem setL_size : ∀ (vs : List Value) (cur : Array Value) (o : Nat), (setL cur o vs).size = cur.size
 | [], _, _ => rfl
 | v :: r, cur, o => by rw [setL, setL_size r]; simp
theorem setL_take : ∀ (vs : List Value) (cur : Array Value) (o : Nat), o + vs.length ≤ cur.size → (setL cur o vs).toList.take (o + vs.length) = cur.toList.take o ++ vs
 | [], cur, o, _ => by rw [setL]; simp
 | v :: r, cur, o, h => by
   rw [List.length_cons] at h
   rw [setL, List.length_cons, show o + (r.length + 1) = o + 1 + r.length by omega, setL_take r _ _ (by simp; omega)]
   have hlt : o < cur.toList.length := by simp; omega
   have : (cur.setIfInBounds o v).toList.take (o + 1) = cur.toList.take o ++ [v] := by
     rw [Array.toList_setIfInBounds, List.take_succ_eq_append_getElem (by simp; omega)]
     congr 1
     · rw [List.take_set_of_le (Nat.le_refl _)]
     · simp
   rw [this, List.append_assoc]
   rfl
theorem heap_setCells_row (g : Nat) (t : TypeId) : ∀ (vs : List Value) (o : Nat) (w : World) (cur : Array Value), w.heap[g]? = some (.cells cur t (0, 0)) → (w.setCells g o vs).heap[g]? = some (.cells (setL cur o vs) t (0, 0))
 | [], o, w, cur, h => h
 | v :: r, o, w, cur, h => by
   rw [World.setCells, setL]
   exact heap_setCells_row g t r (o + 1) _ _ (by have := heap_setCell_same w g o _ _ v h; simpa using this)
theorem size_setCells (g : Nat) : ∀ (vs : List Value) (o : Nat) (w : World), (w.setCells g o vs).heap.size = w.heap.size
 | [], _, _ => rfl
 | v :: r, o, w => by rw [World.setCells, size_setCells g r]; simp [World.setCell]
theorem own_there {w : World} {B n cap g : Nat} {E : TypeId} {xs : List Value} (h : w.ownsRow B E 6 (.slice (some ⟨g, 0, none⟩) (n + 1) cap) (n + 1) xs) : w.there g (n * 6) 6 := by
 rcases h.2 with ⟨h0, _⟩ | ⟨g', cap', cur, he, hB, hg, hnc, hcm, hcs, htake⟩
 · cases h0
 · cases he
   intro j hj
   rw [cell_of_row w g _ cur E (0, 0) hg]
   exact ⟨by rw [Array.getElem?_eq_getElem (by omega)]; rfl, frozen_of_row w g _ _ _ hg⟩
theorem own_put {w : World} {B n cap g : Nat} {E : TypeId} {xs zs ys : List Value} (h : w.ownsRow B E 6 (.slice (some ⟨g, 0, none⟩) (n + 1) cap) (n + 1) (xs ++ zs)) (hx : xs.length = n * 6) (_hz : zs.length = 6) (hy : ys.length = 6) :
   (w.setCells g (n * 6) ys).ownsRow B E 6 (.slice (some ⟨g, 0, none⟩) (n + 1) cap) (n + 1) (xs ++ ys) := by
 rcases h.2 with ⟨h0, _⟩ | ⟨g', cap', cur, he, hB, hg, hnc, hcm, hcs, htake⟩
 · cases h0
 · cases he
   refine ⟨by rw [List.length_append, hx, hy]; omega, .inr ⟨g, cap, setL cur (n * 6) ys, rfl, hB, heap_setCells_row g E ys _ w cur hg, hnc, hcm, by rw [setL_size]; exact hcs, ?_⟩⟩
   have h1 := setL_take ys cur (n * 6) (by rw [hy]; omega)
   rw [hy] at h1
   rw [show (n + 1) * 6 = n * 6 + 6 by omega, h1]
   congr 1
   have h2 := congrArg (List.take (n * 6)) htake
   rw [List.take_take, List.take_left' hx, Nat.min_eq_left (by omega)] at h2
   exact h2
def Ot (b : Nat) (pv tv : Value) (g : Nat) : Prop := b < g ∧ pv.ownBlock ≠ some g ∧ tv.ownBlock ≠ some g
structure RdM (w : World) (b : Nat) (dep : Int) (ps : List Pt) (it : Bool) (t : List UInt8) (q : Bool) (pv tv : Value) : Prop where
 row : w.heap[b]? = some (.cells #[.int .i64 dep, pv, .bool it, tv, .bool q] 149 (0, 0))
 parts : ∃ xs, w.ownsRow (b + 1) 125 6 pv ps.length xs ∧ Cs (Ot b pv tv) w xs ps
 text : By.Bs w (b + 1) tv t
 sep : ∀ g, pv.ownBlock = some g → tv.ownBlock ≠ some g
structure Fr (b : Nat) (pv tv pv' tv' : Value) (w w' : World) : Prop where
 bl : Below b w w'
 ot : ∀ g, Ot b pv tv g → g < w.heap.size → Ot b pv' tv' g ∧ w'.heap[g]? = w.heap[g]?
theorem Fr.refl (b : Nat) (pv tv : Value) (w : World) : Fr b pv tv pv tv w w := ⟨Below.refl _ _, fun _g h _ => ⟨h, rfl⟩⟩
theorem Fr.trans {b : Nat} {pv tv p2 t2 p3 t3 : Value} {w w2 w3 : World} (h : Fr b pv tv p2 t2 w w2) (k : Fr b p2 t2 p3 t3 w2 w3) : Fr b pv tv p3 t3 w w3 :=
 ⟨h.bl.trans k.bl, fun g hg hl => by
   obtain ⟨h1, h2⟩ := h.ot g hg hl
   obtain ⟨k1, k2⟩ := k.ot g h1 (Nat.lt_of_lt_of_le hl h.bl.size)
   exact ⟨k1, k2.trans h2⟩⟩
section
variable {w w' : World} {b : Nat} {dep : Int} {ps : List Pt} {it q : Bool} {t : List UInt8} {pv tv : Value}
theorem RdM.lt (h : RdM w b dep ps it t q pv tv) : b < w.heap.size := (Array.getElem?_eq_some_iff.1 h.row).1
theorem RdM.c1 (h : RdM w b dep ps it t q pv tv) : w.cell? ⟨b, 1, none⟩ = some pv := cell_of_row _ _ 1 _ _ _ h.row
theorem RdM.c2 (h : RdM w b dep ps it t q pv tv) : w.cell? ⟨b, 2, none⟩ = some (.bool it) := cell_of_row _ _ 2 _ _ _ h.row
theorem RdM.c3 (h : RdM w b dep ps it t q pv tv) : w.cell? ⟨b, 3, none⟩ = some tv := cell_of_row _ _ 3 _ _ _ h.row
theorem RdM.c4 (h : RdM w b dep ps it t q pv tv) : w.cell? ⟨b, 4, none⟩ = some (.bool q) := cell_of_row _ _ 4 _ _ _ h.row
theorem RdM.fz (h : RdM w b dep ps it t q pv tv) (j : Nat) : w.frozen? ⟨b, j, none⟩ = false := frozen_of_row _ _ j _ _ h.row
end
theorem Bs.cut {w : World} {B g n cap : Nat} {l : List UInt8} (h : By.Bs w B (.slice (some ⟨g, 0, none⟩) n cap) l) : By.Bs w B (.slice (some ⟨g, 0, none⟩) 0 cap) [] := by
 rcases h with ⟨h0, _⟩ | ⟨g', cap', he, h1, h2, h3, h4, h5, h6⟩
 · cases h0
 · cases he
   exact .inr ⟨g, cap, rfl, h1, h2, by simp, h4, h5, fun j u hu => by simp [By.cells] at hu⟩
theorem own_cut (A : Option Addr) (n k cap : Nat) : (Value.slice A k cap).ownBlock = (Value.slice A n cap).ownBlock := by cases A <;> rfl
theorem own_keep {w w' : World} {B n size : Nat} {e : TypeId} {v : Value} {xs : List Value} (h : w.ownsRow B e size v n xs) (hb : ∀ g, v.ownBlock = some g → w'.heap[g]? = w.heap[g]?) : w'.ownsRow B e size v n xs := by
 refine ⟨h.1, ?_⟩
 rcases h.2 with h0 | ⟨g, cap, cur, rfl, hB, hg, r⟩
 · exact .inl h0
 · exact .inr ⟨g, cap, cur, rfl, hB, (hb g rfl).trans hg, r⟩
theorem own_lt {w : World} {B n size : Nat} {e : TypeId} {v : Value} {xs : List Value} (h : w.ownsRow B e size v n xs) : ∀ g, v.ownBlock = some g → B ≤ g ∧ g < w.heap.size := by
 intro g hg
 rcases h.2 with ⟨rfl, _⟩ | ⟨k, cap, cur, rfl, hB, hk, _⟩
 · cases hg
 · injection hg with hg
   have : k = g := hg
   subst this
   exact ⟨hB, (Array.getElem?_eq_some_iff.1 hk).1⟩
theorem own_slice {w : World} {B n size : Nat} {e : TypeId} {v : Value} {xs : List Value} (h : w.ownsRow B e size v n xs) : ∃ A k, v = .slice A n k := by
 rcases h.2 with ⟨rfl, rfl⟩ | ⟨g, cap, cur, rfl, _⟩
 · exact ⟨_, _, rfl⟩
 · exact ⟨_, _, rfl⟩
theorem RdM.stop {w : World} {b : Nat} {dep : Int} {ps : List Pt} {it q : Bool} {t : List UInt8} {pv : Value} {A : Option Addr} {n cap : Nat} (h : RdM w b dep ps it t q pv (.slice A n cap)) :
   RdM ((w.setCell ⟨b, 2, none⟩ (.bool false)).setCell ⟨b, 3, none⟩ (.slice A 0 cap)).drew b dep ps false [] q pv (.slice A 0 cap) ∧ Fr b pv (.slice A n cap) pv (.slice A 0 cap) w ((w.setCell ⟨b, 2, none⟩ (.bool false)).setCell ⟨b, 3, none⟩ (.slice A 0 cap)).drew := by
 have hk : ∀ g, g ≠ b → ((w.setCell ⟨b, 2, none⟩ (.bool false)).setCell ⟨b, 3, none⟩ (.slice A 0 cap)).drew.heap[g]? = w.heap[g]? := fun g hg => (Below.heap_setCell _ _ _ g hg).trans (Below.heap_setCell w _ _ g hg)
 have hs : w.heap.size ≤ ((w.setCell ⟨b, 2, none⟩ (.bool false)).setCell ⟨b, 3, none⟩ (.slice A 0 cap)).drew.heap.size := by simp [World.setCell]
 have hot : ∀ g, Ot b pv (.slice A n cap) g → Ot b pv (.slice A 0 cap) g := fun g ⟨h1, h2, h3⟩ => ⟨h1, h2, by rw [own_cut A n 0 cap]; exact h3⟩
 have hbl : Below b w ((w.setCell ⟨b, 2, none⟩ (.bool false)).setCell ⟨b, 3, none⟩ (.slice A 0 cap)).drew := ((Below.refl b w).setCell (Nat.le_refl _) _ |>.setCell (Nat.le_refl _) _).drew
 refine ⟨⟨?_, ?_, ?_, fun g hg => by rw [own_cut A n 0 cap]; exact h.sep g hg⟩, hbl, fun g hg hl => ⟨hot g hg, hk g (by have := hg.1; omega)⟩⟩
 · have h1 := heap_setCell_same w b 2 _ _ (.bool false) h.row
   have h2 := heap_setCell_same _ b 3 _ _ (.slice A 0 cap) h1
   simp at h2
   exact h2
 · obtain ⟨xs, ho, hx⟩ := h.parts
   exact ⟨xs, own_keep ho fun g hg => hk g (by have := (own_lt ho g hg).1; omega), hx.same (fun g hg hl => ⟨hot g hg, hk g (by have := hg.1; omega)⟩) hs⟩
 · have h1 : By.Bs w (b + 1) (.slice A 0 cap) [] := by
     rcases A with _ | ⟨g, o, sp⟩
     · rcases h.text with ⟨h0, _⟩ | ⟨g', cap', he, _⟩
       · cases h0; exact .inl ⟨rfl, rfl⟩
       · cases he
     · rcases h.text with ⟨h0, _⟩ | ⟨g', cap', he, r⟩
       · cases h0
       · cases he
         exact Bs.cut (.inr ⟨g, cap, rfl, r⟩)
   exact h1.keep (fun g hg => hk g (by have := (h1.lt g hg).1; omega)) hs
set_option maxHeartbeats 2000000 in
set_option maxRecDepth 100000 in
theorem endText_no (w : World) (b : Nat) (dep : Int) (ps : List Pt) (t : List UInt8) (q : Bool) (pv tv : Value) (h : RdM w b dep ps false t q pv tv) :
   Calls Tryz.prog 137 #[.pointer (some ⟨b, 0, none⟩)] w fun e w' => e = .returned (.tuple #[]) ∧ ∃ pv' tv', Kept (RdM w' b dep ps false [] q pv' tv') ∧ Kept (Fr b pv tv pv' tv' w w') := by
 have H := Kept.mk h
 have c2 := h.c2
 obtain ⟨At, ct, rfl⟩ := h.text.len
 have c3 := h.c3
 have f2 := h.fz 2
 have f3 := h.fz 3
 clear h
 generalize t.length = tl at *
 go_enter Tryz.func137, Tryz.ntmps137
 go_wp2_with fail
 go_region
 refine bodyPost_end (results_none rfl _ _ _) rfl ?_
 exact ⟨rfl, _, _, ⟨H.out.stop.1⟩, ⟨H.out.stop.2⟩⟩
theorem partInfo2 : (Tryz.prog.info? 125).map (·.size) = some 6 := by kernel_rfl
theorem byteTy : By.Ty Tryz.prog 28 5 := ⟨Tryz.underlying28, Tryz.underlying5, by kernel_rfl⟩
theorem own_apart {w : World} {B n size b g m cap : Nat} {E : TypeId} {xs : List Value} (h : w.ownsRow B E size (.slice (some ⟨g, 0, none⟩) m cap) n xs) (hb : g ≠ b) (u : Value) : (w.setCell ⟨b, 1, none⟩ u).ownsRow B E size (.slice (some ⟨g, 0, none⟩) m cap) n xs :=
 own_keep h fun k hk => Below.heap_setCell w _ _ k (by
   injection hk with hk
   have e : g = k := hk
   show k ≠ b
   rw [← e]; exact hb)
structure Put (w2 W : World) (b g n cap : Nat) (dep : Int) (it q : Bool) (tv : Value) (ys : List Value) : Prop where
 row : W.heap[b]? = some (.cells #[.int .i64 dep, .slice (some ⟨g, 0, none⟩) (n + 1) cap, .bool it, tv, .bool q] 149 (0, 0))
 own : W.ownsRow (b + 1) 125 6 (.slice (some ⟨g, 0, none⟩) (n + 1) cap) (n + 1) ys
 oth : ∀ i, i ≠ b → i ≠ g → W.heap[i]? = w2.heap[i]?
 size : W.heap.size = w2.heap.size
 os : W.os = w2.os
 tape : W.tape = w2.tape
 output : W.output = w2.output
theorem setCells_os (g : Nat) : ∀ (vs : List Value) (o : Nat) (w : World), (w.setCells g o vs).os = w.os ∧ (w.setCells g o vs).tape = w.tape ∧ (w.setCells g o vs).output = w.output
 | [], _, _ => ⟨rfl, rfl, rfl⟩
 | v :: r, o, w => by rw [World.setCells]; exact setCells_os g r _ _
theorem setCells_far (g : Nat) : ∀ (vs : List Value) (o : Nat) (w : World) (i : Nat), i ≠ g → (w.setCells g o vs).heap[i]? = w.heap[i]?
 | [], _, _, _, _ => rfl
 | v :: r, o, w, i, hi => by rw [World.setCells, setCells_far g r _ _ i hi]; exact Below.heap_setCell w _ _ i hi
section
variable {w2 : World} {b g n cap : Nat} {dep : Int} {it q : Bool} {pv tv : Value} {xs zs ys : List Value}
theorem Put.first (hb : w2.heap[b]? = some (.cells #[.int .i64 dep, pv, .bool it, tv, .bool q] 149 (0, 0))) (hbg : b < g) (ho : w2.ownsRow (b + 1) 125 6 (.slice (some ⟨g, 0, none⟩) (n + 1) cap) (n + 1) (xs ++ zs)) (hx : xs.length = n * 6) (hz : zs.length = 6) (hy : ys.length = 6) :
   Put w2 ((w2.setCells g (n * 6) ys).setCell ⟨b, 1, none⟩ (.slice (some ⟨g, 0, none⟩) (n + 1) cap)) b g n cap dep it q tv (xs ++ ys) := by
 have h1 := own_put ho hx hz hy
 obtain ⟨o1, o2, o3⟩ := setCells_os g ys (n * 6) w2
 refine ⟨?_, own_keep h1 fun k hk => Below.heap_setCell _ _ _ k (by injection hk with hk; have : g = k := hk; show k ≠ b; omega), fun i h1 h2 => (Below.heap_setCell _ _ _ i h1).trans (setCells_far g ys _ _ i h2), by simp [World.setCell, size_setCells], o1, o2, o3⟩
 have h2 := heap_setCell_same (w2.setCells g (n * 6) ys) b 1 _ _ (.slice (some ⟨g, 0, none⟩) (n + 1) cap) ((setCells_far g ys _ _ b (by omega)).trans hb)
 simpa using h2
theorem Put.last (hb : w2.heap[b]? = some (.cells #[.int .i64 dep, pv, .bool it, tv, .bool q] 149 (0, 0))) (hbg : b < g) (ho : w2.ownsRow (b + 1) 125 6 (.slice (some ⟨g, 0, none⟩) (n + 1) cap) (n + 1) (xs ++ zs)) (hx : xs.length = n * 6) (hz : zs.length = 6) (hy : ys.length = 6) :
   Put w2 ((w2.setCell ⟨b, 1, none⟩ (.slice (some ⟨g, 0, none⟩) (n + 1) cap)).setCells g (n * 6) ys) b g n cap dep it q tv (xs ++ ys) := by
 have h0 : (w2.setCell ⟨b, 1, none⟩ (.slice (some ⟨g, 0, none⟩) (n + 1) cap)).ownsRow (b + 1) 125 6 (.slice (some ⟨g, 0, none⟩) (n + 1) cap) (n + 1) (xs ++ zs) := own_keep ho fun k hk => Below.heap_setCell _ _ _ k (by injection hk with hk; have : g = k := hk; show k ≠ b; omega)
 have h1 := own_put h0 hx hz hy
 obtain ⟨o1, o2, o3⟩ := setCells_os g ys (n * 6) (w2.setCell ⟨b, 1, none⟩ (.slice (some ⟨g, 0, none⟩) (n + 1) cap))
 refine ⟨?_, h1, fun i h1 h2 => (setCells_far g ys _ _ i h2).trans (Below.heap_setCell _ _ _ i h1), by rw [size_setCells]; simp [World.setCell], o1, o2, o3⟩
 have h2 := heap_setCell_same w2 b 1 _ _ (.slice (some ⟨g, 0, none⟩) (n + 1) cap) hb
 rw [setCells_far g ys _ _ b (by omega)]
 simpa using h2
end
theorem grown_row {w w2 : World} {b : Nat} {dep : Int} {ps : List Pt} {it q : Bool} {t : List UInt8} {pv tv : Value} {o : Obj} (H : RdM w b dep ps it t q pv tv) (hgr : (w.alloc o).drew.grownBy w2 pv.ownBlock) :
   (∀ i, i < w.heap.size → pv.ownBlock ≠ some i → w2.heap[i]? = w.heap[i]?) ∧ w2.heap[b]? = w.heap[b]? := by
 have h1 : ∀ i, i < w.heap.size → pv.ownBlock ≠ some i → w2.heap[i]? = w.heap[i]? := fun i hi hn => (hgr.block i (by simp; omega) (fun e => hn e.symm)).trans (Below.heap_alloc w o i hi)
 refine ⟨h1, h1 b H.lt fun e => ?_⟩
 obtain ⟨xs, ho, _⟩ := H.parts
 have := (own_lt ho b e).1
 omega
theorem RdM.put {w w2 W : World} {b g cap : Nat} {dep : Int} {ps : List Pt} {it q : Bool} {t : List UInt8} {pv tv : Value} {o : Obj} {xs : List Value} {kk : Int} {q' : Bool} {tt nn oo : List UInt8} {wd : List Pt} {vv : Value}
   (H : RdM w b dep ps it t q pv tv) (ho : w.ownsRow (b + 1) 125 6 pv ps.length xs) (hx : Cs (Ot b pv tv) w xs ps) (hgr : (w.alloc o).drew.grownBy w2 pv.ownBlock) (hat : pv.ownBlock = some g ∨ g = w.heap.size + 1) (hbg : b < g)
   (hv : vv.oneCell' = true) (hw : LV (Ot b pv tv) w vv wd) (hp : Put w2 W b g ps.length cap dep it q tv (xs ++ pvs kk q' tt nn oo vv)) :
   RdM W b dep (ps ++ [.mk kk q' tt nn oo wd]) it t q (.slice (some ⟨g, 0, none⟩) (ps.length + 1) cap) tv ∧ Fr b pv tv (.slice (some ⟨g, 0, none⟩) (ps.length + 1) cap) tv w W := by
 obtain ⟨hg1, hg2⟩ := grown_row H hgr
 have hs : w.heap.size ≤ W.heap.size := by
   have := hgr.size
   rw [hp.size]
   simp at this
   omega
 have hot : ∀ i, Ot b pv tv i → i < w.heap.size → Ot b (.slice (some ⟨g, 0, none⟩) (ps.length + 1) cap) tv i ∧ W.heap[i]? = w.heap[i]? := fun i ⟨h1, h2, h3⟩ hl => by
   have hne : i ≠ g := by
     rintro rfl
     rcases hat with h | h
     · exact h2 h
     · omega
   exact ⟨⟨h1, fun e => hne (by injection e with e; exact (show g = i from e).symm), h3⟩, (hp.oth i (by omega) hne).trans (hg1 i hl h2)⟩
 have hbl : Below b w W := by
   refine ⟨hp.os.trans hgr.os, hp.tape.trans hgr.tape, hp.output.trans hgr.output, hs, fun i hi => ?_⟩
   have hlt := H.lt
   refine (hp.oth i (by omega) (by omega)).trans (hg1 i (by omega) fun e => ?_)
   have := (own_lt ho i e).1
   omega
 refine ⟨⟨hp.row, ⟨xs ++ pvs kk q' tt nn oo vv, ?_, ?_⟩, ?_, fun k hk => ?_⟩, hbl, hot⟩
 · rw [List.length_append]; exact hp.own
 · refine (hx.same hot hs).append ?_
   have := Cs.cons kk q' tt nn oo wd vv [] [] hv (hw.same hot hs) .nil
   rwa [List.append_nil] at this
 · refine H.text.keep (fun k hk => ?_) hs
   have hkl := H.text.lt k hk
   have hne : k ≠ g := by
     rintro rfl
     rcases hat with h | h
     · exact H.sep k h hk
     · omega
   exact (hp.oth k (by omega) hne).trans (hg1 k hkl.2 fun e => H.sep k e hk)
 · obtain rfl : g = k := by injection hk
   rcases hat with h | h
   · exact H.sep g h
   · intro e
     have := (H.text.lt g e).2
     omega
def zeroP : List Value := [.int .i64 0, .bool false, .string ⟨#[]⟩, .string ⟨#[]⟩, .string ⟨#[]⟩, .slice none 0 0]
theorem zero_one : ∀ u ∈ zeroP, u.oneCell' = true := by
 intro u hu
 simp only [zeroP, List.mem_cons, List.not_mem_nil, or_false] at hu
 rcases hu with rfl | rfl | rfl | rfl | rfl | rfl <;> rfl
theorem zero_new {W : World} {g : Nat} (h : W.heap[g]? = some (.cells #[.int .i64 0, .bool false, .string ⟨#[]⟩, .string ⟨#[]⟩, .string ⟨#[]⟩, .slice none 0 0] 125 (0, 0))) : ∀ j u, zeroP[j]? = some u → W.cell? ((⟨g, 0, none⟩ : Addr).add j) = some u := World.news_of_block h
end Wx
end
section
namespace Take
variable {P : Program} {md : Region.Mode} {ops : Array Oper} {Q : Exit → Act → World → Prop} {S : World → Prop}
theorem run {i : Nat} {d : Option Tmp} {v : Value} {fuel : Nat} {listed : Array Bool} {a : Act} {w : World} (hd : (ops[i]?).map (·.dst) = some d)
   (hs : Region.noSelect ops = true) (hf : Region.free md ops listed i = true) (hr : (Region.ready md ops listed).contains i = true)
   (hQ : ∀ c a w, Q (.panic c) (a.put d v) w → Q (.panic c) a w) (hw : (ops[i]?).map (fun o => Region.wanted o (yielded ops a.tmps)) = some true)
   (hy : ∀ oi, ops[i]? = some oi → ∀ w, S w → (execOp a.eval oi).run P w = .ok (.value v) w) (hS : S w)
   (h : wpAnyH P md ops Q S fuel (listed.setIfInBounds i true) (a.put d v) w) : wpAnyH P md ops Q S (fuel + 1) listed a w := by
 cases ho : ops[i]? with
 | none => rw [ho] at hd; cases hd
 | some oi =>
   rw [ho] at hd hw
   simp only [Option.map_some, Option.some.injEq] at hd hw
   subst hd
   exact wpAnyH_take ho hs hf hr hQ (.inl ⟨hw, hy oi ho⟩) hS h
theorem skip {i : Nat} {d : Option Tmp} {fuel : Nat} {listed : Array Bool} {a : Act} {w : World} (hd : (ops[i]?).map (·.dst) = some d)
   (hs : Region.noSelect ops = true) (hf : Region.free md ops listed i = true) (hr : (Region.ready md ops listed).contains i = true)
   (hQ : ∀ c a w, Q (.panic c) (a.put d undef) w → Q (.panic c) a w) (hw : (ops[i]?).map (fun o => Region.wanted o (yielded ops a.tmps)) = some false) (hS : S w)
   (h : wpAnyH P md ops Q S fuel (listed.setIfInBounds i true) (a.put d undef) w) : wpAnyH P md ops Q S (fuel + 1) listed a w := by
 cases ho : ops[i]? with
 | none => rw [ho] at hd; cases hd
 | some oi =>
   rw [ho] at hd hw
   simp only [Option.map_some, Option.some.injEq] at hd hw
   subst hd
   exact wpAnyH_take ho hs hf hr hQ (.inr ⟨hw, rfl⟩) hS h
end Take
end
end Go.Proofs.YtlggpefmojacoaaGreatDoor
