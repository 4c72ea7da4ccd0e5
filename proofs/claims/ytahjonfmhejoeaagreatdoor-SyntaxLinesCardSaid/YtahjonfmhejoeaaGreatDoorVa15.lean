/-
  Parts of the proof, merged.
-/
import Derived.BigRegion
import Derived.Deep.RegionLaw
import Derived.Test.YtahjonfmhejoeaaGreatDoorVa09
namespace Go.Proofs.YtahjonfmhejoeaaGreatDoor
section
open Go.RowKit Tx
namespace Wx
variable {P : Nat → Prop}
def Up (P : Nat → Prop) (n : Nat) (g : Nat) : Prop := P g ∨ n ≤ g
theorem LV.up {n m : Nat} {w : World} {v : Value} {l : List Pt} (h : LV (fun g => P g ∨ m ≤ g) w v l) (hm : n ≤ m) : LV (Up P n) w v l := h.mono fun _g hg _ => hg.imp id (fun h => Nat.le_trans hm h)
theorem LV.old {w : World} {v : Value} {l : List Pt} (h : LV P w v l) : LV (fun g => P g ∧ g < w.heap.size) w v l := h.mono fun _g hg hl => ⟨hg, hl⟩
theorem OW.nil (w0 w : World) (B : Nat) (hb : Below w0.heap.size w0 w) (hB : w0.heap.size ≤ B) : OW P w0 w B (.slice none 0 0) [] := ⟨⟨[], World.ownsRow_nil _ _ _ _, .nil⟩, hb, hB⟩
theorem grown_below {w w2 : World} {B : Nat} {v : Value} (hg : w.grownBy w2 v.ownBlock) (ho : ∀ g, v.ownBlock = some g → B ≤ g) (hB : B ≤ w.heap.size) : Below B w w2 :=
 ⟨hg.os, hg.tape, hg.output, hg.size, fun i hi => hg.block i (by omega) (fun e => by have := ho i e.symm; omega)⟩
theorem own_base {w : World} {B n size : Nat} {e : TypeId} {v : Value} {xs : List Value} (h : w.ownsRow B e size v n xs) : ∀ g, v.ownBlock = some g → B ≤ g := by
 intro g hg
 rcases h.2 with ⟨rfl, _⟩ | ⟨k, cap, cur, rfl, hB, _⟩
 · cases hg
 · have : k = g := by injection hg
   omega
theorem LV.news {w : World} {ad : Addr} {m cap : Nat} {l : List Pt} (h : LV P w (.slice (some ad) m cap) l) : ∃ xs, Cs P w xs l ∧ ∀ j u, xs[j]? = some u → w.cell? (ad.add j) = some u := by
 cases h with
 | nil A cap h => exact ⟨[], .nil, fun j u hu => by simp at hu⟩
 | «at» g off n cap xs l hn hm hP hg hc h =>
   refine ⟨xs, h, fun j u hu => ?_⟩
   have : (⟨g, off, Option.none⟩ : Addr).add j = ⟨g, off + j, Option.none⟩ := by unfold Addr.add; split <;> simp_all
   rw [this]
   exact hc j u hu
theorem wpList_append_parts {w w0 : World} {B : Nat} {v : Value} {ts l : List Pt} {A : Option Addr} {m k : Nat} {ops : Array Oper} {rest : List Oper} {o : Oper} {a : Act} {Q : Exit → Act → World → Prop} (hgd : o.guard = none) (s x : Operand)
   (ho : o.op = .call { callee := .builtin .append, args := #[s, x], argTypes := #[61, 61] }) (hs : a.eval s = v) (hR : OW P w0 w B v ts) (hB : B ≤ w.heap.size) (hx : a.eval x = .slice A m k) (hA : LV P w0 (.slice A m k) l)
   (hlen : ts.length + l.length ≤ 1000000) (h : ∀ v' w', OW P w0 w' B v' (ts ++ l) → Below B w w' → wpList Tryz.prog ops Q rest (a.put o.dst v') w') : wpList Tryz.prog ops Q (o :: rest) a w := by
 obtain ⟨i0, hi, hz0, hz1, hz2⟩ := info_parts partInfo
 obtain rfl := hA.len
 obtain ⟨⟨xs, hown, hcs⟩, hbel, hle⟩ := hR
 cases A with
 | none =>
   obtain ⟨rfl, rfl⟩ := hA.none
   refine wpList_append_own_none hgd s x 61 ho B 101 i0 6 Tryz.underlying61 hi v ts.length xs hs hown hx (h v w ?_ (Below.refl _ _))
   rw [List.append_nil]; exact ⟨⟨xs, hown, hcs⟩, hbel, hle⟩
 | some ad =>
   obtain ⟨ys, hy, hc⟩ := hA.news
   refine wpList_append_own w hgd s x 61 ho B 101 i0 _ 6 88 Tryz.underlying61 hi hz0 hz1 hz2 rfl (by decide) v ts.length xs hs hown ad l.length k ys hx hy.length (fun j u hu => ?_) hy.one (by unfold maxLen; omega) (by omega) hB fun v' w' h1 h2 _ => ?_
   · have h3 := hc j u hu
     have hlt := World.block_lt_of_cell? w0 _ h3
     rw [hbel.cell (p := ad.add j) hlt]; exact h3
   · have hb2 := grown_below h2 (own_base hown) hB
     exact h v' w' ⟨⟨xs ++ ys, by rw [List.length_append]; exact h1, hcs.append hy⟩, hbel.trans (hb2.mono hle), hle⟩ hb2
theorem pvs_new (w : World) (k : Int) (q : Bool) (t n o : List UInt8) (v : Value) (ty : TypeId) : ∀ j u, (pvs k q t n o v)[j]? = some u → (w.alloc (.cells (pvs k q t n o v).toArray ty)).cell? ((⟨w.heap.size, 0, none⟩ : Addr).add j) = some u := by
 intro j u hu
 have : (⟨w.heap.size, 0, none⟩ : Addr).add j = ⟨w.heap.size, 0 + j, none⟩ := by unfold Addr.add; split <;> simp_all
 rw [this, Nat.zero_add, cell_of_row _ _ j _ _ (0, 0) (heap_alloc_new w _)]
 simpa using hu
theorem wpList_append_part {w w0 : World} {B : Nat} {v : Value} {ts : List Pt} {kk : Int} {q : Bool} {t n oo : List UInt8} {wd : List Pt} {pv : Value} {ops : Array Oper} {rest : List Oper} {o : Oper} {a : Act} {Q : Exit → Act → World → Prop} (hgd : o.guard = none) (s x : Operand)
   (ho : o.op = .call { callee := .builtin .append, args := #[s, x], argTypes := #[61, 61] }) (hs : a.eval s = v) (hR : OW P w0 w B v ts) (hB : B ≤ w.heap.size) (hx : a.eval x = .slice (some ⟨w.heap.size, 0, none⟩) 1 1) (hv : pv.oneCell' = true) (hw : LV P w0 pv wd)
   (hlen : ts.length + 1 ≤ 1000000) (h : ∀ v' w', OW P w0 w' B v' (ts ++ [.mk kk q t n oo wd]) → Below B w w' → wpList Tryz.prog ops Q rest (a.put o.dst v') w') : wpList Tryz.prog ops Q (o :: rest) a (w.alloc (.cells (pvs kk q t n oo pv).toArray 101)) := by
 obtain ⟨i0, hi, hz0, hz1, hz2⟩ := info_parts partInfo
 obtain ⟨⟨xs, hown, hcs⟩, hbel, hle⟩ := hR
 have hc1 : Cs P w0 (pvs kk q t n oo pv) [.mk kk q t n oo wd] := by
   have := Cs.cons kk q t n oo wd pv [] [] hv hw .nil
   rwa [List.append_nil] at this
 have hown2 : (w.alloc (.cells (pvs kk q t n oo pv).toArray 101)).ownsRow B 101 6 v ts.length xs := by
   refine ⟨hown.1, ?_⟩
   rcases hown.2 with h0 | ⟨g, cap, cur, rfl, hBg, hg, r⟩
   · exact .inl h0
   · exact .inr ⟨g, cap, cur, rfl, hBg, (Below.heap_alloc w _ g (Array.getElem?_eq_some_iff.1 hg).1).trans hg, r⟩
 refine wpList_append_own _ hgd s x 61 ho B 101 i0 _ 6 88 Tryz.underlying61 hi hz0 hz1 hz2 rfl (by decide) v ts.length xs hs hown2 ⟨w.heap.size, 0, none⟩ 1 1 (pvs kk q t n oo pv) hx rfl (pvs_new w kk q t n oo pv _) hc1.one (by unfold maxLen; omega) (by omega) (by simp; omega) fun v' w' h1 h2 _ => ?_
 have hb2 := (Below.alloc (Below.refl B w) hB (.cells (pvs kk q t n oo pv).toArray 101)).trans (grown_below h2 (own_base hown2) (by simp; omega))
 exact h v' w' ⟨⟨xs ++ pvs kk q t n oo pv, by rw [List.length_append]; exact h1, hcs.append hc1⟩, hbel.trans (hb2.mono hle), hle⟩ hb2
theorem OW.last {w0 w : World} {B : Nat} {v : Value} {l : List Pt} {kk : Int} {q : Bool} {t n o : List UInt8} {wd : List Pt} (h : OW P w0 w B v (l ++ [.mk kk q t n o wd])) : ∃ g cap, v = .slice (some ⟨g, 0, none⟩) (l.length + 1) cap ∧ B ≤ g ∧ g < w.heap.size ∧
   w.cell? ⟨g, l.length * 6, none⟩ = some (.int .i64 kk) ∧ w.cell? ⟨g, l.length * 6 + 1, none⟩ = some (.bool q) ∧ w.cell? ⟨g, l.length * 6 + 2, none⟩ = some (.string (bs t)) ∧ w.frozen? ⟨g, l.length * 6 + 2, none⟩ = false ∧
   ∀ t2 : List UInt8, OW P w0 (w.setCell ⟨g, l.length * 6 + 2, none⟩ (.string (bs t2))) B v (l ++ [.mk kk q t2 n o wd]) := by
 obtain ⟨⟨xs, hown, hcs⟩, hbel, hle⟩ := h
 obtain ⟨ys, zs, rfl, hy, hz⟩ := hcs.split
 rw [List.length_append] at hown
 cases hz with
 | cons k q t n o wd v xs l2 hv hw hr =>
   cases hr
   rw [List.append_nil] at hown
   rcases hown.2 with ⟨rfl, h0⟩ | ⟨g, cap, cur, rfl, hBg, hg, hnc, hcm, hcs2, htake⟩
   · simp at h0
   · have hyl := hy.length
     have hc : ∀ i u, (ys ++ pvs kk q t n o v)[i]? = some u → w.cell? ⟨g, i, none⟩ = some u := fun i u hu => by
       rw [← htake, List.getElem?_take] at hu
       rw [cell_of_row w g i cur _ (0, 0) hg]
       split at hu
       · simpa using hu
       · cases hu
     have hat : ∀ i u, (pvs kk q t n o v)[i]? = some u → w.cell? ⟨g, l.length * 6 + i, none⟩ = some u := fun i u hu => hc _ _ (by
       rw [List.getElem?_append_right (by omega), show l.length * 6 + i - ys.length = i by omega]; exact hu)
     refine ⟨g, cap, rfl, hBg, (Array.getElem?_eq_some_iff.1 hg).1, hat 0 _ rfl, hat 1 _ rfl, hat 2 _ rfl, frozen_of_row w g _ _ _ hg, fun t2 => ⟨⟨ys ++ pvs kk q t2 n o v, ?_, hy.append ?_⟩, ?_, hle⟩⟩
     · rw [List.length_append]
       refine ⟨by rw [List.length_append, hyl]; show _ + 6 = _; simp; omega, .inr ⟨g, cap, cur.setIfInBounds (l.length * 6 + 2) (.string (bs t2)), rfl, hBg, heap_setCell_same w g _ _ _ _ hg, hnc, hcm, by simpa using hcs2, ?_⟩⟩
       have htake2 : cur.toList.take ((l.length + 1) * 6) = ys ++ pvs kk q t n o v := htake
       rw [Array.toList_setIfInBounds, List.take_set]
       show (cur.toList.take ((l.length + 1) * 6)).set (l.length * 6 + 2) _ = _
       rw [htake2, List.set_append_right _ _ (by omega), show l.length * 6 + 2 - ys.length = 2 by omega]
       rfl
     · have := Cs.cons kk q t2 n o wd v [] [] hv hw .nil
       rwa [List.append_nil] at this
     · refine ⟨hbel.os, hbel.tape, hbel.output, by simpa [World.setCell] using hbel.size, fun i hi => (Below.heap_setCell w ⟨g, l.length * 6 + 2, none⟩ _ i (by show i ≠ g; omega)).trans (hbel.block i hi)⟩
theorem add_nil (p : Pt) : add [] p = [p] := rfl
theorem add_snoc (l : List Pt) (a p : Pt) : add (l ++ [a]) p = if alike a p then l ++ [joined a p] else l ++ [a] ++ [p] := by
 unfold add
 simp
set_option maxHeartbeats 4000000 in
set_option maxRecDepth 100000 in
theorem addE (kk : Int) (q : Bool) (t nn o : List UInt8) (wd : List Pt) (vv : Value) (A : Option Addr) (n k : Nat) (w : World) (hl : LV P w (.slice A n k) []) (hv : vv.oneCell' = true) (hw : LV P w vv wd) :
   Calls Tryz.prog 189 #[.slice A n k, .agg #[.int .i64 kk, .bool q, .string (bs t), .string (bs nn), .string (bs o), vv]] w fun e w' => ∃ v', e = .returned v' ∧ Kept (LV (Up P w.heap.size) w' v' [.mk kk q t nn o wd]) ∧ Below w.heap.size w w' := by
 obtain rfl : n = 0 := hl.len
 obtain ⟨Av, kv, rfl⟩ := hw.slice
 generalize wd.length = nv at hw hv ⊢
 have HL := Kept.mk hl
 have HW := Kept.mk hw
 have HV := Kept.mk hv
 have HB0 : Kept (Below w.heap.size w (w.alloc (.cells (pvs kk q t nn o (.slice Av nv kv)).toArray 101))) := ⟨(Below.refl _ _).alloc (Nat.le_refl _) _⟩
 have T1 : Kept True := ⟨trivial⟩
 clear hl hw hv
 go_enter Tryz.func189, Tryz.ntmps189
 go_wp2_with (first
   | (at_builtin
      have := T1
      refine wpList_append_parts (P := P) (w0 := w) (B := w.heap.size + 1) (ts := []) rfl _ _ rfl rfl (OW.nil w _ _ HB0.out (Nat.le_succ _)) (by simp) rfl HL.out (by simp) ?_
      intro v1 w1 h1 hb1
      obtain ⟨A1, k1, rfl⟩ := h1.read.slice
      have H1 := Kept.mk h1
      have HB1 : Kept (Below w.heap.size w w1) := ⟨h1.bel⟩
      have HX1 : Kept (w1.heap[w.heap.size]? = some (.cells (pvs kk q t nn o (.slice Av nv kv)).toArray 101 (0, 0))) := ⟨(hb1.block _ (Nat.lt_succ_self _)).trans (heap_alloc_new w _)⟩
      have HS1 : Kept (w.heap.size + 1 ≤ w1.heap.size) := ⟨by have := hb1.size; simp at this; exact this⟩
      clear h1 hb1 T1 this))
 go_quiet (fail)
 have HX2 : Kept ((w1.drewN nq).heap[w.heap.size]? = some (.cells (pvs kk q t nn o (.slice Av nv kv)).toArray 101 (0, 0))) := ⟨HX1.out⟩
 have H2 : Kept (OW P w (w1.drewN nq) (w.heap.size + 1) (.slice A1 ([] ++ [] : List Pt).length k1) ([] ++ [])) := ⟨⟨by obtain ⟨xs, h1, h2⟩ := H1.out.own; exact ⟨xs, h1, h2⟩, below_drewN H1.out.bel nq, H1.out.le⟩⟩
 have HS2 : Kept (w.heap.size + 1 ≤ (w1.drewN nq).heap.size) := ⟨HS1.out⟩
 generalize w1.drewN nq = w2 at HX2 H2 HS2 ⊢
 clear HX1 H1 HS1 HB1
 go_wp2_with (first
   | (refine wpList_load_row rfl 101 _ rfl w.heap.size rfl 101 #[.int .i64 kk, .bool q, .string (bs t), .string (bs nn), .string (bs o), .slice Av nv kv] (0, 0) _ HX2.out Tryz.underlying101 rfl (by kernel_rfl) ?_)
   | (at_builtin
      refine wpList_append_part (P := P) (w0 := w) (B := w.heap.size + 1) (ts := [] ++ []) (kk := kk) (q := q) (t := t) (n := nn) (oo := o) (wd := wd) (pv := .slice Av nv kv) rfl _ _ rfl rfl H2.out HS2.out rfl HV.out HW.out (by simp) ?_
      intro v3 w3 h3 hb3
      have H3 := Kept.mk h3
      clear h3 hb3))
 go_ret
 exact ⟨_, rfl, ⟨H3.out.read.up (Nat.le_succ _)⟩, H3.out.bel⟩
theorem OW.drewN {w0 w : World} {B : Nat} {v : Value} {l : List Pt} (h : OW P w0 w B v l) (n : Nat) : OW P w0 (w.drewN n) B v l := by
 obtain ⟨⟨xs, h1, h2⟩, hb, hl⟩ := h
 exact ⟨⟨xs, h1, h2⟩, below_drewN hb n, hl⟩
set_option maxHeartbeats 4000000 in
set_option maxRecDepth 100000 in
theorem addS_k (l0 : List Pt) (ka : Int) (qa : Bool) (ta na oa : List UInt8) (wa : List Pt) (kk : Int) (q : Bool) (t nn o : List UInt8) (wd : List Pt) (vv : Value) (A : Option Addr) (n k : Nat) (w : World) (hl : LV P w (.slice A n k) (l0 ++ [.mk ka qa ta na oa wa])) (hlen : l0.length ≤ 100000) (hv : vv.oneCell' = true) (hw : LV P w vv wd)
   (ht : ta.length + t.length ≤ 1000000000) (hk : kk ≠ 0) :
   Calls Tryz.prog 189 #[.slice A n k, .agg #[.int .i64 kk, .bool q, .string (bs t), .string (bs nn), .string (bs o), vv]] w fun e w' => ∃ v', e = .returned v' ∧ Kept (LV (Up P w.heap.size) w' v' (l0 ++ [.mk ka qa ta na oa wa] ++ [.mk kk q t nn o wd])) ∧ Below w.heap.size w w' := by
 obtain ⟨Av, kv, rfl⟩ := hw.slice
 generalize wd.length = nv at hw hv ⊢
 have HL := Kept.mk hl
 have HW := Kept.mk hw
 have HV := Kept.mk hv
 have HB0 : Kept (Below w.heap.size w (w.alloc (.cells (pvs kk q t nn o (.slice Av nv kv)).toArray 101))) := ⟨(Below.refl _ _).alloc (Nat.le_refl _) _⟩
 have T1 : Kept True := ⟨trivial⟩
 have HE : Kept (bs ta ++ bs t = bs (ta ++ t)) := ⟨bs_append _ _⟩
 have hz : ¬ 9223372036854775807 < (bs ta).size + (bs t).size := by rw [bs_size, bs_size]; omega
 have HZ := Kept.mk hlen
 have kb : (kk == 0) = false := by simpa using hk
 clear hk
 have HLn : Kept ((l0 ++ [Pt.mk ka qa ta na oa wa]).length + 1 ≤ 1000000) := ⟨by rw [List.length_append]; show l0.length + 1 + 1 ≤ _; omega⟩
 clear hl hw hv ht
 go_enter Tryz.func189, Tryz.ntmps189
 go_wp2_with (first
   | (at_builtin
      have := T1
      refine wpList_append_parts (P := P) (w0 := w) (B := w.heap.size + 1) (ts := []) rfl _ _ rfl rfl (OW.nil w _ _ HB0.out (Nat.le_succ _)) (by simp) rfl HL.out (by simp; omega) ?_
      intro v1 w1 h1 hb1
      rw [List.nil_append] at h1
      have H1 := Kept.mk h1
      obtain ⟨g, cap, rfl, hBg, hg, c0, c1, c2, f2, hset⟩ := h1.last
      have HSet := Kept.mk hset
      have HB1 : Kept (Below w.heap.size w w1) := ⟨h1.bel⟩
      have HX1 : Kept (w1.heap[w.heap.size]? = some (.cells #[.int .i64 kk, .bool q, .string (bs t), .string (bs nn), .string (bs o), .slice Av nv kv] 101 (0, 0))) := ⟨(hb1.block _ (Nat.lt_succ_self _)).trans (heap_alloc_new w _)⟩
      have HS1 : Kept (w.heap.size + 1 ≤ w1.heap.size) := ⟨by have := hb1.size; simp at this; exact this⟩
      have b0 := cell_of_row _ _ 0 _ _ _ HX1.out
      have b1 := cell_of_row _ _ 1 _ _ _ HX1.out
      have b2 := cell_of_row _ _ 2 _ _ _ HX1.out
      clear h1 hb1 T1 this hset hBg hg
      generalize l0.length = m0 at *))
 go_quiet (fail)
 have HX2 : Kept ((w1.drewN nq).heap[w.heap.size]? = some (.cells #[.int .i64 kk, .bool q, .string (bs t), .string (bs nn), .string (bs o), .slice Av nv kv] 101 (0, 0))) := ⟨HX1.out⟩
 have H2 : Kept (OW P w (w1.drewN nq) (w.heap.size + 1) (.slice (some ⟨g, 0, none⟩) (m0 + 1) cap) (l0 ++ [.mk ka qa ta na oa wa])) := ⟨H1.out.drewN nq⟩
 have HS2 : Kept (w.heap.size + 1 ≤ (w1.drewN nq).heap.size) := ⟨HS1.out⟩
 generalize w1.drewN nq = w2 at HX2 H2 HS2 ⊢
 clear c0 c1 c2 f2 b0 b1 b2 HX1 HS1 HB1 H1 HSet
 go_wp2_with (first
   | (refine wpList_load_row rfl 101 _ rfl w.heap.size rfl 101 #[.int .i64 kk, .bool q, .string (bs t), .string (bs nn), .string (bs o), .slice Av nv kv] (0, 0) _ HX2.out Tryz.underlying101 rfl (by kernel_rfl) ?_)
   | (at_builtin
      refine wpList_append_part (P := P) (w0 := w) (B := w.heap.size + 1) (ts := l0 ++ [.mk ka qa ta na oa wa]) (kk := kk) (q := q) (t := t) (n := nn) (oo := o) (wd := wd) (pv := .slice Av nv kv) rfl _ _ rfl rfl ?h1 ?h2 ?h3 ?h4 ?h5 ?h6 ?h7
      case h1 => exact H2.out
      case h2 => exact HS2.out
      case h3 => rfl
      case h4 => exact HV.out
      case h5 => exact HW.out
      case h6 => exact HLn.out
      intro v3 w3 h3 hb3
      have H3 := Kept.mk h3
      clear h3 hb3))
 go_ret
 exact ⟨_, rfl, ⟨H3.out.read.up (Nat.le_succ _)⟩, H3.out.bel⟩
set_option maxHeartbeats 4000000 in
set_option maxRecDepth 100000 in
theorem addS_a (l0 : List Pt) (ka : Int) (qa : Bool) (ta na oa : List UInt8) (wa : List Pt) (kk : Int) (q : Bool) (t nn o : List UInt8) (wd : List Pt) (vv : Value) (A : Option Addr) (n k : Nat) (w : World) (hl : LV P w (.slice A n k) (l0 ++ [.mk ka qa ta na oa wa])) (hlen : l0.length ≤ 100000) (hv : vv.oneCell' = true) (hw : LV P w vv wd)
   (ht : ta.length + t.length ≤ 1000000000) (hk : kk = 0) (hka : ka ≠ 0) :
   Calls Tryz.prog 189 #[.slice A n k, .agg #[.int .i64 kk, .bool q, .string (bs t), .string (bs nn), .string (bs o), vv]] w fun e w' => ∃ v', e = .returned v' ∧ Kept (LV (Up P w.heap.size) w' v' (l0 ++ [.mk ka qa ta na oa wa] ++ [.mk kk q t nn o wd])) ∧ Below w.heap.size w w' := by
 obtain ⟨Av, kv, rfl⟩ := hw.slice
 generalize wd.length = nv at hw hv ⊢
 have HL := Kept.mk hl
 have HW := Kept.mk hw
 have HV := Kept.mk hv
 have HB0 : Kept (Below w.heap.size w (w.alloc (.cells (pvs kk q t nn o (.slice Av nv kv)).toArray 101))) := ⟨(Below.refl _ _).alloc (Nat.le_refl _) _⟩
 have T1 : Kept True := ⟨trivial⟩
 have HE : Kept (bs ta ++ bs t = bs (ta ++ t)) := ⟨bs_append _ _⟩
 have hz : ¬ 9223372036854775807 < (bs ta).size + (bs t).size := by rw [bs_size, bs_size]; omega
 have HZ := Kept.mk hlen
 have kc : (kk == 0) = true := by simpa using hk
 have kb : (ka == 0) = false := by simpa using hka
 clear hk hka
 have HLn : Kept ((l0 ++ [Pt.mk ka qa ta na oa wa]).length + 1 ≤ 1000000) := ⟨by rw [List.length_append]; show l0.length + 1 + 1 ≤ _; omega⟩
 clear hl hw hv ht
 go_enter Tryz.func189, Tryz.ntmps189
 go_wp2_with (first
   | (at_builtin
      have := T1
      refine wpList_append_parts (P := P) (w0 := w) (B := w.heap.size + 1) (ts := []) rfl _ _ rfl rfl (OW.nil w _ _ HB0.out (Nat.le_succ _)) (by simp) rfl HL.out (by simp; omega) ?_
      intro v1 w1 h1 hb1
      rw [List.nil_append] at h1
      have H1 := Kept.mk h1
      obtain ⟨g, cap, rfl, hBg, hg, c0, c1, c2, f2, hset⟩ := h1.last
      have HSet := Kept.mk hset
      have HB1 : Kept (Below w.heap.size w w1) := ⟨h1.bel⟩
      have HX1 : Kept (w1.heap[w.heap.size]? = some (.cells #[.int .i64 kk, .bool q, .string (bs t), .string (bs nn), .string (bs o), .slice Av nv kv] 101 (0, 0))) := ⟨(hb1.block _ (Nat.lt_succ_self _)).trans (heap_alloc_new w _)⟩
      have HS1 : Kept (w.heap.size + 1 ≤ w1.heap.size) := ⟨by have := hb1.size; simp at this; exact this⟩
      have b0 := cell_of_row _ _ 0 _ _ _ HX1.out
      have b1 := cell_of_row _ _ 1 _ _ _ HX1.out
      have b2 := cell_of_row _ _ 2 _ _ _ HX1.out
      clear h1 hb1 T1 this hset hBg hg
      generalize l0.length = m0 at *))
 go_quiet (fail)
 have HX2 : Kept ((w1.drewN nq).heap[w.heap.size]? = some (.cells #[.int .i64 kk, .bool q, .string (bs t), .string (bs nn), .string (bs o), .slice Av nv kv] 101 (0, 0))) := ⟨HX1.out⟩
 have H2 : Kept (OW P w (w1.drewN nq) (w.heap.size + 1) (.slice (some ⟨g, 0, none⟩) (m0 + 1) cap) (l0 ++ [.mk ka qa ta na oa wa])) := ⟨H1.out.drewN nq⟩
 have HS2 : Kept (w.heap.size + 1 ≤ (w1.drewN nq).heap.size) := ⟨HS1.out⟩
 generalize w1.drewN nq = w2 at HX2 H2 HS2 ⊢
 clear c0 c1 c2 f2 b0 b1 b2 HX1 HS1 HB1 H1 HSet
 go_wp2_with (first
   | (refine wpList_load_row rfl 101 _ rfl w.heap.size rfl 101 #[.int .i64 kk, .bool q, .string (bs t), .string (bs nn), .string (bs o), .slice Av nv kv] (0, 0) _ HX2.out Tryz.underlying101 rfl (by kernel_rfl) ?_)
   | (at_builtin
      refine wpList_append_part (P := P) (w0 := w) (B := w.heap.size + 1) (ts := l0 ++ [.mk ka qa ta na oa wa]) (kk := kk) (q := q) (t := t) (n := nn) (oo := o) (wd := wd) (pv := .slice Av nv kv) rfl _ _ rfl rfl ?h1 ?h2 ?h3 ?h4 ?h5 ?h6 ?h7
      case h1 => exact H2.out
      case h2 => exact HS2.out
      case h3 => rfl
      case h4 => exact HV.out
      case h5 => exact HW.out
      case h6 => exact HLn.out
      intro v3 w3 h3 hb3
      have H3 := Kept.mk h3
      clear h3 hb3))
 go_ret
 exact ⟨_, rfl, ⟨H3.out.read.up (Nat.le_succ _)⟩, H3.out.bel⟩
set_option maxHeartbeats 4000000 in
set_option maxRecDepth 100000 in
theorem addS_q (l0 : List Pt) (ka : Int) (qa : Bool) (ta na oa : List UInt8) (wa : List Pt) (kk : Int) (q : Bool) (t nn o : List UInt8) (wd : List Pt) (vv : Value) (A : Option Addr) (n k : Nat) (w : World) (hl : LV P w (.slice A n k) (l0 ++ [.mk ka qa ta na oa wa])) (hlen : l0.length ≤ 100000) (hv : vv.oneCell' = true) (hw : LV P w vv wd)
   (ht : ta.length + t.length ≤ 1000000000) (hk : kk = 0) (hka : ka = 0) (hq : (qa == q) = false) :
   Calls Tryz.prog 189 #[.slice A n k, .agg #[.int .i64 kk, .bool q, .string (bs t), .string (bs nn), .string (bs o), vv]] w fun e w' => ∃ v', e = .returned v' ∧ Kept (LV (Up P w.heap.size) w' v' (l0 ++ [.mk ka qa ta na oa wa] ++ [.mk kk q t nn o wd])) ∧ Below w.heap.size w w' := by
 obtain ⟨Av, kv, rfl⟩ := hw.slice
 generalize wd.length = nv at hw hv ⊢
 have HL := Kept.mk hl
 have HW := Kept.mk hw
 have HV := Kept.mk hv
 have HB0 : Kept (Below w.heap.size w (w.alloc (.cells (pvs kk q t nn o (.slice Av nv kv)).toArray 101))) := ⟨(Below.refl _ _).alloc (Nat.le_refl _) _⟩
 have T1 : Kept True := ⟨trivial⟩
 have HE : Kept (bs ta ++ bs t = bs (ta ++ t)) := ⟨bs_append _ _⟩
 have hz : ¬ 9223372036854775807 < (bs ta).size + (bs t).size := by rw [bs_size, bs_size]; omega
 have HZ := Kept.mk hlen
 have kc : (kk == 0) = true := by simpa using hk
 have kb : (ka == 0) = true := by simpa using hka
 clear hk hka
 have HLn : Kept ((l0 ++ [Pt.mk ka qa ta na oa wa]).length + 1 ≤ 1000000) := ⟨by rw [List.length_append]; show l0.length + 1 + 1 ≤ _; omega⟩
 clear hl hw hv ht
 go_enter Tryz.func189, Tryz.ntmps189
 go_wp2_with (first
   | (at_builtin
      have := T1
      refine wpList_append_parts (P := P) (w0 := w) (B := w.heap.size + 1) (ts := []) rfl _ _ rfl rfl (OW.nil w _ _ HB0.out (Nat.le_succ _)) (by simp) rfl HL.out (by simp; omega) ?_
      intro v1 w1 h1 hb1
      rw [List.nil_append] at h1
      have H1 := Kept.mk h1
      obtain ⟨g, cap, rfl, hBg, hg, c0, c1, c2, f2, hset⟩ := h1.last
      have HSet := Kept.mk hset
      have HB1 : Kept (Below w.heap.size w w1) := ⟨h1.bel⟩
      have HX1 : Kept (w1.heap[w.heap.size]? = some (.cells #[.int .i64 kk, .bool q, .string (bs t), .string (bs nn), .string (bs o), .slice Av nv kv] 101 (0, 0))) := ⟨(hb1.block _ (Nat.lt_succ_self _)).trans (heap_alloc_new w _)⟩
      have HS1 : Kept (w.heap.size + 1 ≤ w1.heap.size) := ⟨by have := hb1.size; simp at this; exact this⟩
      have b0 := cell_of_row _ _ 0 _ _ _ HX1.out
      have b1 := cell_of_row _ _ 1 _ _ _ HX1.out
      have b2 := cell_of_row _ _ 2 _ _ _ HX1.out
      clear h1 hb1 T1 this hset hBg hg
      generalize l0.length = m0 at *))
 go_quiet (fail)
 have HX2 : Kept ((w1.drewN nq).heap[w.heap.size]? = some (.cells #[.int .i64 kk, .bool q, .string (bs t), .string (bs nn), .string (bs o), .slice Av nv kv] 101 (0, 0))) := ⟨HX1.out⟩
 have H2 : Kept (OW P w (w1.drewN nq) (w.heap.size + 1) (.slice (some ⟨g, 0, none⟩) (m0 + 1) cap) (l0 ++ [.mk ka qa ta na oa wa])) := ⟨H1.out.drewN nq⟩
 have HS2 : Kept (w.heap.size + 1 ≤ (w1.drewN nq).heap.size) := ⟨HS1.out⟩
 generalize w1.drewN nq = w2 at HX2 H2 HS2 ⊢
 clear c0 c1 c2 f2 b0 b1 b2 HX1 HS1 HB1 H1 HSet
 go_wp2_with (first
   | (refine wpList_load_row rfl 101 _ rfl w.heap.size rfl 101 #[.int .i64 kk, .bool q, .string (bs t), .string (bs nn), .string (bs o), .slice Av nv kv] (0, 0) _ HX2.out Tryz.underlying101 rfl (by kernel_rfl) ?_)
   | (at_builtin
      refine wpList_append_part (P := P) (w0 := w) (B := w.heap.size + 1) (ts := l0 ++ [.mk ka qa ta na oa wa]) (kk := kk) (q := q) (t := t) (n := nn) (oo := o) (wd := wd) (pv := .slice Av nv kv) rfl _ _ rfl rfl ?h1 ?h2 ?h3 ?h4 ?h5 ?h6 ?h7
      case h1 => exact H2.out
      case h2 => exact HS2.out
      case h3 => rfl
      case h4 => exact HV.out
      case h5 => exact HW.out
      case h6 => exact HLn.out
      intro v3 w3 h3 hb3
      have H3 := Kept.mk h3
      clear h3 hb3))
 go_ret
 exact ⟨_, rfl, ⟨H3.out.read.up (Nat.le_succ _)⟩, H3.out.bel⟩
set_option maxHeartbeats 4000000 in
set_option maxRecDepth 100000 in
theorem addS_m (l0 : List Pt) (ka : Int) (qa : Bool) (ta na oa : List UInt8) (wa : List Pt) (kk : Int) (q : Bool) (t nn o : List UInt8) (wd : List Pt) (vv : Value) (A : Option Addr) (n k : Nat) (w : World) (hl : LV P w (.slice A n k) (l0 ++ [.mk ka qa ta na oa wa])) (hlen : l0.length ≤ 100000) (hv : vv.oneCell' = true) (hw : LV P w vv wd)
   (ht : ta.length + t.length ≤ 1000000000) (hk : kk = 0) (hka : ka = 0) (hq : (qa == q) = true) :
   Calls Tryz.prog 189 #[.slice A n k, .agg #[.int .i64 kk, .bool q, .string (bs t), .string (bs nn), .string (bs o), vv]] w fun e w' => ∃ v', e = .returned v' ∧ Kept (LV (Up P w.heap.size) w' v' (l0 ++ [.mk ka qa (ta ++ t) na oa wa])) ∧ Below w.heap.size w w' := by
 obtain ⟨Av, kv, rfl⟩ := hw.slice
 generalize wd.length = nv at hw hv ⊢
 have HL := Kept.mk hl
 have HW := Kept.mk hw
 have HV := Kept.mk hv
 have HB0 : Kept (Below w.heap.size w (w.alloc (.cells (pvs kk q t nn o (.slice Av nv kv)).toArray 101))) := ⟨(Below.refl _ _).alloc (Nat.le_refl _) _⟩
 have T1 : Kept True := ⟨trivial⟩
 have HE : Kept (bs ta ++ bs t = bs (ta ++ t)) := ⟨bs_append _ _⟩
 have hz : ¬ 9223372036854775807 < (bs ta).size + (bs t).size := by rw [bs_size, bs_size]; omega
 have HZ := Kept.mk hlen
 have kc : (kk == 0) = true := by simpa using hk
 have kb : (ka == 0) = true := by simpa using hka
 clear hk hka
 have HLn : Kept ((l0 ++ [Pt.mk ka qa ta na oa wa]).length + 1 ≤ 1000000) := ⟨by rw [List.length_append]; show l0.length + 1 + 1 ≤ _; omega⟩
 clear hl hw hv ht
 go_enter Tryz.func189, Tryz.ntmps189
 go_wp2_with (first
   | (at_builtin
      have := T1
      refine wpList_append_parts (P := P) (w0 := w) (B := w.heap.size + 1) (ts := []) rfl _ _ rfl rfl (OW.nil w _ _ HB0.out (Nat.le_succ _)) (by simp) rfl HL.out (by simp; omega) ?_
      intro v1 w1 h1 hb1
      rw [List.nil_append] at h1
      have H1 := Kept.mk h1
      obtain ⟨g, cap, rfl, hBg, hg, c0, c1, c2, f2, hset⟩ := h1.last
      have HSet := Kept.mk hset
      have HB1 : Kept (Below w.heap.size w w1) := ⟨h1.bel⟩
      have HX1 : Kept (w1.heap[w.heap.size]? = some (.cells #[.int .i64 kk, .bool q, .string (bs t), .string (bs nn), .string (bs o), .slice Av nv kv] 101 (0, 0))) := ⟨(hb1.block _ (Nat.lt_succ_self _)).trans (heap_alloc_new w _)⟩
      have HS1 : Kept (w.heap.size + 1 ≤ w1.heap.size) := ⟨by have := hb1.size; simp at this; exact this⟩
      have b0 := cell_of_row _ _ 0 _ _ _ HX1.out
      have b1 := cell_of_row _ _ 1 _ _ _ HX1.out
      have b2 := cell_of_row _ _ 2 _ _ _ HX1.out
      clear h1 hb1 T1 this hset hBg hg
      generalize l0.length = m0 at *))
 go_quiet (fail)
 have HSet2 : Kept (OW P w ((w1.drewN nq).setCell ⟨g, m0 * 6 + 2, none⟩ (.string (bs (ta ++ t)))) (w.heap.size + 1) (.slice (some ⟨g, 0, none⟩) (m0 + 1) cap) (l0 ++ [.mk ka qa (ta ++ t) na oa wa])) := ⟨(HSet.out (ta ++ t)).drewN nq⟩
 have c2b : (w1.drewN nq).cell? ⟨g, m0 * 6 + 2, none⟩ = some (.string (bs ta)) := c2
 have f2b : (w1.drewN nq).frozen? ⟨g, m0 * 6 + 2, none⟩ = false := f2
 have b2b : (w1.drewN nq).cell? ⟨w.heap.size, 2, none⟩ = some (.string (bs t)) := b2
 generalize w1.drewN nq = w2 at HSet2 c2b f2b b2b ⊢
 clear c0 c1 c2 f2 b0 b1 b2 HX1 HS1 HB1 H1 HSet
 go_wp2_with fail
 have j0 : (0 : Int) ≤ (m0 : Int) := by omega
 have j1 : (m0 : Int) < (m0 : Int) + 1 := by omega
 have j2 : (m0 : Int) < ((m0 + 1 : Nat) : Int) := by omega
 have c2d : w2.drew.cell? ⟨g, m0 * 6 + 2, none⟩ = some (.string (bs ta)) := c2b
 have f2d : w2.drew.frozen? ⟨g, m0 * 6 + 2, none⟩ = false := f2b
 have b2d : w2.drew.cell? ⟨w.heap.size, 2, none⟩ = some (.string (bs t)) := b2b
 go_region_law (go_simp)
 all_goals
   rw [HE.out]
   have HF : Kept (OW P w ((w2.drew).setCell ⟨g, m0 * 6 + 2, none⟩ (.string (bs (ta ++ t)))) (w.heap.size + 1) (.slice (some ⟨g, 0, none⟩) (m0 + 1) cap) (l0 ++ [.mk ka qa (ta ++ t) na oa wa])) := ⟨HSet2.out.drewN 1⟩
   go_wp2_with fail
   go_ret
   exact ⟨_, rfl, ⟨HF.out.read.up (Nat.le_succ _)⟩, HF.out.bel⟩
end Wx
end
end Go.Proofs.YtahjonfmhejoeaaGreatDoor
