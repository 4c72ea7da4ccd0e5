/-
  Parts of the proof, merged.
-/
import Derived.BigRegion
import Derived.Deep.RegionLaw
import Derived.Laws.AppendOwnNone
import Derived.Laws.NewBlocks
import Derived.Laws.Pointers
import Derived.Test.YtlggpefmojacoaaGreatDoorLa15
namespace Go.Proofs.YtlggpefmojacoaaGreatDoor
section
open Go.RowKit Tx
namespace Wx
variable {P : Nat → Prop}
theorem LV.old {w : World} {v : Value} {l : List Pt} (h : LV P w v l) : LV (fun g => P g ∧ g < w.heap.size) w v l := h.mono fun _g hg hl => ⟨hg, hl⟩
theorem OW.nil (w0 w : World) (B : Nat) (hb : Below w0.heap.size w0 w) (hB : w0.heap.size ≤ B) : OW P w0 w B (.slice none 0 0) [] := ⟨⟨[], World.ownsRow_nil _ _ _ _, .nil⟩, hb, hB⟩
theorem LV.news {w : World} {ad : Addr} {m cap : Nat} {l : List Pt} (h : LV P w (.slice (some ad) m cap) l) : ∃ xs, Cs P w xs l ∧ ∀ j u, xs[j]? = some u → w.cell? (ad.add j) = some u := by
 cases h with
 | nil A cap h => exact ⟨[], .nil, fun j u hu => by simp at hu⟩
 | «at» g off n cap xs l hn hm hP hg hc h =>
   refine ⟨xs, h, fun j u hu => ?_⟩
   have : (⟨g, off, Option.none⟩ : Addr).add j = ⟨g, off + j, Option.none⟩ := by unfold Addr.add; split <;> simp_all
   rw [this]
   exact hc j u hu
theorem OW.last {w0 w : World} {B : Nat} {v : Value} {l : List Pt} {kk : Int} {q : Bool} {t n o : List UInt8} {wd : List Pt} (h : OW P w0 w B v (l ++ [.mk kk q t n o wd])) : ∃ g cap, v = .slice (some ⟨g, 0, none⟩) (l.length + 1) cap ∧ B ≤ g ∧ g < w.heap.size ∧
   w.cell? ⟨g, l.length * 6, none⟩ = some (.int .i64 kk) ∧ w.cell? ⟨g, l.length * 6 + 1, none⟩ = some (.bool q) ∧ w.cell? ⟨g, l.length * 6 + 2, none⟩ = some (.string (bs t)) ∧ w.frozen? ⟨g, l.length * 6 + 2, none⟩ = false ∧
   ∀ t2 : List UInt8, OW P w0 (w.setCell ⟨g, l.length * 6 + 2, none⟩ (.string (bs t2))) B v (l ++ [.mk kk q t2 n o wd]) := by
 obtain ⟨⟨xs, hown, hcs⟩, hbel, hle⟩ := h
 obtain ⟨ys, zs, rfl, hy, hz⟩ := hcs.split
 rw [List.length_append] at hown
 cases hz with
 | cons k q t n o wd v xs l2 hv hw hr =>
   cases hr
   rw [List.append_nil] at hown
   rcases hown.2 with ⟨rfl, h0⟩ | ⟨g, cap, cur, rfl, hBg, hg, hnc, hcm, hcs2, htake⟩
   · simp at h0
   · have hyl := hy.length
     have hc : ∀ i u, (ys ++ pvs kk q t n o v)[i]? = some u → w.cell? ⟨g, i, none⟩ = some u := fun i u hu => by
       rw [← htake, List.getElem?_take] at hu
       rw [cell_of_row w g i cur _ (0, 0) hg]
       split at hu
       · simpa using hu
       · cases hu
     have hat : ∀ i u, (pvs kk q t n o v)[i]? = some u → w.cell? ⟨g, l.length * 6 + i, none⟩ = some u := fun i u hu => hc _ _ (by
       rw [List.getElem?_append_right (by omega), show l.length * 6 + i - ys.length = i by omega]; exact hu)
     refine ⟨g, cap, rfl, hBg, (Array.getElem?_eq_some_iff.1 hg).1, hat 0 _ rfl, hat 1 _ rfl, hat 2 _ rfl, frozen_of_row w g _ _ _ hg, fun t2 => ⟨⟨ys ++ pvs kk q t2 n o v, ?_, hy.append ?_⟩, ?_, hle⟩⟩
     · rw [List.length_append]
       refine ⟨by rw [List.length_append, hyl]; show _ + 6 = _; simp; omega, .inr ⟨g, cap, cur.setIfInBounds (l.length * 6 + 2) (.string (bs t2)), rfl, hBg, heap_setCell_same w g _ _ _ _ hg, hnc, hcm, by simpa using hcs2, ?_⟩⟩
       have htake2 : cur.toList.take ((l.length + 1) * 6) = ys ++ pvs kk q t n o v := htake
       rw [Array.toList_setIfInBounds, List.take_set]
       show (cur.toList.take ((l.length + 1) * 6)).set (l.length * 6 + 2) _ = _
       rw [htake2, List.set_append_right _ _ (by omega), show l.length * 6 + 2 - ys.length = 2 by omega]
       rfl
     · have := Cs.cons kk q t2 n o wd v [] [] hv hw .nil
       rwa [List.append_nil] at this
     · refine ⟨hbel.os, hbel.tape, hbel.output, by simpa [World.setCell] using hbel.size, fun i hi => (Below.heap_setCell w ⟨g, l.length * 6 + 2, none⟩ _ i (by show i ≠ g; omega)).trans (hbel.block i hi)⟩
theorem add_nil (p : Pt) : add [] p = [p] := rfl
theorem add_snoc (l : List Pt) (a p : Pt) : add (l ++ [a]) p = if alike a p then l ++ [joined a p] else l ++ [a] ++ [p] := by
 unfold add
 simp
theorem OW.drewN {w0 w : World} {B : Nat} {v : Value} {l : List Pt} (h : OW P w0 w B v l) (n : Nat) : OW P w0 (w.drewN n) B v l := by
 obtain ⟨⟨xs, h1, h2⟩, hb, hl⟩ := h
 exact ⟨⟨xs, h1, h2⟩, below_drewN hb n, hl⟩
end Wx
end
end Go.Proofs.YtlggpefmojacoaaGreatDoor
