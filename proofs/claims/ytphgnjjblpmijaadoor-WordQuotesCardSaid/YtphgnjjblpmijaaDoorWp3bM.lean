/-
  The program's reader: a text ends.
-/
import Derived.Test.YtphgnjjblpmijaaDoorWp3mM
namespace Go.Proofs.YtphgnjjblpmijaaDoor
open Go.RowKit Tx
namespace Wx
theorem RdM.keepB {w w' : World} {b : Nat} {dep : Int} {ps : List Pt} {it q : Bool} {t : List UInt8} {pv tv : Value} (h : RdM w b dep ps it t q pv tv) (hb : Below w.heap.size w w') : RdM w' b dep ps it t q pv tv := by
  obtain ⟨xs, ho, hx⟩ := h.parts
  exact ⟨(hb.block b h.lt).trans h.row, ⟨xs, own_keep ho fun g hg => hb.block g (own_lt ho g hg).2, hx.keep hb⟩, h.text.below hb (Nat.le_refl _), h.sep⟩
theorem endText_any (w : World) (b : Nat) (dep : Int) (ps : List Pt) (it : Bool) (t : List UInt8) (q : Bool) (pv tv : Value) (h : RdM w b dep ps it t q pv tv) (hl : ps.length ≤ 100000) :
    Calls Tryd.prog 23 #[.pointer (some ⟨b, 0, none⟩)] w fun e w' => e = .returned (.tuple #[]) ∧ ∃ pv' tv', Kept (RdM w' b dep (ps ++ if it then [txt q t] else []) false [] q pv' tv') ∧ Kept (Fr b pv tv pv' tv' w w') := by
  cases it with
  | true => exact endText_yes w b dep ps t q pv tv h hl
  | false =>
    refine (endText_no w b dep ps t q pv tv h).mono ?_
    rintro e w' ⟨he, pv', tv', h1, h2⟩
    exact ⟨he, pv', tv', ⟨by simpa using h1.out⟩, h2⟩
end Wx
end Go.Proofs.YtphgnjjblpmijaaDoor
