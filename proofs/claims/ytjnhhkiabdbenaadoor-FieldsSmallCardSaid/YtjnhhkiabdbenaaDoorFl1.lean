/-
  The laws on fields: what any right program answers; pieces of numbers.
-/
import Derived.Test.YtjnhhkiabdbenaaDoorFp8
import Derived.Test.YtjnhhkiabdbenaaDoorPieces
namespace Go.Proofs.YtjnhhkiabdbenaaDoor
open Go.RowKit Tx
namespace Fd
open Pc (By8 Few few_of pieces_any)

def sgl (k : Nat) (x : ByteArray) : Sg := ⟨k, toL x⟩
/-- The program's Fields, its answer known. -/
theorem fields_lit (l : List Sg) (r : List (List UInt8)) (A : Option Addr) (n k : Nat) (s : ByteArray) (w : World) (hr : Kept (fieldsOf (toL s) l = r)) (hK : Kit w) (hR : Rg w A l) (hn : l.length = n) (hk : ∀ g ∈ l, g.kind ≤ 3) (hw : wt l ≤ 3000) (hs : s.size ≤ 2000) (hn2 : n ≤ 100000) :
    Calls Tryd.prog 10 #[.slice A n k, .string s] w fun e w' => ∃ C q, e = .returned (.slice C r.length q) ∧ Kept (Rd w' C (r.map bs)) ∧ Below w.heap.size w w' := by
  have := fields_any l A n k s w hK hR hn hk hw hs hn2
  rw [hr.out] at this
  exact this
def awL : List Sg := [⟨2, [97, 32, 98, 58, 58, 32, 99]⟩]
def awW : List (List UInt8) := [[97], [98], [], [99]]
def awJ : List Sg := [⟨1, [42]⟩, ⟨3, []⟩]
theorem aw_fields : fieldsOf (toL ⟨#[32, 58]⟩) awL = awW := by decide +kernel
theorem aw_joined : joined true awJ = [92, 42, 32] := by decide +kernel
set_option maxHeartbeats 2000000 in
set_option maxRecDepth 100000 in
theorem awake_any (w : World) (hK : Kit w) : Calls Tryd.prog 8 #[] w fun e w' => e = .returned (.bool true) ∧ Below w.heap.size w w' := by
  have HK := Kept.mk hK
  have hb0 : Below w.heap.size w (w.alloc (.cells (svs awL).toArray 32)) := (Below.refl _ _).alloc (Nat.le_refl _) _
  have HF := Kept.mk (fields_lit awL awW (some ⟨w.heap.size, 0, none⟩) 1 1 ⟨#[32, 58]⟩ (w.alloc (.cells (svs awL).toArray 32)) ⟨aw_fields⟩ (hK.below hb0) (Rg.fresh w _ awL) rfl (by decide) (by decide) (by decide) (by decide))
  have HB0 := Kept.mk hb0
  clear hK hb0
  go_enter Tryd.func8, Tryd.ntmps8
  go_wp2_with fail
  go_at_call 10
  refine HF.out.mono ?_
  rintro e w1 ⟨C, q, rfl, hR, hb⟩
  have hb1 := HB0.out.trans (hb.mono HB0.out.size)
  have hb2 : Below w1.heap.size w1 (w1.alloc (.cells #[.string ⟨#[97]⟩, .string ⟨#[98]⟩, .string ⟨#[]⟩, .string ⟨#[99]⟩] 9)) := (Below.refl _ _).alloc (Nat.le_refl _) _
  have HS := Kept.mk (same_any (awW.map bs) (awW.map bs) C (some ⟨w1.heap.size, 0, none⟩) 4 q 4 4 (w1.alloc (.cells #[.string ⟨#[97]⟩, .string ⟨#[98]⟩, .string ⟨#[]⟩, .string ⟨#[99]⟩] 9)) (hR.out.below hb2) (Rd.of_at (Own.At.fresh (c := Value.string) w1 _ 9 (awW.map bs) rfl)) rfl rfl (by decide) (by decide))
  have HB2 := Kept.mk (hb1.trans (hb2.mono hb1.size))
  clear hb hb1 hb2 hR HF HB0
  go_wp2_with fail
  go_at_call 9
  refine HS.out.mono ?_
  rintro e w2 ⟨he, hb⟩
  have he2 : e = .returned (.bool true) := by rw [he]; simp
  subst he2
  have hb3 := HB2.out.trans (hb.mono HB2.out.size)
  have hb4 : Below w2.heap.size w2 (w2.alloc (.cells (svs awJ).toArray 32)) := (Below.refl _ _).alloc (Nat.le_refl _) _
  have HJ := joined_any awJ (some ⟨w2.heap.size, 0, none⟩) 2 2 true (w2.alloc (.cells (svs awJ).toArray 32)) (HK.out.below (hb3.trans (hb4.mono hb3.size))) (Rg.fresh w2 _ awJ) rfl (by decide) (by decide)
  rw [aw_joined] at HJ
  replace HJ := Kept.mk HJ
  have HB4 := Kept.mk (hb3.trans (hb4.mono hb3.size))
  clear hb hb3 hb4 he HS HB2
  go_wp2_with fail
  go_at_call 12
  refine HJ.out.mono ?_
  rintro e w3 ⟨rfl, hb⟩
  have HB5 := Kept.mk (HB4.out.trans (hb.mono HB4.out.size))
  have hE : ((bs [92, 42, 32]).toList == [92, 42, 32]) = true := by rw [ByteArray.toList_eq]; rfl
  clear hb HJ
  go_wp2_with fail
  go_ret
  exact ⟨rfl, HB5.out⟩
end Fd
end Go.Proofs.YtjnhhkiabdbenaaDoor
