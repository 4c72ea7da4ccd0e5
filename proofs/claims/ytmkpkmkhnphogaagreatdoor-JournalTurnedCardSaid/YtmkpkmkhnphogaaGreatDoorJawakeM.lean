/-
  The program's journal as the laws meet it; what any right program answers.
-/
import Derived.Test.YtmkpkmkhnphogaaGreatDoorJour4M
import Derived.Test.YtmkpkmkhnphogaaGreatDoorPtrDM
import Derived.WalkKit
import Derived.BigCall
import Derived.Test.YtmkpkmkhnphogaaGreatDoorGtup
namespace Go.Proofs.YtmkpkmkhnphogaaGreatDoor
open Go.RowKit Tx Dv
namespace Jr

/-- The program's journal on its device, in blocks from n on; w0 is the world at the law's start. -/
structure PrIn (Pp : World → (Nat → Prop) → Value → Value → Disk → Jn.Jour → Prop) (n : Nat) (w0 w : World) (U : Nat → Prop) (d p : Value) (D : Disk) (J : Jn.Jour) : Prop where
  pr : Pp w U d p D J
  below : Below n w0 w
  high : ∀ k, U k → n ≤ k
  big : n ≤ w.heap.size
section
variable {K : World → Prop} {fO fR fA : FuncId} {Dev : World → (Nat → Prop) → Value → Disk → Prop} {Pp : World → (Nat → Prop) → Value → Value → Disk → Jn.Jour → Prop} {n : Nat} {w0 w w' : World} {U U' : Nat → Prop} {d p : Value} {D E : Disk} {J I : Jn.Jour}
theorem PrIn.byOnly (h : PrIn Pp n w0 w U d p D J) (hp : Pp w' U' d p E I) (ho : Only U w w') (hU : ∀ i, U' i → U i ∨ w.heap.size ≤ i) : PrIn Pp n w0 w' U' d p E I :=
  ⟨hp, h.below.trans (ho.toBelow (fun k hk b => by have := h.high k b; omega) h.big), fun k hk => by
    rcases hU k hk with h1 | h1
    · exact h.high k h1
    · have := h.big; omega, Nat.le_trans h.big ho.size⟩
theorem PrIn.keeps (h : PrIn Pp n w0 w U d p D J) (hK : ∀ w', Below n w0 w' → K w') : ∀ W, Only U w W → K W := fun W ho => hK W (h.below.trans (ho.toBelow (fun k hk b => by have := h.high k b; omega) h.big))
theorem PrIn.byBelow (h : PrIn Pp n w0 w U d p D J) (M4 : Jour4 K fO fR fA Dev Pp) (hb : Below w.heap.size w w') : PrIn Pp n w0 w' U d p D J :=
  ⟨M4.keep h.pr (fun k hk => hb.block k (M4.lt h.pr k hk)) hb.size, h.below.trans (hb.mono h.big), h.high, Nat.le_trans h.big hb.size⟩
end

theorem sec_fresh (n : Nat) (h : 0 < n) : Jn.sec (fresh n) 0 = Dv.blank := by
  unfold Jn.sec fresh
  simp only [List.getD_eq_getElem?_getD]
  rw [List.getElem?_replicate, if_pos h]
  rfl
theorem opened_fresh (n : Nat) (h : 0 < n) : Jn.Opened (fresh n) [] 0 :=
  ⟨rfl, fun s k => by
    have := k.first
    rw [sec_fresh n h] at this
    exact absurd this (by decide)⟩
theorem fresh_length (n : Nat) : (fresh n).S.length = n := by simp [fresh]
theorem opened_fresh_is {n : Nat} (h : 0 < n) (h2 : n ≤ 4096) {L : List (List UInt8)} {a : Nat} (ho : Jn.Opened (fresh n) L a) : L = [] ∧ a = 0 := by
  have := ho.unique (by rw [fresh_length]; exact h2) (opened_fresh n h)
  exact this
/-- The example's append. -/
def jA : Jn.Jour := ⟨[[97]], 2⟩
def dA1 : Disk := (Jn.append (fresh 5) ⟨[], 0⟩ [97]).2.1
theorem ex_append : Jn.append (fresh 5) ⟨[], 0⟩ [97] = (0, dA1, jA) ∧ Jn.IsRec dA1 0 0 [97] ∧ dA1.S.length = 5 := by
  have h1 := Jn.append_power (D := fresh 5) (J := ⟨[], 0⟩) (s := [97]) rfl (by decide) (by decide) (by decide)
  have h2 := Jn.append_done (opened_fresh 5 (by decide)) (by decide) h1.1
  have e : (Jn.append (fresh 5) ⟨[], 0⟩ [97]).2.2 = jA := h2.1
  refine ⟨Prod.ext h1.1 (Prod.ext rfl e), ?_, by unfold dA1; rw [Jn.append_length, fresh_length]⟩
  exact h2.2.1.recs.1
theorem dig0 : Net.dig 0 = [48] := by unfold Net.dig; rfl
theorem dig1 : Net.dig 1 = [49] := by unfold Net.dig; rfl
theorem dig16 : Net.dig 16 = [49, 54] := by
  unfold Net.dig
  rw [if_neg (by decide), show 16 / 10 = 1 by rfl, dig1]
  rfl
theorem sum_a : Jn.sum16 [97] = [99, 97, 57, 55, 56, 49, 49, 50, 99, 97, 49, 98, 98, 100, 99, 97] := by decide +kernel
theorem ex_head : (pad (Jn.head 49 0 [97])).take 28 = [49, 49, 58, 48, 44, 49, 58, 49, 44, 49, 54, 58, 99, 97, 57, 55, 56, 49, 49, 50, 99, 97, 49, 98, 98, 100, 99, 97] := by
  have e1 : Net.one [48] = [49, 58, 48, 44] := by unfold Net.one; rw [show ([48] : List UInt8).length = 1 from rfl, dig1]; rfl
  have e2 : Net.one [49] = [49, 58, 49, 44] := by unfold Net.one; rw [show ([49] : List UInt8).length = 1 from rfl, dig1]; rfl
  have e3 : Net.one [99, 97, 57, 55, 56, 49, 49, 50, 99, 97, 49, 98, 98, 100, 99, 97] = [49, 54, 58, 99, 97, 57, 55, 56, 49, 49, 50, 99, 97, 49, 98, 98, 100, 99, 97, 44] := by
    unfold Net.one
    rw [show ([99, 97, 57, 55, 56, 49, 49, 50, 99, 97, 49, 98, 98, 100, 99, 97] : List UInt8).length = 16 from rfl, dig16]
    rfl
  unfold pad Jn.head Net.enc
  rw [sum_a, dig0, show ([97] : List UInt8).length = 1 from rfl, dig1]
  simp only [List.flatMap_cons, List.flatMap_nil, e1, e2, e3]
  rfl

set_option maxHeartbeats 1000000 in
set_option maxRecDepth 100000 in
theorem awake_any {K : World → Prop} {Dev : World → (Nat → Prop) → Value → Disk → Prop} {Pp : World → (Nat → Prop) → Value → Value → Disk → Jn.Jour → Prop} (M : Means Dev)
    (M4 : Jour4 K 18 13 20 Dev Pp) (w : World) (hK : ∀ w', Below w.heap.size w w' → K w') :
    Calls Tryz.prog 9 #[] w fun e w' => e = .returned (.bool true) ∧ Below w.heap.size w w' := by
  have hx := ex_append
  have H0 : Kept (Calls Tryz.prog 23 #[.int .i64 5] w fun e w' => ∃ B a, e = .returned (.tuple #[.pointer (some a), .int .i64 0]) ∧ Dev w' B (.pointer (some a)) (fresh 5) ∧ (∀ k, B k → w.heap.size ≤ k) ∧ Below w.heap.size w w') := ⟨(M.newOk 5 w (by omega) (by omega)).mono (by
    rintro e w' ⟨B, p, rfl, hd, hB, hb⟩
    obtain ⟨a, rfl⟩ := M.ptr hd
    exact ⟨B, a, rfl, hd, hB, hb⟩)⟩
  have H1 : Kept (∀ w1 B d, Dev w1 B d (fresh 5) → (∀ k, B k → w.heap.size ≤ k) → Below w.heap.size w w1 → Calls Tryz.prog 18 #[d] w1 fun e w' => ∃ U a, e = .returned (.pointer (some a)) ∧ PrIn Pp w.heap.size w w' U d (.pointer (some a)) (fresh 5) ⟨[], 0⟩) := ⟨fun w1 B d hd hB hb => (M4.opens (hK w1 hb) hd).mono (by
    rintro e w' ⟨U, p, L, a, rfl, hp, ho, hU, hb2⟩
    obtain ⟨rfl, rfl⟩ := opened_fresh_is (by decide) (by decide) ho
    obtain ⟨x, rfl⟩ := M4.ptr hp
    refine ⟨U, x, rfl, hp, hb.trans (hb2.mono hb.size), fun k hk => ?_, Nat.le_trans hb.size hb2.size⟩
    rcases hU k hk with h | h
    · exact hB k h
    · have := hb.size; omega)⟩
  have H2 : Kept (∀ w1 U d p, PrIn Pp w.heap.size w w1 U d p (fresh 5) ⟨[], 0⟩ → Calls Tryz.prog 20 #[p, .string ⟨#[97]⟩] w1 fun e w' => ∃ U', e = .returned (.int .i64 0) ∧ PrIn Pp w.heap.size w w' U' d p dA1 jA) := ⟨fun w1 U d p h => (M4.append (h.keeps hK) h.pr ⟨#[97]⟩ (by decide)).mono (by
    rintro e w' ⟨rfl, U', hp, ho, hU⟩
    have e1 : toL ⟨#[97]⟩ = [97] := rfl
    rw [e1, hx.1] at hp ⊢
    exact ⟨U', rfl, h.byOnly hp ho hU⟩)⟩
  have H3 : Kept (∀ w1 U d p, PrIn Pp w.heap.size w w1 U d p dA1 jA → Calls Tryz.prog 28 #[d, .int .i64 0] w1 fun e w' => ∃ t : ByteArray, e = .returned (.tuple #[.string t, .int .i64 0]) ∧ PrIn Pp w.heap.size w w' U d p dA1 jA ∧ Kept (t.size = 64) ∧ Kept (((t.extract 0 28).toList == [49, 49, 58, 48, 44, 49, 58, 49, 44, 49, 54, 58, 99, 97, 57, 55, 56, 49, 49, 50, 99, 97, 49, 98, 98, 100, 99, 97]) = true)) := ⟨fun w1 U d p h => by
    obtain ⟨B, hBU, hd, -⟩ := M4.dev h.pr
    refine (M.read hd 0 (by decide) (by decide)).mono ?_
    rintro e w' ⟨t, rfl, ht, hb⟩
    have hr : dA1.read ((0 : Nat) : Int) = (Jn.sec dA1 0, 0) := read_has (by rw [hx.2.2]; decide)
    have hr2 : dA1.read 0 = (pad (Jn.head 49 0 [97]), 0) := by rw [← hx.2.1.hd]; exact hr
    refine ⟨t, by rw [hr2], h.byBelow M4 hb, ⟨?_⟩, ⟨?_⟩⟩
    · rw [ht.out, hr2, bs_size]
      exact pad_length _ (Jn.head_length 49 0 [97] (by decide) (by decide))
    · have e : (t.extract 0 28).toList = [49, 49, 58, 48, 44, 49, 58, 49, 44, 49, 54, 58, 99, 97, 57, 55, 56, 49, 49, 50, 99, 97, 49, 98, 98, 100, 99, 97] := by
        rw [ByteArray.toList_eq]
        show toL (t.extract 0 28) = _
        rw [toL_extract, ht.out, hr2, toL_bs]
        exact ex_head
      rw [e]
      rfl⟩
  have H4 : Kept (∀ w1 U d p, PrIn Pp w.heap.size w w1 U d p dA1 jA → Calls Tryz.prog 13 #[p] w1 fun e w' => ∃ A k, e = .returned (.slice A 1 k) ∧ Tup.Rd w' A [⟨#[97]⟩] ∧ Below w.heap.size w w') := ⟨fun w1 U d p h => (M4.records h.pr).mono (by
    rintro e w' ⟨v, rfl, he, hb⟩
    obtain ⟨A, k, rfl, hr⟩ := Tup.Rd.of_es he
    exact ⟨A, k, rfl, hr, h.below.trans (hb.mono h.big)⟩)⟩
  have hpd := eqD
  have hpj := eqJ
  clear M M4 hx hK
  go_enter Tryz.func9, Tryz.ntmps9
  go_wp2_with (first
    | (go_at_call 23; refine H0.out.mono ?_; rintro e w1 ⟨B0, a, rfl, hd, hB, hb⟩; have K0 := Kept.mk (And.intro hd (And.intro hB hb)); clear hd hB hb)
    | (go_at_call 18; refine (H1.out _ _ _ K0.out.1 K0.out.2.1 K0.out.2.2).mono ?_; rintro e w2 ⟨U1, x, rfl, h⟩; have K1 := Kept.mk h; clear h)
    | (go_at_call 20; refine (H2.out _ _ _ _ K1.out).mono ?_; rintro e w3 ⟨U2, rfl, h⟩; have K2 := Kept.mk h; clear h)
    | (go_at_call 28
       refine (H3.out _ _ _ _ K2.out).mono ?_
       rintro e w5 ⟨t, rfl, h, ht, hE⟩
       have K4 := Kept.mk h
       have hs := ht.out
       have hz2 : (t.size : Int) = 64 := by omega
       have hto : ∀ W : World, (Instr.slice 9 (.string t) none (some (.int .i64 28)) none).run Tryz.prog W = .ok (.string (t.extract 0 28)) W := fun W => by
         rw [run_slice_string_to_if W 9 t .i64 _ Tryz.underlying9, if_pos ⟨by omega, by omega⟩]
         rfl
       have hEE := hE.out
       clear h)
    | (go_at_call 13; refine (H4.out _ _ _ _ K4.out).mono ?_; rintro e w6 ⟨A6, k6, rfl, hr, hb⟩; have K5 := Kept.mk (And.intro hr hb); clear hr hb)
    | (go_at_call 12
       refine (Tup.same_any [⟨#[97]⟩] [⟨#[97]⟩] _ _ 1 _ 1 _ _ (K5.out.1.below ((Below.refl _ _).alloc (Nat.le_refl _) _)) (Tup.Rd.of_at (Own.At.fresh w6 _ _ _ rfl)) rfl rfl (by decide) (by decide)).mono ?_
       rw [decide_eq_true rfl]
       rintro e w7 ⟨rfl, hb⟩
       have K7 : Kept (Below w.heap.size w w7) := ⟨K5.out.2.trans ((((Below.refl _ _).alloc (Nat.le_refl _) _).trans (hb.mono (by simp))).mono K5.out.2.size)⟩
       clear hb))
  go_ret
  exact ⟨rfl, K7.out⟩
end Jr
end Go.Proofs.YtmkpkmkhnphogaaGreatDoor
