/-
  The document's side: the words of a block's rounds.
-/
import Derived.Test.YtojncfnlcmacgaaDoorRefA
import Derived.Deep.RegionHeld3
import Derived.Deep.DrawnRows
import Derived.LoopTactic
namespace Go.Proofs.YtojncfnlcmacgaaDoor
open Go.RowKit
namespace Sha

/-- The first i words; those behind the sixteenth by the words ahead of them. -/
def words1 (l : List UInt8) (i : Nat) : List UInt32 := (List.range i).map fun j => wordAt l (4 * j)
theorem words1_length (l : List UInt8) (i : Nat) : (words1 l i).length = i := by simp [words1]
theorem words1_next (l : List UInt8) (i : Nat) : words1 l (i + 1) = words1 l i ++ [wordAt l (4 * i)] := by simp [words1, List.range_succ]
def words2 (l : List UInt8) : Nat → List UInt32
  | 0 => words1 l 16
  | n + 1 => words2 l n ++ [nextW (words2 l n) (16 + n)]
theorem words2_length (l : List UInt8) : ∀ n, (words2 l n).length = 16 + n
  | 0 => by rw [words2, words1_length]
  | n + 1 => by rw [words2, List.length_append, words2_length l n]; rfl

theorem near_val (x : UInt32) : bits .xor .u32 (bits .xor .u32 ((rotr x 7).toNat : Int) ((rotr x 18).toNat : Int)) ((x.toNat : Int) / 8) = ((near x).toNat : Int) :=
  (congrArg _ (b_shr x 3 8 (by decide))).trans (by rw [b_xor, b_xor]; rfl)
theorem far_val (x : UInt32) : bits .xor .u32 (bits .xor .u32 ((rotr x 17).toNat : Int) ((rotr x 19).toNat : Int)) ((x.toNat : Int) / 1024) = ((far x).toNat : Int) :=
  (congrArg _ (b_shr x 10 1024 (by decide))).trans (by rw [b_xor, b_xor]; rfl)
theorem sum4w (a b c d : UInt32) : IntKind.u32.wrap (IntKind.u32.wrap (IntKind.u32.wrap ((a.toNat : Int) + (b.toNat : Int)) + (c.toNat : Int)) + (d.toNat : Int)) = ((a + b + c + d).toNat : Int) := by
  rw [b_add', b_add', b_add']

structure SchedIn (w wr : World) (v : Value) (out : List UInt32) : Prop where
  below : Below w.heap.size w wr
  es : Own.Es val wr w.heap.size v out
theorem SchedIn.step {w wr w2 : World} {v v2 : Value} {out out2 : List UInt32} (h : SchedIn w wr v out) (he : Own.Es val w2 w.heap.size v2 out2) (hg : wr.grownBy w2 v.ownBlock) : SchedIn w w2 v2 out2 :=
  ⟨h.below.grown hg h.below.size (fun k hk => (h.es.lt k hk).1), he⟩
theorem SchedIn.again {w wr : World} {v : Value} {out : List UInt32} (h : SchedIn w wr v out) {X : World → Prop} (k : ∀ W, SchedIn w W v out → X W) : X wr.drew := k _ ⟨h.below.drew, h.es.drew⟩
theorem SchedIn.againN {w wr : World} {v : Value} {out : List UInt32} (h : SchedIn w wr v out) (n : Nat) {X : World → Prop} (k : ∀ W, SchedIn w W v out → X W) : X (wr.drewN n) := k _ ⟨below_drewN h.below n, h.es.drewN n⟩
theorem SchedIn.cell {w wr : World} {h i q : Nat} {W : List UInt32} (hS : SchedIn w wr (.slice (some ⟨h, 0, none⟩) i q) W) (hl : W.length = i) (j : Nat) (hj : j < i) : wr.cell? ⟨h, j, none⟩ = some (.int .u32 (W.getD j 0).toNat) := by
  obtain ⟨h', cap', e', _, hAt, _⟩ := hS.es.form (by omega)
  obtain rfl : h = h' := by injection e' with e1; injection e1 with e1; injection e1
  have := hAt.cell j (by omega)
  rw [Nat.zero_add] at this
  rw [this, List.getD_eq_getElem?_getD, List.getElem?_eq_getElem (by omega)]
  rfl
theorem Es.shape {w : World} {B : Nat} {v : Value} {l : List UInt32} {m : Nat} (h : Own.Es val w B v l) (hm : l.length = m) : ∃ A n c, v = .slice A n c ∧ n = m ∧ Own.Es val w B (.slice A n c) l := by
  obtain ⟨A, c, rfl⟩ := h.len
  exact ⟨A, _, c, rfl, hm, h⟩

attribute [local go_sem ↓] Go.wp_at_zero Go.wp_at_succ
set_option maxRecDepth 100000 in
set_option maxHeartbeats 2000000 in
theorem refSched_any (l : List UInt8) (g off c : Nat) (w : World) (hl : l.length = 64) (hA : Own.At By.cell w g off l) :
    Calls Tryd.prog 16 #[.slice (some ⟨g, off, none⟩) 64 c] w fun e w' => ∃ h q, e = .returned (.slice (some ⟨h, 0, none⟩) 64 q) ∧ w.heap.size ≤ h ∧ Own.At val w' h 0 (words2 l 48) ∧ Below w.heap.size w w' := by
  have HL := Kept.mk hl
  have HA := Kept.mk hA
  have hgw := hA.1
  clear hl hA
  go_enter Tryd.func16, Tryd.ntmps16
  go_wp2
  go_loopw [3, 4] (fun v x wr => ∃ i A m q, i ≤ 16 ∧ x = .int .i64 (i : Nat) ∧ m = i ∧ v = .slice A m q ∧ SchedIn w wr (.slice A m q) (words1 l i)) (fun _ x _ => 16 - (intOf x).toNat)
  case atStart => exact ⟨0, none, 0, 0, by omega, rfl, rfl, rfl, Below.refl _ _, Own.Es.nil _ _ _⟩
  case round =>
    obtain ⟨i, A, m, q, hi, rfl, rfl, rfl, hS⟩ := hrel
    by_cases hlt : m < 16
    · have hA2 := HA.out.under hS.below hgw
      have hl := HL.out
      have c0 : wr.cell? ⟨g, off + 4 * m, none⟩ = some (.int .u8 (l[4 * m].toNat : Int)) := hA2.cell (4 * m) (by omega)
      have c1 : wr.cell? ⟨g, off + (4 * m + 1), none⟩ = some (.int .u8 (l[4 * m + 1].toNat : Int)) := hA2.cell (4 * m + 1) (by omega)
      have c2 : wr.cell? ⟨g, off + (4 * m + 2), none⟩ = some (.int .u8 (l[4 * m + 2].toNat : Int)) := hA2.cell (4 * m + 2) (by omega)
      have c3 : wr.cell? ⟨g, off + (4 * m + 3), none⟩ = some (.int .u8 (l[4 * m + 3].toNat : Int)) := hA2.cell (4 * m + 3) (by omega)
      have hw4 : wordAt l (4 * m) = word l[4 * m] l[4 * m + 1] l[4 * m + 2] l[4 * m + 3] := by
        unfold wordAt
        simp [show 4 * m < l.length by omega, show 4 * m + 1 < l.length by omega, show 4 * m + 2 < l.length by omega, show 4 * m + 3 < l.length by omega]
      generalize l[4 * m] = b0 at *
      generalize l[4 * m + 1] = b1 at *
      generalize l[4 * m + 2] = b2 at *
      generalize l[4 * m + 3] = b3 at *
      have HW := Kept.mk hw4
      have HS := Kept.mk hS
      have hgr : g < wr.heap.size := hA2.1
      have z0 : (0 : Int) ≤ 4 * (m : Int) := by omega
      have z1 : (0 : Int) ≤ 4 * (m : Int) + 1 := by omega
      have z2 : (0 : Int) ≤ 4 * (m : Int) + 2 := by omega
      have z3 : (0 : Int) ≤ 4 * (m : Int) + 3 := by omega
      have y0 : 4 * (m : Int) < 64 := by omega
      have y1 : 4 * (m : Int) + 1 < 64 := by omega
      have y2 : 4 * (m : Int) + 2 < 64 := by omega
      have y3 : 4 * (m : Int) + 3 < 64 := by omega
      have t0 : (4 * (m : Int)).toNat = 4 * m := by omega
      have t1 : (4 * (m : Int) + 1).toNat = 4 * m + 1 := by omega
      have t2 : (4 * (m : Int) + 2).toNat = 4 * m + 2 := by omega
      have t3 : (4 * (m : Int) + 3).toNat = 4 * m + 3 := by omega
      have e0 : IntKind.i64.wrap (4 * (m : Int)) = 4 * (m : Int) := IntWalk.i64_in _ (by omega)
      have e1 : IntKind.i64.wrap (4 * (m : Int) + 1) = 4 * (m : Int) + 1 := IntWalk.i64_in _ (by omega)
      have e2 : IntKind.i64.wrap (4 * (m : Int) + 2) = 4 * (m : Int) + 2 := IntWalk.i64_in _ (by omega)
      have e3 : IntKind.i64.wrap (4 * (m : Int) + 3) = 4 * (m : Int) + 3 := IntWalk.i64_in _ (by omega)
      clear hw4 hS hA2 hl
      go_wp2
      go_region_held3 (fun w' => w'.cell? ⟨g, off + 4 * m, none⟩ = some (.int .u8 (b0.toNat : Int)) ∧ w'.cell? ⟨g, off + (4 * m + 1), none⟩ = some (.int .u8 (b1.toNat : Int)) ∧ w'.cell? ⟨g, off + (4 * m + 2), none⟩ = some (.int .u8 (b2.toNat : Int)) ∧ w'.cell? ⟨g, off + (4 * m + 3), none⟩ = some (.int .u8 (b3.toNat : Int)))
        (first
          | go_keep
          | exact ⟨(hg2.cell c0 hne.out.symm), (hg2.cell c1 hne.out.symm), (hg2.cell c2 hne.out.symm), (hg2.cell c3 hne.out.symm)⟩)
        ((refine Own.step_append1 wordTy val_one (by rfl) _ _ (by rfl) (by rfl) HS.out.es.drew (by have := HS.out.below.size; simpa using this) (wordAt l (4 * m)) _ (by rw [HW.out]; first | exact congrArg (Value.int .u32) (word_val b0 b1 b2 b3) | (simp only [IntKind.wrap_u32']; exact congrArg (Value.int .u32) (word_val b0 b1 b2 b3))) (by rfl) (by rw [words1_length]; omega) (by rw [words1_length]; unfold maxLen; omega) ?_; intro v2 w2 hE2 hg2 _; have hne : Kept ((Value.slice A m q).ownBlock ≠ some g) := ⟨fun e => by have := (HS.out.es.lt g e).1; omega⟩))
      clear t0 t1 t2 t3 e0 e1 e2 e3 c0 c1 c2 c3 z0 z1 z2 z3 y0 y1 y2 y3
      rw [← words1_next] at hE2
      obtain ⟨A', m', q', rfl, hm', hE3⟩ := Es.shape (m := m + 1) hE2 (by rw [words1_length])
      have HE := Kept.mk (SchedIn.step (wr := wr.drew) ⟨HS.out.below.drew, HS.out.es.drew⟩ hE3 hg2)
      have HM := Kept.mk hm'
      clear hE2 hE3 hg2 hm' hne
      go_wp2
      go_roundw
      case rel => exact ⟨m + 1, A', m', q', by omega, by go_num, HM.out, rfl, HE.out⟩
      case measure => simp [intOf]; omega
    · have h16 : m = 16 := by omega
      have H16 := Kept.mk h16
      have hS2 : SchedIn w wr (.slice A m q) (words2 l (16 - 16)) := by subst h16; exact hS
      have HS := Kept.mk hS2
      clear h16 hS hS2
      go_wp2
      clear hlt hi
      obtain ⟨wo, rfl⟩ : ∃ wo : World, wo = wr := ⟨_, rfl⟩
      go_loopw [3, 5] (fun v x wr => ∃ i h q, 16 ≤ i ∧ i ≤ 64 ∧ x = .int .i64 (i : Nat) ∧ v = .slice (some ⟨h, 0, none⟩) i q ∧ SchedIn w wr v (words2 l (i - 16))) (fun _ x _ => 64 - (intOf x).toNat)
      case atStart =>
        have h16 := H16.out
        subst h16
        obtain ⟨h, cap, e, _, _⟩ := HS.out.es.form (by rw [words2_length]; omega)
        rw [words2_length] at e
        exact ⟨16, h, cap, by omega, by omega, rfl, e, HS.out⟩
      case round =>
        clear HS
        obtain ⟨i, h, p, hi1, hi2, rfl, rfl, hS⟩ := hrel
        have hwl : (words2 l (i - 16)).length = i := by rw [words2_length]; omega
        by_cases hlt : i < 64
        · generalize hW : words2 l (i - 16) = W at *
          have HW := Kept.mk hW
          have HWL := Kept.mk hwl
          have d1 := hS.cell hwl (i - 15) (by omega)
          have d2 := hS.cell hwl (i - 2) (by omega)
          generalize hX1 : W.getD (i - 15) 0 = X1 at *
          generalize hX2 : W.getD (i - 2) 0 = X2 at *
          have HN : Kept (nextW W i = W.getD (i - 16) 0 + near X1 + W.getD (i - 7) 0 + far X2) := ⟨by unfold nextW; rw [hX1, hX2]⟩
          have HS := Kept.mk hS
          clear hX1 hX2 hS hW hwl
          have a1 : (15 : Int) ≤ (i : Int) := by omega
          have a2 : (2 : Int) ≤ (i : Int) := by omega
          have a3 : (16 : Int) ≤ (i : Int) := by omega
          have a4 : (7 : Int) ≤ (i : Int) := by omega
          have z1 : (0 : Int) ≤ (i : Int) - 15 := by omega
          have z2 : (0 : Int) ≤ (i : Int) - 2 := by omega
          have z3 : (0 : Int) ≤ (i : Int) - 16 := by omega
          have z4 : (0 : Int) ≤ (i : Int) - 7 := by omega
          have y1 : (i : Int) - 15 < i := by omega
          have y2 : (i : Int) - 2 < i := by omega
          have y3 : (i : Int) - 16 < i := by omega
          have y4 : (i : Int) - 7 < i := by omega
          have t1 : ((i : Int) - 15).toNat = i - 15 := by omega
          have t2 : ((i : Int) - 2).toNat = i - 2 := by omega
          have t3 : ((i : Int) - 16).toNat = i - 16 := by omega
          have t4 : ((i : Int) - 7).toNat = i - 7 := by omega
          have e1 : IntKind.i64.wrap ((i : Int) - 15) = (i : Int) - 15 := IntWalk.i64_in _ (by omega)
          have e2 : IntKind.i64.wrap ((i : Int) - 2) = (i : Int) - 2 := IntWalk.i64_in _ (by omega)
          have e3 : IntKind.i64.wrap ((i : Int) - 16) = (i : Int) - 16 := IntWalk.i64_in _ (by omega)
          have e4 : IntKind.i64.wrap ((i : Int) - 7) = (i : Int) - 7 := IntWalk.i64_in _ (by omega)
          go_wp2
          refine wp_region_still_lit (by kernel_rfl) (by kernel_rfl) ?_
          repeat still_step
          refine wpStill_nil ?_
          refine HS.out.again (X := fun W => Exit.then _ _ _ _ W) ?_
          clear HS d1 d2
          intro W1 hS
          have HS := Kept.mk hS
          clear hS
          go_wp2_with (go_at_call 18; refine (turn_any _ _ _ (by unfold Turns; simp)).mono ?_; rintro e w' ⟨rfl, n, rfl⟩)
          refine HS.out.againN _ (X := fun W => Code.wp _ _ _ _ W) ?_
          clear HS
          intro W2 hS
          have d3 := hS.cell HWL.out (i - 16) (by omega)
          have d4 := hS.cell HWL.out (i - 7) (by omega)
          generalize hX3 : W.getD (i - 16) 0 = X3 at *
          generalize hX4 : W.getD (i - 7) 0 = X4 at *
          have HS := Kept.mk hS
          have HX := Kept.mk (And.intro hX3 hX4)
          clear hS hX3 hX4 a1 a2 z1 z2 y1 y2 t1 t2 e1 e2
          go_region_held3 (fun w' => w'.cell? ⟨h, i - 16, none⟩ = some (.int .u32 (X3.toNat : Int)) ∧ w'.cell? ⟨h, i - 7, none⟩ = some (.int .u32 (X4.toNat : Int)))
            (first
              | go_keep
              | exact ⟨(hk2 h rfl (i - 16) (by rw [HWL.out]; omega)).trans d3, (hk2 h rfl (i - 7) (by rw [HWL.out]; omega)).trans d4⟩)
            ((refine Own.step_append1 wordTy val_one (by rfl) _ _ (by rfl) (by rfl) HS.out.es.drew (by have := HS.out.below.size; simpa using this) (nextW W i) _ (by rw [HN.out, near_val, far_val]; exact congrArg (Value.int .u32) (sum4w _ _ _ _)) (by rfl) (by rw [HWL.out]; omega) (by rw [HWL.out]; unfold maxLen; omega) ?_; intro v2 w2 hE2 hg2 hk2))
          obtain ⟨A', m', q', rfl, hm', hE3⟩ := Es.shape (m := i + 1) hE2 (by rw [List.length_append, HWL.out]; rfl)
          have HE := Kept.mk (SchedIn.step (wr := W2.drew) ⟨HS.out.below.drew, HS.out.es.drew⟩ hE3 hg2)
          have HM := Kept.mk hm'
          clear hE2 hE3 hg2 hm' hk2 d3 d4
          go_wp2
          go_roundw
          case rel =>
            have hN2 : words2 l (i + 1 - 16) = W ++ [nextW W i] := by
              rw [show i + 1 - 16 = (i - 16) + 1 by omega, words2, HW.out, show 16 + (i - 16) = i by omega]
            obtain ⟨h', cap', e', _, _⟩ := HE.out.es.form (by rw [List.length_append]; simp)
            have hl2 : (W ++ [nextW W i]).length = i + 1 := by rw [List.length_append, HWL.out]; rfl
            rw [hl2] at e'
            refine ⟨i + 1, h', cap', by omega, by omega, by go_num, e', ?_⟩
            rw [hN2]
            exact HE.out
          case measure => simp [intOf]; omega
        · have h64 : i = 64 := by omega
          generalize hW : words2 l (i - 16) = W at *
          have HW : Kept (words2 l 48 = W) := ⟨by rw [← hW, h64]⟩
          have H64 := Kept.mk h64
          clear hW h64
          obtain ⟨h', cap', e', hB', hAt, _⟩ := hS.es.form (by omega)
          obtain rfl : h = h' := by injection e' with e1; injection e1 with e1; injection e1
          have HAt := Kept.mk hAt
          have HB := Kept.mk hS.below
          clear e' hAt hS hwl
          go_wp2
          go_ret
          exact ⟨h, p, by rw [H64.out]; rfl, hB', by rw [HW.out]; exact HAt.out, HB.out⟩
end Sha
end Go.Proofs.YtojncfnlcmacgaaDoor
