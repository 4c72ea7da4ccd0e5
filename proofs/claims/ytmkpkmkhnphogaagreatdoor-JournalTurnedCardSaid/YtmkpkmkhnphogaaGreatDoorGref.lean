/-
  The document's side: a word turned; the first state; the constants.
-/
import Derived.Test.YtmkpkmkhnphogaaGreatDoorGsha
import Derived.Test.YtmkpkmkhnphogaaGreatDoorGcm
import Derived.Deep.QuietTactic
import Derived.BigQuiet
import Derived.IntWalk
import Derived.Deep.RegionHeld3
import Derived.Deep.DrawnRows
import Derived.LoopTactic
import Derived.StillTailTactics
import Derived.Laws.Slices
namespace Go.Proofs.YtmkpkmkhnphogaaGreatDoor
open Go.RowKit
namespace Sha

theorem b_rot2 (x n : UInt32) (p q : Nat) (hp : p = 2 ^ ((32 - n).toNat % 32)) (hq : q = 2 ^ (n.toNat % 32)) :
    bits .or .u32 ((x.toNat : Int) / (q : Int)) ((x.toNat : Int) * (p : Int) % 4294967296) = ((rotr x n).toNat : Int) := by
  rw [b_shl x (32 - n) p hp, b_shr x n q hq, b_or]
  unfold rotr
  rw [UInt32.or_comm]

theorem turn_one (x m : UInt32) (n : Int) (w : World) (h : (m = 2 ∧ n = 2) ∨ (m = 6 ∧ n = 6) ∨ (m = 7 ∧ n = 7) ∨ (m = 11 ∧ n = 11) ∨ (m = 13 ∧ n = 13) ∨ (m = 17 ∧ n = 17) ∨ (m = 18 ∧ n = 18) ∨ (m = 19 ∧ n = 19) ∨ (m = 22 ∧ n = 22) ∨ (m = 25 ∧ n = 25)) :
    Calls Tryz.prog 87 #[.int .u32 x.toNat, .int .i64 n] w fun e w' => e = .returned (.int .u32 (rotr x m).toNat) ∧ ∃ k, w' = w.drewN k := by
  rcases h with ⟨rfl, rfl⟩ | ⟨rfl, rfl⟩ | ⟨rfl, rfl⟩ | ⟨rfl, rfl⟩ | ⟨rfl, rfl⟩ | ⟨rfl, rfl⟩ | ⟨rfl, rfl⟩ | ⟨rfl, rfl⟩ | ⟨rfl, rfl⟩ | ⟨rfl, rfl⟩
  · go_enter Tryz.func87, Tryz.ntmps87
    go_wp2
    go_quiet (fail)
    go_wp2
    go_ret
    exact ⟨ret_eq (b_rot2 x 2 1073741824 4 (by decide) (by decide)), _, rfl⟩
  · go_enter Tryz.func87, Tryz.ntmps87
    go_wp2
    go_quiet (fail)
    go_wp2
    go_ret
    exact ⟨ret_eq (b_rot2 x 6 67108864 64 (by decide) (by decide)), _, rfl⟩
  · go_enter Tryz.func87, Tryz.ntmps87
    go_wp2
    go_quiet (fail)
    go_wp2
    go_ret
    exact ⟨ret_eq (b_rot2 x 7 33554432 128 (by decide) (by decide)), _, rfl⟩
  · go_enter Tryz.func87, Tryz.ntmps87
    go_wp2
    go_quiet (fail)
    go_wp2
    go_ret
    exact ⟨ret_eq (b_rot2 x 11 2097152 2048 (by decide) (by decide)), _, rfl⟩
  · go_enter Tryz.func87, Tryz.ntmps87
    go_wp2
    go_quiet (fail)
    go_wp2
    go_ret
    exact ⟨ret_eq (b_rot2 x 13 524288 8192 (by decide) (by decide)), _, rfl⟩
  · go_enter Tryz.func87, Tryz.ntmps87
    go_wp2
    go_quiet (fail)
    go_wp2
    go_ret
    exact ⟨ret_eq (b_rot2 x 17 32768 131072 (by decide) (by decide)), _, rfl⟩
  · go_enter Tryz.func87, Tryz.ntmps87
    go_wp2
    go_quiet (fail)
    go_wp2
    go_ret
    exact ⟨ret_eq (b_rot2 x 18 16384 262144 (by decide) (by decide)), _, rfl⟩
  · go_enter Tryz.func87, Tryz.ntmps87
    go_wp2
    go_quiet (fail)
    go_wp2
    go_ret
    exact ⟨ret_eq (b_rot2 x 19 8192 524288 (by decide) (by decide)), _, rfl⟩
  · go_enter Tryz.func87, Tryz.ntmps87
    go_wp2
    go_quiet (fail)
    go_wp2
    go_ret
    exact ⟨ret_eq (b_rot2 x 22 1024 4194304 (by decide) (by decide)), _, rfl⟩
  · go_enter Tryz.func87, Tryz.ntmps87
    go_wp2
    go_quiet (fail)
    go_wp2
    go_ret
    exact ⟨ret_eq (b_rot2 x 25 128 33554432 (by decide) (by decide)), _, rfl⟩

theorem turn_any (x : UInt32) (n : Int) (w : World) (h : Turns n) :
    Calls Tryz.prog 87 #[.int .u32 x.toNat, .int .i64 n] w fun e w' => e = .returned (.int .u32 (rotr x (UInt32.ofNat n.toNat)).toNat) ∧ ∃ k, w' = w.drewN k :=
  turn_one x _ n w (by rcases h with rfl | rfl | rfl | rfl | rfl | rfl | rfl | rfl | rfl | rfl <;> decide)

theorem val_one : ∀ x, (val x).oneCell' = true := fun _ => rfl
theorem wordTy : Own.Ty Tryz.prog 113 117 (.int .u32 0) 4 := ⟨Tryz.underlying113, by kernel_rfl, rfl⟩

theorem initial_any (w : World) :
    Calls Tryz.prog 68 #[] w fun e w' => ∃ g, e = .returned (.slice (some ⟨g, 0, none⟩) 8 8) ∧ w.heap.size ≤ g ∧ Own.At val w' g 0 init.list ∧ Below w.heap.size w w' := by
  go_enter Tryz.func68, Tryz.ntmps68
  go_wp2
  go_ret
  exact ⟨w.heap.size, rfl, Nat.le_refl _, Own.At.fresh w _ _ _ (by kernel_rfl), (Below.refl _ _).alloc (Nat.le_refl _) _⟩

set_option maxRecDepth 100000 in
theorem rounds_any (w : World) :
    Calls Tryz.prog 86 #[] w fun e w' => ∃ g, e = .returned (.slice (some ⟨g, 0, none⟩) 64 64) ∧ w.heap.size ≤ g ∧ Own.At val w' g 0 ks ∧ Below w.heap.size w w' := by
  go_enter Tryz.func86, Tryz.ntmps86
  go_wp2
  go_ret
  exact ⟨w.heap.size, rfl, Nat.le_refl _, Own.At.fresh w _ _ _ (by kernel_rfl), (Below.refl _ _).alloc (Nat.le_refl _) _⟩
end Sha
end Go.Proofs.YtmkpkmkhnphogaaGreatDoor

/-
  The document's side: the words of a block's rounds.
-/
namespace Go.Proofs.YtmkpkmkhnphogaaGreatDoor
open Go.RowKit
namespace Sha

/-- The first i words; those behind the sixteenth by the words ahead of them. -/
def words1 (l : List UInt8) (i : Nat) : List UInt32 := (List.range i).map fun j => wordAt l (4 * j)
theorem words1_length (l : List UInt8) (i : Nat) : (words1 l i).length = i := by simp [words1]
theorem words1_next (l : List UInt8) (i : Nat) : words1 l (i + 1) = words1 l i ++ [wordAt l (4 * i)] := by simp [words1, List.range_succ]
def words2 (l : List UInt8) : Nat → List UInt32
  | 0 => words1 l 16
  | n + 1 => words2 l n ++ [nextW (words2 l n) (16 + n)]
theorem words2_length (l : List UInt8) : ∀ n, (words2 l n).length = 16 + n
  | 0 => by rw [words2, words1_length]
  | n + 1 => by rw [words2, List.length_append, words2_length l n]; rfl

theorem near_val (x : UInt32) : bits .xor .u32 (bits .xor .u32 ((rotr x 7).toNat : Int) ((rotr x 18).toNat : Int)) ((x.toNat : Int) / 8) = ((near x).toNat : Int) :=
  (congrArg _ (b_shr x 3 8 (by decide))).trans (by rw [b_xor, b_xor]; rfl)
theorem far_val (x : UInt32) : bits .xor .u32 (bits .xor .u32 ((rotr x 17).toNat : Int) ((rotr x 19).toNat : Int)) ((x.toNat : Int) / 1024) = ((far x).toNat : Int) :=
  (congrArg _ (b_shr x 10 1024 (by decide))).trans (by rw [b_xor, b_xor]; rfl)
theorem sum4w (a b c d : UInt32) : IntKind.u32.wrap (IntKind.u32.wrap (IntKind.u32.wrap ((a.toNat : Int) + (b.toNat : Int)) + (c.toNat : Int)) + (d.toNat : Int)) = ((a + b + c + d).toNat : Int) := by
  rw [b_add', b_add', b_add']

structure SchedIn (w wr : World) (v : Value) (out : List UInt32) : Prop where
  below : Below w.heap.size w wr
  es : Own.Es val wr w.heap.size v out
theorem SchedIn.step {w wr w2 : World} {v v2 : Value} {out out2 : List UInt32} (h : SchedIn w wr v out) (he : Own.Es val w2 w.heap.size v2 out2) (hg : wr.grownBy w2 v.ownBlock) : SchedIn w w2 v2 out2 :=
  ⟨h.below.grown hg h.below.size (fun k hk => (h.es.lt k hk).1), he⟩
theorem SchedIn.again {w wr : World} {v : Value} {out : List UInt32} (h : SchedIn w wr v out) {X : World → Prop} (k : ∀ W, SchedIn w W v out → X W) : X wr.drew := k _ ⟨h.below.drew, h.es.drew⟩
theorem SchedIn.againN {w wr : World} {v : Value} {out : List UInt32} (h : SchedIn w wr v out) (n : Nat) {X : World → Prop} (k : ∀ W, SchedIn w W v out → X W) : X (wr.drewN n) := k _ ⟨below_drewN h.below n, h.es.drewN n⟩
theorem SchedIn.cell {w wr : World} {h i q : Nat} {W : List UInt32} (hS : SchedIn w wr (.slice (some ⟨h, 0, none⟩) i q) W) (hl : W.length = i) (j : Nat) (hj : j < i) : wr.cell? ⟨h, j, none⟩ = some (.int .u32 (W.getD j 0).toNat) := by
  obtain ⟨h', cap', e', _, hAt, _⟩ := hS.es.form (by omega)
  obtain rfl : h = h' := by injection e' with e1; injection e1 with e1; injection e1
  have := hAt.cell j (by omega)
  rw [Nat.zero_add] at this
  rw [this, List.getD_eq_getElem?_getD, List.getElem?_eq_getElem (by omega)]
  rfl
theorem Es.shape {w : World} {B : Nat} {v : Value} {l : List UInt32} {m : Nat} (h : Own.Es val w B v l) (hm : l.length = m) : ∃ A n c, v = .slice A n c ∧ n = m ∧ Own.Es val w B (.slice A n c) l := by
  obtain ⟨A, c, rfl⟩ := h.len
  exact ⟨A, _, c, rfl, hm, h⟩

attribute [local go_sem ↓] Go.wp_at_zero Go.wp_at_succ
set_option maxRecDepth 100000 in
set_option maxHeartbeats 2000000 in
theorem refSched_any (l : List UInt8) (g off c : Nat) (w : World) (hl : l.length = 64) (hA : Own.At By.cell w g off l) :
    Calls Tryz.prog 85 #[.slice (some ⟨g, off, none⟩) 64 c] w fun e w' => ∃ h q, e = .returned (.slice (some ⟨h, 0, none⟩) 64 q) ∧ w.heap.size ≤ h ∧ Own.At val w' h 0 (words2 l 48) ∧ Below w.heap.size w w' := by
  have HL := Kept.mk hl
  have HA := Kept.mk hA
  have hgw := hA.1
  clear hl hA
  go_enter Tryz.func85, Tryz.ntmps85
  go_wp2
  go_loopw [3, 4] (fun v x wr => ∃ i A m q, i ≤ 16 ∧ x = .int .i64 (i : Nat) ∧ m = i ∧ v = .slice A m q ∧ SchedIn w wr (.slice A m q) (words1 l i)) (fun _ x _ => 16 - (intOf x).toNat)
  case atStart => exact ⟨0, none, 0, 0, by omega, rfl, rfl, rfl, Below.refl _ _, Own.Es.nil _ _ _⟩
  case round =>
    obtain ⟨i, A, m, q, hi, rfl, rfl, rfl, hS⟩ := hrel
    by_cases hlt : m < 16
    · have hA2 := HA.out.under hS.below hgw
      have hl := HL.out
      have c0 : wr.cell? ⟨g, off + 4 * m, none⟩ = some (.int .u8 (l[4 * m].toNat : Int)) := hA2.cell (4 * m) (by omega)
      have c1 : wr.cell? ⟨g, off + (4 * m + 1), none⟩ = some (.int .u8 (l[4 * m + 1].toNat : Int)) := hA2.cell (4 * m + 1) (by omega)
      have c2 : wr.cell? ⟨g, off + (4 * m + 2), none⟩ = some (.int .u8 (l[4 * m + 2].toNat : Int)) := hA2.cell (4 * m + 2) (by omega)
      have c3 : wr.cell? ⟨g, off + (4 * m + 3), none⟩ = some (.int .u8 (l[4 * m + 3].toNat : Int)) := hA2.cell (4 * m + 3) (by omega)
      have hw4 : wordAt l (4 * m) = word l[4 * m] l[4 * m + 1] l[4 * m + 2] l[4 * m + 3] := by
        unfold wordAt
        simp [show 4 * m < l.length by omega, show 4 * m + 1 < l.length by omega, show 4 * m + 2 < l.length by omega, show 4 * m + 3 < l.length by omega]
      generalize l[4 * m] = b0 at *
      generalize l[4 * m + 1] = b1 at *
      generalize l[4 * m + 2] = b2 at *
      generalize l[4 * m + 3] = b3 at *
      have HW := Kept.mk hw4
      have HS := Kept.mk hS
      have hgr : g < wr.heap.size := hA2.1
      have z0 : (0 : Int) ≤ 4 * (m : Int) := by omega
      have z1 : (0 : Int) ≤ 4 * (m : Int) + 1 := by omega
      have z2 : (0 : Int) ≤ 4 * (m : Int) + 2 := by omega
      have z3 : (0 : Int) ≤ 4 * (m : Int) + 3 := by omega
      have y0 : 4 * (m : Int) < 64 := by omega
      have y1 : 4 * (m : Int) + 1 < 64 := by omega
      have y2 : 4 * (m : Int) + 2 < 64 := by omega
      have y3 : 4 * (m : Int) + 3 < 64 := by omega
      have t0 : (4 * (m : Int)).toNat = 4 * m := by omega
      have t1 : (4 * (m : Int) + 1).toNat = 4 * m + 1 := by omega
      have t2 : (4 * (m : Int) + 2).toNat = 4 * m + 2 := by omega
      have t3 : (4 * (m : Int) + 3).toNat = 4 * m + 3 := by omega
      have e0 : IntKind.i64.wrap (4 * (m : Int)) = 4 * (m : Int) := IntWalk.i64_in _ (by omega)
      have e1 : IntKind.i64.wrap (4 * (m : Int) + 1) = 4 * (m : Int) + 1 := IntWalk.i64_in _ (by omega)
      have e2 : IntKind.i64.wrap (4 * (m : Int) + 2) = 4 * (m : Int) + 2 := IntWalk.i64_in _ (by omega)
      have e3 : IntKind.i64.wrap (4 * (m : Int) + 3) = 4 * (m : Int) + 3 := IntWalk.i64_in _ (by omega)
      clear hw4 hS hA2 hl
      go_wp2
      go_region_held3 (fun w' => w'.cell? ⟨g, off + 4 * m, none⟩ = some (.int .u8 (b0.toNat : Int)) ∧ w'.cell? ⟨g, off + (4 * m + 1), none⟩ = some (.int .u8 (b1.toNat : Int)) ∧ w'.cell? ⟨g, off + (4 * m + 2), none⟩ = some (.int .u8 (b2.toNat : Int)) ∧ w'.cell? ⟨g, off + (4 * m + 3), none⟩ = some (.int .u8 (b3.toNat : Int)))
        (first
          | go_keep
          | exact ⟨(hg2.cell c0 hne.out.symm), (hg2.cell c1 hne.out.symm), (hg2.cell c2 hne.out.symm), (hg2.cell c3 hne.out.symm)⟩)
        ((refine Own.step_append1 wordTy val_one (by rfl) _ _ (by rfl) (by rfl) HS.out.es.drew (by have := HS.out.below.size; simpa using this) (wordAt l (4 * m)) _ (by rw [HW.out]; first | exact congrArg (Value.int .u32) (word_val b0 b1 b2 b3) | (simp only [IntKind.wrap_u32']; exact congrArg (Value.int .u32) (word_val b0 b1 b2 b3))) (by rfl) (by rw [words1_length]; omega) (by rw [words1_length]; unfold maxLen; omega) ?_; intro v2 w2 hE2 hg2 _; have hne : Kept ((Value.slice A m q).ownBlock ≠ some g) := ⟨fun e => by have := (HS.out.es.lt g e).1; omega⟩))
      clear t0 t1 t2 t3 e0 e1 e2 e3 c0 c1 c2 c3 z0 z1 z2 z3 y0 y1 y2 y3
      rw [← words1_next] at hE2
      obtain ⟨A', m', q', rfl, hm', hE3⟩ := Es.shape (m := m + 1) hE2 (by rw [words1_length])
      have HE := Kept.mk (SchedIn.step (wr := wr.drew) ⟨HS.out.below.drew, HS.out.es.drew⟩ hE3 hg2)
      have HM := Kept.mk hm'
      clear hE2 hE3 hg2 hm' hne
      go_wp2
      go_roundw
      case rel => exact ⟨m + 1, A', m', q', by omega, by go_num, HM.out, rfl, HE.out⟩
      case measure => simp [intOf]; omega
    · have h16 : m = 16 := by omega
      have H16 := Kept.mk h16
      have hS2 : SchedIn w wr (.slice A m q) (words2 l (16 - 16)) := by subst h16; exact hS
      have HS := Kept.mk hS2
      clear h16 hS hS2
      go_wp2
      clear hlt hi
      obtain ⟨wo, rfl⟩ : ∃ wo : World, wo = wr := ⟨_, rfl⟩
      go_loopw [3, 5] (fun v x wr => ∃ i h q, 16 ≤ i ∧ i ≤ 64 ∧ x = .int .i64 (i : Nat) ∧ v = .slice (some ⟨h, 0, none⟩) i q ∧ SchedIn w wr v (words2 l (i - 16))) (fun _ x _ => 64 - (intOf x).toNat)
      case atStart =>
        have h16 := H16.out
        subst h16
        obtain ⟨h, cap, e, _, _⟩ := HS.out.es.form (by rw [words2_length]; omega)
        rw [words2_length] at e
        exact ⟨16, h, cap, by omega, by omega, rfl, e, HS.out⟩
      case round =>
        clear HS
        obtain ⟨i, h, p, hi1, hi2, rfl, rfl, hS⟩ := hrel
        have hwl : (words2 l (i - 16)).length = i := by rw [words2_length]; omega
        by_cases hlt : i < 64
        · generalize hW : words2 l (i - 16) = W at *
          have HW := Kept.mk hW
          have HWL := Kept.mk hwl
          have d1 := hS.cell hwl (i - 15) (by omega)
          have d2 := hS.cell hwl (i - 2) (by omega)
          generalize hX1 : W.getD (i - 15) 0 = X1 at *
          generalize hX2 : W.getD (i - 2) 0 = X2 at *
          have HN : Kept (nextW W i = W.getD (i - 16) 0 + near X1 + W.getD (i - 7) 0 + far X2) := ⟨by unfold nextW; rw [hX1, hX2]⟩
          have HS := Kept.mk hS
          clear hX1 hX2 hS hW hwl
          have a1 : (15 : Int) ≤ (i : Int) := by omega
          have a2 : (2 : Int) ≤ (i : Int) := by omega
          have a3 : (16 : Int) ≤ (i : Int) := by omega
          have a4 : (7 : Int) ≤ (i : Int) := by omega
          have z1 : (0 : Int) ≤ (i : Int) - 15 := by omega
          have z2 : (0 : Int) ≤ (i : Int) - 2 := by omega
          have z3 : (0 : Int) ≤ (i : Int) - 16 := by omega
          have z4 : (0 : Int) ≤ (i : Int) - 7 := by omega
          have y1 : (i : Int) - 15 < i := by omega
          have y2 : (i : Int) - 2 < i := by omega
          have y3 : (i : Int) - 16 < i := by omega
          have y4 : (i : Int) - 7 < i := by omega
          have t1 : ((i : Int) - 15).toNat = i - 15 := by omega
          have t2 : ((i : Int) - 2).toNat = i - 2 := by omega
          have t3 : ((i : Int) - 16).toNat = i - 16 := by omega
          have t4 : ((i : Int) - 7).toNat = i - 7 := by omega
          have e1 : IntKind.i64.wrap ((i : Int) - 15) = (i : Int) - 15 := IntWalk.i64_in _ (by omega)
          have e2 : IntKind.i64.wrap ((i : Int) - 2) = (i : Int) - 2 := IntWalk.i64_in _ (by omega)
          have e3 : IntKind.i64.wrap ((i : Int) - 16) = (i : Int) - 16 := IntWalk.i64_in _ (by omega)
          have e4 : IntKind.i64.wrap ((i : Int) - 7) = (i : Int) - 7 := IntWalk.i64_in _ (by omega)
          go_wp2
          refine wp_region_still_lit (by kernel_rfl) (by kernel_rfl) ?_
          repeat still_step
          refine wpStill_nil ?_
          refine HS.out.again (X := fun W => Exit.then _ _ _ _ W) ?_
          clear HS d1 d2
          intro W1 hS
          have HS := Kept.mk hS
          clear hS
          go_wp2_with (go_at_call 87; refine (turn_any _ _ _ (by unfold Turns; simp)).mono ?_; rintro e w' ⟨rfl, n, rfl⟩)
          refine HS.out.againN _ (X := fun W => Code.wp _ _ _ _ W) ?_
          clear HS
          intro W2 hS
          have d3 := hS.cell HWL.out (i - 16) (by omega)
          have d4 := hS.cell HWL.out (i - 7) (by omega)
          generalize hX3 : W.getD (i - 16) 0 = X3 at *
          generalize hX4 : W.getD (i - 7) 0 = X4 at *
          have HS := Kept.mk hS
          have HX := Kept.mk (And.intro hX3 hX4)
          clear hS hX3 hX4 a1 a2 z1 z2 y1 y2 t1 t2 e1 e2
          go_region_held3 (fun w' => w'.cell? ⟨h, i - 16, none⟩ = some (.int .u32 (X3.toNat : Int)) ∧ w'.cell? ⟨h, i - 7, none⟩ = some (.int .u32 (X4.toNat : Int)))
            (first
              | go_keep
              | exact ⟨(hk2 h rfl (i - 16) (by rw [HWL.out]; omega)).trans d3, (hk2 h rfl (i - 7) (by rw [HWL.out]; omega)).trans d4⟩)
            ((refine Own.step_append1 wordTy val_one (by rfl) _ _ (by rfl) (by rfl) HS.out.es.drew (by have := HS.out.below.size; simpa using this) (nextW W i) _ (by rw [HN.out, near_val, far_val]; exact congrArg (Value.int .u32) (sum4w _ _ _ _)) (by rfl) (by rw [HWL.out]; omega) (by rw [HWL.out]; unfold maxLen; omega) ?_; intro v2 w2 hE2 hg2 hk2))
          obtain ⟨A', m', q', rfl, hm', hE3⟩ := Es.shape (m := i + 1) hE2 (by rw [List.length_append, HWL.out]; rfl)
          have HE := Kept.mk (SchedIn.step (wr := W2.drew) ⟨HS.out.below.drew, HS.out.es.drew⟩ hE3 hg2)
          have HM := Kept.mk hm'
          clear hE2 hE3 hg2 hm' hk2 d3 d4
          go_wp2
          go_roundw
          case rel =>
            have hN2 : words2 l (i + 1 - 16) = W ++ [nextW W i] := by
              rw [show i + 1 - 16 = (i - 16) + 1 by omega, words2, HW.out, show 16 + (i - 16) = i by omega]
            obtain ⟨h', cap', e', _, _⟩ := HE.out.es.form (by rw [List.length_append]; simp)
            have hl2 : (W ++ [nextW W i]).length = i + 1 := by rw [List.length_append, HWL.out]; rfl
            rw [hl2] at e'
            refine ⟨i + 1, h', cap', by omega, by omega, by go_num, e', ?_⟩
            rw [hN2]
            exact HE.out
          case measure => simp [intOf]; omega
        · have h64 : i = 64 := by omega
          generalize hW : words2 l (i - 16) = W at *
          have HW : Kept (words2 l 48 = W) := ⟨by rw [← hW, h64]⟩
          have H64 := Kept.mk h64
          clear hW h64
          obtain ⟨h', cap', e', hB', hAt, _⟩ := hS.es.form (by omega)
          obtain rfl : h = h' := by injection e' with e1; injection e1 with e1; injection e1
          have HAt := Kept.mk hAt
          have HB := Kept.mk hS.below
          clear e' hAt hS hwl
          go_wp2
          go_ret
          exact ⟨h, p, by rw [H64.out]; rfl, hB', by rw [HW.out]; exact HAt.out, HB.out⟩
end Sha
end Go.Proofs.YtmkpkmkhnphogaaGreatDoor

/-
  The document's side: the state behind a block.
-/
namespace Go.Proofs.YtmkpkmkhnphogaaGreatDoor
open Go.RowKit
namespace Sha

theorem getD_left (A B : List UInt32) (i : Nat) (h : i < A.length) : (A ++ B).getD i 0 = A.getD i 0 := by
  rw [List.getD_eq_getElem?_getD, List.getD_eq_getElem?_getD, List.getElem?_append_left h]
theorem set_at (A : List UInt32) (k : Nat) (x : UInt32) : (A ++ List.replicate (k + 1) 0).set A.length x = A ++ [x] ++ List.replicate k 0 := by
  rw [List.set_append_right _ _ (Nat.le_refl _), Nat.sub_self, List.replicate_succ]
  simp
theorem sched1_words (l : List UInt8) : ∀ n, n ≤ 64 → sched1 l n = words1 l n ++ List.replicate (64 - n) 0
  | 0, _ => by simp [sched1, words1]
  | n + 1, h => by
    have e := set_at (words1 l n) (64 - (n + 1)) (wordAt l (4 * n))
    rw [words1_length, show 64 - (n + 1) + 1 = 64 - n by omega] at e
    rw [sched1, sched1_words l n (by omega), words1_next]
    exact e
theorem sched2_words (l : List UInt8) : ∀ n, n ≤ 48 → sched2 l n = words2 l n ++ List.replicate (48 - n) 0
  | 0, _ => sched1_words l 16 (by omega)
  | n + 1, h => by
    have hl := words2_length l n
    have e := set_at (words2 l n) (48 - (n + 1)) (nextW (words2 l n) (16 + n))
    rw [hl, show 48 - (n + 1) + 1 = 48 - n by omega] at e
    have hn : nextW (words2 l n ++ List.replicate (48 - n) 0) (16 + n) = nextW (words2 l n) (16 + n) := by
      unfold nextW
      rw [getD_left _ _ _ (by omega), getD_left _ _ _ (by omega), getD_left _ _ _ (by omega), getD_left _ _ _ (by omega)]
    rw [sched2, sched2_words l n (by omega)]
    simp only [hn]
    exact e
theorem sched_words (l : List UInt8) : words2 l 48 = sched l := by
  unfold sched
  rw [sched2_words l 48 (Nat.le_refl _)]
  simp

def add32 (x y : UInt32) : UInt32 := x + y
theorem r_add (x y : UInt32) : IntKind.u32.wrap ((x.toNat : Int) + (y.toNat : Int)) = ((add32 x y).toNat : Int) := b_add' x y
theorem r_E (x : UInt32) : bits .xor .u32 (bits .xor .u32 ((rotr x 6).toNat : Int) ((rotr x 11).toNat : Int)) ((rotr x 25).toNat : Int) = ((mixE x).toNat : Int) := by rw [b_xor, b_xor]; rfl
theorem r_A (x : UInt32) : bits .xor .u32 (bits .xor .u32 ((rotr x 2).toNat : Int) ((rotr x 13).toNat : Int)) ((rotr x 22).toNat : Int) = ((mixA x).toNat : Int) := by rw [b_xor, b_xor]; rfl
theorem r_C (x y z : UInt32) : bits .xor .u32 (bits .and .u32 (x.toNat : Int) (y.toNat : Int)) (bits .and .u32 (bits .xor .u32 IntKind.u32.max (x.toNat : Int)) (z.toNat : Int)) = ((ch x y z).toNat : Int) := by rw [b_not, b_and, b_and, b_xor]; rfl
theorem r_M (x y z : UInt32) : bits .xor .u32 (bits .xor .u32 (bits .and .u32 (x.toNat : Int) (y.toNat : Int)) (bits .and .u32 (x.toNat : Int) (z.toNat : Int))) (bits .and .u32 (y.toNat : Int) (z.toNat : Int)) = ((maj x y z).toNat : Int) := by rw [b_and, b_and, b_and, b_xor, b_xor]; rfl

/-- Inside block: the state that came in, the words, the constants, the copy that turns. -/
structure BlkIn (w wr : World) (g hw hk ha : Nat) (st : St) (ws : List UInt32) (v : St) : Prop where
  below : Below w.heap.size w wr
  old : Own.At val wr g 0 st.list
  words : Own.At val wr hw 0 ws
  consts : Own.At val wr hk 0 ks
  cur : Own.At val wr ha 0 v.list
section
variable {w wr : World} {g hw hk ha : Nat} {st v : St} {ws : List UInt32}
theorem BlkIn.on (h : BlkIn w wr g hw hk ha st ws v) {w2 : World} (hb : Below wr.heap.size wr w2) : BlkIn w w2 g hw hk ha st ws v :=
  ⟨h.below.trans (hb.mono h.below.size), h.old.below hb, h.words.below hb, h.consts.below hb, h.cur.below hb⟩
theorem BlkIn.again (h : BlkIn w wr g hw hk ha st ws v) {X : World → Prop} (k : ∀ W, BlkIn w W g hw hk ha st ws v → X W) : X wr.drew := k _ (h.on (Below.refl _ _).drew)
theorem BlkIn.againN (h : BlkIn w wr g hw hk ha st ws v) (n : Nat) {X : World → Prop} (k : ∀ W, BlkIn w W g hw hk ha st ws v → X W) : X (wr.drewN n) := k _ (h.on (below_drewN (Below.refl _ _) n))
theorem at_val {c : World} {b : Nat} {l : List UInt32} (h : Own.At val c b 0 l) (j : Nat) (hj : j < l.length) : c.cell? ⟨b, j, none⟩ = some (.int .u32 (l.getD j 0).toNat) := by
  have := h.cell j hj
  rw [Nat.zero_add] at this
  rw [this, List.getD_eq_getElem?_getD, List.getElem?_eq_getElem hj]
  rfl
theorem BlkIn.cells {a b c d e f g' h : UInt32} (m : BlkIn w wr g hw hk ha st ws ⟨a, b, c, d, e, f, g', h⟩) :
    wr.cell? ⟨ha, 0, none⟩ = some (.int .u32 a.toNat) ∧ wr.cell? ⟨ha, 1, none⟩ = some (.int .u32 b.toNat) ∧ wr.cell? ⟨ha, 2, none⟩ = some (.int .u32 c.toNat) ∧ wr.cell? ⟨ha, 3, none⟩ = some (.int .u32 d.toNat) ∧
    wr.cell? ⟨ha, 4, none⟩ = some (.int .u32 e.toNat) ∧ wr.cell? ⟨ha, 5, none⟩ = some (.int .u32 f.toNat) ∧ wr.cell? ⟨ha, 6, none⟩ = some (.int .u32 g'.toNat) ∧ wr.cell? ⟨ha, 7, none⟩ = some (.int .u32 h.toNat) :=
  ⟨at_val m.cur 0 (by show _ < 8; omega), at_val m.cur 1 (by show _ < 8; omega), at_val m.cur 2 (by show _ < 8; omega), at_val m.cur 3 (by show _ < 8; omega), at_val m.cur 4 (by show _ < 8; omega), at_val m.cur 5 (by show _ < 8; omega), at_val m.cur 6 (by show _ < 8; omega), at_val m.cur 7 (by show _ < 8; omega)⟩
end

def outTo (st v : St) (i : Nat) : List UInt32 := (List.range i).map fun j => st.list.getD j 0 + v.list.getD j 0
theorem outTo_length (st v : St) (i : Nat) : (outTo st v i).length = i := by simp [outTo]
theorem outTo_next (st v : St) (i : Nat) : outTo st v (i + 1) = outTo st v i ++ [st.list.getD i 0 + v.list.getD i 0] := by simp [outTo, List.range_succ]
/-- Inside block, behind its rounds: what is gathered lies in blocks that wo has not. -/
structure OutIn (w wo wr : World) (g ha : Nat) (st v : St) (o : Value) (out : List UInt32) : Prop where
  below : Below w.heap.size w wr
  on : wo.heap.size ≤ wr.heap.size
  gl : g < wo.heap.size
  hl : ha < wo.heap.size
  old : Own.At val wr g 0 st.list
  cur : Own.At val wr ha 0 v.list
  es : Own.Es val wr wo.heap.size o out
theorem OutIn.step {w wo wr w2 : World} {g ha : Nat} {st v : St} {o o2 : Value} {out out2 : List UInt32} (h : OutIn w wo wr g ha st v o out) (hw : w.heap.size ≤ wo.heap.size) (he : Own.Es val w2 wo.heap.size o2 out2) (hg : wr.grownBy w2 o.ownBlock) : OutIn w wo w2 g ha st v o2 out2 :=
  ⟨h.below.grown hg h.below.size (fun k hk => by have := (h.es.lt k hk).1; omega), Nat.le_trans h.on hg.size, h.gl, h.hl,
   h.old.grown hg (fun e => by have h1 := (h.es.lt _ e).1; have := h.gl; omega), h.cur.grown hg (fun e => by have h1 := (h.es.lt _ e).1; have := h.hl; omega), he⟩

attribute [local go_sem ↓] Go.wp_at_zero Go.wp_at_succ
set_option maxRecDepth 100000 in
set_option maxHeartbeats 4000000 in
theorem refBlock_aux (st : St) (ws : List UInt32) (g c1 gb off cb : Nat) (w : World) (hA : Own.At val w g 0 st.list)
    (hS : ∀ W : World, Below w.heap.size w W → Calls Tryz.prog 85 #[.slice (some ⟨gb, off, none⟩) 64 cb] W fun e w' => ∃ h q, e = .returned (.slice (some ⟨h, 0, none⟩) 64 q) ∧ W.heap.size ≤ h ∧ Own.At val w' h 0 ws ∧ Below W.heap.size W w') (hwl : ws.length = 64) :
    Calls Tryz.prog 70 #[.slice (some ⟨g, 0, none⟩) 8 c1, .slice (some ⟨gb, off, none⟩) 64 cb] w fun e w' => ∃ h q, e = .returned (.slice (some ⟨h, 0, none⟩) 8 q) ∧ w.heap.size ≤ h ∧ Own.At val w' h 0 (plus st (rounds ws st 64)).list ∧ Below w.heap.size w w' := by
  generalize hfin : rounds ws st 64 = fin
  have HF : Kept (∀ n, n = 64 → rounds ws st n = fin) := ⟨fun n h => by rw [h, hfin]⟩
  have HS := Kept.mk hS
  have HA := Kept.mk hA
  have HWL := Kept.mk hwl
  clear hfin hS hA hwl
  go_enter Tryz.func70, Tryz.ntmps70
  go_wp2_with (first
    | (go_at_call 85; refine (HS.out _ (Below.refl _ _)).mono ?_; rintro e w1 ⟨hw, qw, rfl, -, haw, hb1⟩)
    | (go_at_call 86; refine (rounds_any _).mono ?_; rintro e w2 ⟨hk, rfl, -, hak, hb2⟩)
    | (refine Own.wpList_append (l := []) wordTy val_one rfl _ _ rfl rfl (Own.Es.nil _ _ _) (Nat.le_refl _) (news := st.list) rfl ((HA.out.below hb1).below hb2) (by show (0 + 8) * 4 ≤ _; omega) (by show 0 + 8 ≤ _; unfold maxLen; omega) ?_; intro va w3 hea hga))
  obtain ⟨ha, qa, e, hBa, haa, _⟩ := hea.form (by show 0 < 8; omega)
  rw [show (([] : List UInt32) ++ st.list).length = 8 from rfl] at e
  subst e
  have hM : BlkIn w w3 g hw hk ha st ws (rounds ws st 0) :=
    ⟨((hb1.trans (hb2.mono hb1.size)).grown hga (Nat.le_trans hb1.size hb2.size) (fun k hk => by cases hk)), (((HA.out.below hb1).below hb2).grown hga (fun e => by cases e)), ((haw.below hb2).grown hga (fun e => by cases e)), hak.grown hga (fun e => by cases e), haa⟩
  have HB : Kept (w.heap.size ≤ ha) := ⟨by have := hb1.size; have := hb2.size; omega⟩
  have HM := Kept.mk hM
  clear hb1 hb2 hga haw hak haa hBa hea hM
  go_loopw [7, 8] (fun v x wr => ∃ n ha q, n ≤ 64 ∧ x = .int .i64 (n : Nat) ∧ v = .slice (some ⟨ha, 0, none⟩) 8 q ∧ BlkIn w wr g hw hk ha st ws (rounds ws st n)) (fun _ x _ => 64 - (intOf x).toNat)
  case atStart => exact ⟨0, ha, qa, by omega, rfl, rfl, HM.out⟩
  case round =>
    clear HM
    obtain ⟨n, ha, q, hn, rfl, rfl, hM⟩ := hrel
    by_cases hlt : n < 64
    · obtain ⟨v, hv⟩ : ∃ v, v = rounds ws st n := ⟨_, rfl⟩
      have HV := Kept.mk hv
      rw [← hv] at hM
      clear hv
      obtain ⟨a, b, c, d, e, f, g', h⟩ := v
      have HM := Kept.mk hM
      obtain ⟨k0, k1, k2, k3, k4, k5, k6, k7⟩ := hM.cells
      clear hM
      have rE := r_E e
      have rA := r_A a
      have rC := r_C e f g'
      have rM := r_M a b c
      have hsg : IntKind.u32.signed = false := rfl
      go_wp2
      go_quiet ((go_at_call 87; exact Calls.quiet_of (turn_any _ _ _ (by unfold Turns; simp))))
      refine HM.out.againN _ (X := fun W => Exit.then _ _ _ _ W) ?_
      clear HM k0 k1 k2 k3 k4 k5 k6 k7
      intro W1 hM
      have HM := Kept.mk hM
      obtain ⟨k0, k1, k2, k3, k4, k5, k6, k7⟩ := hM.cells
      clear hM
      go_wp2
      refine wp_region_still_lit (by kernel_rfl) (by kernel_rfl) ?_
      repeat still_step
      refine wpStill_nil ?_
      refine HM.out.again (X := fun W => Exit.then _ _ _ _ W) ?_
      clear HM k0 k1 k2 k3 k4 k5 k6 k7
      intro W2 hM
      have HM := Kept.mk hM
      obtain ⟨k0, k1, k2, k3, k4, k5, k6, k7⟩ := hM.cells
      have kw := at_val hM.words n (by rw [HWL.out]; exact hlt)
      have kk := at_val hM.consts n hlt
      generalize hW : ws.getD n 0 = W at *
      generalize hK : ks.getD n 0 = K at *
      have HW := Kept.mk hW
      have HK := Kept.mk hK
      have rh := r_add h (mixE e)
      have rh2 := r_add (add32 h (mixE e)) (ch e f g')
      have rh3 := r_add (add32 (add32 h (mixE e)) (ch e f g')) K
      have rh4 := r_add (add32 (add32 (add32 h (mixE e)) (ch e f g')) K) W
      have n0 : (0 : Int) ≤ (n : Int) := by omega
      have n1 : (n : Int) < 64 := by omega
      clear hM hW hK
      go_wp2
      refine wp_region_still_lit (by kernel_rfl) (by kernel_rfl) ?_
      repeat still_step
      refine wpStill_nil ?_
      refine HM.out.again (X := fun W => Exit.then _ _ _ _ W) ?_
      clear HM k0 k1 k2 k3 k4 k5 k6 k7 kw kk rh rh2 rh3 rh4
      generalize hT : add32 (add32 (add32 (add32 h (mixE e)) (ch e f g')) K) W = T
      have HT := Kept.mk hT
      clear hT
      intro W3 hM
      have HM := Kept.mk hM
      obtain ⟨k0, k1, k2, k3, k4, k5, k6, k7⟩ := hM.cells
      clear hM
      go_wp2
      go_quiet ((go_at_call 87; exact Calls.quiet_of (turn_any _ _ _ (by unfold Turns; simp))))
      refine HM.out.againN _ (X := fun W => Exit.then _ _ _ _ W) ?_
      clear HM k0 k1 k2 k3 k4 k5 k6 k7
      intro W4 hM
      have HM := Kept.mk hM
      obtain ⟨k0, k1, k2, k3, k4, k5, k6, k7⟩ := hM.cells
      clear hM
      go_wp2
      refine wp_region_still_lit (by kernel_rfl) (by kernel_rfl) ?_
      repeat still_step
      refine wpStill_nil ?_
      refine HM.out.again (X := fun W => Exit.then _ _ _ _ W) ?_
      clear HM k0 k1 k2 k3 k4 k5 k6 k7
      intro W5 hM
      have HM := Kept.mk hM
      obtain ⟨k0, k1, k2, k3, k4, k5, k6, k7⟩ := hM.cells
      have rt := r_add T (mixA a)
      have rt2 := r_add (add32 T (mixA a)) (maj a b c)
      have rt3 := r_add d T
      clear hM
      go_wp2
      refine wp_region_still_tail 28 (by kernel_rfl) (by kernel_rfl) ?_
      simp only [List.take_succ_cons, List.take_zero, List.drop_succ_cons, List.drop_zero]
      repeat still_step
      refine wpStill_nil ?_
      refine HM.out.again (X := fun W => wpList _ _ _ _ _ W) ?_
      clear HM k0 k1 k2 k3 k4 k5 k6 k7
      intro W6 hM
      have HM := Kept.mk hM
      clear hM
      go_wp2
      go_roundw
      case rel =>
        refine ⟨n + 1, _, _, by omega, by go_num, rfl, ?_⟩
        have E1 : rounds ws st (n + 1) = Sha.step ⟨a, b, c, d, e, f, g', h⟩ K W := by
          show Sha.step (rounds ws st n) (ks.getD n 0) (ws.getD n 0) = _
          rw [← HV.out, HW.out, HK.out]
        have E2 : (Sha.step ⟨a, b, c, d, e, f, g', h⟩ K W).list = [add32 (add32 T (mixA a)) (maj a b c), a, b, c, add32 d T, e, f, g'] := by
          rw [← HT.out]
          unfold Sha.step St.list tOf uOf add32
          simp only [UInt32.add_assoc]
        have hb : Below W6.heap.size W6 (W6.alloc (.cells #[.int .u32 (add32 (add32 T (mixA a)) (maj a b c)).toNat, .int .u32 a.toNat, .int .u32 b.toNat, .int .u32 c.toNat, .int .u32 (add32 d T).toNat, .int .u32 e.toNat, .int .u32 f.toNat, .int .u32 g'.toNat] 117)) := (Below.refl _ _).alloc (Nat.le_refl _) _
        have hM := HM.out
        rw [E1]
        exact ⟨hM.below.trans (hb.mono hM.below.size), hM.old.below hb, hM.words.below hb, hM.consts.below hb, by rw [E2]; exact Own.At.fresh W6 _ _ _ rfl⟩
      case measure => simp [intOf]; omega
    · have h64 : n = 64 := by omega
      have HN := Kept.mk h64
      obtain ⟨v, hv⟩ : ∃ v, v = rounds ws st n := ⟨_, rfl⟩
      have HV := Kept.mk hv
      rw [← hv] at hM
      clear hv h64
      have HM := Kept.mk hM
      clear hM
      go_wp2
      clear hlt hn
      obtain ⟨wo, rfl⟩ : ∃ wo : World, wo = wr := ⟨_, rfl⟩
      have HWO : Kept (w.heap.size ≤ wo.heap.size) := ⟨HM.out.below.size⟩
      go_loopw [14, 15] (fun o x wr => ∃ i A m q, i ≤ 8 ∧ x = .int .i64 (i : Nat) ∧ m = i ∧ o = .slice A m q ∧ OutIn w wo wr g ha st v (.slice A m q) (outTo st v i)) (fun _ x _ => 8 - (intOf x).toNat)
      case atStart => exact ⟨0, none, 0, 0, by omega, rfl, rfl, rfl, HM.out.below, Nat.le_refl _, HM.out.old.1, HM.out.cur.1, HM.out.old, HM.out.cur, Own.Es.nil _ _ _⟩
      case round =>
        clear HM
        obtain ⟨i, A, m, p, hi, rfl, rfl, rfl, hO⟩ := hrel
        by_cases hlt : m < 8
        · have c0 := at_val hO.old m hlt
          have c1' := at_val hO.cur m hlt
          generalize hX : st.list.getD m 0 = X at *
          generalize hY : v.list.getD m 0 = Y at *
          have HX := Kept.mk (And.intro hX hY)
          have HO := Kept.mk hO
          have rx := r_add X Y
          have i0 : (0 : Int) ≤ (m : Int) := by omega
          have i1 : (m : Int) < 8 := by omega
          have l1 : g < wr.heap.size := hO.old.1
          have l2 : ha < wr.heap.size := hO.cur.1
          clear hO hX hY
          go_wp2
          go_region_held3 (fun w' => w'.cell? ⟨g, m, none⟩ = some (.int .u32 (X.toNat : Int)) ∧ w'.cell? ⟨ha, m, none⟩ = some (.int .u32 (Y.toNat : Int)))
            (first
              | go_keep
              | exact ⟨hg2.cell c0 hne.out.1.symm, hg2.cell c1' hne.out.2.symm⟩)
            ((refine Own.step_append1 wordTy val_one (by rfl) _ _ (by rfl) (by rfl) HO.out.es.drew (by have := HO.out.on; simpa using this) (add32 X Y) _ rfl (by rfl) (by rw [outTo_length]; omega) (by rw [outTo_length]; unfold maxLen; omega) ?_; intro v2 w2 hE2 hg2 _; have hne : Kept ((Value.slice A m p).ownBlock ≠ some g ∧ (Value.slice A m p).ownBlock ≠ some ha) := ⟨fun e => by have h1 := (HO.out.es.lt _ e).1; have := HO.out.gl; omega, fun e => by have h1 := (HO.out.es.lt _ e).1; have := HO.out.hl; omega⟩))
          have hE3' : outTo st v m ++ [add32 X Y] = outTo st v (m + 1) := by rw [outTo_next, HX.out.1, HX.out.2]; rfl
          rw [hE3'] at hE2
          obtain ⟨A', m', q', rfl, hm', hE3⟩ := Es.shape (m := m + 1) hE2 (outTo_length _ _ _)
          have HE := Kept.mk (HO.out.step HWO.out hE3 (show wr.grownBy w2 _ from ⟨hg2.os, hg2.tape, hg2.output, hg2.size, hg2.block⟩))
          have HM' := Kept.mk hm'
          clear hE2 hE3 hg2 hm' hne c0 c1' rx hE3'
          go_wp2
          go_roundw
          case rel => exact ⟨m + 1, A', m', q', by omega, by go_num, HM'.out, rfl, HE.out⟩
          case measure => simp [intOf]; omega
        · have h8 : m = 8 := by omega
          have H8 := Kept.mk h8
          obtain ⟨h', cap', e', hB', hAt, _⟩ := hO.es.form (by rw [outTo_length]; omega)
          rw [outTo_length] at e'
          have HAt := Kept.mk (show Own.At val wr h' 0 (outTo st v m) from hAt)
          have HBl := Kept.mk (show w.heap.size ≤ h' ∧ Below w.heap.size w wr from ⟨by have := HWO.out; omega, hO.below⟩)
          have HE := Kept.mk e'
          clear hAt h8 hO e'
          go_wp2
          go_ret
          refine ⟨h', cap', ?_, HBl.out.1, ?_, HBl.out.2⟩
          · show Ending.returned (Value.slice A m p) = _
            rw [HE.out, H8.out]
          · have := HAt.out
            rw [H8.out, show outTo st v 8 = (plus st v).list from rfl] at this
            rw [← HF.out n HN.out, ← HV.out]
            exact this
theorem refBlock_any (st : St) (l : List UInt8) (g c1 gb off cb : Nat) (w : World) (hA : Own.At val w g 0 st.list) (hb : Own.At By.cell w gb off l) (hl : l.length = 64) :
    Calls Tryz.prog 70 #[.slice (some ⟨g, 0, none⟩) 8 c1, .slice (some ⟨gb, off, none⟩) 64 cb] w fun e w' => ∃ h q c, e = .returned (.slice (some ⟨h, 0, none⟩) 8 q) ∧ w.heap.size ≤ h ∧ Own.At val w' h 0 c.list ∧ Below w.heap.size w w' ∧ Kept (compress st l = c) :=
  (refBlock_aux st (words2 l 48) g c1 gb off cb w hA (fun W hW => refSched_any l gb off cb W hl (hb.below hW)) (words2_length l 48)).mono fun e w' ⟨h, q, he, hh, ha, hbl⟩ =>
    ⟨h, q, _, he, hh, ha, hbl, ⟨by unfold compress; rw [sched_words]⟩⟩
end Sha
end Go.Proofs.YtmkpkmkhnphogaaGreatDoor

/-
  The document's side: a text, and what stands behind it.
-/
namespace Go.Proofs.YtmkpkmkhnphogaaGreatDoor
open Go.RowKit
namespace Sha

theorem len_byte2 (n j : Nat) (hj : j < 8) : ((n : Int) * 8) / 2 ^ (56 - 8 * j) % 256 = ((UInt8.ofNat (n * 8 / 2 ^ (56 - 8 * j))).toNat : Int) := by
  rw [UInt8.toNat_ofNat']
  obtain rfl | rfl | rfl | rfl | rfl | rfl | rfl | rfl : j = 0 ∨ j = 1 ∨ j = 2 ∨ j = 3 ∨ j = 4 ∨ j = 5 ∨ j = 6 ∨ j = 7 := by omega
  all_goals simp only [Nat.reduceMul, Nat.reduceSub, Int.reducePow, Nat.reducePow, Nat.mul_zero, Nat.sub_zero, Nat.sub_self, Nat.pow_zero, Int.pow_zero, Nat.div_one, Int.ediv_one]
  all_goals omega
theorem tail_room2 (r : List UInt8) (n i : Nat) (hr : r.length ≤ 1000000) : (Part1 r (noughts r.length) ++ (tail8 n).take i).length + 1 ≤ 140737488355328 := by
  rw [List.length_append, Part1.len, List.length_take, tail8_length]
  unfold noughts
  omega
/-- Of the loop that lays the length, its counter falling. -/
def Lay3 (w wr : World) (r : List UInt8) (n : Nat) (v x : Value) : Prop :=
  ∃ (j : Nat) (A : Option Addr) (m c : Nat), j ≤ 8 ∧ x = .int .i64 (7 - (j : Int)) ∧ v = .slice A m c ∧ By.Bs wr w.heap.size (.slice A m c) (Part1 r (noughts r.length) ++ (tail8 n).take j) ∧ Below w.heap.size w wr
theorem Bs.at_ {w : World} {B : Nat} {v : Value} {l : List UInt8} (h : By.Bs w B v l) (hp : 0 < l.length) : ∃ g cap, v = .slice (some ⟨g, 0, none⟩) l.length cap ∧ B ≤ g ∧ Own.At By.cell w g 0 l ∧ l.length ≤ cap := by
  rcases h with ⟨rfl, rfl⟩ | ⟨g, cap, rfl, h1, h2, h3, h4, h5, h6⟩
  · simp at hp
  · exact ⟨g, cap, rfl, h1, ⟨h2, fun j u hu => by rw [Nat.zero_add]; exact h6 j u hu⟩, h3⟩

set_option maxRecDepth 100000 in
set_option maxHeartbeats 1000000 in
theorem padded_any (r : ByteArray) (w : World) (hr : r.size ≤ 1000000) :
    Calls Tryz.prog 69 #[.string r] w fun e w' => ∃ g c, e = .returned (.slice (some ⟨g, 0, none⟩) (ending r.data.toList r.size).length c) ∧ w.heap.size ≤ g ∧ Own.At By.cell w' g 0 (ending r.data.toList r.size) ∧ (ending r.data.toList r.size).length ≤ c ∧ Below w.heap.size w w' := by
  have hrl : r.data.toList.length = r.size := by simp
  go_enter Tryz.func69, Tryz.ntmps69
  go_wp2_with (first
    | (refine By.wpList_bytes byteTy rfl 9 _ rfl Tryz.underlying9 r rfl (by unfold maxLen; omega) ?_; intro v w1 hb hg)
    | (refine By.wpList_append1 byteTy rfl _ _ rfl rfl hb (by have := hg.size; omega) 128 _ rfl rfl (by omega) ?_; intro v2 w2 hb2 hg2))
  go_loopw [3] (fun v wr => Lay w wr r.data.toList v) (fun v _ => r.size + 65 - lenV v)
  case atStart =>
    have hB : Below w.heap.size w w1 := (Below.refl _ _).grown hg (Nat.le_refl _) (fun k hk => by cases hk)
    obtain ⟨A, m, c, rfl, hm, hb3⟩ := Bs.shape (m := r.size + 1) hb2 (by simp)
    exact ⟨0, A, m, c, by omega, by omega, rfl, by simpa [Part1] using hb3, below_grown hB hg2 hb hg.size⟩
  case round =>
    clear hb hg hb2 hg2
    obtain ⟨k, A, m, c, hk, hm, rfl, hb, hB⟩ := hrel
    have hm1 : m ≤ r.size + 1 + k := by omega
    have hm2 : r.size + 1 + k ≤ m := by omega
    have hno : noughts r.data.toList.length = (119 - r.size % 64) % 64 := by unfold noughts; rw [hrl]
    by_cases hlt : k < noughts r.data.toList.length
    · have h1 : ((m : Int) % 64 == 56) = false := by rw [beq_eq_false_iff_ne]; omega
      have HM := Kept.mk (show m = r.data.toList.length + 1 + k from hm)
      have HK := Kept.mk (show k + 1 ≤ noughts r.data.toList.length from hlt)
      have hmB : (m : Int) ≤ 1000100 := by omega
      have HB := Kept.mk hB
      have hno' := hno
      have hrl' := hrl
      clear hm hno hlt hk hm1 hm2 hrl
      go_wp2_with (refine By.wpList_append1 byteTy rfl _ _ rfl rfl hb HB.out.size 0 _ rfl rfl (by rw [Part1.len, ← HM.out]; omega) ?_; intro v2 w2 hb2 hg2)
      rw [Part1.next] at hb2
      obtain ⟨A', m', c', rfl, hm', hb3⟩ := Bs.shape (m := m + 1) hb2 (by rw [Part1.len, HM.out]; omega)
      clear hb2
      go_roundw
      case rel => exact ⟨k + 1, A', m', c', HK.out, by rw [hm', HM.out]; omega, rfl, hb3, below_grown HB.out hg2 hb HB.out.size⟩
      case measure =>
        simp only [lenV]
        have h2 := HM.out
        have h3 := HK.out
        rw [hno'] at h3
        rw [hrl'] at h2
        omega
    · have h1 : (m : Int) % 64 = 56 := by omega
      have HK := Kept.mk (show k = noughts r.data.toList.length by omega)
      clear hm hno hlt hk hm1 hm2 hrl
      go_wp2
      clear h1
      generalize (m : Int) % 64 = m64
      obtain ⟨wo, rfl⟩ : ∃ wo : World, wo = wr := ⟨_, rfl⟩
      go_loopw [3, 5] (fun v x wr => Lay3 w wr r.data.toList r.size v x) (fun _ x _ => (intOf x + 1).toNat)
      case atStart => exact ⟨0, A, m, c, by omega, rfl, rfl, by rw [← HK.out]; simpa using hb, hB⟩
      case round =>
        clear hb hB
        obtain ⟨j, A2, m2, c2, hj, rfl, rfl, hb, hB⟩ := hrel
        by_cases hlt : j < 8
        · have HB := Kept.mk hB
          have s0 : (0 : Int) ≤ 7 - (j : Int) := by omega
          have s1 : (j : Int) ≤ 7 := by omega
          have s3 : (0 : Int) ≤ 8 * (7 - (j : Int)) := by omega
          have s2 : (8 * (7 - (j : Int))).toNat = 56 - 8 * j := by omega
          clear hB
          go_wp2_with (refine By.wpList_append1 byteTy rfl _ _ rfl rfl hb HB.out.size (UInt8.ofNat (r.size * 8 / 2 ^ (56 - 8 * j))) _ (len_byte2 r.size j hlt) rfl (tail_room2 r.data.toList r.size j (by simp; omega)) ?_; intro v2 w2 hb2 hg2)
          obtain ⟨A', m', c', rfl, -, hb3⟩ := Bs.shape hb2 rfl
          clear hb2
          go_roundw
          case rel =>
            refine ⟨j + 1, A', m', c', by omega, by congr 1; omega, rfl, ?_, below_grown HB.out hg2 hb HB.out.size⟩
            rw [tail_next _ _ hlt, ← List.append_assoc]
            exact hb3
          case measure => simp [intOf]; omega
        · have hj8 : j = 8 := by omega
          have he : Part1 r.data.toList (noughts r.data.toList.length) ++ (tail8 r.size).take j = ending r.data.toList r.size := by
            rw [hj8, tail_all]
            rfl
          rw [he] at hb
          obtain ⟨g, cap, e', hg, hAt, hcap⟩ := Bs.at_ hb (by unfold ending; simp; omega)
          have HE := Kept.mk e'
          have HAt := Kept.mk hAt
          have HR := Kept.mk (And.intro hg (And.intro hcap hB))
          have HJ := Kept.mk hj8
          have s1 : ¬ (j : Int) ≤ 7 := by omega
          have s4 : (7 : Int) < (j : Int) := by omega
          have s0 : ¬ (0 : Int) ≤ 7 - (j : Int) := by omega
          clear he hb e' hAt hg hcap hB hj8
          go_wp2
          go_ret
          exact ⟨g, cap, congrArg Ending.returned HE.out, HR.out.1, HAt.out, HR.out.2.1, HR.out.2.2⟩
end Sha
end Go.Proofs.YtmkpkmkhnphogaaGreatDoor

/-
  The document's side: the sum of a text.
-/
namespace Go.Proofs.YtmkpkmkhnphogaaGreatDoor
open Go.RowKit
namespace Sha

theorem block_kept (st : St) (l : List UInt8) (g c1 gb off cb : Nat) (w : World) (hA : Own.At val w g 0 st.list) (hb : Own.At By.cell w gb off l) (hl : l.length = 64) :
    Calls Tryz.prog 70 #[.slice (some ⟨g, 0, none⟩) 8 c1, .slice (some ⟨gb, off, none⟩) 64 cb] w fun e w' => ∃ h q c, e = .returned (.slice (some ⟨h, 0, none⟩) 8 q) ∧ w.heap.size ≤ h ∧ Own.At val w' h 0 c.list ∧ Below w.heap.size w w' ∧ Kept (compress st l = c) :=
  refBlock_any st l g c1 gb off cb w hA hb hl
theorem size25 (W : World) : (sizeOf 5).run Tryz.prog W = .ok 1 W := by kernel_rfl
theorem elem25 : Tryz.prog.elem 51 = 5 := by kernel_rfl
theorem und25 : Tryz.prog.underlying 51 = some (.slice (Tryz.prog.elem 51)) := by rw [elem25]; exact Tryz.underlying51
theorem cut_head (g off n cc : Nat) (h : 64 ≤ cc) (W : World) :
    (Instr.slice 51 (.slice (some ⟨g, off, none⟩) n cc) none (some (.int .i64 64)) none).run Tryz.prog W = .ok (.slice (some ⟨g, off, none⟩) 64 cc) W := by
  rw [run_slice_h W 51 _ _ _ und25 .i64 64 (by omega) (by omega), elem25, size25]
  simp [Result.andThen, sliced, Addr.add]
theorem cut_tail (g off n cc : Nat) (h : 64 ≤ n) (W : World) :
    (Instr.slice 51 (.slice (some ⟨g, off, none⟩) n cc) (some (.int .i64 64)) none none).run Tryz.prog W = .ok (.slice (some ⟨g, if cc = 64 then off else off + 64, none⟩) (n - 64) (cc - 64)) W := by
  rw [run_slice_l W 51 _ _ _ und25 .i64 64 (by omega) (by omega), elem25, size25]
  by_cases hc : cc = 64
  · simp [Result.andThen, sliced, hc]
  · simp [Result.andThen, sliced, hc, Addr.add]

structure RefIn (w wr : World) (g hg : Nat) (E : List UInt8) (st : St) : Prop where
  below : Below w.heap.size w wr
  bytes : Own.At By.cell wr g 0 E
  cur : Own.At val wr hg 0 st.list
structure RefHex (w wo wr : World) (hg : Nat) (l : List UInt32) (o : Value) (out : List UInt8) : Prop where
  below : Below w.heap.size w wr
  on : wo.heap.size ≤ wr.heap.size
  hl : hg < wo.heap.size
  cur : Own.At val wr hg 0 l
  bs : By.Bs wr wo.heap.size o out
theorem RefHex.step {w wo wr w2 : World} {hg : Nat} {l : List UInt32} {o o2 : Value} {out out2 : List UInt8} (h : RefHex w wo wr hg l o out) (hw : w.heap.size ≤ wo.heap.size) (hb : By.Bs w2 wo.heap.size o2 out2) (hgr : wr.grownBy w2 o.ownBlock) : RefHex w wo w2 hg l o2 out2 :=
  ⟨h.below.grown hgr h.below.size (fun k hk => by have := (h.bs.lt k hk).1; omega), Nat.le_trans h.on hgr.size, h.hl,
   h.cur.grown hgr (fun e => by have h1 := (h.bs.lt _ e).1; have := h.hl; omega), hb⟩

set_option maxRecDepth 100000 in
set_option maxHeartbeats 2000000 in
theorem refSum_aux (s : ByteArray) (E : List UInt8) (M : Nat) (w : World) (hE : E.length = 64 * M)
    (hP : ∀ W : World, Calls Tryz.prog 69 #[.string s] W fun e w' => ∃ g c, e = .returned (.slice (some ⟨g, 0, none⟩) (64 * M) c) ∧ W.heap.size ≤ g ∧ Own.At By.cell w' g 0 E ∧ 64 * M ≤ c ∧ Below W.heap.size W w') :
    Calls Tryz.prog 55 #[.string s] w fun e w' => ∃ t : ByteArray, e = .returned (.string t) ∧ Below w.heap.size w w' ∧ Kept (t = ⟨(inHex (absorb init E M)).toArray⟩) := by
  have HP := Kept.mk hP
  have HE := Kept.mk hE
  clear hP hE
  go_enter Tryz.func55, Tryz.ntmps55
  go_wp2_with (first
    | (go_at_call 68; refine (initial_any _).mono ?_; rintro e w1 ⟨hg, rfl, -, hat, hb1⟩)
    | (go_at_call 69; refine (HP.out _).mono ?_; rintro e w2 ⟨g, c, rfl, -, hae, hc, hb2⟩))
  have hR : RefIn w w2 g hg E (absorb init E 0) := ⟨hb1.trans (hb2.mono hb1.size), hae, hat.below hb2⟩
  have HR := Kept.mk hR
  have HC := Kept.mk hc
  clear hb1 hb2 hat hae hR hc
  go_loopw [3, 4] (fun h b wr => ∃ k hg q off n cc, k ≤ M ∧ (k < M → off = 64 * k) ∧ n + 64 * k = 64 * M ∧ n ≤ cc ∧ h = .slice (some ⟨hg, 0, none⟩) 8 q ∧ b = .slice (some ⟨g, off, none⟩) n cc ∧ RefIn w wr g hg E (absorb init E k)) (fun _ b _ => lenV b)
  case atStart => exact ⟨0, hg, 8, 0, 64 * M, c, by omega, fun _ => rfl, rfl, HC.out, rfl, rfl, HR.out⟩
  case round =>
    clear HR HC
    obtain ⟨k, hg, q, off, n, cc, hk, hoff, hn, hcc, rfl, rfl, hR⟩ := hrel
    by_cases hlt : k < M
    · obtain rfl := hoff hlt
      have hn64 : 64 ≤ n := by omega
      have n0 : (0 : Int) < (n : Int) := by omega
      generalize hst : absorb init E k = st at *
      have HST : Kept (absorb init E (k + 1) = compress st ((E.drop (64 * k)).take 64)) := ⟨by rw [← hst]; rfl⟩
      have HR := Kept.mk hR
      have hh := cut_head g (64 * k) n cc (by omega)
      have ht := cut_tail g (64 * k) n cc hn64
      generalize ho2 : (if cc = 64 then 64 * k else 64 * k + 64) = off2 at *
      have HO := Kept.mk ho2
      have HNN := Kept.mk (And.intro hn (And.intro hcc hk))
      clear hst hR hoff ho2 hn hcc hk
      go_wp2_with (go_at_call 70; refine (block_kept st ((E.drop (64 * k)).take 64) _ _ _ _ _ _ HR.out.cur (by have := (HR.out.bytes.drop (64 * k)).take 64; rw [Nat.zero_add] at this; exact this) (by rw [List.length_take, List.length_drop, HE.out]; omega)).mono ?_; rintro e w3 ⟨h2, q2, c2, rfl, -, hat, hb3, hc2⟩)
      have HR2 : Kept (RefIn w w3 g h2 E c2) := ⟨⟨HR.out.below.trans (hb3.mono HR.out.below.size), HR.out.bytes.below hb3, hat⟩⟩
      clear hb3 hat hh ht
      go_roundw
      case rel =>
        have h1 := HNN.out
        refine ⟨k + 1, h2, q2, off2, n - 64, cc - 64, by omega, fun hh => ?_, by omega, by omega, rfl, rfl, by rw [HST.out, hc2.out]; exact HR2.out⟩
        rw [← HO.out, if_neg (by omega)]
        omega
      case measure => simp only [lenV]; omega
    · have hkM : k = M := by omega
      have hn0 : n = 0 := by omega
      have n0 : ¬ (0 : Int) < (n : Int) := by omega
      have HN0 := Kept.mk hn0
      generalize hst : absorb init E k = st at *
      have HST : Kept (absorb init E M = st) := ⟨by rw [← hst, hkM]⟩
      have HR := Kept.mk hR
      clear hst hR hoff hn hcc hn0
      go_wp2
      clear hlt hk hkM n0
      obtain ⟨wo, rfl⟩ : ∃ wo : World, wo = wr := ⟨_, rfl⟩
      have HWO : Kept (w.heap.size ≤ wo.heap.size) := ⟨HR.out.below.size⟩
      have hl8 : st.list.length = 8 := rfl
      have hH : RefHex w wo wo hg st.list (.slice none 0 0) (hexTo st.list 0 0) := ⟨HR.out.below, Nat.le_refl _, HR.out.cur.1, HR.out.cur, by simpa [hexTo] using By.Bs.nil _ _⟩
      have HH := Kept.mk hH
      generalize hq : st.list = l at *
      have HQ := Kept.mk hq
      have HL := Kept.mk hl8
      clear hq hl8 hH HR
      go_loopw [5, 6] (fun v x wr => ∃ (i : Nat) (A : Option Addr) (m c : Nat), i ≤ 8 ∧ x = .int .i64 (i : Int) ∧ v = .slice A m c ∧ RefHex w wo wr hg l (.slice A m c) (hexTo l i 0)) (fun _ x _ => 8 - (intOf x).toNat)
      case atStart => exact ⟨0, none, 0, 0, by omega, rfl, rfl, HH.out⟩
      case round =>
        clear HH
        obtain ⟨i, A, m, c, hi, rfl, rfl, hM⟩ := hrel
        by_cases hlt : i < 8
        · have HM0 := Kept.mk hM
          clear hM
          go_wp2
          simp only [show decide ((i : Int) < 8) = true from decide_eq_true (by omega)]
          obtain ⟨wi, rfl⟩ : ∃ wi : World, wi = wr := ⟨_, rfl⟩
          go_loopw [5, 7] (fun v x wr => ∃ (j : Nat) (A : Option Addr) (m c : Nat), j ≤ 8 ∧ x = .int .i64 (28 - 4 * (j : Int)) ∧ v = .slice A m c ∧ RefHex w wo wr hg l (.slice A m c) (hexTo l i j)) (fun _ x _ => (intOf x + 4).toNat)
          case atStart => exact ⟨0, _, _, _, by omega, rfl, rfl, HM0.out⟩
          case round =>
            clear HM0
            obtain ⟨j, A2, m2, c2, hj, rfl, rfl, hM⟩ := hrel
            by_cases hlt2 : j < 8
            · have cx := at_val hM.cur i (by rw [HL.out]; exact hlt)
              generalize hX : l.getD i 0 = X at *
              have HX := Kept.mk hX
              clear hX
              have a15 := and15 X j
              have hd : X.toNat / 2 ^ (28 - 4 * j) % 16 < 16 := Nat.mod_lt _ (by omega)
              generalize hD : X.toNat / 2 ^ (28 - 4 * j) % 16 = d at *
              have HD := Kept.mk hD
              clear hD
              have d0 : (0 : Int) ≤ (d : Int) := by omega
              have d1 : (d : Int) < 16 := by omega
              have s0 : (0 : Int) ≤ 28 - 4 * (j : Int) := by omega
              have s1 : 4 * (j : Int) ≤ 28 := by omega
              have s2 : (28 - 4 * (j : Int)).toNat = 28 - 4 * j := by omega
              have i0 : (0 : Int) ≤ (i : Int) := by omega
              have i1 : (i : Int) < 8 := by omega
              have HM := Kept.mk hM
              clear hM
              go_wp2_with (refine By.wpList_append1 byteTy rfl _ _ rfl rfl HM.out.bs HM.out.on (digits.getD d 0) _ (digit_at d _) rfl (hex_room l i j HL.out) ?_; intro v2 w2 hb2 hg2)
              obtain ⟨A', m', c', rfl, -, hb3⟩ := Bs.shape hb2 rfl
              clear hb2
              go_roundw
              case rel =>
                refine ⟨j + 1, A', m', c', by omega, by congr 1; omega, rfl, HM.out.step HWO.out ?_ hg2⟩
                have e : hexTo l i (j + 1) = hexTo l i j ++ [digits.getD d 0] := by
                  unfold hexTo
                  rw [HX.out, hex_next X j hlt2, HD.out, List.append_assoc]
                rw [e]
                exact hb3
              case measure => simp [intOf]; omega
            · have hj8 : j = 8 := by omega
              have HJ := Kept.mk hj8
              have n1 : ¬ (0 : Int) ≤ 28 - 4 * (j : Int) := by omega
              have n2 : (28 : Int) < 4 * (j : Int) := by omega
              have HM := Kept.mk hM
              clear hj8 hM
              go_wp2
              go_roundw
              case rel => exact ⟨i + 1, A2, m2, c2, by omega, by go_num, rfl, by rw [hexTo_next l i (by rw [HL.out]; exact hlt), ← HJ.out]; exact HM.out⟩
              case measure => simp [intOf]; omega
        · have hi8 : i = 8 := by omega
          have HI := Kept.mk hi8
          clear hi8
          go_wp2_with (refine By.wpList_string byteTy rfl 9 _ rfl Tryz.underlying9 rfl hM.bs ?_)
          go_ret
          refine ⟨⟨(hexTo l i 0).toArray⟩, rfl, hM.below, ⟨?_⟩⟩
          rw [HI.out, hexTo_all l HL.out, ← HQ.out, HST.out]
          rfl
theorem absorb_append (s : St) (l r : List UInt8) (q : Nat) (hl : l.length = 64 * q) : ∀ m, absorb s (l ++ r) (q + m) = absorb (absorb s l q) r m
  | 0 => by
    show absorb s (l ++ r) q = absorb s l q
    have : ∀ n, n ≤ q → absorb s (l ++ r) n = absorb s l n := by
      intro n
      induction n with
      | zero => intro _; rfl
      | succ n ih =>
        intro hn
        show compress (absorb s (l ++ r) n) _ = compress (absorb s l n) _
        rw [ih (by omega), List.drop_append_of_le_length (by omega), List.take_append_of_le_length (by rw [List.length_drop]; omega)]
    exact this q (Nat.le_refl _)
  | m + 1 => by
    show compress (absorb s (l ++ r) (q + m)) (((l ++ r).drop (64 * (q + m))).take 64) = compress (absorb (absorb s l q) r m) ((r.drop (64 * m)).take 64)
    rw [absorb_append s l r q hl m, show 64 * (q + m) = l.length + 64 * m by omega, List.drop_append]
    rw [List.drop_eq_nil_of_le (by omega), List.nil_append, show l.length + 64 * m - l.length = 64 * m by omega]
theorem sum_whole (l : List UInt8) : sum l = inHex (absorb init (ending l l.length) ((ending l l.length).length / 64)) := by
  have hq : ∃ q, l.length - l.length % 64 = 64 * q := ⟨l.length / 64, by omega⟩
  obtain ⟨q, hq⟩ := hq
  have ht : (l.take (64 * q)).length = 64 * q := by rw [List.length_take]; omega
  have hd : (l.drop (64 * q)).length = l.length - 64 * q := List.length_drop
  have he : ending l l.length = l.take (64 * q) ++ ending (l.drop (64 * q)) l.length := by
    have hn : noughts (l.drop (64 * q)).length = noughts l.length := by unfold noughts; rw [hd]; omega
    unfold ending
    rw [hn]
    simp only [← List.append_assoc, List.take_append_drop]
  have hm := (ending_length (l.drop (64 * q)) l.length (by omega)).1
  have hlen : (ending l l.length).length / 64 = q + (ending (l.drop (64 * q)) l.length).length / 64 := by rw [he, List.length_append, ht]; omega
  unfold sum
  simp only [hq]
  rw [hlen, he, absorb_append init _ _ q ht, show 64 * q / 64 = q by omega]
theorem refSum_any (s : ByteArray) (w : World) (hs : s.size ≤ 1000000) :
    Calls Tryz.prog 55 #[.string s] w fun e w' => ∃ t : ByteArray, e = .returned (.string t) ∧ Below w.heap.size w w' ∧ Kept (t = ⟨(sum s.data.toList).toArray⟩) := by
  have hl : s.data.toList.length = s.size := by simp
  obtain ⟨M, hM⟩ : ∃ M, (ending s.data.toList s.size).length = 64 * M := by
    have h : (ending s.data.toList s.size).length = s.size + 1 + noughts s.size + 8 := by
      unfold ending
      simp only [List.length_append, List.length_replicate, tail8_length, List.length_cons, List.length_nil, hl]
    refine ⟨(ending s.data.toList s.size).length / 64, ?_⟩
    rw [h]
    unfold noughts
    omega
  refine (refSum_aux s (ending s.data.toList s.size) M w hM (fun W => (padded_any s W hs).mono fun e w' ⟨g, c, h1, h2, h3, h4, h5⟩ => ⟨g, c, by rw [← hM]; exact h1, h2, h3, by rw [← hM]; exact h4, h5⟩)).mono fun e w' ⟨t, he, hb, ht⟩ => ⟨t, he, hb, ⟨?_⟩⟩
  rw [ht.out, sum_whole s.data.toList, hl, hM, show 64 * M / 64 = M by omega]
end Sha
end Go.Proofs.YtmkpkmkhnphogaaGreatDoor
