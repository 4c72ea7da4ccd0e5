/-
  The document's side: the state behind a block.
-/
import Derived.Test.YtojncfnlcmacgaaDoorRefS
import Derived.StillTailTactics
namespace Go.Proofs.YtojncfnlcmacgaaDoor
open Go.RowKit
namespace Sha

theorem getD_left (A B : List UInt32) (i : Nat) (h : i < A.length) : (A ++ B).getD i 0 = A.getD i 0 := by
  rw [List.getD_eq_getElem?_getD, List.getD_eq_getElem?_getD, List.getElem?_append_left h]
theorem set_at (A : List UInt32) (k : Nat) (x : UInt32) : (A ++ List.replicate (k + 1) 0).set A.length x = A ++ [x] ++ List.replicate k 0 := by
  rw [List.set_append_right _ _ (Nat.le_refl _), Nat.sub_self, List.replicate_succ]
  simp
theorem sched1_words (l : List UInt8) : ∀ n, n ≤ 64 → sched1 l n = words1 l n ++ List.replicate (64 - n) 0
  | 0, _ => by simp [sched1, words1]
  | n + 1, h => by
    have e := set_at (words1 l n) (64 - (n + 1)) (wordAt l (4 * n))
    rw [words1_length, show 64 - (n + 1) + 1 = 64 - n by omega] at e
    rw [sched1, sched1_words l n (by omega), words1_next]
    exact e
theorem sched2_words (l : List UInt8) : ∀ n, n ≤ 48 → sched2 l n = words2 l n ++ List.replicate (48 - n) 0
  | 0, _ => sched1_words l 16 (by omega)
  | n + 1, h => by
    have hl := words2_length l n
    have e := set_at (words2 l n) (48 - (n + 1)) (nextW (words2 l n) (16 + n))
    rw [hl, show 48 - (n + 1) + 1 = 48 - n by omega] at e
    have hn : nextW (words2 l n ++ List.replicate (48 - n) 0) (16 + n) = nextW (words2 l n) (16 + n) := by
      unfold nextW
      rw [getD_left _ _ _ (by omega), getD_left _ _ _ (by omega), getD_left _ _ _ (by omega), getD_left _ _ _ (by omega)]
    rw [sched2, sched2_words l n (by omega)]
    simp only [hn]
    exact e
theorem sched_words (l : List UInt8) : words2 l 48 = sched l := by
  unfold sched
  rw [sched2_words l 48 (Nat.le_refl _)]
  simp

def add32 (x y : UInt32) : UInt32 := x + y
theorem r_add (x y : UInt32) : IntKind.u32.wrap ((x.toNat : Int) + (y.toNat : Int)) = ((add32 x y).toNat : Int) := b_add' x y
theorem r_E (x : UInt32) : bits .xor .u32 (bits .xor .u32 ((rotr x 6).toNat : Int) ((rotr x 11).toNat : Int)) ((rotr x 25).toNat : Int) = ((mixE x).toNat : Int) := by rw [b_xor, b_xor]; rfl
theorem r_A (x : UInt32) : bits .xor .u32 (bits .xor .u32 ((rotr x 2).toNat : Int) ((rotr x 13).toNat : Int)) ((rotr x 22).toNat : Int) = ((mixA x).toNat : Int) := by rw [b_xor, b_xor]; rfl
theorem r_C (x y z : UInt32) : bits .xor .u32 (bits .and .u32 (x.toNat : Int) (y.toNat : Int)) (bits .and .u32 (bits .xor .u32 IntKind.u32.max (x.toNat : Int)) (z.toNat : Int)) = ((ch x y z).toNat : Int) := by rw [b_not, b_and, b_and, b_xor]; rfl
theorem r_M (x y z : UInt32) : bits .xor .u32 (bits .xor .u32 (bits .and .u32 (x.toNat : Int) (y.toNat : Int)) (bits .and .u32 (x.toNat : Int) (z.toNat : Int))) (bits .and .u32 (y.toNat : Int) (z.toNat : Int)) = ((maj x y z).toNat : Int) := by rw [b_and, b_and, b_and, b_xor, b_xor]; rfl

/-- Inside block: the state that came in, the words, the constants, the copy that turns. -/
structure BlkIn (w wr : World) (g hw hk ha : Nat) (st : St) (ws : List UInt32) (v : St) : Prop where
  below : Below w.heap.size w wr
  old : Own.At val wr g 0 st.list
  words : Own.At val wr hw 0 ws
  consts : Own.At val wr hk 0 ks
  cur : Own.At val wr ha 0 v.list
section
variable {w wr : World} {g hw hk ha : Nat} {st v : St} {ws : List UInt32}
theorem BlkIn.on (h : BlkIn w wr g hw hk ha st ws v) {w2 : World} (hb : Below wr.heap.size wr w2) : BlkIn w w2 g hw hk ha st ws v :=
  ⟨h.below.trans (hb.mono h.below.size), h.old.below hb, h.words.below hb, h.consts.below hb, h.cur.below hb⟩
theorem BlkIn.again (h : BlkIn w wr g hw hk ha st ws v) {X : World → Prop} (k : ∀ W, BlkIn w W g hw hk ha st ws v → X W) : X wr.drew := k _ (h.on (Below.refl _ _).drew)
theorem BlkIn.againN (h : BlkIn w wr g hw hk ha st ws v) (n : Nat) {X : World → Prop} (k : ∀ W, BlkIn w W g hw hk ha st ws v → X W) : X (wr.drewN n) := k _ (h.on (below_drewN (Below.refl _ _) n))
theorem at_val {c : World} {b : Nat} {l : List UInt32} (h : Own.At val c b 0 l) (j : Nat) (hj : j < l.length) : c.cell? ⟨b, j, none⟩ = some (.int .u32 (l.getD j 0).toNat) := by
  have := h.cell j hj
  rw [Nat.zero_add] at this
  rw [this, List.getD_eq_getElem?_getD, List.getElem?_eq_getElem hj]
  rfl
theorem BlkIn.cells {a b c d e f g' h : UInt32} (m : BlkIn w wr g hw hk ha st ws ⟨a, b, c, d, e, f, g', h⟩) :
    wr.cell? ⟨ha, 0, none⟩ = some (.int .u32 a.toNat) ∧ wr.cell? ⟨ha, 1, none⟩ = some (.int .u32 b.toNat) ∧ wr.cell? ⟨ha, 2, none⟩ = some (.int .u32 c.toNat) ∧ wr.cell? ⟨ha, 3, none⟩ = some (.int .u32 d.toNat) ∧
    wr.cell? ⟨ha, 4, none⟩ = some (.int .u32 e.toNat) ∧ wr.cell? ⟨ha, 5, none⟩ = some (.int .u32 f.toNat) ∧ wr.cell? ⟨ha, 6, none⟩ = some (.int .u32 g'.toNat) ∧ wr.cell? ⟨ha, 7, none⟩ = some (.int .u32 h.toNat) :=
  ⟨at_val m.cur 0 (by show _ < 8; omega), at_val m.cur 1 (by show _ < 8; omega), at_val m.cur 2 (by show _ < 8; omega), at_val m.cur 3 (by show _ < 8; omega), at_val m.cur 4 (by show _ < 8; omega), at_val m.cur 5 (by show _ < 8; omega), at_val m.cur 6 (by show _ < 8; omega), at_val m.cur 7 (by show _ < 8; omega)⟩
end

def outTo (st v : St) (i : Nat) : List UInt32 := (List.range i).map fun j => st.list.getD j 0 + v.list.getD j 0
theorem outTo_length (st v : St) (i : Nat) : (outTo st v i).length = i := by simp [outTo]
theorem outTo_next (st v : St) (i : Nat) : outTo st v (i + 1) = outTo st v i ++ [st.list.getD i 0 + v.list.getD i 0] := by simp [outTo, List.range_succ]
/-- Inside block, behind its rounds: what is gathered lies in blocks that wo has not. -/
structure OutIn (w wo wr : World) (g ha : Nat) (st v : St) (o : Value) (out : List UInt32) : Prop where
  below : Below w.heap.size w wr
  on : wo.heap.size ≤ wr.heap.size
  gl : g < wo.heap.size
  hl : ha < wo.heap.size
  old : Own.At val wr g 0 st.list
  cur : Own.At val wr ha 0 v.list
  es : Own.Es val wr wo.heap.size o out
theorem OutIn.step {w wo wr w2 : World} {g ha : Nat} {st v : St} {o o2 : Value} {out out2 : List UInt32} (h : OutIn w wo wr g ha st v o out) (hw : w.heap.size ≤ wo.heap.size) (he : Own.Es val w2 wo.heap.size o2 out2) (hg : wr.grownBy w2 o.ownBlock) : OutIn w wo w2 g ha st v o2 out2 :=
  ⟨h.below.grown hg h.below.size (fun k hk => by have := (h.es.lt k hk).1; omega), Nat.le_trans h.on hg.size, h.gl, h.hl,
   h.old.grown hg (fun e => by have h1 := (h.es.lt _ e).1; have := h.gl; omega), h.cur.grown hg (fun e => by have h1 := (h.es.lt _ e).1; have := h.hl; omega), he⟩

attribute [local go_sem ↓] Go.wp_at_zero Go.wp_at_succ
set_option maxRecDepth 100000 in
set_option maxHeartbeats 4000000 in
theorem refBlock_aux (st : St) (ws : List UInt32) (g c1 gb off cb : Nat) (w : World) (hA : Own.At val w g 0 st.list)
    (hS : ∀ W : World, Below w.heap.size w W → Calls Tryd.prog 16 #[.slice (some ⟨gb, off, none⟩) 64 cb] W fun e w' => ∃ h q, e = .returned (.slice (some ⟨h, 0, none⟩) 64 q) ∧ W.heap.size ≤ h ∧ Own.At val w' h 0 ws ∧ Below W.heap.size W w') (hwl : ws.length = 64) :
    Calls Tryd.prog 14 #[.slice (some ⟨g, 0, none⟩) 8 c1, .slice (some ⟨gb, off, none⟩) 64 cb] w fun e w' => ∃ h q, e = .returned (.slice (some ⟨h, 0, none⟩) 8 q) ∧ w.heap.size ≤ h ∧ Own.At val w' h 0 (plus st (rounds ws st 64)).list ∧ Below w.heap.size w w' := by
  generalize hfin : rounds ws st 64 = fin
  have HF : Kept (∀ n, n = 64 → rounds ws st n = fin) := ⟨fun n h => by rw [h, hfin]⟩
  have HS := Kept.mk hS
  have HA := Kept.mk hA
  have HWL := Kept.mk hwl
  clear hfin hS hA hwl
  go_enter Tryd.func14, Tryd.ntmps14
  go_wp2_with (first
    | (go_at_call 16; refine (HS.out _ (Below.refl _ _)).mono ?_; rintro e w1 ⟨hw, qw, rfl, -, haw, hb1⟩)
    | (go_at_call 17; refine (rounds_any _).mono ?_; rintro e w2 ⟨hk, rfl, -, hak, hb2⟩)
    | (refine Own.wpList_append (l := []) wordTy val_one rfl _ _ rfl rfl (Own.Es.nil _ _ _) (Nat.le_refl _) (news := st.list) rfl ((HA.out.below hb1).below hb2) (by show (0 + 8) * 4 ≤ _; omega) (by show 0 + 8 ≤ _; unfold maxLen; omega) ?_; intro va w3 hea hga))
  obtain ⟨ha, qa, e, hBa, haa, _⟩ := hea.form (by show 0 < 8; omega)
  rw [show (([] : List UInt32) ++ st.list).length = 8 from rfl] at e
  subst e
  have hM : BlkIn w w3 g hw hk ha st ws (rounds ws st 0) :=
    ⟨((hb1.trans (hb2.mono hb1.size)).grown hga (Nat.le_trans hb1.size hb2.size) (fun k hk => by cases hk)), (((HA.out.below hb1).below hb2).grown hga (fun e => by cases e)), ((haw.below hb2).grown hga (fun e => by cases e)), hak.grown hga (fun e => by cases e), haa⟩
  have HB : Kept (w.heap.size ≤ ha) := ⟨by have := hb1.size; have := hb2.size; omega⟩
  have HM := Kept.mk hM
  clear hb1 hb2 hga haw hak haa hBa hea hM
  go_loopw [7, 8] (fun v x wr => ∃ n ha q, n ≤ 64 ∧ x = .int .i64 (n : Nat) ∧ v = .slice (some ⟨ha, 0, none⟩) 8 q ∧ BlkIn w wr g hw hk ha st ws (rounds ws st n)) (fun _ x _ => 64 - (intOf x).toNat)
  case atStart => exact ⟨0, ha, qa, by omega, rfl, rfl, HM.out⟩
  case round =>
    clear HM
    obtain ⟨n, ha, q, hn, rfl, rfl, hM⟩ := hrel
    by_cases hlt : n < 64
    · obtain ⟨v, hv⟩ : ∃ v, v = rounds ws st n := ⟨_, rfl⟩
      have HV := Kept.mk hv
      rw [← hv] at hM
      clear hv
      obtain ⟨a, b, c, d, e, f, g', h⟩ := v
      have HM := Kept.mk hM
      obtain ⟨k0, k1, k2, k3, k4, k5, k6, k7⟩ := hM.cells
      clear hM
      have rE := r_E e
      have rA := r_A a
      have rC := r_C e f g'
      have rM := r_M a b c
      have hsg : IntKind.u32.signed = false := rfl
      go_wp2
      go_quiet ((go_at_call 18; exact Calls.quiet_of (turn_any _ _ _ (by unfold Turns; simp))))
      refine HM.out.againN _ (X := fun W => Exit.then _ _ _ _ W) ?_
      clear HM k0 k1 k2 k3 k4 k5 k6 k7
      intro W1 hM
      have HM := Kept.mk hM
      obtain ⟨k0, k1, k2, k3, k4, k5, k6, k7⟩ := hM.cells
      clear hM
      go_wp2
      refine wp_region_still_lit (by kernel_rfl) (by kernel_rfl) ?_
      repeat still_step
      refine wpStill_nil ?_
      refine HM.out.again (X := fun W => Exit.then _ _ _ _ W) ?_
      clear HM k0 k1 k2 k3 k4 k5 k6 k7
      intro W2 hM
      have HM := Kept.mk hM
      obtain ⟨k0, k1, k2, k3, k4, k5, k6, k7⟩ := hM.cells
      have kw := at_val hM.words n (by rw [HWL.out]; exact hlt)
      have kk := at_val hM.consts n hlt
      generalize hW : ws.getD n 0 = W at *
      generalize hK : ks.getD n 0 = K at *
      have HW := Kept.mk hW
      have HK := Kept.mk hK
      have rh := r_add h (mixE e)
      have rh2 := r_add (add32 h (mixE e)) (ch e f g')
      have rh3 := r_add (add32 (add32 h (mixE e)) (ch e f g')) K
      have rh4 := r_add (add32 (add32 (add32 h (mixE e)) (ch e f g')) K) W
      have n0 : (0 : Int) ≤ (n : Int) := by omega
      have n1 : (n : Int) < 64 := by omega
      clear hM hW hK
      go_wp2
      refine wp_region_still_lit (by kernel_rfl) (by kernel_rfl) ?_
      repeat still_step
      refine wpStill_nil ?_
      refine HM.out.again (X := fun W => Exit.then _ _ _ _ W) ?_
      clear HM k0 k1 k2 k3 k4 k5 k6 k7 kw kk rh rh2 rh3 rh4
      generalize hT : add32 (add32 (add32 (add32 h (mixE e)) (ch e f g')) K) W = T
      have HT := Kept.mk hT
      clear hT
      intro W3 hM
      have HM := Kept.mk hM
      obtain ⟨k0, k1, k2, k3, k4, k5, k6, k7⟩ := hM.cells
      clear hM
      go_wp2
      go_quiet ((go_at_call 18; exact Calls.quiet_of (turn_any _ _ _ (by unfold Turns; simp))))
      refine HM.out.againN _ (X := fun W => Exit.then _ _ _ _ W) ?_
      clear HM k0 k1 k2 k3 k4 k5 k6 k7
      intro W4 hM
      have HM := Kept.mk hM
      obtain ⟨k0, k1, k2, k3, k4, k5, k6, k7⟩ := hM.cells
      clear hM
      go_wp2
      refine wp_region_still_lit (by kernel_rfl) (by kernel_rfl) ?_
      repeat still_step
      refine wpStill_nil ?_
      refine HM.out.again (X := fun W => Exit.then _ _ _ _ W) ?_
      clear HM k0 k1 k2 k3 k4 k5 k6 k7
      intro W5 hM
      have HM := Kept.mk hM
      obtain ⟨k0, k1, k2, k3, k4, k5, k6, k7⟩ := hM.cells
      have rt := r_add T (mixA a)
      have rt2 := r_add (add32 T (mixA a)) (maj a b c)
      have rt3 := r_add d T
      clear hM
      go_wp2
      refine wp_region_still_tail 28 (by kernel_rfl) (by kernel_rfl) ?_
      simp only [List.take_succ_cons, List.take_zero, List.drop_succ_cons, List.drop_zero]
      repeat still_step
      refine wpStill_nil ?_
      refine HM.out.again (X := fun W => wpList _ _ _ _ _ W) ?_
      clear HM k0 k1 k2 k3 k4 k5 k6 k7
      intro W6 hM
      have HM := Kept.mk hM
      clear hM
      go_wp2
      go_roundw
      case rel =>
        refine ⟨n + 1, _, _, by omega, by go_num, rfl, ?_⟩
        have E1 : rounds ws st (n + 1) = Sha.step ⟨a, b, c, d, e, f, g', h⟩ K W := by
          show Sha.step (rounds ws st n) (ks.getD n 0) (ws.getD n 0) = _
          rw [← HV.out, HW.out, HK.out]
        have E2 : (Sha.step ⟨a, b, c, d, e, f, g', h⟩ K W).list = [add32 (add32 T (mixA a)) (maj a b c), a, b, c, add32 d T, e, f, g'] := by
          rw [← HT.out]
          unfold Sha.step St.list tOf uOf add32
          simp only [UInt32.add_assoc]
        have hb : Below W6.heap.size W6 (W6.alloc (.cells #[.int .u32 (add32 (add32 T (mixA a)) (maj a b c)).toNat, .int .u32 a.toNat, .int .u32 b.toNat, .int .u32 c.toNat, .int .u32 (add32 d T).toNat, .int .u32 e.toNat, .int .u32 f.toNat, .int .u32 g'.toNat] 27)) := (Below.refl _ _).alloc (Nat.le_refl _) _
        have hM := HM.out
        rw [E1]
        exact ⟨hM.below.trans (hb.mono hM.below.size), hM.old.below hb, hM.words.below hb, hM.consts.below hb, by rw [E2]; exact Own.At.fresh W6 _ _ _ rfl⟩
      case measure => simp [intOf]; omega
    · have h64 : n = 64 := by omega
      have HN := Kept.mk h64
      obtain ⟨v, hv⟩ : ∃ v, v = rounds ws st n := ⟨_, rfl⟩
      have HV := Kept.mk hv
      rw [← hv] at hM
      clear hv h64
      have HM := Kept.mk hM
      clear hM
      go_wp2
      clear hlt hn
      obtain ⟨wo, rfl⟩ : ∃ wo : World, wo = wr := ⟨_, rfl⟩
      have HWO : Kept (w.heap.size ≤ wo.heap.size) := ⟨HM.out.below.size⟩
      go_loopw [14, 15] (fun o x wr => ∃ i A m q, i ≤ 8 ∧ x = .int .i64 (i : Nat) ∧ m = i ∧ o = .slice A m q ∧ OutIn w wo wr g ha st v (.slice A m q) (outTo st v i)) (fun _ x _ => 8 - (intOf x).toNat)
      case atStart => exact ⟨0, none, 0, 0, by omega, rfl, rfl, rfl, HM.out.below, Nat.le_refl _, HM.out.old.1, HM.out.cur.1, HM.out.old, HM.out.cur, Own.Es.nil _ _ _⟩
      case round =>
        clear HM
        obtain ⟨i, A, m, p, hi, rfl, rfl, rfl, hO⟩ := hrel
        by_cases hlt : m < 8
        · have c0 := at_val hO.old m hlt
          have c1' := at_val hO.cur m hlt
          generalize hX : st.list.getD m 0 = X at *
          generalize hY : v.list.getD m 0 = Y at *
          have HX := Kept.mk (And.intro hX hY)
          have HO := Kept.mk hO
          have rx := r_add X Y
          have i0 : (0 : Int) ≤ (m : Int) := by omega
          have i1 : (m : Int) < 8 := by omega
          have l1 : g < wr.heap.size := hO.old.1
          have l2 : ha < wr.heap.size := hO.cur.1
          clear hO hX hY
          go_wp2
          go_region_held3 (fun w' => w'.cell? ⟨g, m, none⟩ = some (.int .u32 (X.toNat : Int)) ∧ w'.cell? ⟨ha, m, none⟩ = some (.int .u32 (Y.toNat : Int)))
            (first
              | go_keep
              | exact ⟨hg2.cell c0 hne.out.1.symm, hg2.cell c1' hne.out.2.symm⟩)
            ((refine Own.step_append1 wordTy val_one (by rfl) _ _ (by rfl) (by rfl) HO.out.es.drew (by have := HO.out.on; simpa using this) (add32 X Y) _ rfl (by rfl) (by rw [outTo_length]; omega) (by rw [outTo_length]; unfold maxLen; omega) ?_; intro v2 w2 hE2 hg2 _; have hne : Kept ((Value.slice A m p).ownBlock ≠ some g ∧ (Value.slice A m p).ownBlock ≠ some ha) := ⟨fun e => by have h1 := (HO.out.es.lt _ e).1; have := HO.out.gl; omega, fun e => by have h1 := (HO.out.es.lt _ e).1; have := HO.out.hl; omega⟩))
          have hE3' : outTo st v m ++ [add32 X Y] = outTo st v (m + 1) := by rw [outTo_next, HX.out.1, HX.out.2]; rfl
          rw [hE3'] at hE2
          obtain ⟨A', m', q', rfl, hm', hE3⟩ := Es.shape (m := m + 1) hE2 (outTo_length _ _ _)
          have HE := Kept.mk (HO.out.step HWO.out hE3 (show wr.grownBy w2 _ from ⟨hg2.os, hg2.tape, hg2.output, hg2.size, hg2.block⟩))
          have HM' := Kept.mk hm'
          clear hE2 hE3 hg2 hm' hne c0 c1' rx hE3'
          go_wp2
          go_roundw
          case rel => exact ⟨m + 1, A', m', q', by omega, by go_num, HM'.out, rfl, HE.out⟩
          case measure => simp [intOf]; omega
        · have h8 : m = 8 := by omega
          have H8 := Kept.mk h8
          obtain ⟨h', cap', e', hB', hAt, _⟩ := hO.es.form (by rw [outTo_length]; omega)
          rw [outTo_length] at e'
          have HAt := Kept.mk (show Own.At val wr h' 0 (outTo st v m) from hAt)
          have HBl := Kept.mk (show w.heap.size ≤ h' ∧ Below w.heap.size w wr from ⟨by have := HWO.out; omega, hO.below⟩)
          have HE := Kept.mk e'
          clear hAt h8 hO e'
          go_wp2
          go_ret
          refine ⟨h', cap', ?_, HBl.out.1, ?_, HBl.out.2⟩
          · show Ending.returned (Value.slice A m p) = _
            rw [HE.out, H8.out]
          · have := HAt.out
            rw [H8.out, show outTo st v 8 = (plus st v).list from rfl] at this
            rw [← HF.out n HN.out, ← HV.out]
            exact this
theorem refBlock_any (st : St) (l : List UInt8) (g c1 gb off cb : Nat) (w : World) (hA : Own.At val w g 0 st.list) (hb : Own.At By.cell w gb off l) (hl : l.length = 64) :
    Calls Tryd.prog 14 #[.slice (some ⟨g, 0, none⟩) 8 c1, .slice (some ⟨gb, off, none⟩) 64 cb] w fun e w' => ∃ h q c, e = .returned (.slice (some ⟨h, 0, none⟩) 8 q) ∧ w.heap.size ≤ h ∧ Own.At val w' h 0 c.list ∧ Below w.heap.size w w' ∧ Kept (compress st l = c) :=
  (refBlock_aux st (words2 l 48) g c1 gb off cb w hA (fun W hW => refSched_any l gb off cb W hl (hb.below hW)) (words2_length l 48)).mono fun e w' ⟨h, q, he, hh, ha, hbl⟩ =>
    ⟨h, q, _, he, hh, ha, hbl, ⟨by unfold compress; rw [sched_words]⟩⟩
end Sha
end Go.Proofs.YtojncfnlcmacgaaDoor
