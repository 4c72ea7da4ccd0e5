/-
  The words of a state in hexadecimal digits.
-/
import Derived.Test.YtojncfnlcmacgaaDoorEnd
namespace Go.Proofs.YtojncfnlcmacgaaDoor
open Go.RowKit
namespace Sha

/-- Inside inHex: the box, and what has been gathered. -/
structure HexIn (w wr : World) (l : List UInt32) (v : Value) (out : List UInt8) : Prop where
  below : Below w.heap.size w wr
  box : Lies wr w.heap.size 28 l
  bs : By.Bs wr (w.heap.size + 1) v out
theorem HexIn.lt {w wr : World} {l : List UInt32} {v : Value} {out : List UInt8} (h : HexIn w wr l v out) : w.heap.size + 1 ≤ wr.heap.size := h.box.lt
theorem HexIn.grown {w wr w2 : World} {l : List UInt32} {v v2 : Value} {out out2 : List UInt8} (h : HexIn w wr l v out) (hb : By.Bs w2 (w.heap.size + 1) v2 out2) (hg : wr.grownBy w2 v.ownBlock) : HexIn w w2 l v2 out2 :=
  ⟨h.below.grown hg h.below.size (fun k hk => by have := (h.bs.lt k hk).1; omega),
   (hg.block w.heap.size h.box.lt (fun e => by have := (h.bs.lt _ e.symm).1; omega)).trans h.box, hb⟩

theorem and15 (x : UInt32) (j : Nat) : bits .and .u32 ((x.toNat : Int) / 2 ^ (28 - 4 * j)) 15 = ((x.toNat / 2 ^ (28 - 4 * j) % 16 : Nat) : Int) := by
  have h := lt32 x
  have hd : x.toNat / 2 ^ (28 - 4 * j) ≤ x.toNat := Nat.div_le_self _ _
  have e : ((x.toNat : Int) / 2 ^ (28 - 4 * j)) = ((x.toNat / 2 ^ (28 - 4 * j) : Nat) : Int) := by simp
  rw [e, show (15 : Int) = ((15 : Nat) : Int) from rfl, u32_and_nat _ _ (by omega) (by omega)]
  congr 1
  exact Nat.and_two_pow_sub_one_eq_mod _ 4
theorem hex8_length (x : UInt32) : (hex8 x).length = 8 := by simp [hex8]
theorem hex_next (x : UInt32) (j : Nat) (hj : j < 8) : (hex8 x).take (j + 1) = (hex8 x).take j ++ [digits.getD (x.toNat / 2 ^ (28 - 4 * j) % 16) 0] := by
  rw [List.take_succ_eq_append_getElem (by rw [hex8_length]; exact hj)]
  simp [hex8]
/-- The digits of the first i words, and the first j of the word behind them. -/
def hexTo (l : List UInt32) (i j : Nat) : List UInt8 := (l.take i).flatMap hex8 ++ (hex8 (l.getD i 0)).take j
theorem hexTo_next (l : List UInt32) (i : Nat) (hi : i < l.length) : hexTo l (i + 1) 0 = hexTo l i 8 := by
  unfold hexTo
  rw [List.take_succ_eq_append_getElem hi, List.flatMap_append, List.take_of_length_le (l := hex8 (l.getD i 0)) (by rw [hex8_length]; omega)]
  simp [hi]
theorem hexTo_all (l : List UInt32) (h : l.length = 8) : hexTo l 8 0 = l.flatMap hex8 := by
  unfold hexTo
  rw [List.take_of_length_le (by omega)]
  simp
theorem flat_length (l : List UInt32) : (l.flatMap hex8).length = 8 * l.length := by
  induction l with
  | nil => rfl
  | cons x r ih => rw [List.flatMap_cons, List.length_append, ih, hex8_length, List.length_cons]; omega
theorem hex_room (l : List UInt32) (i j : Nat) (h : l.length = 8) : (hexTo l i j).length + 1 ≤ 140737488355328 := by
  unfold hexTo
  rw [List.length_append, flat_length, List.length_take, List.length_take, hex8_length]
  omega
theorem digit_at (d : Nat) (h : d < (⟨#[48, 49, 50, 51, 52, 53, 54, 55, 56, 57, 97, 98, 99, 100, 101, 102]⟩ : ByteArray).size) :
    (((⟨#[48, 49, 50, 51, 52, 53, 54, 55, 56, 57, 97, 98, 99, 100, 101, 102]⟩ : ByteArray)[d]'h).toNat : Int) = ((digits.getD d 0).toNat : Int) := by
  have all : ∀ j : Fin 16, (((⟨#[48, 49, 50, 51, 52, 53, 54, 55, 56, 57, 97, 98, 99, 100, 101, 102]⟩ : ByteArray)[j.val]'j.isLt).toNat : Int) = ((digits.getD j.val 0).toNat : Int) := by decide +kernel
  exact all ⟨d, h⟩

set_option maxHeartbeats 1000000 in
theorem inHex_any (st : St) (w : World) :
    Calls Tryd.prog 11 #[.agg (cellsOf st.list)] w fun e w' => e = .returned (.string ⟨(inHex st).toArray⟩) ∧ Below w.heap.size w w' := by
  go_enter Tryd.func11, Tryd.ntmps11
  go_wp2
  have hl : st.list.length = 8 := rfl
  generalize hq : st.list = l at *
  have HQ := Kept.mk hq
  have HL := Kept.mk hl
  clear hq hl
  go_loopw [3, 6] (fun v x wr => ∃ i A m c, i ≤ 8 ∧ x = .int .i64 (i : Nat) ∧ v = .slice A m c ∧ HexIn w wr l (.slice A m c) (hexTo l i 0)) (fun _ x _ => 8 - (intOf x).toNat)
  case atStart => exact ⟨0, _, _, _, by omega, rfl, rfl, (Below.refl _ _).alloc (Nat.le_refl _) _, Lies.made rfl rfl, by simpa [hexTo] using By.Bs.nil _ _⟩
  case round =>
    obtain ⟨i, A, m, c, hi, rfl, rfl, hM⟩ := hrel
    by_cases hlt : i < 8
    · go_wp2
      simp only [show decide ((i : Int) < 8) = true from decide_eq_true (by omega)]
      obtain ⟨wo, rfl⟩ : ∃ wo : World, wo = wr := ⟨_, rfl⟩
      go_loopw [3, 9] (fun v x wr => ∃ j A m c, j ≤ 8 ∧ x = .int .i64 (j : Nat) ∧ v = .slice A m c ∧ HexIn w wr l (.slice A m c) (hexTo l i j)) (fun _ x _ => 8 - (intOf x).toNat)
      case atStart => exact ⟨0, _, _, _, by omega, rfl, rfl, hM⟩
      case round =>
        clear hM
        obtain ⟨j, A2, m2, c2, hj, rfl, rfl, hM⟩ := hrel
        by_cases hlt2 : j < 8
        · have cx := hM.box.cell i (by rw [HL.out]; exact hlt)
          generalize hX : l.getD i 0 = X at *
          have HX := Kept.mk hX
          clear hX
          have a15 := and15 X j
          have hd : X.toNat / 2 ^ (28 - 4 * j) % 16 < 16 := Nat.mod_lt _ (by omega)
          generalize hD : X.toNat / 2 ^ (28 - 4 * j) % 16 = d at *
          have HD := Kept.mk hD
          clear hD
          have d0 : (0 : Int) ≤ (d : Int) := by omega
          have d1 : (d : Int) < 16 := by omega
          have s0 : (0 : Int) ≤ 28 - 4 * (j : Int) := by omega
          have s1 : 4 * (j : Int) ≤ 28 := by omega
          have s2 : (28 - 4 * (j : Int)).toNat = 28 - 4 * j := by omega
          have i0 : (0 : Int) ≤ (i : Int) := by omega
          have HM := Kept.mk hM
          clear hM
          go_wp2_with (refine By.wpList_append1 byteTy rfl _ _ rfl rfl HM.out.bs HM.out.lt (digits.getD d 0) _ (digit_at d _) rfl (hex_room l i j HL.out) ?_; intro v2 w2 hb2 hg2)
          obtain ⟨A', m', c', rfl, -, hb3⟩ := Bs.shape hb2 rfl
          clear hb2
          go_roundw
          case rel =>
            refine ⟨j + 1, A', m', c', by omega, by go_num, rfl, HM.out.grown ?_ hg2⟩
            have e : hexTo l i (j + 1) = hexTo l i j ++ [digits.getD d 0] := by
              unfold hexTo
              rw [HX.out, hex_next X j hlt2, HD.out, List.append_assoc]
            rw [e]
            exact hb3
          case measure => simp [intOf]; omega
        · have hj8 : j = 8 := by omega
          have HJ := Kept.mk hj8
          clear hj8
          go_wp2
          go_roundw
          case rel => exact ⟨i + 1, A2, m2, c2, by omega, by go_num, rfl, by rw [hexTo_next l i (by rw [HL.out]; exact hlt), ← HJ.out]; exact hM⟩
          case measure => simp [intOf]; omega
    · have hi8 : i = 8 := by omega
      have HI := Kept.mk hi8
      clear hi8
      go_wp2_with (refine By.wpList_string byteTy rfl 9 _ rfl Tryd.underlying9 rfl hM.bs ?_)
      go_ret
      refine ⟨?_, hM.below⟩
      show Ending.returned (Value.string ⟨(hexTo l i 0).toArray⟩) = _
      rw [HI.out, hexTo_all l HL.out, ← HQ.out]
      rfl
end Sha
end Go.Proofs.YtojncfnlcmacgaaDoor
