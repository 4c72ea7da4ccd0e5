/-
  The end of a message: the bytes behind the last whole block, 128, noughts, and the length.
-/
import Derived.Test.YtojncfnlcmacgaaDoorSha
import Derived.Test.YtojncfnlcmacgaaDoorBytes
import Derived.Test.YtojncfnlcmacgaaDoorMem
import Derived.Test.YtojncfnlcmacgaaDoorChecked
import Derived.WalkKit
import Derived.WalkLawsBesides
import Derived.Lib.Hide
import Derived.Laws.ShiftsVarLaws
namespace Go.Proofs.YtojncfnlcmacgaaDoor
open Go.RowKit
namespace Sha

theorem byteTy : By.Ty Tryd.prog 25 5 := ⟨Tryd.underlying25, Tryd.underlying5, by kernel_rfl⟩

/-- The number of bytes in a slot. -/
def lenV : Value → Nat
  | .slice _ n _ => n
  | _ => 0

def Part1 (r : List UInt8) (k : Nat) : List UInt8 := r ++ [128] ++ List.replicate k 0
theorem Part1.len (r : List UInt8) (k : Nat) : (Part1 r k).length = r.length + 1 + k := by simp [Part1]; omega
theorem Part1.next (r : List UInt8) (k : Nat) : Part1 r k ++ [0] = Part1 r (k + 1) := by simp [Part1, List.replicate_succ']

/-- Of the loop that lays noughts. -/
def Lay (w wr : World) (r : List UInt8) (v : Value) : Prop :=
  ∃ k A n c, k ≤ noughts r.length ∧ n = r.length + 1 + k ∧ v = .slice A n c ∧ By.Bs wr w.heap.size (.slice A n c) (Part1 r k) ∧ Below w.heap.size w wr

/-- Of the loop that lays the length. -/
def Lay2 (w wr : World) (r : List UInt8) (n : Nat) (v x : Value) : Prop :=
  ∃ i A m c, i ≤ 8 ∧ x = .int .i64 (i : Nat) ∧ v = .slice A m c ∧ By.Bs wr w.heap.size (.slice A m c) (Part1 r (noughts r.length) ++ (tail8 n).take i) ∧ Below w.heap.size w wr

theorem wrap_u64 (n : Int) : IntKind.u64.wrap n = n % 18446744073709551616 := by simp [IntKind.wrap, IntKind.bits, IntKind.signed]
theorem len_byte (n i : Nat) (hi : i < 8) : IntKind.u64.wrap (IntKind.u64.wrap (n : Int) * 8) / 2 ^ (56 - 8 * i) % 256 = ((UInt8.ofNat (n * 8 / 2 ^ (56 - 8 * i))).toNat : Int) := by
  rw [wrap_u64, wrap_u64, UInt8.toNat_ofNat']
  obtain rfl | rfl | rfl | rfl | rfl | rfl | rfl | rfl : i = 0 ∨ i = 1 ∨ i = 2 ∨ i = 3 ∨ i = 4 ∨ i = 5 ∨ i = 6 ∨ i = 7 := by omega
  all_goals simp only [Nat.reduceMul, Nat.reduceSub, Int.reducePow, Nat.reducePow, Nat.mul_zero, Nat.sub_zero, Nat.sub_self, Nat.pow_zero, Int.pow_zero, Nat.div_one, Int.ediv_one]
  all_goals omega
theorem tail8_length (n : Nat) : (tail8 n).length = 8 := by simp [tail8]
theorem tail_room (r : List UInt8) (n i : Nat) (hr : r.length < 64) : (Part1 r (noughts r.length) ++ (tail8 n).take i).length + 1 ≤ 140737488355328 := by
  rw [List.length_append, Part1.len, List.length_take, tail8_length]
  unfold noughts
  omega
theorem tail_next (n i : Nat) (hi : i < 8) : (tail8 n).take (i + 1) = (tail8 n).take i ++ [UInt8.ofNat (n * 8 / 2 ^ (56 - 8 * i))] := by
  rw [List.take_succ_eq_append_getElem (by rw [tail8_length]; exact hi)]
  simp [tail8]
theorem tail_all (n : Nat) : (tail8 n).take 8 = tail8 n := List.take_of_length_le (by rw [tail8_length]; omega)

theorem Bs.shape {w : World} {B : Nat} {v : Value} {l : List UInt8} {m : Nat} (h : By.Bs w B v l) (hm : l.length = m) : ∃ A n c, v = .slice A n c ∧ n = m ∧ By.Bs w B (.slice A n c) l := by
  obtain ⟨A, c, rfl⟩ := h.len
  exact ⟨A, _, c, rfl, hm, h⟩
theorem below_grown {B : Nat} {a w w' : World} {v : Value} {l : List UInt8} (h : Below B a w) (hg : w.grownBy w' v.ownBlock) (hb : By.Bs w B v l) (hB : B ≤ w.heap.size) : Below B a w' :=
  h.grown hg hB fun k hk => (hb.lt k hk).1

set_option maxHeartbeats 1000000 in
theorem ending_any (r : ByteArray) (n : Nat) (w : World) (hr : r.size < 64) (hn : n ≤ maxLen) :
    Calls Tryd.prog 10 #[.string r, .int .i64 n] w fun e w' => e = .returned (.string ⟨(ending r.data.toList n).toArray⟩) ∧ Below w.heap.size w w' := by
  have HN := Kept.mk hn
  have hrl : r.data.toList.length = r.size := by simp
  clear hn
  go_enter Tryd.func10, Tryd.ntmps10
  go_wp2_with (first
    | (refine By.wpList_bytes byteTy rfl 9 _ rfl Tryd.underlying9 r rfl (by unfold maxLen; omega) ?_; intro v w1 hb hg)
    | (refine By.wpList_append1 byteTy rfl _ _ rfl rfl hb (by have := hg.size; omega) 128 _ rfl rfl (by omega) ?_; intro v2 w2 hb2 hg2))
  go_loopw [5] (fun v wr => Lay w wr r.data.toList v) (fun v _ => r.size + 65 - lenV v)
  case atStart =>
    have hB : Below w.heap.size w w1 := (Below.refl _ _).grown hg (Nat.le_refl _) (fun k hk => by cases hk)
    obtain ⟨A, m, c, rfl, hm, hb3⟩ := Bs.shape (m := r.size + 1) hb2 (by simp)
    exact ⟨0, A, m, c, by omega, by omega, rfl, by simpa [Part1] using hb3, below_grown hB hg2 hb hg.size⟩
  case round =>
    clear hb hg hb2 hg2
    obtain ⟨k, A, m, c, hk, hm, rfl, hb, hB⟩ := hrel
    have hm1 : m ≤ r.size + 1 + k := by omega
    have hm2 : r.size + 1 + k ≤ m := by omega
    have hno : noughts r.data.toList.length = (119 - r.size % 64) % 64 := by unfold noughts; rw [hrl]
    by_cases hlt : k < noughts r.data.toList.length
    · have h1 : ((m : Int) % 64 == 56) = false := by rw [beq_eq_false_iff_ne]; omega
      have HM := Kept.mk (show m = r.data.toList.length + 1 + k from hm)
      have HK := Kept.mk (show k + 1 ≤ noughts r.data.toList.length from hlt)
      have hmB : (m : Int) ≤ 200 := by omega
      have HB := Kept.mk hB
      have hno' := hno
      have hrl' := hrl
      clear hm hno hlt hk hm1 hm2 hrl
      go_wp2_with (refine By.wpList_append1 byteTy rfl _ _ rfl rfl hb HB.out.size 0 _ rfl rfl (by rw [Part1.len, ← HM.out]; omega) ?_; intro v2 w2 hb2 hg2)
      rw [Part1.next] at hb2
      obtain ⟨A', m', c', rfl, hm', hb3⟩ := Bs.shape (m := m + 1) hb2 (by rw [Part1.len, HM.out]; omega)
      clear hb2
      go_roundw
      case rel => exact ⟨k + 1, A', m', c', HK.out, by rw [hm', HM.out]; omega, rfl, hb3, below_grown HB.out hg2 hb HB.out.size⟩
      case measure =>
        simp only [lenV]
        have h2 := HM.out
        have h3 := HK.out
        rw [hno'] at h3
        rw [hrl'] at h2
        omega
    · have h1 : (m : Int) % 64 = 56 := by omega
      have HK := Kept.mk (show k = noughts r.data.toList.length by omega)
      clear hm hno hlt hk hm1 hm2 hrl
      go_wp2
      clear h1
      generalize (m : Int) % 64 = m64
      obtain ⟨wo, rfl⟩ : ∃ wo : World, wo = wr := ⟨_, rfl⟩
      go_loopw [5, 22] (fun v x wr => Lay2 w wr r.data.toList n v x) (fun _ x _ => 8 - (intOf x).toNat)
      case atStart => exact ⟨0, A, m, c, by omega, rfl, rfl, by rw [← HK.out]; simpa using hb, hB⟩
      case round =>
        clear hb hB
        obtain ⟨i, A2, m2, c2, hi, rfl, rfl, hb, hB⟩ := hrel
        by_cases hlt : i < 8
        · have HB := Kept.mk hB
          have s0 : (0 : Int) ≤ 56 - 8 * (i : Int) := by omega
          have s1 : 8 * (i : Int) ≤ 56 := by omega
          have s2 : (56 - 8 * (i : Int)).toNat = 56 - 8 * i := by omega
          clear hB
          go_wp2_with (refine By.wpList_append1 byteTy rfl _ _ rfl rfl hb HB.out.size (UInt8.ofNat (n * 8 / 2 ^ (56 - 8 * i))) _ (len_byte n i hlt) rfl (tail_room r.data.toList n i (by simp; omega)) ?_; intro v2 w2 hb2 hg2)
          obtain ⟨A', m', c', rfl, -, hb3⟩ := Bs.shape hb2 rfl
          clear hb2
          go_roundw
          case rel =>
            refine ⟨i + 1, A', m', c', by omega, by go_num, rfl, ?_, below_grown HB.out hg2 hb HB.out.size⟩
            rw [tail_next _ _ hlt, ← List.append_assoc]
            exact hb3
          case measure => simp [intOf]; omega
        · have hi8 : i = 8 := by omega
          have HI := Kept.mk hi8
          clear hi8
          go_wp2_with (refine By.wpList_string byteTy rfl 9 _ rfl Tryd.underlying9 rfl hb ?_)
          go_ret
          refine ⟨?_, hB⟩
          show Ending.returned (Value.string ⟨(Part1 r.data.toList (noughts r.data.toList.length) ++ (tail8 n).take i).toArray⟩) = _
          rw [HI.out, tail_all]
          rfl
end Sha
end Go.Proofs.YtojncfnlcmacgaaDoor
