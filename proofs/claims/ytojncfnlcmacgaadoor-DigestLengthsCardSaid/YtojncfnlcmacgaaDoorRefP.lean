/-
  The document's side: a text, and what stands behind it.
-/
import Derived.Test.YtojncfnlcmacgaaDoorEnd
import Derived.Test.YtojncfnlcmacgaaDoorOwn
namespace Go.Proofs.YtojncfnlcmacgaaDoor
open Go.RowKit
namespace Sha

theorem len_byte2 (n j : Nat) (hj : j < 8) : ((n : Int) * 8) / 2 ^ (56 - 8 * j) % 256 = ((UInt8.ofNat (n * 8 / 2 ^ (56 - 8 * j))).toNat : Int) := by
  rw [UInt8.toNat_ofNat']
  obtain rfl | rfl | rfl | rfl | rfl | rfl | rfl | rfl : j = 0 ∨ j = 1 ∨ j = 2 ∨ j = 3 ∨ j = 4 ∨ j = 5 ∨ j = 6 ∨ j = 7 := by omega
  all_goals simp only [Nat.reduceMul, Nat.reduceSub, Int.reducePow, Nat.reducePow, Nat.mul_zero, Nat.sub_zero, Nat.sub_self, Nat.pow_zero, Int.pow_zero, Nat.div_one, Int.ediv_one]
  all_goals omega
theorem tail_room2 (r : List UInt8) (n i : Nat) (hr : r.length ≤ 300) : (Part1 r (noughts r.length) ++ (tail8 n).take i).length + 1 ≤ 140737488355328 := by
  rw [List.length_append, Part1.len, List.length_take, tail8_length]
  unfold noughts
  omega
/-- Of the loop that lays the length, its counter falling. -/
def Lay3 (w wr : World) (r : List UInt8) (n : Nat) (v x : Value) : Prop :=
  ∃ (j : Nat) (A : Option Addr) (m c : Nat), j ≤ 8 ∧ x = .int .i64 (7 - (j : Int)) ∧ v = .slice A m c ∧ By.Bs wr w.heap.size (.slice A m c) (Part1 r (noughts r.length) ++ (tail8 n).take j) ∧ Below w.heap.size w wr
theorem Bs.at_ {w : World} {B : Nat} {v : Value} {l : List UInt8} (h : By.Bs w B v l) (hp : 0 < l.length) : ∃ g cap, v = .slice (some ⟨g, 0, none⟩) l.length cap ∧ B ≤ g ∧ Own.At By.cell w g 0 l ∧ l.length ≤ cap := by
  rcases h with ⟨rfl, rfl⟩ | ⟨g, cap, rfl, h1, h2, h3, h4, h5, h6⟩
  · simp at hp
  · exact ⟨g, cap, rfl, h1, ⟨h2, fun j u hu => by rw [Nat.zero_add]; exact h6 j u hu⟩, h3⟩

set_option maxHeartbeats 1000000 in
theorem padded_any (r : ByteArray) (w : World) (hr : r.size ≤ 300) :
    Calls Tryd.prog 13 #[.string r] w fun e w' => ∃ g c, e = .returned (.slice (some ⟨g, 0, none⟩) (ending r.data.toList r.size).length c) ∧ w.heap.size ≤ g ∧ Own.At By.cell w' g 0 (ending r.data.toList r.size) ∧ (ending r.data.toList r.size).length ≤ c ∧ Below w.heap.size w w' := by
  have hrl : r.data.toList.length = r.size := by simp
  go_enter Tryd.func13, Tryd.ntmps13
  go_wp2_with (first
    | (refine By.wpList_bytes byteTy rfl 9 _ rfl Tryd.underlying9 r rfl (by unfold maxLen; omega) ?_; intro v w1 hb hg)
    | (refine By.wpList_append1 byteTy rfl _ _ rfl rfl hb (by have := hg.size; omega) 128 _ rfl rfl (by omega) ?_; intro v2 w2 hb2 hg2))
  go_loopw [3] (fun v wr => Lay w wr r.data.toList v) (fun v _ => r.size + 65 - lenV v)
  case atStart =>
    have hB : Below w.heap.size w w1 := (Below.refl _ _).grown hg (Nat.le_refl _) (fun k hk => by cases hk)
    obtain ⟨A, m, c, rfl, hm, hb3⟩ := Bs.shape (m := r.size + 1) hb2 (by simp)
    exact ⟨0, A, m, c, by omega, by omega, rfl, by simpa [Part1] using hb3, below_grown hB hg2 hb hg.size⟩
  case round =>
    clear hb hg hb2 hg2
    obtain ⟨k, A, m, c, hk, hm, rfl, hb, hB⟩ := hrel
    have hm1 : m ≤ r.size + 1 + k := by omega
    have hm2 : r.size + 1 + k ≤ m := by omega
    have hno : noughts r.data.toList.length = (119 - r.size % 64) % 64 := by unfold noughts; rw [hrl]
    by_cases hlt : k < noughts r.data.toList.length
    · have h1 : ((m : Int) % 64 == 56) = false := by rw [beq_eq_false_iff_ne]; omega
      have HM := Kept.mk (show m = r.data.toList.length + 1 + k from hm)
      have HK := Kept.mk (show k + 1 ≤ noughts r.data.toList.length from hlt)
      have hmB : (m : Int) ≤ 400 := by omega
      have HB := Kept.mk hB
      have hno' := hno
      have hrl' := hrl
      clear hm hno hlt hk hm1 hm2 hrl
      go_wp2_with (refine By.wpList_append1 byteTy rfl _ _ rfl rfl hb HB.out.size 0 _ rfl rfl (by rw [Part1.len, ← HM.out]; omega) ?_; intro v2 w2 hb2 hg2)
      rw [Part1.next] at hb2
      obtain ⟨A', m', c', rfl, hm', hb3⟩ := Bs.shape (m := m + 1) hb2 (by rw [Part1.len, HM.out]; omega)
      clear hb2
      go_roundw
      case rel => exact ⟨k + 1, A', m', c', HK.out, by rw [hm', HM.out]; omega, rfl, hb3, below_grown HB.out hg2 hb HB.out.size⟩
      case measure =>
        simp only [lenV]
        have h2 := HM.out
        have h3 := HK.out
        rw [hno'] at h3
        rw [hrl'] at h2
        omega
    · have h1 : (m : Int) % 64 = 56 := by omega
      have HK := Kept.mk (show k = noughts r.data.toList.length by omega)
      clear hm hno hlt hk hm1 hm2 hrl
      go_wp2
      clear h1
      generalize (m : Int) % 64 = m64
      obtain ⟨wo, rfl⟩ : ∃ wo : World, wo = wr := ⟨_, rfl⟩
      go_loopw [3, 5] (fun v x wr => Lay3 w wr r.data.toList r.size v x) (fun _ x _ => (intOf x + 1).toNat)
      case atStart => exact ⟨0, A, m, c, by omega, rfl, rfl, by rw [← HK.out]; simpa using hb, hB⟩
      case round =>
        clear hb hB
        obtain ⟨j, A2, m2, c2, hj, rfl, rfl, hb, hB⟩ := hrel
        by_cases hlt : j < 8
        · have HB := Kept.mk hB
          have s0 : (0 : Int) ≤ 7 - (j : Int) := by omega
          have s1 : (j : Int) ≤ 7 := by omega
          have s3 : (0 : Int) ≤ 8 * (7 - (j : Int)) := by omega
          have s2 : (8 * (7 - (j : Int))).toNat = 56 - 8 * j := by omega
          clear hB
          go_wp2_with (refine By.wpList_append1 byteTy rfl _ _ rfl rfl hb HB.out.size (UInt8.ofNat (r.size * 8 / 2 ^ (56 - 8 * j))) _ (len_byte2 r.size j hlt) rfl (tail_room2 r.data.toList r.size j (by simp; omega)) ?_; intro v2 w2 hb2 hg2)
          obtain ⟨A', m', c', rfl, -, hb3⟩ := Bs.shape hb2 rfl
          clear hb2
          go_roundw
          case rel =>
            refine ⟨j + 1, A', m', c', by omega, by congr 1; omega, rfl, ?_, below_grown HB.out hg2 hb HB.out.size⟩
            rw [tail_next _ _ hlt, ← List.append_assoc]
            exact hb3
          case measure => simp [intOf]; omega
        · have hj8 : j = 8 := by omega
          have he : Part1 r.data.toList (noughts r.data.toList.length) ++ (tail8 r.size).take j = ending r.data.toList r.size := by
            rw [hj8, tail_all]
            rfl
          rw [he] at hb
          obtain ⟨g, cap, e', hg, hAt, hcap⟩ := Bs.at_ hb (by unfold ending; simp; omega)
          have HE := Kept.mk e'
          have HAt := Kept.mk hAt
          have HR := Kept.mk (And.intro hg (And.intro hcap hB))
          have HJ := Kept.mk hj8
          have s1 : ¬ (j : Int) ≤ 7 := by omega
          have s4 : (7 : Int) < (j : Int) := by omega
          have s0 : ¬ (0 : Int) ≤ 7 - (j : Int) := by omega
          clear he hb e' hAt hg hcap hB hj8
          go_wp2
          go_ret
          exact ⟨g, cap, congrArg Ending.returned HE.out, HR.out.1, HAt.out, HR.out.2.1, HR.out.2.2⟩
end Sha
end Go.Proofs.YtojncfnlcmacgaaDoor
