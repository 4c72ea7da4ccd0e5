/-
  The program's units: in memory, what one is, and how a text is read as units.
-/
import Derived.Test.YtkifnabkoidhcaaProg
import Derived.Test.YtkifnabkoidhcaaPg
import Derived.Test.YtkifnabkoidhcaaTxt
import Derived.Test.YtkifnabkoidhcaaOwn2
import Derived.WalkKit
import Derived.BigCall
import Derived.BigQuiet
import Derived.Deep.QuietTactic
import Derived.StillTailTactics
import Derived.StillTail
import Derived.BigGuardPart
import Derived.BigRegion
import Derived.Laws.Pointers
import Derived.Laws.Unary
import Derived.Laws.Concat
import Derived.Laws.Strings
import Derived.Laws.Slices
import Derived.Laws.MakeOwn
import Derived.Laws.Shifts
import Derived.Deep.DeepCutAuto
import Derived.Deep.CutBlock
namespace Go.Proofs.Ytkifnabkoidhcaa
open Go.RowKit Tx
namespace Pm

def uv (u : Un) : List Value := [.int .u8 (u.1.toNat : Int), .bool u.2]
def uvs (l : List Un) : List Value := l.flatMap uv
theorem uvs_cons (p : Un) (t : List Un) : uvs (p :: t) = uv p ++ uvs t := rfl
theorem uvs_snoc (l : List Un) (x : Un) : uvs (l ++ [x]) = uvs l ++ uv x := by simp [uvs]
theorem uvs_length (t : List Un) : (uvs t).length = t.length * 2 := by
  induction t with
  | nil => rfl
  | cons p t ih => rw [uvs_cons, List.length_append, ih]; simp [uv]; omega
theorem uv_length (u : Un) : (uv u).length = 2 := rfl
theorem uvs_drop : ∀ (n : Nat) (l : List Un), uvs (l.drop n) = (uvs l).drop (n * 2)
  | 0, l => by simp
  | n + 1, [] => by simp [uvs]
  | n + 1, u :: l => by
    have h1 : (uv u).drop ((n + 1) * 2) = [] := List.drop_eq_nil_of_le (by rw [uv_length]; omega)
    rw [List.drop_succ_cons, uvs_drop n l, uvs_cons, List.drop_append, h1, List.nil_append, uv_length, show (n + 1) * 2 - 2 = n * 2 by omega]
theorem uvs_take : ∀ (n : Nat) (l : List Un), uvs (l.take n) = (uvs l).take (n * 2)
  | 0, l => by simp [uvs]
  | n + 1, [] => by simp [uvs]
  | n + 1, u :: l => by
    have h1 : (uv u).take ((n + 1) * 2) = uv u := List.take_of_length_le (by rw [uv_length]; omega)
    rw [List.take_succ_cons, uvs_cons, uvs_take n l, uvs_cons, List.take_append, h1, uv_length, show (n + 1) * 2 - 2 = n * 2 by omega]
theorem uv_one (x : Un) : ∀ u ∈ uv x, u.oneCell' = true := by
  intro u hp
  simp only [uv, List.mem_cons, List.not_mem_nil, or_false] at hp
  rcases hp with rfl | rfl <;> rfl
/-- The slice v holds the units l, in a block below G. -/
structure US (w : World) (G : Nat) (A : Option Addr) (k : Nat) (l : List Un) : Prop where
  cap : l.length ≤ k
  few : l.length ≤ 2000
  mem : l ≠ [] → ∃ g off, A = some ⟨g, off, none⟩ ∧ g < G ∧ g < w.heap.size ∧ ∀ j u, (uvs l)[j]? = some u → w.cell? ⟨g, off + j, none⟩ = some u
section
variable {w w' : World} {G G2 : Nat} {A : Option Addr} {k : Nat} {l : List Un}
theorem US.same (h : US w G A k l) (hb : ∀ i, i < G → i < w.heap.size → w'.heap[i]? = w.heap[i]?) (hs : w.heap.size ≤ w'.heap.size) : US w' G A k l :=
  ⟨h.cap, h.few, fun hl => by
    obtain ⟨g, off, h1, h2, h3, h4⟩ := h.mem hl
    exact ⟨g, off, h1, h2, Nat.lt_of_lt_of_le h3 hs, fun j u hu => (World.cell?_of_block (w := w) (a := ⟨g, off + j, none⟩) (hb g h2 h3)).trans (h4 j u hu)⟩⟩
theorem US.below (h : US w G A k l) (hb : Below w.heap.size w w') : US w' G A k l := h.same (fun i _ hi => hb.block i hi) hb.size
theorem US.mono (h : US w G A k l) (hG : G ≤ G2) : US w G2 A k l := ⟨h.cap, h.few, fun hl => by
  obtain ⟨g, off, h1, h2, h3, h4⟩ := h.mem hl
  exact ⟨g, off, h1, by omega, h3, h4⟩⟩
/-- One unit. -/
theorem US.at (h : US w G A k l) {j : Nat} (hj : j < l.length) : ∃ g off, A = some ⟨g, off, none⟩ ∧ g < w.heap.size ∧ w.cell? ⟨g, off + j * 2, none⟩ = some (.int .u8 (l[j].1.toNat : Int)) ∧ w.cell? ⟨g, off + j * 2 + 1, none⟩ = some (.bool l[j].2) := by
  obtain ⟨g, off, h1, _, h3, h4⟩ := h.mem (by intro e; subst e; simp at hj)
  have hd : uvs (l.drop j) = uv l[j] ++ uvs (l.drop (j + 1)) := by rw [List.drop_eq_getElem_cons hj, uvs_cons]
  rw [uvs_drop] at hd
  have h0 : (uvs l)[j * 2]? = some (.int .u8 (l[j].1.toNat : Int)) := by
    have := congrArg (fun z => z[0]?) hd
    simpa [uv] using this
  have h5 : (uvs l)[j * 2 + 1]? = some (.bool l[j].2) := by
    have := congrArg (fun z => z[1]?) hd
    simpa [uv] using this
  exact ⟨g, off, h1, h3, h4 _ _ h0, by rw [Nat.add_assoc]; exact h4 _ _ h5⟩
end
theorem unit_und : Try.prog.underlying 47 = some (.slice (Try.prog.elem 47)) := by kernel_rfl
theorem unit_two (W : World) : (sizeOf (Try.prog.elem 47)).run Try.prog W = .ok 2 W := by kernel_rfl
theorem unit_from (A : Option Addr) (n k i : Nat) (h : i ≤ n) (W : World) : (Instr.slice 47 (.slice A n k) (some (.int .i64 (i : Int))) none none).run Try.prog W = .ok (sliced A i n k 2) W := by
  have h2 : (Instr.sliceBounds true n k (some (.int .i64 (i : Int))) none none).run Try.prog W = .ok (i, n, k) W := by
    have : (i : Int) ≤ (n : Int) := by omega
    simp [Instr.sliceBounds, go_sem, this]
  rw [run_slice_any W _ _ _ _ unit_und, h2]
  simp only [Result.andThen_ok, unit_two]
theorem unit_upto (A : Option Addr) (n k i : Nat) (h : i ≤ k) (W : World) : (Instr.slice 47 (.slice A n k) none (some (.int .i64 (i : Int))) none).run Try.prog W = .ok (sliced A 0 i k 2) W := by
  have h2 : (Instr.sliceBounds true n k none (some (.int .i64 (i : Int))) none).run Try.prog W = .ok (0, i, k) W := by
    have : (i : Int) ≤ (k : Int) := by omega
    simp [Instr.sliceBounds, go_sem, this]
  rw [run_slice_any W _ _ _ _ unit_und, h2]
  simp only [Result.andThen_ok, unit_two]
theorem add_two (g off i : Nat) : (⟨g, off, none⟩ : Addr).add (i * 2) = ⟨g, off + i * 2, none⟩ := by unfold Addr.add; split <;> simp_all
theorem US.drop {w : World} {G : Nat} {A : Option Addr} {k : Nat} {l : List Un} (h : US w G A k l) (i : Nat) (hi : i ≤ l.length) : ∃ A' k', sliced A i l.length k 2 = .slice A' (l.length - i) k' ∧ US w G A' k' (l.drop i) := by
  refine ⟨_, _, rfl, ⟨by rw [List.length_drop]; have := h.cap; omega, by rw [List.length_drop]; have := h.few; omega, fun hl => ?_⟩⟩
  have hlt : i < l.length := by
    rcases Nat.lt_or_ge i l.length with h1 | h1
    · exact h1
    · exact absurd (List.drop_eq_nil_of_le h1) hl
  obtain ⟨g, off, h1, h2, h3, h4⟩ := h.mem (by intro e; subst e; simp at hlt)
  have hk := h.cap
  refine ⟨g, off + i * 2, ?_, h2, h3, fun j u hu => ?_⟩
  · rw [if_neg (by omega), h1, Option.map_some, add_two]
  · rw [uvs_drop, List.getElem?_drop] at hu
    rw [Nat.add_assoc]
    exact h4 _ u hu
theorem US.take {w : World} {G : Nat} {A : Option Addr} {k : Nat} {l : List Un} (h : US w G A k l) (i : Nat) (hi : i ≤ l.length) : ∃ A' k', sliced A 0 i k 2 = .slice A' i k' ∧ US w G A' k' (l.take i) := by
  refine ⟨_, _, rfl, ⟨by rw [List.length_take]; have := h.cap; omega, by rw [List.length_take]; have := h.few; omega, fun hl => ?_⟩⟩
  obtain ⟨g, off, h1, h2, h3, h4⟩ := h.mem (by intro e; subst e; simp at hl)
  refine ⟨g, off, ?_, h2, h3, fun j u hu => h4 j u ?_⟩
  · rw [h1]
    split
    · rfl
    · rw [Option.map_some, add_two, Nat.zero_mul, Nat.add_zero]
  · rw [uvs_take, List.getElem?_take] at hu
    split at hu
    · exact hu
    · cases hu

set_option maxRecDepth 100000 in
theorem is_any (w : World) (x c : Int) (e t : Bool) (ht : t = (x == c && !e)) :
    Calls Try.prog 33 #[.agg #[.int .u8 x, .bool e], .int .u8 c] w fun r w' => r = .returned (.bool t) ∧ Below w.heap.size w w' := by
  by_cases h : x = c
  · subst h
    have ht2 : t = !e := by rw [ht]; simp
    subst ht2
    clear ht
    go_enter Try.func33, Try.ntmps33
    go_wp2_with fail
    go_ret
    exact ⟨rfl, (Below.refl _ _).alloc (Nat.le_refl _) _⟩
  · have hne : (x == c) = false := by simpa using h
    have ht2 : t = false := by rw [ht, hne]; rfl
    subst ht2
    clear ht h
    go_enter Try.func33, Try.ntmps33
    go_wp2_with fail
    go_ret
    exact ⟨rfl, (Below.refl _ _).alloc (Nat.le_refl _) _⟩
theorem isU_int (c : UInt8) (u : Un) : isU c u = ((u.1.toNat : Int) == (c.toNat : Int) && !u.2) := by
  unfold isU
  congr 1
  rw [Bool.eq_iff_iff, beq_iff_eq, beq_iff_eq]
  exact ⟨fun h => by rw [h], fun h => UInt8.toNat_inj.1 (by omega)⟩
end Pm
end Go.Proofs.Ytkifnabkoidhcaa
