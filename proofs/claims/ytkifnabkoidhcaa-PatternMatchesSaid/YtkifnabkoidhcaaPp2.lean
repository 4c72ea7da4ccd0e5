/-
  The program's units: a text is read as units.
-/
import Derived.Test.YtkifnabkoidhcaaPp1
import Derived.OwnWalk
namespace Go.Proofs.Ytkifnabkoidhcaa
open Go.RowKit Tx
namespace Pm

theorem unitInfo : (Try.prog.info? 50).map (fun i => (i.zero, i.size, i.bytes)) = some (some (.agg #[.int .u8 0, .bool false]), 2, 2) := by kernel_rfl
/-- The units so far, in a row of the call's own. -/
structure UIn (w wr : World) (v : Value) (l : List Un) : Prop where
  own : wr.ownsRow w.heap.size 50 2 v l.length (uvs l)
  bel : Below w.heap.size w wr
theorem US.of_own {w : World} {B : Nat} {A : Option Addr} {n k : Nat} {l : List Un} (h : w.ownsRow B 50 2 (.slice A n k) l.length (uvs l)) (hf : l.length ≤ 2000) : n = l.length ∧ US w w.heap.size A k l := by
  rcases h.2 with ⟨h0, h1⟩ | ⟨g, cap, cur, h0, hB, hg, hnc, hcm, hcs, htake⟩
  · injection h0 with a1 a2 a3
    subst a1 a2 a3
    exact ⟨h1.symm, ⟨by omega, hf, fun e => absurd (List.eq_nil_of_length_eq_zero h1) e⟩⟩
  · injection h0 with a1 a2 a3
    subst a1 a2 a3
    have hlt : g < w.heap.size := (Array.getElem?_eq_some_iff.1 hg).1
    refine ⟨rfl, ⟨hnc, hf, fun _ => ⟨g, 0, rfl, hlt, hlt, fun j u hu => ?_⟩⟩⟩
    rw [Nat.zero_add, cell_of_row w g j cur _ (0, 0) hg]
    rw [← htake, List.getElem?_take] at hu
    split at hu
    · simpa using hu
    · cases hu
theorem own_stays {w w' : World} {B n size : Nat} {e : TypeId} {v : Value} {xs : List Value} (h : w.ownsRow B e size v n xs) (hb : ∀ g, B ≤ g → g < w.heap.size → w'.heap[g]? = w.heap[g]?) : w'.ownsRow B e size v n xs := by
  refine ⟨h.1, ?_⟩
  rcases h.2 with h0 | ⟨g, cap, cur, rfl, hB, hg, r⟩
  · exact .inl h0
  · exact .inr ⟨g, cap, cur, rfl, hB, (hb g hB (Array.getElem?_eq_some_iff.1 hg).1).trans hg, r⟩
theorem own_shape {w : World} {B n size : Nat} {e : TypeId} {v : Value} {xs : List Value} (h : w.ownsRow B e size v n xs) : ∃ A k, v = .slice A n k := by
  rcases h.2 with ⟨rfl, rfl⟩ | ⟨g, cap, cur, rfl, _⟩
  · exact ⟨_, _, rfl⟩
  · exact ⟨_, _, rfl⟩
theorem uv_new (w : World) (x : Un) (ty : TypeId) : ∀ j u, (uv x)[j]? = some u → (w.alloc (.cells #[.int .u8 (x.1.toNat : Int), .bool x.2] ty)).cell? ((⟨w.heap.size, 0, none⟩ : Addr).add j) = some u := by
  intro j u hu
  rw [By.add_at, cell_of_row _ _ j _ _ (0, 0) (heap_alloc_new w _)]
  simpa [uv] using hu
theorem uv92 (w : World) : ∀ j u, (uv ((92, false) : Un))[j]? = some u → (w.alloc (.cells #[.int .u8 92, .bool false] 50)).cell? ((⟨w.heap.size, 0, none⟩ : Addr).add j) = some u := uv_new w (92, false) _
theorem UIn.grow {w wr w2 : World} {v v2 : Value} {l : List Un} {x : Un} {o : Obj} (h : UIn w wr v l) (hg : (wr.alloc o).grownBy w2 v.ownBlock) (ho : w2.ownsRow w.heap.size 50 2 v2 (l.length + 1) (uvs l ++ uv x)) : UIn w w2 v2 (l ++ [x]) :=
  ⟨by rw [List.length_append, uvs_snoc]; exact ho, h.bel.trans (((Below.refl w.heap.size wr).alloc h.bel.size o).trans ⟨hg.os, hg.tape, hg.output, hg.size, fun i hi => hg.block i (by have := h.bel.size; simp; omega) (fun e => by
    rcases h.own.2 with ⟨rfl, _⟩ | ⟨g, cap, cur, rfl, hB, _⟩
    · cases e
    · injection e with e
      have e : i = g := e
      omega)⟩)⟩
theorem un_at {l : List UInt8} {j n : Nat} (hn : l.length = n) (hj : j < n) : un (l.drop j) = (if l[j]'(by omega) = 92 ∧ j + 1 < n then (l[j + 1]?.getD 0, true) :: un (l.drop (j + 2)) else (l[j]'(by omega), false) :: un (l.drop (j + 1))) := by
  subst hn
  rw [List.drop_eq_getElem_cons hj]
  by_cases h : j + 1 < l.length
  · rw [List.drop_eq_getElem_cons h, un]
    by_cases h2 : l[j] = 92
    · rw [if_pos h2, if_pos ⟨h2, h⟩, List.getElem?_eq_getElem h]; rfl
    · rw [if_neg h2, if_neg (fun k => h2 k.1)]
  · rw [List.drop_eq_nil_of_le (by omega), if_neg (fun k => h k.2), un, un]
theorem get_toL {s : ByteArray} {j : Nat} (h : j < s.size) : (toL s)[j]'(by rw [toL_length]; exact h) = s[j]'h := rfl
theorem un_len : ∀ (l : List UInt8), (un l).length ≤ l.length
  | [] => Nat.le_refl _
  | [x] => Nat.le_refl _
  | x :: y :: r => by
    rw [un]
    have h1 := un_len r
    have h2 := un_len (y :: r)
    simp only [List.length_cons] at h2 ⊢
    split <;> simp only [List.length_cons] <;> omega
theorem byte_ne {a b : UInt8} (h : ¬ a = b) : ¬ (a.toNat : Int) = (b.toNat : Int) := fun e => h (UInt8.toNat_inj.1 (by omega))
set_option maxHeartbeats 4000000 in
set_option maxRecDepth 100000 in
theorem units_any (s : ByteArray) (w : World) (hs : s.size ≤ 2000) : Calls Try.prog 28 #[.string s] w fun e w' => (∃ A k, e = .returned (.slice A (un (toL s)).length k) ∧ US w' w'.heap.size A k (un (toL s))) ∧ Below w.heap.size w w' := by
  obtain ⟨i0, hi, hz0, hz1, hz2⟩ := info_parts unitInfo
  have HS := Kept.mk hs
  have hsz : (s.size : Int) ≤ 2000 := by omega
  go_enter Try.func28, Try.ntmps28
  go_wp2_with (refine wpList_make_own _ rfl _ _ _ rfl w.heap.size 50 i0 _ 2 Try.underlying47 hi hz0 hz1 .i64 .i64 (s.size : Int) s.size rfl rfl rfl (by rw [hz2]; omega) (by unfold maxLen; omega) (Nat.le_refl _) ?_; intro w0 h0 hg0)
  have HU0 : Kept (UIn w w0 (.slice (some ⟨w.heap.size, 0, none⟩) 0 s.size) []) := ⟨⟨h0, ⟨hg0.os, hg0.tape, hg0.output, hg0.size, fun i hi => hg0.block i hi (by simp)⟩⟩⟩
  clear h0 hg0
  go_loopw [3, 4] (fun v i wr => ∃ (j : Nat) (l : List Un), j ≤ s.size ∧ i = .int .i64 (j : Int) ∧ Kept (UIn w wr v l) ∧ Kept (un (toL s) = l ++ un ((toL s).drop j)) ∧ Kept (l.length ≤ j)) (fun _ i _ => s.size - (intOf i).toNat)
  case atStart => exact ⟨0, [], by omega, rfl, HU0, ⟨rfl⟩, ⟨Nat.le_refl _⟩⟩
  case round =>
    clear HU0
    obtain ⟨j, l, hj, rfl, HU, HX, HL0⟩ := hrel
    have HL : Kept (l.length + 1 ≤ 2001) := ⟨by have := HL0.out; have := HS.out; omega⟩
    by_cases hlt : j < s.size
    · have hl2 : (j : Int) < (s.size : Int) := by omega
      have hj5 : (j : Int) ≤ 2000 := by omega
      have hat : un ((toL s).drop j) = (if s[j]'hlt = 92 ∧ j + 1 < s.size then ((toL s)[j + 1]?.getD 0, true) :: un ((toL s).drop (j + 2)) else (s[j]'hlt, false) :: un ((toL s).drop (j + 1))) := by
        exact un_at (l := toL s) (toL_length s) hlt
      by_cases h92 : s[j]'hlt = 92 ∧ j + 1 < s.size
      · obtain ⟨e92, hn⟩ := h92
        rw [if_pos ⟨e92, hn⟩] at hat
        have hn2 : (j : Int) + 1 < (s.size : Int) := by omega
        have z92 : ((s[j]'hlt).toNat : Int) = 92 := by rw [e92]; rfl
        have hg : (toL s)[j + 1]?.getD 0 = s[j + 1]'hn := by
          rw [List.getElem?_eq_getElem (by rw [toL_length]; exact hn)]; rfl
        rw [hg] at hat
        obtain ⟨A0, q0, rfl⟩ := own_shape HU.out.own
        have HX2 : Kept (un (toL s) = (l ++ [(s[j + 1]'hn, true)]) ++ un ((toL s).drop (j + 2))) := ⟨by rw [HX.out, hat, List.append_assoc]; rfl⟩
        clear hat e92 hg HX
        go_wp2_with (at_builtin; refine wpList_append_own _ rfl _ _ 47 rfl w.heap.size 50 i0 _ 2 2 Try.underlying47 hi hz0 hz1 hz2 rfl (by decide) _ _ _ rfl (own_stays HU.out.own fun g _ h2 => Below.heap_alloc wr _ g h2) ⟨wr.heap.size, 0, none⟩ 1 1 (uv ((s[j + 1]'hn, true) : Un)) rfl rfl (by exact uv_new wr ((s[j + 1]'hn, true) : Un) _) (uv_one _) (by unfold maxLen; have := HL.out; omega) (by have := HL.out; omega) (by have := HU.out.bel.size; simp; omega) ?_; intro v2 w2 ho2 hg2 hnn; clear hnn; have HU2 : Kept (UIn w w2 v2 (l ++ [((s[j + 1]'hn, true) : Un)])) := ⟨HU.out.grow hg2 ho2⟩; clear ho2 hg2)
        go_roundw
        case rel => exact ⟨j + 2, _, by omega, by go_num, HU2, HX2, ⟨by have := HL0.out; rw [List.length_append]; show l.length + 1 ≤ j + 2; omega⟩⟩
        case measure => simp [intOf]; omega
      · rw [if_neg h92] at hat
        obtain ⟨A0, q0, rfl⟩ := own_shape HU.out.own
        have HX2 : Kept (un (toL s) = (l ++ [(s[j]'hlt, false)]) ++ un ((toL s).drop (j + 1))) := ⟨by rw [HX.out, hat, List.append_assoc]; rfl⟩
        by_cases e92 : s[j]'hlt = 92
        · have z92 : ((s[j]'hlt).toNat : Int) = 92 := by rw [e92]; rfl
          have hn2 : ¬ (j : Int) + 1 < (s.size : Int) := by have : ¬ j + 1 < s.size := fun h => h92 ⟨e92, h⟩; omega
          rw [e92] at HX2
          clear hat e92 h92 HX
          go_wp2_with (at_builtin; refine wpList_append_own _ rfl _ _ 47 rfl w.heap.size 50 i0 _ 2 2 Try.underlying47 hi hz0 hz1 hz2 rfl (by decide) _ _ _ rfl (own_stays HU.out.own fun g _ h2 => Below.heap_alloc wr _ g h2) ⟨wr.heap.size, 0, none⟩ 1 1 (uv ((92, false) : Un)) rfl rfl (by exact uv92 wr) (uv_one _) (by unfold maxLen; have := HL.out; omega) (by have := HL.out; omega) (by have := HU.out.bel.size; simp; omega) ?_; intro v2 w2 ho2 hg2 hnn; clear hnn; have HU2 : Kept (UIn w w2 v2 (l ++ [((92, false) : Un)])) := ⟨HU.out.grow hg2 ho2⟩; clear ho2 hg2)
          go_roundw
          case rel => exact ⟨j + 1, _, by omega, by go_num, HU2, HX2, ⟨by have := HL0.out; rw [List.length_append]; show l.length + 1 ≤ j + 1; omega⟩⟩
          case measure => simp [intOf]; omega
        · have z92 : ¬ ((s[j]'hlt).toNat : Int) = 92 := byte_ne (b := 92) e92
          clear hat e92 h92 HX
          go_wp2_with (at_builtin; refine wpList_append_own _ rfl _ _ 47 rfl w.heap.size 50 i0 _ 2 2 Try.underlying47 hi hz0 hz1 hz2 rfl (by decide) _ _ _ rfl (own_stays HU.out.own fun g _ h2 => Below.heap_alloc wr _ g h2) ⟨wr.heap.size, 0, none⟩ 1 1 (uv ((s[j]'hlt, false) : Un)) rfl rfl (by exact uv_new wr ((s[j]'hlt, false) : Un) _) (uv_one _) (by unfold maxLen; have := HL.out; omega) (by have := HL.out; omega) (by have := HU.out.bel.size; simp; omega) ?_; intro v2 w2 ho2 hg2 hnn; clear hnn; have HU2 : Kept (UIn w w2 v2 (l ++ [((s[j]'hlt, false) : Un)])) := ⟨HU.out.grow hg2 ho2⟩; clear ho2 hg2)
          go_roundw
          case rel => exact ⟨j + 1, _, by omega, by go_num, HU2, HX2, ⟨by have := HL0.out; rw [List.length_append]; show l.length + 1 ≤ j + 1; omega⟩⟩
          case measure => simp [intOf]; omega
    · obtain rfl : j = s.size := by omega
      have HR : Kept (un (toL s) = l) := ⟨by
        have := HX.out
        rw [List.drop_eq_nil_of_le (by rw [toL_length]; exact Nat.le_refl _), un, List.append_nil] at this
        exact this⟩
      obtain ⟨A0, q0, rfl⟩ := own_shape HU.out.own
      clear hlt
      go_wp2_with fail
      go_ret
      rw [HR.out]
      exact ⟨⟨A0, q0, rfl, (US.of_own HU.out.own (by have := HL0.out; have := HS.out; omega)).2⟩, HU.out.bel⟩
end Pm
end Go.Proofs.Ytkifnabkoidhcaa
