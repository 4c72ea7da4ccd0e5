/-
  strings.ReplaceAll of a quote, by the quote in words that a shell reads.
-/
import Derived.Test.YtphgnjjblpmijaaDoorWq3M
import Derived.IntWalk
import Derived.Test.YtphgnjjblpmijaaDoorWr4M
import Derived.Test.YtphgnjjblpmijaaDoorWr7M
namespace Go.Proofs.YtphgnjjblpmijaaDoor
open Go.RowKit Tx
namespace Bl
def esc (l : List UInt8) : List UInt8 := l.flatMap fun c => if c = 39 then [39, 92, 39, 39] else [c]
theorem esc_append (a b : List UInt8) : esc (a ++ b) = esc a ++ esc b := by simp [esc, List.flatMap_append]
theorem esc_none : ∀ {l : List UInt8}, l.count 39 = 0 → esc l = l
  | [], _ => rfl
  | c :: r, h => by
    rw [List.count_cons] at h
    have hc : ¬ c = 39 := fun e => by subst e; simp at h
    have hr := esc_none (l := r) (by omega)
    show (if c = 39 then [39, 92, 39, 39] else [c]) ++ esc r = _
    rw [if_neg hc, hr]; rfl
theorem esc_len (l : List UInt8) : (esc l).length = l.length + 3 * l.count 39 := by
  induction l with
  | nil => rfl
  | cons c r ih =>
    show ((if c = 39 then [39, 92, 39, 39] else [c]) ++ esc r).length = _
    rw [List.length_append, ih, List.length_cons, List.count_cons]
    split
    · rename_i h; subst h; simp; omega
    · rename_i h; simp [h]; omega
/-- Where the first quote is. -/
theorem index_at : ∀ {l : List UInt8}, 0 < l.count 39 → ∃ k : Nat, Lib.indexByte l 39 = (k : Int) ∧ k < l.length ∧ (l.take k).count 39 = 0 ∧ l.take (k + 1) = l.take k ++ [39] ∧ (l.drop (k + 1)).count 39 + 1 = l.count 39
  | [], h => by simp at h
  | c :: r, h => by
    by_cases hc : c = 39
    · subst hc
      exact ⟨0, by unfold Lib.indexByte; simp, by simp, by simp, by simp, by simp⟩
    · have hc2 : (c == 39) = false := by simpa using hc
      rw [List.count_cons, hc2] at h
      obtain ⟨k, h1, h2, h3, h4, h5⟩ := index_at (l := r) (by simpa using h)
      refine ⟨k + 1, ?_, by simpa using h2, ?_, ?_, ?_⟩
      · unfold Lib.indexByte
        have : ¬ ((k : Int) == -1) = true := by simp
        rw [hc2, h1, if_neg (by simp), if_neg this]; rfl
      · rw [List.take_succ_cons, List.count_cons, hc2, h3]; rfl
      · rw [List.take_succ_cons, h4, List.take_succ_cons]; rfl
      · rw [List.drop_succ_cons, h5, List.count_cons, hc2]; rfl
theorem count_is (x : ByteArray) (n : Int) (h : (((toL x).count 39 : Nat) : Int) = n) (w : World) : Calls Tryd.prog 51 #[.string x, .string ⟨#[39]⟩] w fun e w' => e = .returned (.int .i64 n) ∧ w' = w := by
  have := Tryd.strings_Count_one x 39 w
  rwa [show ((Lib.countByte x.data.toList 39 : Nat) : Int) = n from h] at this
theorem index_is (x : ByteArray) (n : Int) (h : Lib.indexByte (toL x) 39 = n) (w : World) : Calls Tryd.prog 53 #[.string x, .string ⟨#[39]⟩] w fun e w' => e = .returned (.int .i64 n) ∧ w' = w := by
  have := Tryd.strings_Index_one x 39 w
  rwa [show Lib.indexByte x.data.toList 39 = n from h] at this
set_option maxHeartbeats 4000000 in
set_option maxRecDepth 100000 in
theorem replace_any (x : ByteArray) (w : World) (hx : x.size ≤ 1000000) :
    Calls Tryd.prog 40 #[.string x, .string ⟨#[39]⟩, .string ⟨#[39, 92, 39, 39]⟩, .int .i64 (-1)] w fun e w' => e = .returned (.string (bs (esc (toL x)))) ∧ Below w.heap.size w w' := by
  have hcl := List.count_le_length (a := (39 : UInt8)) (l := toL x)
  rw [toL_length] at hcl
  by_cases h0 : (toL x).count 39 = 0
  · have HE : Kept (bs (esc (toL x)) = x) := ⟨by rw [esc_none h0, bs_toL]⟩
    have HC : Kept ((((toL x).count 39 : Nat) : Int) = 0) := ⟨by omega⟩
    clear h0 hcl
    go_enter Tryd.func40, Tryd.ntmps40
    go_wp2_with (go_at_call 51; refine (count_is x 0 HC.out _).mono ?_; rintro e w' ⟨rfl, rfl⟩)
    go_ret
    exact ⟨by rw [HE.out]; rfl, Below.refl _ _⟩
  · obtain ⟨n, hn⟩ : ∃ n, n = (toL x).count 39 := ⟨_, rfl⟩
    have HC : Kept ((((toL x).count 39 : Nat) : Int) = (n : Int)) := ⟨by rw [hn]⟩
    have HN := Kept.mk hn
    have n1 : ¬ (n : Int) = 0 := by omega
    have n2 : (n : Int) ≤ 1000000 := by omega
    have hnl : n ≤ x.size := by omega
    clear h0 hcl hn
    go_enter Tryd.func40, Tryd.ntmps40
    go_wp2_with (go_at_call 51; refine (count_is x (n : Int) HC.out _).mono ?_; rintro e w' ⟨rfl, rfl⟩)
    go_at_call 52
    rw [show (x.size : Int) + (n : Int) * 3 = ((x.size + n * 3 : Nat) : Int) by omega]
    refine (Grow_fresh w'.heap.size w'.heap.size (x.size + n * 3) _ (Nat.le_refl _) (heap_alloc_new w' _) (by simp) (by omega)).mono ?_
    rintro e w2 ⟨rfl, ⟨v, hA⟩, hb⟩
    have HA := Kept.mk hA
    have HB : Kept (Below w'.heap.size w' w2) := ⟨((Below.refl _ _).alloc (Nat.le_refl _) _).trans hb⟩
    clear hA hb
    go_wp2_with fail
    go_loopw [11, 12, 53] (fun s j i wr => ∃ (k a : Nat) (v : Value), k ≤ n ∧ a ≤ x.size ∧ i = .int .i64 (k : Int) ∧ s = .int .i64 (a : Int) ∧ Kept (((toL x).drop a).count 39 + k = n) ∧ Kept (At 48 [] w'.heap.size w'.heap.size (.pointer (some ⟨w'.heap.size, 0, none⟩)) v (esc ((toL x).take a)) wr) ∧ Kept (Below w'.heap.size w' wr)) (fun _ _ i _ => n - (intOf i).toNat)
    case atStart => exact ⟨0, 0, v, by omega, by omega, rfl, rfl, ⟨by rw [List.drop_zero]; exact HN.out.symm⟩, ⟨by rw [List.take_zero]; exact HA.out⟩, HB⟩
    case round =>
      obtain ⟨k, a, v, hk, ha, rfl, rfl, HK, HA, HB⟩ := hrel
      have k0 : (0 : Int) ≤ k := by omega
      have a0 : (0 : Int) ≤ a := by omega
      by_cases hlt : k < n
      · have k1 : (k : Int) < (n : Int) := by omega
        obtain ⟨m, h1, h2, h3, h4, h5⟩ := index_at (l := (toL x).drop a) (by have := HK.out; omega)
        rw [List.length_drop, toL_length] at h2
        obtain ⟨X, hX⟩ : ∃ X, X = x.extract a x.size := ⟨_, rfl⟩
        have hXl : toL X = (toL x).drop a := by rw [hX, toL_extract, List.take_of_length_le (by rw [List.length_drop, toL_length]; omega)]
        have ex : ∀ W : World, (Instr.slice 9 (.string x) (some (.int .i64 (a : Int))) none none).run Tryd.prog W = .ok (.string X) W := fun W => by
          rw [run_slice_string_from_if W 9 x .i64 _ Tryd.underlying9, if_pos ⟨by omega, by omega⟩, Int.toNat_natCast, hX]
        obtain ⟨Y, hY⟩ : ∃ Y, Y = x.extract a (a + m) := ⟨_, rfl⟩
        have hYl : toL Y = ((toL x).drop a).take m := by rw [hY, toL_extract]; congr 1; omega
        have ey : ∀ W : World, (Instr.slice 9 (.string x) (some (.int .i64 (a : Int))) (some (.int .i64 ((a : Int) + (m : Int)))) none).run Tryd.prog W = .ok (.string Y) W := fun W => by
          rw [run_slice_string_if W 9 x .i64 .i64 _ _ Tryd.underlying9, if_pos ⟨by omega, by omega⟩, if_pos ⟨by omega, by omega⟩, hY, show ((a : Int) + (m : Int)).toNat = a + m by omega, Int.toNat_natCast]
        have HI : Kept (Lib.indexByte (toL X) 39 = (m : Int)) := ⟨by rw [hXl]; exact h1⟩
        have hys : Y.size ≤ 1000000 := by rw [← toL_length, hYl, List.length_take, List.length_drop, toL_length]; omega
        have hes : (esc ((toL x).take a)).length ≤ 4000000 := by
          have := esc_len ((toL x).take a)
          have h6 := List.count_le_length (a := (39 : UInt8)) (l := (toL x).take a)
          have h7 : ((toL x).take a).length ≤ 1000000 := by rw [List.length_take, toL_length]; omega
          omega
        have HJ : Kept (((toL x).drop (a + m + 1)).count 39 + (k + 1) = n) := ⟨by have := HK.out; rw [List.drop_drop] at h5; rw [show a + m + 1 = a + (m + 1) by omega]; omega⟩
        have HE : Kept (esc ((toL x).take (a + m + 1)) = esc ((toL x).take a) ++ toL Y ++ toL ⟨#[39, 92, 39, 39]⟩) := ⟨by
          have e1 : (toL x).take (a + m + 1) = (toL x).take a ++ ((toL x).drop a).take (m + 1) := by
            rw [show a + m + 1 = a + (m + 1) by omega, List.take_add]
          rw [e1, esc_append, h4, esc_append, hYl, esc_none h3, List.append_assoc]
          rfl⟩
        have HS := Kept.mk hes
        have HYs := Kept.mk hys
        have Z1 : Kept ((a : Int) + (m : Int) + 1 = ((a + m + 1 : Nat) : Int)) := ⟨by omega⟩
        have z2 : IntKind.i64.wrap ((a : Int) + (m : Int) + 1) = (a : Int) + (m : Int) + 1 := IntWalk.i64_in _ (by omega)
        have z3 : IntKind.i64.wrap ((k : Int) + 1) = (k : Int) + 1 := IntWalk.i64_in _ (by omega)
        have hb1 : (a : Int) + (m : Int) ≤ 1000000 := by omega
        have ham : a + m + 1 ≤ x.size := by omega
        clear h1 h3 h4 h5 hX hY hXl hYl hes hys HK
        go_wp2_with (go_at_call 53; refine (index_is X (m : Int) HI.out _).mono ?_; rintro e w' ⟨rfl, rfl⟩)
        go_at_call 28
        refine (writeString_any 48 [] lies_builder _ _ _ v _ Y _ HA.out (.inr rfl) (Nat.le_refl _) (by have := HS.out; have := HYs.out; omega) HB.out.size).mono ?_
        rintro e w3 ⟨rfl, v3, hA3, hL3⟩
        have HA3 := Kept.mk hA3
        have HB3 := Kept.mk (HB.out.trans hL3.bl)
        clear hA3 hL3
        go_wp2_with fail
        go_at_call 28
        refine (writeString_any 48 [] lies_builder _ _ _ v3 _ ⟨#[39, 92, 39, 39]⟩ _ HA3.out (.inr rfl) (Nat.le_refl _) (by have := HS.out; have := HYs.out; rw [List.length_append, toL_length]; show _ + 4 ≤ _; omega) HB3.out.size).mono ?_
        rintro e w4 ⟨rfl, v4, hA4, hL4⟩
        have HA4 := Kept.mk hA4
        have HB4 := Kept.mk (HB3.out.trans hL4.bl)
        clear hA4 hL4
        go_wp2_with fail
        go_roundw
        case rel => exact ⟨k + 1, a + m + 1, v4, by omega, ham, by go_num, by rw [Z1.out], HJ, ⟨by rw [HE.out]; exact HA4.out⟩, HB4⟩
        case measure => simp [intOf]; omega
      · have k1 : ¬ (k : Int) < (n : Int) := by omega
        have h0 : ((toL x).drop a).count 39 = 0 := by have := HK.out; omega
        obtain ⟨X, hX⟩ : ∃ X, X = x.extract a x.size := ⟨_, rfl⟩
        have hXl : toL X = (toL x).drop a := by rw [hX, toL_extract, List.take_of_length_le (by rw [List.length_drop, toL_length]; omega)]
        have ex : ∀ W : World, (Instr.slice 9 (.string x) (some (.int .i64 (a : Int))) none none).run Tryd.prog W = .ok (.string X) W := fun W => by
          rw [run_slice_string_from_if W 9 x .i64 _ Tryd.underlying9, if_pos ⟨by omega, by omega⟩, Int.toNat_natCast, hX]
        have hxs : X.size ≤ 1000000 := by rw [← toL_length, hXl, List.length_drop, toL_length]; omega
        have hes : (esc ((toL x).take a)).length ≤ 4000000 := by
          have := esc_len ((toL x).take a)
          have h6 := List.count_le_length (a := (39 : UInt8)) (l := (toL x).take a)
          have h7 : ((toL x).take a).length ≤ 1000000 := by rw [List.length_take, toL_length]; omega
          omega
        have HE : Kept (esc (toL x) = esc ((toL x).take a) ++ toL X) := ⟨by
          rw [hXl]
          conv => lhs; rw [← List.take_append_drop a (toL x), esc_append, esc_none h0]⟩
        have HS := Kept.mk hes
        have HXs := Kept.mk hxs
        clear h0 hX hXl hes hxs HK hlt
        go_wp2_with fail
        go_at_call 28
        refine (writeString_any 48 [] lies_builder _ _ _ v _ X _ HA.out (.inr rfl) (Nat.le_refl _) (by have := HS.out; have := HXs.out; omega) HB.out.size).mono ?_
        rintro e w3 ⟨rfl, v3, hA3, hL3⟩
        have HA3 := Kept.mk hA3
        have HB3 := Kept.mk (HB.out.trans hL3.bl)
        clear hA3 hL3
        go_wp2_with fail
        go_at_call 20
        refine (string_any 48 [] _ _ _ v3 _ _ HA3.out HB3.out.size).mono ?_
        rintro e w4 ⟨rfl, hb4⟩
        have HB4 := Kept.mk (HB3.out.trans hb4)
        clear hb4
        go_wp2_with fail
        go_ret
        exact ⟨by rw [HE.out]; rfl, HB4.out⟩
set_option maxRecDepth 100000 in
theorem replaceAll_any (x : ByteArray) (w : World) (hx : x.size ≤ 1000000) :
    Calls Tryd.prog 30 #[.string x, .string ⟨#[39]⟩, .string ⟨#[39, 92, 39, 39]⟩] w fun e w' => e = .returned (.string (bs (esc (toL x)))) ∧ Below w.heap.size w w' := by
  go_enter Tryd.func30, Tryd.ntmps30
  go_wp2_with (go_at_call 40; refine (replace_any x _ hx).mono ?_; rintro e w' ⟨rfl, hb⟩; have HB := Kept.mk hb; clear hb)
  go_ret
  exact ⟨rfl, HB.out⟩
end Bl
end Go.Proofs.YtphgnjjblpmijaaDoor

/-
  The printer in memory: what is told, and the lists that are still to be told.
-/
namespace Go.Proofs.YtphgnjjblpmijaaDoor
open Go.RowKit Tx
namespace Wx

theorem partSize : (Tryd.prog.info? 39).map (·.size) = some 6 := by kernel_rfl
/-! ### What is still to be told -/
abbrev Lists := List (List Pt × List UInt8)
/-- The last list is told first. -/
def told (ls : Lists) : List UInt8 := ls.reverse.flatMap fun x => print x.1 ++ x.2
theorem told_nil : told [] = [] := rfl
theorem told_snoc (ls : Lists) (l : List Pt) (bh : List UInt8) : told (ls ++ [(l, bh)]) = print l ++ bh ++ told ls := by
  simp [told, List.reverse_append, List.flatMap_append]
def meas (ls : Lists) : Nat := (ls.map fun x => 2 * wt x.1 + 1).sum
theorem meas_snoc (ls : Lists) (l : List Pt) (bh : List UInt8) : meas (ls ++ [(l, bh)]) = meas ls + (2 * wt l + 1) := by
  simp [meas]
theorem meas_len (ls : Lists) : ls.length ≤ meas ls := by
  induction ls with
  | nil => simp [meas]
  | cons x ls ih =>
    have : meas (x :: ls) = 2 * wt x.1 + 1 + meas ls := by simp [meas]
    rw [this, List.length_cons]; omega

/-- The cells xs are those of the lists ls. -/
inductive Ls (P : Nat → Prop) (w : World) : List Value → Lists → Prop
  | nil : Ls P w [] []
  | cons (v : Value) (l : List Pt) (bh : List UInt8) (xs : List Value) (ls : Lists) (hv : v.oneCell' = true) (h : LV P w v l) (hr : Ls P w xs ls) : Ls P w (v :: .string (bs bh) :: xs) ((l, bh) :: ls)
section
variable {P : Nat → Prop} {w : World} {xs ys : List Value} {ls ms : Lists}
theorem Ls.length (h : Ls P w xs ls) : xs.length = ls.length * 2 := by
  induction h with
  | nil => rfl
  | cons v l bh xs ls hv h hr ih => rw [List.length_cons, List.length_cons, List.length_cons, ih]; omega
theorem Ls.append (h : Ls P w xs ls) (k : Ls P w ys ms) : Ls P w (xs ++ ys) (ls ++ ms) := by
  induction h with
  | nil => exact k
  | cons v l bh xs ls hv h hr ih => exact .cons v l bh _ _ hv h ih
theorem Ls.snoc {l : List Pt} {bh : List UInt8} (h : Ls P w xs (ls ++ [(l, bh)])) : ∃ ys v, xs = ys ++ [v, .string (bs bh)] ∧ Ls P w ys ls ∧ v.oneCell' = true ∧ LV P w v l := by
  induction ls generalizing xs with
  | nil =>
    cases h with
    | cons v l bh xs ls hv h hr => cases hr; exact ⟨[], v, rfl, .nil, hv, h⟩
  | cons x ls ih =>
    cases h with
    | cons v l2 bh2 xs ls hv h hr =>
      obtain ⟨ys, u, rfl, h1, h2, h3⟩ := ih hr
      exact ⟨v :: .string (bs bh2) :: ys, u, rfl, .cons v l2 bh2 ys _ hv h h1, h2, h3⟩
end
/-- The rest of a list that is read. -/
theorem LV.tail {P : Nat → Prop} {w : World} {g off n cap : Nat} {p : Pt} {l : List Pt} (h : LV P w (.slice (some ⟨g, off, Option.none⟩) (n + 1) cap) (p :: l)) :
    ∃ A c, (∀ W : World, (Instr.slice 26 (.slice (some ⟨g, off, Option.none⟩) (n + 1) cap) (some (.int .i64 1)) Option.none Option.none).run Tryd.prog W = .ok (.slice A n c) W) ∧ LV P w (.slice A n c) l := by
  cases h with
  | «at» g off n cap xs l hn hm hP hg hc h =>
    have h6 : ∀ W : World, (sizeOf (Tryd.prog.elem 26)).run Tryd.prog W = .ok 6 W := fun W => by
      obtain ⟨j, hj, hs⟩ := Option.map_eq_some_iff.1 partSize
      have he : Tryd.prog.elem 26 = 39 := by kernel_rfl
      rw [he]
      simp [sizeOf, typeInfo, hj, hs]
    have hrun : ∀ W : World, (Instr.slice 26 (.slice (some ⟨g, off, Option.none⟩) (n + 1) cap) (some (.int .i64 1)) Option.none Option.none).run Tryd.prog W = .ok (sliced (some ⟨g, off, Option.none⟩) 1 (n + 1) cap 6) W := fun W => by
      rw [run_slice_l W 26 _ _ _ (by kernel_rfl) .i64 1 (by decide) (by omega), h6]; rfl
    cases h with
    | cons k q t nn o wd v xs l hv h hr =>
      by_cases h1 : cap = 1
      · have hn0 : n = 0 := by omega
        have hl0 : l = [] := List.eq_nil_of_length_eq_zero (by have : l.length + 1 = n + 1 := hn; omega)
        subst hn0 h1 hl0
        exact ⟨_, _, hrun, .nil _ _ (fun e => by cases e)⟩
      · refine ⟨some ⟨g, off + 6, Option.none⟩, cap - 1, fun W => by rw [hrun W]; unfold sliced; rw [if_neg h1]; rfl, .at g (off + 6) _ _ xs l (by simpa using hn) (by omega) hP hg (fun j u hu => ?_) hr⟩
        have := hc (j + 6) u (by rw [List.getElem?_append_right (by show 6 ≤ j + 6; omega)]; exact hu)
        rwa [show off + (j + 6) = off + 6 + j by omega] at this

/-! ### Rows -/
theorem own_set {w : World} {B n cap g sz i : Nat} {E : TypeId} {xs : List Value} (h : w.ownsRow B E sz (.slice (some ⟨g, 0, none⟩) n cap) n xs) (u : Value) : (w.setCell ⟨g, i, none⟩ u).ownsRow B E sz (.slice (some ⟨g, 0, none⟩) n cap) n (xs.set i u) := by
  rcases h.2 with ⟨h0, _⟩ | ⟨g', cap', cur, he, hB, hg, hnc, hcm, hcs, htake⟩
  · cases h0
  · cases he
    refine ⟨by rw [List.length_set]; exact h.1, .inr ⟨g, cap, cur.setIfInBounds i u, rfl, hB, by have := heap_setCell_same w g i _ _ u hg; simpa using this, hnc, hcm, by simpa using hcs, ?_⟩⟩
    rw [Array.toList_setIfInBounds, List.take_set, htake]
theorem own_pop {w : World} {B n m cap sz : Nat} {A : Option Addr} {E : TypeId} {xs ys : List Value} (h : w.ownsRow B E sz (.slice A m cap) m (xs ++ ys)) (hx : xs.length = n * sz) (hm : n ≤ m) (h0 : 0 < m) : w.ownsRow B E sz (.slice A n cap) n xs := by
  rcases h.2 with ⟨h1, h2⟩ | ⟨g', cap', cur, he, hB, hg, hnc, hcm, hcs, htake⟩
  · omega
  · cases he
    refine ⟨hx, .inr ⟨g', cap, cur, rfl, hB, hg, by omega, hcm, hcs, ?_⟩⟩
    have h3 := congrArg (List.take (n * sz)) htake
    rw [List.take_take, List.take_left' hx, Nat.min_eq_left (Nat.mul_le_mul_right _ hm)] at h3
    exact h3
theorem own_cell {w : World} {B n cap sz g : Nat} {E : TypeId} {xs : List Value} (h : w.ownsRow B E sz (.slice (some ⟨g, 0, none⟩) n cap) n xs) : ∀ j u, xs[j]? = some u → w.cell? ⟨g, j, none⟩ = some u := by
  intro j u hu
  have := h.cells (g := g) rfl j u hu
  have hadd : (⟨g, 0, none⟩ : Addr).add j = ⟨g, j, none⟩ := by unfold Addr.add; split <;> simp_all
  rwa [hadd] at this
theorem own_keep2 {w w' : World} {B n size : Nat} {e : TypeId} {v : Value} {xs : List Value} (h : w.ownsRow B e size v n xs) (hb : ∀ g cur, v.ownBlock = some g → w.heap[g]? = some (.cells cur e (0, 0)) → w'.heap[g]? = some (.cells cur e (0, 0))) : w'.ownsRow B e size v n xs := by
  refine ⟨h.1, ?_⟩
  rcases h.2 with h0 | ⟨g, cap, cur, rfl, hB, hg, r⟩
  · exact .inl h0
  · exact .inr ⟨g, cap, cur, rfl, hB, hb g cur rfl hg, r⟩
theorem own_lt2 {w : World} {B n size : Nat} {e : TypeId} {v : Value} {xs : List Value} (h : w.ownsRow B e size v n xs) : ∀ g, v.ownBlock = some g → B ≤ g ∧ ∃ cur, w.heap[g]? = some (.cells cur e (0, 0)) := by
  intro g hg
  rcases h.2 with ⟨rfl, _⟩ | ⟨k, cap, cur, rfl, hB, hk, _⟩
  · cases hg
  · injection hg with hg
    have : k = g := hg
    subst this
    exact ⟨hB, cur, hk⟩

/-! ### The printer -/
/-- w0: the world in which the parts lie. -/
structure PrM (P : Nat → Prop) (w0 w : World) (b : Nat) (p v vl : Value) (out : List UInt8) (ls : Lists) : Prop where
  at_ : Bl.At 50 [vl] w0.heap.size b p v out w
  self : p = .pointer none ∨ p = .pointer (some ⟨b, 0, none⟩)
  hb : w0.heap.size ≤ b
  lists : ∃ xs, w.ownsRow w0.heap.size 44 2 vl ls.length xs ∧ Ls P w0 xs ls
  bel : Below w0.heap.size w0 w
section
variable {P : Nat → Prop} {w0 w w' : World} {b : Nat} {p v vl : Value} {out : List UInt8} {ls : Lists} {l : List Pt} {bh : List UInt8}
theorem PrM.c2 (h : PrM P w0 w b p v vl out ls) : w.cell? ⟨b, 2, none⟩ = some vl := cell_of_row _ _ 2 _ _ _ h.at_.row
theorem PrM.slice (h : PrM P w0 w b p v vl out ls) : ∃ A k, vl = .slice A ls.length k := by
  obtain ⟨xs, ho, _⟩ := h.lists
  rcases ho.2 with ⟨rfl, h0⟩ | ⟨g, cap, cur, rfl, _⟩
  · rw [h0]; exact ⟨_, _, rfl⟩
  · exact ⟨_, _, rfl⟩
theorem PrM.below (h : PrM P w0 w b p v vl out ls) (hb : Below w.heap.size w w') : PrM P w0 w' b p v vl out ls := by
  obtain ⟨xs, ho, hx⟩ := h.lists
  have hk : ∀ g o, w.heap[g]? = some o → w'.heap[g]? = some o := fun g o hg => (hb.block g (Array.getElem?_eq_some_iff.1 hg).1).trans hg
  refine ⟨⟨hk b _ h.at_.row, ?_, h.at_.ty⟩, h.self, h.hb, ⟨xs, own_keep2 ho fun g cur _ hg => hk g _ hg, hx⟩, h.bel.trans (hb.mono h.bel.size)⟩
  refine ⟨h.at_.own.1, ?_⟩
  rcases h.at_.own.2 with h0 | ⟨g, cap, cur, fz, hv, hB, hg, r⟩
  · exact .inl h0
  · exact .inr ⟨g, cap, cur, fz, hv, hB, hk g _ hg, r⟩
theorem PrM.wrote {p2 v2 : Value} {out2 : List UInt8} (h : PrM P w0 w b p v vl out ls) (hs : p2 = .pointer none ∨ p2 = .pointer (some ⟨b, 0, none⟩)) (hA : Bl.At 50 [vl] w0.heap.size b p2 v2 out2 w') (hL : Bl.Left w0.heap.size b w w') : PrM P w0 w' b p2 v2 vl out2 ls := by
  obtain ⟨xs, ho, hx⟩ := h.lists
  refine ⟨hA, hs, h.hb, ⟨xs, own_keep2 ho fun g cur _ hg => hL.oth g _ hg ?_ (show 44 ≠ 5 by decide), hx⟩, h.bel.trans hL.bl⟩
  rintro rfl
  rw [h.at_.row] at hg
  injection hg with hg
  injection hg with _ hg
  exact absurd hg (by decide)
theorem PrM.last (h : PrM P w0 w b p v vl out (ls ++ [(l, bh)])) : ∃ g k u, vl = .slice (some ⟨g, 0, none⟩) (ls.length + 1) k ∧ u.oneCell' = true ∧ LV P w0 u l ∧ w.cell? ⟨g, ls.length * 2, none⟩ = some u ∧ w.cell? ⟨g, ls.length * 2 + 1, none⟩ = some (.string (bs bh)) ∧ w.frozen? ⟨g, ls.length * 2, none⟩ = false ∧ g ≠ b ∧ ls.length + 1 ≤ k := by
  obtain ⟨xs, ho, hx⟩ := h.lists
  obtain ⟨ys, u, rfl, h1, h2, h3⟩ := hx.snoc
  have hyl := h1.length
  rw [List.length_append, List.length_singleton] at ho
  have ho2 := ho
  rcases ho.2 with ⟨_, h0⟩ | ⟨g, cap, cur, rfl, hB, hg, hcap, _⟩
  · omega
  · refine ⟨g, cap, u, rfl, h2, h3, own_cell ho2 _ _ ?_, own_cell ho2 _ _ ?_, frozen_of_row _ _ _ _ _ hg, ?_, hcap⟩
    · rw [List.getElem?_append_right (by omega), hyl, Nat.sub_self]; rfl
    · rw [List.getElem?_append_right (by omega), hyl, Nat.add_sub_cancel_left]; rfl
    · rintro rfl
      rw [h.at_.row] at hg
      injection hg with hg
      injection hg with _ hg
      exact absurd hg (by decide)
/-- What is told first is one part less. -/
theorem PrM.cut {g k : Nat} {u : Value} {l2 : List Pt} (h : PrM P w0 w b p v (.slice (some ⟨g, 0, none⟩) (ls.length + 1) k) out (ls ++ [(l, bh)])) (hu : u.oneCell' = true) (hl : LV P w0 u l2) :
    PrM P w0 (w.setCell ⟨g, ls.length * 2, none⟩ u) b p v (.slice (some ⟨g, 0, none⟩) (ls.length + 1) k) out (ls ++ [(l2, bh)]) := by
  obtain ⟨xs, ho, hx⟩ := h.lists
  obtain ⟨ys, u0, rfl, h1, h2, h3⟩ := hx.snoc
  have hyl := h1.length
  obtain ⟨hB, cur, hg⟩ := own_lt2 ho g rfl
  have hgb : b ≠ g := by
    rintro rfl
    rw [h.at_.row] at hg
    injection hg with hg
    injection hg with _ hg
    exact absurd hg (by decide)
  rw [List.length_append, List.length_singleton] at ho
  have ho2 := own_set (i := ls.length * 2) ho u
  have he : (ys ++ [u0, .string (bs bh)]).set (ls.length * 2) u = ys ++ [u, .string (bs bh)] := by
    rw [List.set_append_right _ _ (by omega), hyl, Nat.sub_self]; rfl
  rw [he] at ho2
  refine ⟨⟨(Below.heap_setCell w _ _ b hgb).trans h.at_.row, ?_, h.at_.ty⟩, h.self, h.hb, ⟨_, by rw [List.length_append, List.length_singleton]; exact ho2, h1.append (.cons u l2 bh [] [] hu hl .nil)⟩, h.bel.setCell (p := ⟨g, ls.length * 2, none⟩) hB _⟩
  refine ⟨h.at_.own.1, ?_⟩
  rcases h.at_.own.2 with h0 | ⟨g2, cap, cur2, fz, hv, hB2, hg2, r⟩
  · exact .inl h0
  · refine .inr ⟨g2, cap, cur2, fz, hv, hB2, (Below.heap_setCell w _ _ g2 ?_).trans hg2, r⟩
    rintro rfl
    rw [hg] at hg2
    injection hg2 with hg2
    injection hg2 with _ hg2
    exact absurd hg2 (by decide)
theorem at_keep {T : TypeId} {r : List Value} {B : Nat} (h : Bl.At T r B b p v out w) (hT : T ≠ 44) (hk : ∀ (g : Nat) (cs : Array Value) (t : TypeId) (fz : Nat × Nat), w.heap[g]? = some (Obj.cells cs t fz) → t ≠ 44 → w'.heap[g]? = some (Obj.cells cs t fz)) : Bl.At T r B b p v out w' := by
  refine ⟨hk b _ _ _ h.row hT, ⟨h.own.1, ?_⟩, h.ty⟩
  rcases h.own.2 with h0 | ⟨g2, cap, cur2, fz, hv, hB2, hg2, r⟩
  · exact .inl h0
  · exact .inr ⟨g2, cap, cur2, fz, hv, hB2, hk g2 _ _ _ hg2 (by decide), r⟩
theorem setCell2_row {w : World} {b : Nat} {p v vl u : Value} (hr : w.heap[b]? = some (.cells (p :: v :: [vl]).toArray 50 (0, 0))) : (w.setCell ⟨b, 2, none⟩ u).heap[b]? = some (.cells (p :: v :: [u]).toArray 50 (0, 0)) := by
  have := heap_setCell_same w b 2 _ _ u hr
  simpa using this
/-- Other lists are to be told. -/
theorem PrM.put {u : Value} {ms : Lists} {xs : List Value} (h : PrM P w0 w b p v vl out ls) (ho : w'.ownsRow w0.heap.size 44 2 u ms.length xs) (hx : Ls P w0 xs ms) (hbel : Below w0.heap.size w0 w') (hA : Bl.At 50 [vl] w0.heap.size b p v out w') :
    PrM P w0 (w'.setCell ⟨b, 2, none⟩ u) b p v u out ms := by
  refine ⟨⟨setCell2_row hA.row, ?_, hA.ty⟩, h.self, h.hb, ⟨xs, own_keep2 ho fun g cur _ hg => (Below.heap_setCell w' _ _ g ?_).trans hg, hx⟩, hbel.setCell (p := ⟨b, 2, none⟩) h.hb _⟩
  · refine ⟨hA.own.1, ?_⟩
    rcases hA.own.2 with h0 | ⟨g2, cap, cur2, fz, hv, hB2, hg2, r⟩
    · exact .inl h0
    · refine .inr ⟨g2, cap, cur2, fz, hv, hB2, (Below.heap_setCell w' _ _ g2 ?_).trans hg2, r⟩
      rintro rfl
      rw [hA.row] at hg2
      injection hg2 with hg2
      injection hg2 with _ hg2
      exact absurd hg2 (by decide)
  · rintro rfl
    rw [hA.row] at hg
    injection hg with hg
    injection hg with _ hg
    exact absurd hg (by decide)
/-- The last list ends. -/
theorem PrM.pop {A : Option Addr} {k : Nat} (h : PrM P w0 w b p v (.slice A (ls.length + 1) k) out (ls ++ [(l, bh)])) :
    PrM P w0 (w.setCell ⟨b, 2, none⟩ (.slice A ls.length k)) b p v (.slice A ls.length k) out ls := by
  obtain ⟨xs, ho, hx⟩ := h.lists
  obtain ⟨ys, u0, rfl, h1, h2, h3⟩ := hx.snoc
  rw [List.length_append, List.length_singleton] at ho
  exact (h.put (ms := ls) (own_pop ho h1.length (by omega) (by omega)) h1 h.bel h.at_)
/-- One list more. -/
theorem PrM.push {w2 : World} {xs : List Value} {u v2 : Value} {o : Obj} {wd : List Pt} {bh : List UInt8} (h : PrM P w0 w b p v vl out ls) (ho : w.ownsRow w0.heap.size 44 2 vl ls.length xs) (hx : Ls P w0 xs ls) (hg : (w.alloc o).drew.grownBy w2 vl.ownBlock) (ho2 : w2.ownsRow w0.heap.size 44 2 v2 (ls.length + 1) (xs ++ [u, .string (bs bh)])) (hu : u.oneCell' = true) (hl : LV P w0 u wd) :
    PrM P w0 (w2.setCell ⟨b, 2, none⟩ v2) b p v v2 out (ls ++ [(wd, bh)]) ∧ w2.heap[b]? = w.heap[b]? := by
  have hk : ∀ (g : Nat) (cs : Array Value) (t : TypeId) (fz : Nat × Nat), w.heap[g]? = some (Obj.cells cs t fz) → t ≠ 44 → w2.heap[g]? = some (Obj.cells cs t fz) := fun g cs t fz hh ht => by
    have hlt := (Array.getElem?_eq_some_iff.1 hh).1
    refine (hg.block g (by simp; omega) (fun e => ?_)).trans ((Below.heap_alloc w o g hlt).trans hh)
    obtain ⟨_, cur, hc⟩ := own_lt2 ho g e.symm
    rw [hc] at hh
    injection hh with hh
    injection hh with _ hh
    exact ht hh.symm
  have hA := at_keep h.at_ (by decide) hk
  refine ⟨h.put (ms := ls ++ [(wd, bh)]) (by rw [List.length_append]; exact ho2) (hx.append (.cons u wd bh [] [] hu hl .nil)) ?_ hA, hA.row.trans h.at_.row.symm⟩
  refine h.bel.trans ((((Below.refl _ _).alloc h.bel.size o).drew).grown hg ?_ fun k hk => (own_lt2 ho k hk).1)
  have := h.bel.size
  simp; omega
end
end Wx
end Go.Proofs.YtphgnjjblpmijaaDoor
