/-
  Where the first byte is that ends a run: strings.IndexAny at four bytes.
-/
import Derived.Test.YtphgnjjblpmijaaDoorWp7M
import Derived.Lib.OthersKept
import Derived.Lib.IndexAny
namespace Go.Proofs.YtphgnjjblpmijaaDoor
open Go.RowKit Tx
namespace Wx

def runL (l : List UInt8) : Nat := (l.takeWhile lit).length
theorem runL_le (l : List UInt8) : runL l ≤ l.length := takeW_le _ _
theorem run_cons (c : UInt8) (l : List UInt8) : runL (c :: l) = if lit c = true then runL l + 1 else 0 := by
  unfold runL
  rw [List.takeWhile_cons]
  split <;> simp
theorem run_all : ∀ (n : Nat) {l : List UInt8}, n ≤ l.length → (∀ j (h : j < l.length), j < n → lit (l[j]'h) = true) → runL l = n + runL (l.drop n)
  | 0, l, _, _ => by rw [List.drop_zero, Nat.zero_add]
  | n + 1, [], h, _ => by simp at h
  | n + 1, c :: l, h, hl => by
    have h0 : lit c = true := hl 0 (by simp) (by omega)
    rw [run_cons, if_pos h0, List.drop_succ_cons, run_all n (l := l) (by simpa using h) fun j hj hn => by
      have := hl (j + 1) (by simpa using hj) (by omega)
      simpa using this]
    omega
theorem indexAny_is (l : List UInt8) : Lib.indexAny l [92, 39, 34, 36] = if runL l < l.length then ((runL l : Nat) : Int) else -1 := by
  induction l with
  | nil => rfl
  | cons c l ih =>
    have hc : ([92, 39, 34, 36] : List UInt8).contains c = !lit c := by
      have h := mark_at c
      cases hl : lit c with
      | true =>
        obtain ⟨h1, h2, h3, h4⟩ := lit_is hl
        simp [h1, h2, h3, h4]
      | false =>
        have : ¬ (c ≠ 92 ∧ c ≠ 39 ∧ c ≠ 34 ∧ c ≠ 36) := fun ⟨h1, h2, h3, h4⟩ => by
          have : lit c = true := by simp only [lit, Bool.and_eq_true, bne_iff_ne]; exact ⟨⟨⟨h1, h2⟩, h3⟩, h4⟩
          rw [hl] at this; cases this
        simp
        by_cases h1 : c = 92
        · exact .inl h1
        · by_cases h2 : c = 39
          · exact .inr (.inl h2)
          · by_cases h3 : c = 34
            · exact .inr (.inr (.inl h3))
            · by_cases h4 : c = 36
              · exact .inr (.inr (.inr h4))
              · exact absurd ⟨h1, h2, h3, h4⟩ this
    unfold Lib.indexAny
    rw [hc, run_cons, ih, List.length_cons]
    cases hl : lit c with
    | false => simp
    | true =>
      simp only [Bool.not_true, Bool.false_eq_true, if_false, if_true]
      by_cases h : runL l < l.length
      · rw [if_pos h, if_pos (show runL l + 1 < l.length + 1 by omega)]
        have : ¬ (((runL l : Nat) : Int) == -1) = true := by simp
        rw [if_neg this]; omega
      · rw [if_neg h, if_neg (show ¬ runL l + 1 < l.length + 1 by omega)]; rfl
theorem ascii_zero : ∀ w : World, (zeroValue 95).run Tryd.prog w = .ok (.agg (Array.replicate 256 (.bool false))) w := fun w => by kernel_rfl
set_option maxRecDepth 100000 in
theorem small_any (n : Nat) (w : World) (h : ¬ (8 : Int) < (n : Int)) : Calls Tryd.prog 63 #[.int .i64 (n : Int)] w fun e w' => e = .returned (.bool false) ∧ w' = w := by
  go_enter Tryd.func63, Tryd.ntmps63
  go_wp2_with fail
  go_ret
  exact ⟨rfl, rfl⟩
set_option maxHeartbeats 4000000 in
set_option maxRecDepth 100000 in
theorem indexAny_any (s : ByteArray) (w : World) (hs : s.size ≤ 1000000) (r : Int) (hr : Kept (r = if runL (toL s) < s.size then ((runL (toL s) : Nat) : Int) else -1)) :
    Calls Tryd.prog 43 #[.string s, .string marks] w fun e w' => e = .returned (.int .i64 r) ∧ Below w.heap.size w w' := by
  by_cases h8 : 8 < s.size
  · refine (Tryd.strings_IndexAny_long ascii_zero s marks w (by decide) h8 (by omega) (by decide) ?_).mono ?_
    · intro j b hj
      have hm : b ∈ [(92 : UInt8), 39, 34, 36] := List.mem_of_getElem? hj
      simp only [List.mem_cons, List.not_mem_nil, or_false] at hm
      rcases hm with rfl | rfl | rfl | rfl <;> decide
    · rintro e w' ⟨rfl, rfl⟩
      refine ⟨?_, ((Below.refl _ _).alloc (Nat.le_refl _) _).alloc (by simp) _⟩
      have h1 := indexAny_is (toL s)
      rw [toL_length, ← hr.out] at h1
      exact congrArg (fun z => Ending.returned (Value.int .i64 z)) h1
  · have hz : ¬ (8 : Int) < (s.size : Int) := by omega
    have hms : (marks.toList == ([] : List UInt8)) = false := by decide +kernel
    have hm4 : ¬ (marks.size : Int) = 1 := by rw [marks_size]; decide
    clear h8
    go_enter Tryd.func43, Tryd.ntmps43
    go_wp2_with fail
    go_at_call 63
    refine (small_any s.size _ (by omega)).mono ?_
    rintro e w1 ⟨rfl, rfl⟩
    go_wp2_with fail
    go_loopg [9, 10] s.size (fun m _ _ wr => ∃ k : Nat, k ≤ s.size ∧ s.size - k ≤ m ∧ wr.heap[w1.heap.size]? = some (.stringIter s k) ∧ Kept (Below w1.heap.size w1 wr) ∧ Kept (runL (toL s) = k + runL ((toL s).drop k)))
    case atStart => exact ⟨0, by omega, by omega, heap_alloc_new w1 _, ⟨(Below.refl _ _).alloc (Nat.le_refl _) _⟩, ⟨by rw [List.drop_zero, Nat.zero_add]⟩⟩
    case round =>
      obtain ⟨k, hk, hkm, hit, HB, HR⟩ := hrel
      by_cases hlt : k < s.size
      · have hnx := fun ty => Lib.run_next_any_at (P := Tryd.prog) wr w1.heap.size s k ty hit hlt
        have hit2 := fun n => Lib.iterAt_heap wr w1.heap.size s k n hit
        have hdr := drop_at hlt
        by_cases hb : (s[k]'hlt).toNat < 128
        · rw [decode_ascii s k hlt hb] at hnx
          have hI : ∀ W : World, Calls Tryd.prog 62 #[.string marks, .int .i32 ((s[k]'hlt).toNat : Int)] W fun e w' => e = .returned (.int .i64 (Lib.indexByte [92, 39, 34, 36] (s[k]'hlt))) ∧ w' = W := fun W => by
            refine (Tryd.strings_IndexRune_ascii marks _ W (by omega) (by omega)).mono ?_
            rintro e w' ⟨rfl, rfl⟩
            refine ⟨?_, rfl⟩
            rw [show (((s[k]'hlt).toNat : Nat) : Int).toNat.toUInt8 = s[k]'hlt by rw [Int.toNat_natCast]; simp]
            rfl
          have HI := Kept.mk hI
          have hm := mark_at (s[k]'hlt)
          have HIt := Kept.mk (hit2 (k + 1))
          have HB2 : Kept (Below w1.heap.size w1 (wr.iterAt w1.heap.size s (k + 1))) := ⟨Lib.below_iterAt HB.out (Nat.le_refl _) s (k + 1)⟩
          cases hl : lit (s[k]'hlt) with
          | true =>
            have hge : ¬ (0 : Int) ≤ Lib.indexByte [92, 39, 34, 36] (s[k]'hlt) := fun h => by rw [hm.1 h] at hl; cases hl
            have HR2 : Kept (runL (toL s) = (k + 1) + runL ((toL s).drop (k + 1))) := ⟨by rw [HR.out, hdr, run_cons, if_pos hl]; omega⟩
            clear hI hm hl hdr hit hit2 hb
            generalize Lib.indexByte [92, 39, 34, 36] (s[k]'hlt) = ix at *
            generalize ((s[k]'hlt).toNat : Int) = z at *
            go_wp2_with (go_at_call 62; refine (HI.out _).mono ?_; rintro e w2 ⟨rfl, rfl⟩)
            go_roundg (s.size - (k + 1))
            case measure => omega
            case rel => exact ⟨k + 1, by omega, Nat.le_refl _, HIt.out, HB2, HR2⟩
          | false =>
            have hge := hm.2 hl
            have HE : Kept (r = (k : Int)) := ⟨by
              have h1 : runL ((toL s).drop k) = 0 := by rw [hdr, run_cons, hl]; rfl
              have h2 : runL (toL s) = k := by rw [HR.out, h1]; rfl
              rw [hr.out, h2, if_pos hlt]⟩
            clear hI hm hl hdr hit hit2 hb
            generalize Lib.indexByte [92, 39, 34, 36] (s[k]'hlt) = ix at *
            generalize ((s[k]'hlt).toNat : Int) = z at *
            go_wp2_with (go_at_call 62; refine (HI.out _).mono ?_; rintro e w2 ⟨rfl, rfl⟩)
            go_ret
            exact ⟨by rw [HE.out]; rfl, HB2.out⟩
        · obtain ⟨d1, d2, d3, d4⟩ := decode_high s k hlt (by omega)
          obtain ⟨z, hz2⟩ : ∃ z, z = (Utf8.decode s k).1 := ⟨_, rfl⟩
          obtain ⟨n, hn⟩ : ∃ n, n = (Utf8.decode s k).2 := ⟨_, rfl⟩
          rw [← hz2] at d1 d2 hnx
          rw [← hn] at d3 d4 hnx
          obtain ⟨hn1, _⟩ := d4 (n - 1) (by omega)
          have HIt := Kept.mk (hit2 (k + n))
          have HB2 : Kept (Below w1.heap.size w1 (wr.iterAt w1.heap.size s (k + n))) := ⟨Lib.below_iterAt HB.out (Nat.le_refl _) s (k + n)⟩
          have HR2 : Kept (runL (toL s) = (k + n) + runL ((toL s).drop (k + n))) := ⟨by
            have := run_all n (l := (toL s).drop k) (by rw [List.length_drop, toL_length]; omega) fun j h hj => by
              obtain ⟨h1, h2⟩ := d4 j hj
              rw [List.getElem_drop]
              exact lit_high h2
            rw [HR.out, this, List.drop_drop]; omega⟩
          have hkn : k + n ≤ s.size := by omega
          clear hit hit2 hdr d4 hz2 hn hb
          go_wp2_with (go_at_call 62; refine (idxRune_high z d1 d2 _).mono ?_; rintro e w2 ⟨rfl, hb2⟩)
          go_roundg (s.size - (k + n))
          case measure => omega
          case rel => exact ⟨k + n, hkn, Nat.le_refl _, (hb2.block _ (Array.getElem?_eq_some_iff.1 HIt.out).1).trans HIt.out, ⟨HB2.out.trans (hb2.mono HB2.out.size)⟩, HR2⟩
      · have hnx := fun ty => Lib.run_next_end_at (P := Tryd.prog) wr w1.heap.size s k ty hit hlt
        have HE : Kept (r = -1) := ⟨by
          have h1 : runL (toL s) = s.size := by
            rw [HR.out, List.drop_eq_nil_of_le (by rw [toL_length]; omega)]
            show k + 0 = _; omega
          rw [hr.out, h1, if_neg (by omega)]⟩
        clear hlt
        go_wp2_with fail
        go_ret
        exact ⟨by rw [HE.out]; rfl, HB.out⟩
end Wx
end Go.Proofs.YtphgnjjblpmijaaDoor
