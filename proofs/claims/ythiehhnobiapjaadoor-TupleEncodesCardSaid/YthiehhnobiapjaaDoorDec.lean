/-
  Decode: the list of a text.
-/
import Derived.Test.YthiehhnobiapjaaDoorCut
namespace Go.Proofs.YthiehhnobiapjaaDoor
open Go.RowKit Net
namespace Tup

theorem strTy : Own.Ty Tryd.prog 22 9 (.string ⟨#[]⟩) 16 := ⟨Tryd.underlying22, by kernel_rfl, rfl⟩
theorem str_one (s : ByteArray) : (Value.string s).oneCell' = true := rfl

/-- What Decode answers. -/
def DecIs (s : ByteArray) (w : World) (w' : World) (v : Value) (k : Int) : Prop :=
  (dec (toL s) = none ∧ v = .slice none 0 0 ∧ k = 20) ∨ ∃ l : List ByteArray, dec (toL s) = some (l.map toL) ∧ Own.Es Value.string w' w.heap.size v l ∧ k = 0

structure DecIn (w wr : World) (s r : ByteArray) (v : Value) (l : List ByteArray) : Prop where
  below : Below w.heap.size w wr
  es : Own.Es Value.string wr w.heap.size v l
  left : Net.Left (toL s) (l.map toL) (toL r)

theorem DecIn.on {w wr w2 : World} {s r : ByteArray} {v : Value} {l : List ByteArray} (h : DecIn w wr s r v l) (hb : Below wr.heap.size wr w2) : DecIn w w2 s r v l :=
  ⟨h.below.trans (hb.mono h.below.size), h.es.below hb, h.left⟩
theorem DecIn.push {w wr w2 : World} {s t x r : ByteArray} {v v2 : Value} {l : List ByteArray} (h : DecIn w wr s t v l) (ht : toL t ≠ []) (hc : cut (toL t) = some (toL x, toL r)) (he : Own.Es Value.string w2 w.heap.size v2 (l ++ [x])) (hg : wr.grownBy w2 v.ownBlock) : DecIn w w2 s r v2 (l ++ [x]) :=
  ⟨h.below.grown hg h.below.size (fun k hk => (h.es.lt k hk).1), he, by rw [List.map_append]; exact h.left.go ht hc⟩
theorem empty_iff (s : ByteArray) : s.toList.isEmpty = decide (toL s = []) := by
  rw [ByteArray.toList_eq]
  unfold toL
  cases s.data.toList <;> rfl
theorem DecIn.few {w wr : World} {s r : ByteArray} {v : Value} {l : List ByteArray} (h : DecIn w wr s r v l) : r.size ≤ s.size ∧ 3 * l.length ≤ s.size := by
  have := h.left.2
  rw [toL_length, toL_length, List.length_map] at this
  omega
theorem cutItem_none (t : ByteArray) (w : World) (hs : t.size ≤ 4000000000) (hK : Kit w) (h : cut (toL t) = none) :
    Calls Tryd.prog 13 #[.string t] w fun e w' => ∃ (x r : ByteArray), e = .returned (.tuple #[.string x, .string r, .bool false]) ∧ Below w.heap.size w w' := by
  refine (cutItem_any t w hs hK).mono ?_
  rintro e w' ⟨x, r, b, rfl, hb, hc⟩
  cases b with
  | false => exact ⟨x, r, rfl, hb⟩
  | true =>
    have := hc.out
    unfold CutIs at this
    rw [if_pos rfl, h] at this
    cases this
theorem cutItem_some (t : ByteArray) (w : World) (hs : t.size ≤ 4000000000) (hK : Kit w) {x0 r0 : List UInt8} (h : cut (toL t) = some (x0, r0)) :
    Calls Tryd.prog 13 #[.string t] w fun e w' => ∃ (x r : ByteArray), e = .returned (.tuple #[.string x, .string r, .bool true]) ∧ Below w.heap.size w w' ∧ Kept (cut (toL t) = some (toL x, toL r)) := by
  refine (cutItem_any t w hs hK).mono ?_
  rintro e w' ⟨x, r, b, rfl, hb, hc⟩
  have := hc.out
  unfold CutIs at this
  cases b with
  | false => rw [if_neg (by simp), h] at this; cases this
  | true => rw [if_pos rfl] at this; exact ⟨x, r, rfl, hb, ⟨this⟩⟩

set_option maxRecDepth 100000 in
theorem decode_any (s : ByteArray) (w : World) (hs : s.size ≤ 4000000000) (hK : Kit w) :
    Calls Tryd.prog 8 #[.string s] w fun e w' => ∃ v k, e = .returned (.tuple #[v, .int .i64 k]) ∧ Below w.heap.size w w' ∧ Kept (DecIs s w w' v k) := by
  have HK := Kept.mk hK
  have HS := Kept.mk hs
  clear hK hs
  go_enter Tryd.func8, Tryd.ntmps8
  go_wp2
  go_loopw [0, 4] (fun r v wr => ∃ (t : ByteArray) (l : List ByteArray), r = .string t ∧ Kept (DecIn w wr s t v l)) (fun r _ _ => match r with | .string t => t.size | _ => 0)
  case atStart => exact ⟨s, [], rfl, ⟨⟨Below.refl _ _, Own.Es.nil _ _ _, Left.start _⟩⟩⟩
  case round =>
    obtain ⟨t, l, rfl, hD⟩ := hrel
    by_cases ht : toL t = []
    · have hE : t.toList.isEmpty = true := by rw [empty_iff, decide_eq_true ht]
      have HT : Kept (dec (toL s) = some (l.map toL)) := ⟨by
        have := hD.out.left
        rw [ht] at this
        exact this.done⟩
      clear ht
      go_wp2
      go_ret2
      exact ⟨_, 0, rfl, hD.out.below, ⟨.inr ⟨l, HT.out, hD.out.es, rfl⟩⟩⟩
    · have hE : t.toList.isEmpty = false := by rw [empty_iff, decide_eq_false ht]
      have HT := Kept.mk ht
      have HF : Kept (t.size ≤ 4000000000) := ⟨by have := hD.out.few.1; have := HS.out; omega⟩
      have HK2 : Kept (Kit wr) := ⟨HK.out.below hD.out.below⟩
      clear ht
      cases hc : cut (toL t) with
      | none =>
        have HC := Kept.mk hc
        clear hc
        go_wp2_with (go_at_call 13; refine (cutItem_none t wr HF.out HK2.out HC.out).mono ?_; rintro e w1 ⟨x, r, rfl, hb1⟩; have HB1 := Kept.mk hb1; clear hb1)
        go_ret2
        exact ⟨_, 20, rfl, hD.out.below.trans (HB1.out.mono hD.out.below.size), ⟨.inl ⟨hD.out.left.bad HT.out HC.out, rfl, rfl⟩⟩⟩
      | some p =>
        obtain ⟨x0, r0⟩ := p
        have HC := Kept.mk hc
        clear hc
        go_wp2_with (first
          | (go_at_call 13; refine (cutItem_some t wr HF.out HK2.out HC.out).mono ?_; rintro e w1 ⟨x, r, rfl, hb1, hcut⟩; have HD := Kept.mk (hD.out.on hb1); clear hb1)
          | (refine Own.wpList_append1 strTy str_one rfl _ _ rfl rfl HD.out.es HD.out.below.size x _ rfl rfl (by have := HD.out.few; have := HS.out; omega) (by have := HD.out.few; have := HS.out; unfold maxLen; omega) ?_; intro v2 w2 hE2 hg2 _))
        have HD2 := Kept.mk (HD.out.push HT.out hcut.out hE2 hg2)
        have HM : Kept (r.size < t.size) := ⟨by have := cut_short hcut.out; rw [toL_length, toL_length, toL_length] at this; omega⟩
        clear hE2 hg2
        go_wp2
        go_roundw
        case rel => exact ⟨r, l ++ [x], rfl, HD2⟩
        case measure => exact HM.out
end Tup
end Go.Proofs.YthiehhnobiapjaaDoor
