/-
  The program's doubled, and a segment's text as a pattern.
-/
import Derived.Test.YtjnhhkiabdbenaaDoorFm
import Derived.Test.YtjnhhkiabdbenaaDoorFb
import Derived.Test.YtjnhhkiabdbenaaDoorShelf
import Derived.Laws.Rows
namespace Go.Proofs.YtjnhhkiabdbenaaDoor
open Go.RowKit Tx
namespace Fd
open Pm (esc escape_any)

theorem index_cons (c : UInt8) (l : List UInt8) : Lib.index (c :: l) [92] = if c = 92 then 0 else if Lib.index l [92] = -1 then -1 else Lib.index l [92] + 1 := by
  have e : (List.isPrefixOf [92] (c :: l)) = ((92 : UInt8) == c) := by simp [List.isPrefixOf]
  show (if List.isPrefixOf [92] (c :: l) then (0 : Int) else if Lib.index l [92] == -1 then -1 else Lib.index l [92] + 1) = _
  rw [e]
  by_cases h : c = 92
  · subst h; rfl
  · rw [if_neg h, if_neg (by simpa using fun k => h k.symm)]
    by_cases h2 : Lib.index l [92] = -1
    · rw [if_pos h2, h2]; rfl
    · rw [if_neg h2, if_neg (by simpa using h2)]
def rep (l : List UInt8) : List UInt8 := Lib.replaceK [92] [92, 92] (Lib.count l [92]) l
theorem rep_cons (c : UInt8) (l : List UInt8) : rep (c :: l) = dbl [c] ++ rep l := by
  have hi := index_cons c l
  unfold rep
  by_cases h : c = 92
  · subst h
    rw [if_pos rfl] at hi
    have hc := Lib.count_hit (s := 92 :: l) (sub := [92]) (i := 0) (by simp) hi
    have hc2 : Lib.count (92 :: l) [92] = Lib.count l [92] + 1 := by rw [hc, Nat.add_comm]; rfl
    rw [hc2, Lib.replaceK_hit _ _ _ _ 0 hi]
    rfl
  · have hd : dbl [c] = [c] := by unfold dbl; rw [List.flatMap_cons, if_neg h]; rfl
    rw [if_neg h] at hi
    by_cases h2 : Lib.index l [92] = -1
    · rw [if_pos h2] at hi
      rw [Lib.count_miss hi, Lib.count_miss h2, hd]
      rfl
    · rw [if_neg h2] at hi
      have hge := Lib.index_ge l [92]
      obtain ⟨i, hl⟩ : ∃ i : Nat, Lib.index l [92] = i := ⟨(Lib.index l [92]).toNat, by omega⟩
      have hi2 : Lib.index (c :: l) [92] = ((i + 1 : Nat) : Int) := by rw [hi, hl]; rfl
      have hc1 : Lib.count (c :: l) [92] = Lib.count (l.drop (i + 1)) [92] + 1 := by rw [Lib.count_hit (by simp) hi2, Nat.add_comm]; rfl
      have hc2 : Lib.count l [92] = Lib.count (l.drop (i + 1)) [92] + 1 := by rw [Lib.count_hit (by simp) hl, Nat.add_comm]; rfl
      rw [hc1, hc2, Lib.replaceK_hit _ _ _ _ _ hi2, Lib.replaceK_hit _ _ _ _ _ hl, hd]
      rfl
theorem rep_dbl : ∀ l : List UInt8, rep l = dbl l
  | [] => rfl
  | c :: l => by rw [rep_cons, rep_dbl l, ← dbl_app]; rfl
theorem replaceAll_dbl (s : List UInt8) : Lib.replaceAll s [92] [92, 92] = dbl s := rep_dbl s

/-- What the calls read of the library's variables. -/
structure Kit (w : World) : Prop where
  max : ∃ m, w.cell? ⟨0, 0, none⟩ = some (.int .i64 m)
theorem Kit.below {w w' : World} (h : Kit w) (hb : Below w.heap.size w w') : Kit w' := by
  obtain ⟨m, hm⟩ := h.max
  exact ⟨m, (hb.cell (p := ⟨0, 0, none⟩) (World.block_lt_of_cell? w _ hm)).trans hm⟩
/-- Its block lies ahead of B. -/
structure KB (B : Nat) (w : World) : Prop where
  kit : Kit w
  lt : 0 < B
theorem Kit.kb {w : World} (h : Kit w) {B : Nat} (hB : w.heap.size ≤ B) : KB B w := by
  obtain ⟨m, hm⟩ := h.max
  have := World.block_lt_of_cell? w _ hm
  exact ⟨h, by simp only at this; omega⟩
theorem KB.far {B : Nat} {w w' : World} (h : KB B w) (hb : Below B w w') : KB B w' := by
  obtain ⟨m, hm⟩ := h.kit.max
  exact ⟨⟨m, (hb.cell (p := ⟨0, 0, none⟩) h.lt).trans hm⟩, h.lt⟩

set_option maxRecDepth 100000 in
theorem doubled_any (s : ByteArray) (w : World) (hK : Kit w) (hs : s.size ≤ 2000) : Calls Tryd.prog 27 #[.string s] w fun e w' => e = .returned (.string (bs (dbl (toL s)))) ∧ Below w.heap.size w w' := by
  obtain ⟨m, hm⟩ := hK.max
  have hl := Lib.count_le s.data.toList [92]
  have hsz : s.data.toList.length = s.size := by simp
  have c := Tryd.strings_ReplaceAll s ⟨#[92]⟩ ⟨#[92, 92]⟩ m w (by omega) hm (by decide) (by
    show s.size + Lib.count s.data.toList [92] * 2 ≤ _
    omega)
  have e : (⟨(Lib.replaceAll s.data.toList (ByteArray.mk #[92]).data.toList (ByteArray.mk #[92, 92]).data.toList).toArray⟩ : ByteArray) = bs (dbl (toL s)) := by
    show bs (Lib.replaceAll s.data.toList [92] [92, 92]) = _
    rw [replaceAll_dbl]
    rfl
  rw [e] at c
  clear hl hsz e hm hs
  go_enter Tryd.func27, Tryd.ntmps27
  go_wp2_with (go_at_call 32; refine c.mono ?_; rintro e w2 ⟨rfl, hb⟩)
  go_ret
  exact ⟨rfl, hb⟩
/-- A segment's value. -/
def sv (g : Sg) : List Value := [.int .i64 (g.kind : Int), .string (bs g.text)]
set_option maxRecDepth 100000 in
theorem asPattern_lit (s : ByteArray) (w : World) (hs : s.size ≤ 2000) : Calls Tryd.prog 24 #[.agg #[.int .i64 1, .string s]] w fun e w' => e = .returned (.string (bs (esc (toL s)))) ∧ Below w.heap.size w w' := by
  have hb0 : Below w.heap.size w (w.alloc (.cells #[.int .i64 1, .string s] 32)) := (Below.refl _ _).alloc (Nat.le_refl _) _
  have HB0 := Kept.mk hb0
  have c := escape_any s (w.alloc (.cells #[.int .i64 1, .string s] 32)) hs
  clear hs hb0
  go_enter Tryd.func24, Tryd.ntmps24
  go_wp2_with (go_at_call 28; refine c.mono ?_; rintro e w2 ⟨rfl, hb⟩; have HB2 := Kept.mk (HB0.out.trans (hb.mono HB0.out.size)); clear hb c)
  go_ret
  exact ⟨rfl, HB2.out⟩
set_option maxRecDepth 100000 in
theorem asPattern_no (z : Int) (hz : ¬ z = 1) (s : ByteArray) (w : World) (hK : Kit w) (hs : s.size ≤ 2000) : Calls Tryd.prog 24 #[.agg #[.int .i64 z, .string s]] w fun e w' => e = .returned (.string (bs (dbl (toL s)))) ∧ Below w.heap.size w w' := by
  have hb0 : Below w.heap.size w (w.alloc (.cells #[.int .i64 z, .string s] 32)) := (Below.refl _ _).alloc (Nat.le_refl _) _
  have HB0 := Kept.mk hb0
  have c := doubled_any s (w.alloc (.cells #[.int .i64 z, .string s] 32)) (hK.below hb0) hs
  clear hs hb0 hK
  go_enter Tryd.func24, Tryd.ntmps24
  go_wp2_with (go_at_call 27; refine c.mono ?_; rintro e w2 ⟨rfl, hb⟩; have HB2 := Kept.mk (HB0.out.trans (hb.mono HB0.out.size)); clear hb c)
  go_ret
  exact ⟨rfl, HB2.out⟩
theorem asPattern_any (g : Sg) (w : World) (hK : Kit w) (hs : g.text.length ≤ 2000) : Calls Tryd.prog 24 #[.agg #[.int .i64 (g.kind : Int), .string (bs g.text)]] w fun e w' => e = .returned (.string (bs (if g.kind = 1 then esc g.text else dbl g.text))) ∧ Below w.heap.size w w' := by
  have hz : (bs g.text).size ≤ 2000 := by rw [bs_size]; exact hs
  have ht : toL (bs g.text) = g.text := toL_bs _
  by_cases h1 : g.kind = 1
  · rw [if_pos h1, h1]
    have c := asPattern_lit (bs g.text) w hz
    rw [ht] at c
    exact c
  · rw [if_neg h1]
    have c := asPattern_no (g.kind : Int) (by omega) (bs g.text) w hK hz
    rw [ht] at c
    exact c
end Fd
end Go.Proofs.YtjnhhkiabdbenaaDoor
