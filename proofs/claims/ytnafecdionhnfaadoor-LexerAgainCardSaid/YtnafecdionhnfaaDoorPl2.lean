/-
  The program's bytes, operators, comments and single quotes.
-/
import Derived.Test.YtnafecdionhnfaaDoorPl1
import Derived.Test.YtnafecdionhnfaaDoorLl
import Derived.Laws.Rows
namespace Go.Proofs.YtnafecdionhnfaaDoor
open Go.RowKit Tx
namespace Lx

def opVals : Array Value := #[.string ⟨#[38, 38]⟩, .string ⟨#[124, 124]⟩, .string ⟨#[59, 59]⟩, .string ⟨#[62, 62]⟩, .string ⟨#[59]⟩, .string ⟨#[124]⟩, .string ⟨#[38]⟩, .string ⟨#[40]⟩, .string ⟨#[41]⟩, .string ⟨#[60]⟩, .string ⟨#[62]⟩]
/-- What the calls read of the package's and the library's variables. -/
structure Kit (w : World) : Prop where
  max : ∃ m, w.cell? ⟨1, 0, none⟩ = some (.int .i64 m)
  ops : ∃ t fr, w.heap[0]? = some (.cells opVals t fr)
theorem Kit.keep {w w' : World} (h : Kit w) (h0 : w'.heap[0]? = w.heap[0]?) (h1 : w'.heap[1]? = w.heap[1]?) : Kit w' := by
  obtain ⟨⟨m, hm⟩, t, fr, ho⟩ := h
  exact ⟨⟨m, (World.cell?_of_block (w := w) (a := ⟨1, 0, none⟩) h1).trans hm⟩, t, fr, h0.trans ho⟩
theorem Kit.lt {w : World} (h : Kit w) : 0 < w.heap.size ∧ 1 < w.heap.size := by
  obtain ⟨⟨m, hm⟩, t, fr, ho⟩ := h
  exact ⟨(Array.getElem?_eq_some_iff.1 ho).1, World.block_lt_of_cell? w _ hm⟩
theorem Kit.below {w w' : World} (h : Kit w) (hb : Below w.heap.size w w') : Kit w' := h.keep (hb.block _ h.lt.1) (hb.block _ h.lt.2)
theorem Kit.only {w w' : World} {B : Nat → Prop} (h : Kit w) (hb : Only B w w') (h0 : ¬ B 0) (h1 : ¬ B 1) : Kit w' := h.keep (hb.block _ h.lt.1 h0) (hb.block _ h.lt.2 h1)

/-- The reader, and what its calls read beside it. -/
structure RM (w : World) (b : Nat) (s : ByteArray) (p : Nat) (v : Value) : Prop where
  rd : RD w b s p v
  kit : Kit w
  n0 : 0 < b
  n1 : 1 < b
theorem RM.on {w w' : World} {b p q : Nat} {s : ByteArray} {v u : Value} (h : RM w b s p v) (hr : RD w' b s q u) (ho : Only (· = b) w w') : RM w' b s q u := ⟨hr, h.kit.only ho (Nat.ne_of_lt h.n0) (Nat.ne_of_lt h.n1), h.n0, h.n1⟩
theorem RM.qt {w w' : World} {b p : Nat} {s : ByteArray} {v : Value} (h : RM w b s p v) (hq : Qt w w') : RM w' b s p v := h.on (hq.rd h.rd) (hq.only _)
theorem RM.mv {w w' : World} {b p q : Nat} {s : ByteArray} {v : Value} (h : RM w b s p v) (hm : Kept (RD w' b s q v) ∧ Kept (Only (· = b) w w')) : RM w' b s q v := h.on hm.1.out hm.2.out

theorem blank_any (c : UInt8) (w : World) (t : Bool) (ht : t = (c == 32 || c == 9)) : Calls Tryd.prog 21 #[.int .u8 (c.toNat : Int)] w fun e w' => e = .returned (.bool t) ∧ w' = w := by
  by_cases h1 : c = 32
  · subst h1
    obtain rfl : t = true := ht
    go_enter Tryd.func21, Tryd.ntmps21
    go_wp2
    go_ret
    exact ⟨rfl, rfl⟩
  · have h3 : ¬ (c.toNat : Int) = 32 := fun e => h1 (UInt8.toNat_inj.1 (show c.toNat = 32 by omega))
    have h1b : ((c.toNat : Int) == 32) = false := by simpa using h3
    by_cases h2 : c = 9
    · subst h2
      obtain rfl : t = true := ht
      go_enter Tryd.func21, Tryd.ntmps21
      go_wp2
      go_ret
      exact ⟨rfl, rfl⟩
    · have h4 : ¬ (c.toNat : Int) = 9 := fun e => h2 (UInt8.toNat_inj.1 (show c.toNat = 9 by omega))
      have h2b : ((c.toNat : Int) == 9) = false := by simpa using h4
      obtain rfl : t = false := by rw [ht]; simp [h1, h2]
      clear h1 h2 h3 h4 ht
      go_enter Tryd.func21, Tryd.ntmps21
      go_wp2
      go_ret
      exact ⟨rfl, rfl⟩
theorem stop_any (c : UInt8) (w : World) (t : Bool) (ht : t = stops c) : Calls Tryd.prog 30 #[.int .u8 (c.toNat : Int)] w fun e w' => e = .returned (.bool t) ∧ w' = w := by
  rw [stops_is] at ht
  by_cases h1 : c = 32 ∨ c = 9
  · have HB : Kept (true = (c == 32 || c == 9)) := ⟨by rcases h1 with rfl | rfl <;> rfl⟩
    obtain rfl : t = true := by rcases h1 with rfl | rfl <;> exact ht
    clear h1 ht
    go_enter Tryd.func30, Tryd.ntmps30
    go_wp2_with (go_at_call 21; refine (blank_any c _ true HB.out).mono ?_; rintro e w1 ⟨rfl, rfl⟩)
    go_ret
    exact ⟨rfl, rfl⟩
  · have HB : Kept (false = (c == 32 || c == 9)) := ⟨by simpa [not_or] using h1⟩
    have ht2 : t = decide (0 ≤ Lib.indexByte [10, 59, 124, 38, 40, 41, 60, 62] c) := by
      rw [index_stops, ht, ← HB.out]; rfl
    have HT : Kept (decide (0 ≤ Lib.indexByte [10, 59, 124, 38, 40, 41, 60, 62] c) = t) := ⟨ht2.symm⟩
    clear h1 ht ht2
    go_enter Tryd.func30, Tryd.ntmps30
    go_wp2_with (first
      | (go_at_call 21; refine (blank_any c _ false HB.out).mono ?_; rintro e w1 ⟨rfl, rfl⟩)
      | (go_at_call 34; refine (Tryd.strings_IndexByte _ _ _).mono ?_; rintro e w1 ⟨rfl, rfl⟩))
    go_ret
    exact ⟨by rw [← HT.out]; rfl, rfl⟩

theorem op_at (k : Nat) (hk : k < 11) : ∃ o, opers[k]? = some o ∧ ∀ W : World, (Instr.index 51 (.agg opVals) (.int .i64 (k : Int))).run Tryd.prog W = .ok (.string (bs o)) W := by
  match k, hk with
  | 0, _ => exact ⟨_, rfl, fun W => by kernel_rfl⟩
  | 1, _ => exact ⟨_, rfl, fun W => by kernel_rfl⟩
  | 2, _ => exact ⟨_, rfl, fun W => by kernel_rfl⟩
  | 3, _ => exact ⟨_, rfl, fun W => by kernel_rfl⟩
  | 4, _ => exact ⟨_, rfl, fun W => by kernel_rfl⟩
  | 5, _ => exact ⟨_, rfl, fun W => by kernel_rfl⟩
  | 6, _ => exact ⟨_, rfl, fun W => by kernel_rfl⟩
  | 7, _ => exact ⟨_, rfl, fun W => by kernel_rfl⟩
  | 8, _ => exact ⟨_, rfl, fun W => by kernel_rfl⟩
  | 9, _ => exact ⟨_, rfl, fun W => by kernel_rfl⟩
  | 10, _ => exact ⟨_, rfl, fun W => by kernel_rfl⟩
  | k + 11, h => omega
theorem prefix_any (s : ByteArray) (o : List UInt8) (w : World) (t : Bool) (ht : t = o.isPrefixOf (toL s)) : Calls Tryd.prog 28 #[.string s, .string (bs o)] w fun e w' => e = .returned (.bool t) ∧ w' = w := by
  refine (Tryd.strings_HasPrefix s (bs o) w).mono ?_
  rintro e w' ⟨rfl, rfl⟩
  exact ⟨by rw [ht]; rfl, rfl⟩
set_option maxRecDepth 100000 in
theorem leading_any (s : ByteArray) (w : World) (hK : Kit w) : Calls Tryd.prog 19 #[.string s] w fun e w' => e = .returned (.string (leadS (toL s))) ∧ w' = w := by
  obtain ⟨_, tt, fr, ho⟩ := hK
  go_enter Tryd.func19, Tryd.ntmps19
  go_wp2_with (refine wpList_load_row rfl 51 _ rfl 0 rfl tt opVals fr _ ho Tryd.underlying51 rfl (by kernel_rfl) ?_)
  go_loop [6] (fun i => ∃ k : Nat, k ≤ 11 ∧ i = .int .i64 (k : Int) ∧ Kept (lead (toL s) = (opers.drop k).find? fun o => o.isPrefixOf (toL s))) (fun i => 11 - (intOf i).toNat)
  case atStart => exact ⟨0, by omega, rfl, ⟨rfl⟩⟩
  case round =>
    obtain ⟨k, hk, rfl, HL⟩ := hrel
    by_cases hlt : k < 11
    · obtain ⟨o, ho, hix⟩ := op_at k hlt
      have hd : opers.drop k = o :: opers.drop (k + 1) := by
        obtain ⟨h1, h2⟩ := List.getElem?_eq_some_iff.1 ho
        rw [List.drop_eq_getElem_cons h1, h2]
      have z : (k : Int) < 11 := by omega
      cases hp : o.isPrefixOf (toL s) with
      | true =>
        have HP : Kept (true = o.isPrefixOf (toL s)) := ⟨hp.symm⟩
        have HR : Kept (leadS (toL s) = bs o) := ⟨leadS_some (by rw [HL.out, hd, List.find?_cons, hp])⟩
        clear hp hd ho
        go_wp2_with (go_at_call 28; refine (prefix_any s o _ true HP.out).mono ?_; rintro e w1 ⟨rfl, rfl⟩)
        go_ret
        exact ⟨by rw [HR.out]; rfl, rfl⟩
      | false =>
        have HP : Kept (false = o.isPrefixOf (toL s)) := ⟨hp.symm⟩
        have HL2 : Kept (lead (toL s) = (opers.drop (k + 1)).find? fun o => o.isPrefixOf (toL s)) := ⟨by rw [HL.out, hd, List.find?_cons, hp]⟩
        clear hp hd ho HL
        go_wp2_with (go_at_call 28; refine (prefix_any s o _ false HP.out).mono ?_; rintro e w1 ⟨rfl, rfl⟩)
        go_round
        case rel => exact ⟨k + 1, by omega, by go_num, HL2⟩
        case measure => simp [intOf]; omega
    · obtain rfl : k = 11 := by omega
      have HR : Kept (leadS (toL s) = ⟨#[]⟩) := ⟨leadS_none (by rw [HL.out]; rfl)⟩
      clear hlt hk HL
      go_wp2
      go_ret
      exact ⟨by rw [HR.out]; rfl, rfl⟩
theorem cut_call (s : ByteArray) (c : UInt8) (w : World) (hs : s.size ≤ 4000000000) (hK : Kit w) :
    Calls Tryd.prog 29 #[.string s, .string ⟨#[c]⟩] w fun e w' => ∃ (a b : ByteArray) (t : Bool), e = .returned (.tuple #[.string a, .string b, .bool t]) ∧ Qt w w' ∧ Kept (a.size = ahead c (toL s)) := by
  obtain ⟨m, hm⟩ := hK.max
  refine (Tryd.strings_Cut s ⟨#[c]⟩ m w (by omega) hm).mono ?_
  rintro e w' ⟨rfl, hq⟩
  refine ⟨_, _, _, rfl, hq, ⟨?_⟩⟩
  rw [← cut_len]
  exact bs_size _
theorem drop_ext (s : ByteArray) (p : Nat) : toL (s.extract p s.size) = (toL s).drop p := by
  rw [toL_extract]
  exact List.take_of_length_le (by rw [List.length_drop, toL_length]; omega)
set_option maxRecDepth 100000 in
theorem quoted_any (w : World) (b : Nat) (s : ByteArray) (p : Nat) (v : Value) (h : RM w b s p v) (hp : p < s.size) (o : Option Nat) (ho : o = (quoted ((toL s).drop (p + 1))).map (p + 1 + ·)) :
    Calls Tryd.prog 35 #[.pointer (some ⟨b, 0, none⟩)] w (Moved w b s v o) := by
  have H := Kept.mk h
  have HP : Kept (some (p + 1) = if p + 1 ≤ s.size then some (p + 1) else none) := ⟨(if_pos (by omega)).symm⟩
  have HO : Kept (∀ k : Nat, k = ahead 39 (toL (s.extract (p + 1) s.size)) → o = if (p + 1) + (k + 1) ≤ s.size then some ((p + 1) + (k + 1)) else none) := ⟨by
    rintro k rfl
    rw [ho, quoted_is, drop_ext]
    have : ((toL s).drop (p + 1)).length = s.size - (p + 1) := by rw [List.length_drop, toL_length]
    have h2 := ahead_le 39 ((toL s).drop (p + 1))
    rw [this] at h2 ⊢
    by_cases h3 : ahead 39 ((toL s).drop (p + 1)) < s.size - (p + 1)
    · rw [if_pos h3, if_pos (by omega)]; rfl
    · rw [if_neg h3, if_neg (by omega)]; rfl⟩
  have hsz := h.rd.sz
  have hx : (s.extract (p + 1) s.size).size ≤ 4000000000 := by simp; omega
  have HX := Kept.mk hx
  have hal : ahead 39 (toL (s.extract (p + 1) s.size)) ≤ 20000 := by
    have := ahead_le 39 (toL (s.extract (p + 1) s.size))
    rw [toL_length] at this
    simp at this; omega
  have HAl := Kept.mk hal
  clear h hp ho hx hal
  go_enter Tryd.func35, Tryd.ntmps35
  go_wp2_with fail
  refine (skip_any w b s p 1 v H.out.rd _ HP.out _ rfl).mono ?_
  rintro e w1 ⟨rfl, h1, h1o⟩
  have H1 := Kept.mk (H.out.mv ⟨h1, h1o⟩)
  have HO1 := h1o
  clear h1 h1o H
  go_wp2_with (first
    | (go_at_call 20; refine (rest_any w1 b s (p + 1) v H1.out.rd).mono ?_; rintro e w2 ⟨rfl, hq⟩; have H2 := Kept.mk (H1.out.qt hq); have HO2 : Kept (Only (· = b) w w2) := ⟨HO1.out.trans (hq.only _) (fun _ _ h => h)⟩; clear hq)
    | (go_at_call 29; refine (cut_call _ 39 w2 HX.out H2.out.kit).mono ?_; rintro e w3 ⟨x, y, t, rfl, hq, hx⟩; have H3 := Kept.mk (H2.out.qt hq); have HO3 : Kept (Only (· = b) w w3) := ⟨HO2.out.trans (hq.only _) (fun _ _ h => h)⟩; have HK := Kept.mk (HO.out _ hx.out); have hx2 : x.size ≤ 20000 := (by rw [hx.out]; exact HAl.out); clear hq hx))
  refine (skip_any w3 b s (p + 1) (x.size + 1) v H3.out.rd o HK.out _ (by omega)).mono ?_
  rintro e w4 hm
  cases o with
  | none =>
    obtain ⟨rfl, h4⟩ := hm
    exact ⟨rfl, rfl, ⟨only_trans HO3.out h4.out⟩⟩
  | some q =>
    obtain ⟨rfl, h4, h5⟩ := hm
    have H4 := Kept.mk h4
    clear h4
    go_wp2
    refine bodyPost_end (results_none rfl _ _ _) rfl ?_
    exact ⟨rfl, H4.out, ⟨only_trans HO3.out h5.out⟩⟩
set_option maxRecDepth 100000 in
theorem comment_any (w : World) (b : Nat) (s : ByteArray) (p : Nat) (v : Value) (h : RM w b s p v) (o : Option Nat) (ho : o = some (p + ahead 10 ((toL s).drop p))) :
    Calls Tryd.prog 23 #[.pointer (some ⟨b, 0, none⟩)] w (Moved w b s v o) := by
  have H := Kept.mk h
  have h2 := ahead_le 10 ((toL s).drop p)
  rw [List.length_drop, toL_length] at h2
  have hle := h.rd.le
  have HO : Kept (∀ k : Nat, k = ahead 10 (toL (s.extract p s.size)) → o = if p + k ≤ s.size then some (p + k) else none) := ⟨by
    rintro k rfl
    rw [ho, drop_ext, if_pos (by omega)]⟩
  have hsz := h.rd.sz
  have hx : (s.extract p s.size).size ≤ 4000000000 := by simp; omega
  have HX := Kept.mk hx
  have hal : ahead 10 (toL (s.extract p s.size)) ≤ 20000 := by rw [drop_ext]; omega
  have HAl := Kept.mk hal
  clear h ho hx hal h2 hle
  go_enter Tryd.func23, Tryd.ntmps23
  go_wp2_with (first
    | (go_at_call 20; refine (rest_any w b s p v H.out.rd).mono ?_; rintro e w2 ⟨rfl, hq⟩; have H2 := Kept.mk (H.out.qt hq); have HO2 : Kept (Only (· = b) w w2) := ⟨hq.only _⟩; clear hq)
    | (go_at_call 29; refine (cut_call _ 10 w2 HX.out H2.out.kit).mono ?_; rintro e w3 ⟨x, y, t, rfl, hq, hx⟩; have H3 := Kept.mk (H2.out.qt hq); have HO3 : Kept (Only (· = b) w w3) := ⟨HO2.out.trans (hq.only _) (fun _ _ h => h)⟩; have HK := Kept.mk (HO.out _ hx.out); have hx2 : x.size ≤ 20000 := (by rw [hx.out]; exact HAl.out); clear hq hx))
  refine (skip_any w3 b s p x.size v H3.out.rd o HK.out _ (by omega)).mono ?_
  rintro e w4 hm
  cases o with
  | none =>
    obtain ⟨rfl, h4⟩ := hm
    exact ⟨rfl, rfl, ⟨only_trans HO3.out h4.out⟩⟩
  | some q =>
    obtain ⟨rfl, h4, h5⟩ := hm
    have H4 := Kept.mk h4
    clear h4
    go_wp2
    refine bodyPost_end (results_none rfl _ _ _) rfl ?_
    exact ⟨rfl, H4.out, ⟨only_trans HO3.out h5.out⟩⟩
end Lx
end Go.Proofs.YtnafecdionhnfaaDoor
