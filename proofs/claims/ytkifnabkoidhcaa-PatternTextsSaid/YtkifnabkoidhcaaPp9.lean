/-
  The program's Escape, Plain, Special; does an element match a byte.
-/
import Derived.Test.YtkifnabkoidhcaaPp8
import Derived.Deep.LoopGhost
namespace Go.Proofs.Ytkifnabkoidhcaa
open Go.RowKit Tx
namespace Pm

theorem esc_snoc (s : List UInt8) (c : UInt8) : esc (s ++ [c]) = esc s ++ [92, c] := by simp [esc]
theorem bs_of_toL {s : ByteArray} {l : List UInt8} (h : l = toL s) : bs l = s := by rw [h, bs_toL]
/-- A builder in a block of this call's own, its bytes beyond B. -/
structure BIn (w wr : World) (B b : Nat) (l : List UInt8) : Prop where
  at' : ∃ p v, Pb.At B b p v l wr ∧ (p = .pointer none ∨ p = .pointer (some ⟨b, 0, none⟩))
  bel : Below w.heap.size w wr
  hb : w.heap.size ≤ b
  hB : w.heap.size ≤ B
  hs : B ≤ wr.heap.size
theorem BIn.start (w : World) : BIn w (w.alloc (.cells #[.pointer none, .slice none 0 0] 46)) w.heap.size w.heap.size [] :=
  ⟨⟨_, _, ⟨heap_alloc_new w _, World.ownsRow_nil _ _ _ _⟩, .inl rfl⟩, (Below.refl _ _).alloc (Nat.le_refl _) _, Nat.le_refl _, Nat.le_refl _, by simp⟩
theorem BIn.write {w wr : World} {B b : Nat} {l : List UInt8} (h : BIn w wr B b l) (c : UInt8) (hl : l.length ≤ 100000) :
    Calls Try.prog 29 #[.pointer (some ⟨b, 0, none⟩), .int .u8 (c.toNat : Int)] wr fun e w' => e = .returned .nilIface ∧ Kept (BIn w w' B b (l ++ [c])) ∧ Kept (Only (fun i => i = b ∨ B ≤ i) wr w') := by
  obtain ⟨p, v, ha, hp⟩ := h.at'
  refine (Pb.writeByte_any B b p v l c wr ha hp h.hs hl).mono ?_
  rintro e w' ⟨rfl, v', ⟨h1⟩, ⟨h2⟩⟩
  refine ⟨rfl, ⟨⟨⟨_, v', h1, .inr rfl⟩, h.bel.trans ?_, h.hb, h.hB, Nat.le_trans h.hs h2.size⟩⟩, ⟨h2⟩⟩
  exact h2.toBelow (fun k hk e => by have := h.hb; have := h.hB; have : k = b ∨ B ≤ k := e; omega) h.bel.size
theorem BIn.text {w wr : World} {B b : Nat} {l : List UInt8} (h : BIn w wr B b l) :
    Calls Try.prog 30 #[.pointer (some ⟨b, 0, none⟩)] wr fun e w' => e = .returned (.string (bs l)) ∧ Below w.heap.size w w' := by
  obtain ⟨p, v, ha, hp⟩ := h.at'
  refine (Pb.string_any B b p v l wr ha h.hs).mono ?_
  rintro e w' ⟨rfl, h2⟩
  exact ⟨rfl, h.bel.trans (h2.mono h.hB)⟩
theorem BIn.below {w wr w2 : World} {B b : Nat} {l : List UInt8} (h : BIn w wr B b l) (hb : Below wr.heap.size wr w2) : BIn w w2 B b l := by
  obtain ⟨p, v, ha, hp⟩ := h.at'
  exact ⟨⟨p, v, ⟨(hb.block b ha.lt).trans ha.row, own_stays ha.own fun g _ hg => hb.block g hg⟩, hp⟩, h.bel.trans (hb.mono h.bel.size), h.hb, h.hB, Nat.le_trans h.hs hb.size⟩
/-- Nothing was written yet: its bytes will lie beyond what is there. -/
theorem BIn.later {w wr : World} {b : Nat} (hr : wr.heap[b]? = some (.cells #[.pointer none, .slice none 0 0] 46 (0, 0))) (hb : w.heap.size ≤ b) (h : Below w.heap.size w wr) : BIn w wr wr.heap.size b [] :=
  ⟨⟨_, _, ⟨hr, World.ownsRow_nil _ _ _ _⟩, .inl rfl⟩, h, hb, h.size, Nat.le_refl _⟩
theorem US.but {w w' : World} {G k b : Nat} {A : Option Addr} {l : List Un} {p v : Value} {T : TypeId} {q : Option Addr} {n c : Nat} {a : Option Addr} (h : US w G A k l) (hr : w.heap[b]? = some (.cells #[p, v] T (0, 0))) (hp : p = .pointer q) (hv : v = .slice a n c)
    (hb : ∀ i, i < G → i < w.heap.size → i ≠ b → w'.heap[i]? = w.heap[i]?) (hs : w.heap.size ≤ w'.heap.size) : US w' G A k l :=
  ⟨h.cap, h.few, fun hl => by
    obtain ⟨g, off, h1, h2, h3, h4⟩ := h.mem hl
    refine ⟨g, off, h1, h2, Nat.lt_of_lt_of_le h3 hs, fun j u hu => (World.cell?_of_block (w := w) (a := ⟨g, off + j, none⟩) (hb g h2 h3 ?_)).trans (h4 j u hu)⟩
    rintro rfl
    subst hp hv
    obtain ⟨x, t, rfl⟩ := List.exists_cons_of_ne_nil hl
    have h5 := h4 0 (.int .u8 (x.1.toNat : Int)) rfl
    rw [cell_of_row w g (off + 0) _ _ _ hr] at h5
    match off, h5 with
    | 0, h5 => simp at h5
    | 1, h5 => simp at h5
    | off + 2, h5 => simp at h5⟩
theorem BIn.us {w wr w2 : World} {B b : Nat} {l : List UInt8} {A : Option Addr} {k : Nat} {us : List Un} (h : BIn w wr B b l) (hu : US wr B A k us) (ho : Only (fun i => i = b ∨ B ≤ i) wr w2) : US w2 B A k us := by
  obtain ⟨p, v, ha, hp⟩ := h.at'
  obtain ⟨a, c, hv⟩ := own_shape ha.own
  have : ∃ q, p = .pointer q := by rcases hp with rfl | rfl <;> exact ⟨_, rfl⟩
  obtain ⟨q, hq⟩ := this
  exact hu.but ha.row hq hv (fun i h1 h2 h3 => ho.block i h2 (by rintro (e | e); exact h3 e; omega)) ho.size
set_option maxHeartbeats 2000000 in
set_option maxRecDepth 100000 in
theorem escape_any (s : ByteArray) (w : World) (hs : s.size ≤ 2000) : Calls Try.prog 23 #[.string s] w fun e w' => e = .returned (.string (bs (esc (toL s)))) ∧ Below w.heap.size w w' := by
  have HB0 := Kept.mk (BIn.start w)
  have HS := Kept.mk hs
  obtain ⟨b, hb⟩ : ∃ b, b = w.heap.size := ⟨_, rfl⟩
  have Hb := Kept.mk hb
  replace HB0 : Kept (BIn w (w.alloc (.cells #[.pointer none, .slice none 0 0] 46)) w.heap.size b []) := ⟨by rw [hb]; exact HB0.out⟩
  clear hs hb
  go_enter Try.func23, Try.ntmps23
  go_wp2_with fail
  rw [← Hb.out]
  generalize World.alloc _ _ = W at *
  go_loopw [7] (fun i wr => ∃ j : Nat, j ≤ s.size ∧ i = .int .i64 (j : Int) ∧ Kept (BIn w wr w.heap.size b (esc ((toL s).take j)))) (fun i _ => s.size - (intOf i).toNat)
  case atStart => exact ⟨0, by omega, rfl, HB0⟩
  case round =>
    clear HB0
    obtain ⟨j, hj, rfl, HB⟩ := hrel
    by_cases hlt : j < s.size
    · have hl2 : (j : Int) < (s.size : Int) := by omega
      have hj5 : (j : Int) ≤ 2000 := by have := HS.out; omega
      have HL : Kept ((esc ((toL s).take j)).length + 1 ≤ 100000) := ⟨by rw [esc_length, List.length_take, toL_length]; have := HS.out; omega⟩
      have HX : Kept (esc ((toL s).take j) ++ [92] ++ [s[j]'hlt] = esc ((toL s).take (j + 1))) := ⟨by
        have hj2 : j < (toL s).length := by rw [toL_length]; exact hlt
        rw [List.take_succ_eq_append_getElem hj2, esc_snoc, List.append_assoc]; rfl⟩
      go_wp2_with fail
      go_at_call 29
      refine (HB.out.write 92 (by have := HL.out; omega)).mono ?_
      rintro e w2 ⟨rfl, HB2, _⟩
      go_wp2_with fail
      go_at_call 29
      refine (HB2.out.write (s[j]'hlt) (by rw [List.length_append]; exact HL.out)).mono ?_
      rintro e w3 ⟨rfl, HB3, _⟩
      rw [HX.out] at HB3
      go_wp2_with fail
      go_roundw
      case rel => exact ⟨j + 1, by omega, by go_num, HB3⟩
      case measure => simp [intOf]; omega
    · obtain rfl : j = s.size := by omega
      have HT : Kept (BIn w wr w.heap.size b (esc (toL s))) := ⟨by
        have := HB.out
        rwa [List.take_of_length_le (by rw [toL_length]; exact Nat.le_refl _)] at this⟩
      clear HB hlt
      go_wp2_with fail
      go_at_call 30
      refine HT.out.text.mono ?_
      rintro e w3 ⟨rfl, hb⟩
      have HBl := Kept.mk hb
      clear hb
      go_wp2_with fail
      go_ret
      exact ⟨rfl, HBl.out⟩
theorem plain_un : ∀ (p : List UInt8), plain p = (un p).map (·.1)
  | [] => rfl
  | [x] => rfl
  | x :: y :: r => by
    rw [plain, un]
    split
    · rw [List.map_cons, plain_un r]
    · rw [List.map_cons, plain_un (y :: r)]
def signU (u : Un) : Bool := isU 42 u || isU 63 u || isU 91 u
theorem special_un : ∀ (p : List UInt8), special p = (un p).any signU
  | [] => rfl
  | [x] => by simp [special, un, signU, isU, sign]
  | x :: y :: r => by
    rw [special, un]
    split
    · rw [List.any_cons, special_un r]; simp [signU, isU]
    · rw [List.any_cons, special_un (y :: r)]; simp [signU, isU, sign]
set_option maxHeartbeats 2000000 in
set_option maxRecDepth 100000 in
theorem plain_any (s : ByteArray) (w : World) (hs : s.size ≤ 2000) : Calls Try.prog 17 #[.string s] w fun e w' => e = .returned (.string (bs (plain (toL s)))) ∧ Below w.heap.size w w' := by
  have HB0 := Kept.mk (BIn.start w)
  have HS := Kept.mk hs
  obtain ⟨b, hb⟩ : ∃ b, b = w.heap.size := ⟨_, rfl⟩
  have Hb := Kept.mk hb
  replace HB0 : Kept (BIn w (w.alloc (.cells #[.pointer none, .slice none 0 0] 46)) w.heap.size b []) := ⟨by rw [hb]; exact HB0.out⟩
  have HRw := Kept.mk (heap_alloc_new w (.cells #[.pointer none, .slice none 0 0] 46))
  rw [← hb] at HRw
  obtain ⟨us, hus⟩ : ∃ us, us = un (toL s) := ⟨_, rfl⟩
  have HUs := Kept.mk hus
  clear hs hb hus
  go_enter Try.func17, Try.ntmps17
  go_wp2_with fail
  rw [← Hb.out]
  generalize World.alloc _ _ = W at *
  go_at_call 28
  refine (units_any s W HS.out).mono ?_
  rintro e w1 ⟨⟨A0, k0, rfl, hU0⟩, hB1⟩
  rw [← HUs.out] at hU0 ⊢
  have HU0 := Kept.mk hU0
  have HB1 := Kept.mk (BIn.later ((hB1.block b (Array.getElem?_eq_some_iff.1 HRw.out).1).trans HRw.out) (by rw [Hb.out]; exact Nat.le_refl _) (HB0.out.bel.trans (hB1.mono HB0.out.bel.size)))
  clear hU0 hB1 HB0
  obtain ⟨n, hn⟩ : ∃ n, n = us.length := ⟨_, rfl⟩
  have HN := Kept.mk hn
  rw [← hn]
  clear hn
  go_wp2_with fail
  go_loopw [9] (fun i wr => ∃ j : Nat, j ≤ n ∧ i = .int .i64 (j : Int) ∧ Kept (BIn w wr w1.heap.size b ((us.take j).map (·.1))) ∧ Kept (US wr w1.heap.size A0 k0 us)) (fun i _ => n - (intOf i).toNat)
  case atStart => exact ⟨0, by omega, rfl, HB1, HU0⟩
  case round =>
    clear HB1 HU0
    obtain ⟨j, hj, rfl, HB, HU⟩ := hrel
    by_cases hlt : j < n
    · have hl2 : (j : Int) < (n : Int) := by omega
      have hj5 : (j : Int) ≤ 2000 := by have := HU.out.few; have := HN.out; omega
      have hju : j < us.length := by have := HN.out; omega
      obtain ⟨g, off, hA, hg, c0, c1⟩ := HU.out.at hju
      subst hA
      obtain ⟨v, hv⟩ : ∃ v, v = us[j] := ⟨_, rfl⟩
      rw [← hv] at c0 c1
      have HX : Kept ((us.take j).map (·.1) ++ [v.1] = (us.take (j + 1)).map (·.1)) := ⟨by
        rw [List.take_succ_eq_append_getElem hju, List.map_append, hv]; rfl⟩
      have HL : Kept (((us.take j).map (·.1)).length ≤ 100000) := ⟨by rw [List.length_map, List.length_take]; have := HU.out.few; omega⟩
      have HA := Kept.mk (Below.alloc (Below.refl wr.heap.size wr) (Nat.le_refl _) (.cells #[.int .u8 (v.1.toNat : Int), .bool v.2] 50))
      have HB2 := Kept.mk (HB.out.below HA.out)
      have HU2 := Kept.mk (HU.out.below HA.out)
      clear hv hju hg HB HU
      go_wp2_with fail
      generalize World.alloc _ _ = W2 at *
      refine (HB2.out.write v.1 HL.out).mono ?_
      rintro e w3 ⟨rfl, HB3, HO3⟩
      have HU3 := Kept.mk (HB2.out.us HU2.out HO3.out)
      rw [HX.out] at HB3
      go_wp2_with fail
      go_roundw
      case rel => exact ⟨j + 1, by omega, by go_num, HB3, HU3⟩
      case measure => simp [intOf]; omega
    · obtain rfl : j = n := by omega
      have HT : Kept (BIn w wr w1.heap.size b (plain (toL s))) := ⟨by
        have := HB.out
        rw [List.take_of_length_le (by have := HN.out; omega), HUs.out, ← plain_un] at this
        exact this⟩
      clear HB hlt
      go_wp2_with fail
      go_at_call 30
      refine HT.out.text.mono ?_
      rintro e w3 ⟨rfl, hb⟩
      have HBl := Kept.mk hb
      clear hb
      go_wp2_with fail
      go_ret
      exact ⟨rfl, HBl.out⟩
end Pm
end Go.Proofs.Ytkifnabkoidhcaa
