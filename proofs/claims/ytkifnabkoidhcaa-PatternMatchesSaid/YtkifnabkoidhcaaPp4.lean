/-
  The program's sets of bytes: the set of a bracket expression.
-/
import Derived.Test.YtkifnabkoidhcaaPp3
import Derived.Deep.RegionLaw
import Derived.Deep.RegionHeld3
namespace Go.Proofs.Ytkifnabkoidhcaa
open Go.RowKit Tx
namespace Pm

def sliceLen : Value → Nat
  | .slice _ n _ => n
  | _ => 0
def inN (i : Nat) (z : UInt8 × UInt8) : Bool := decide (z.1.toNat ≤ i) && decide (i ≤ z.2.toNat)
theorem inN_inR {i : Nat} (hi : i < 256) (z : UInt8 × UInt8) : inN i z = inR (UInt8.ofNat i) z := by
  have e : (UInt8.ofNat i).toNat = i := by simp; omega
  unfold inN inR
  rw [Bool.eq_iff_iff, Bool.and_eq_true, Bool.and_eq_true, decide_eq_true_iff, decide_eq_true_iff, decide_eq_true_iff, decide_eq_true_iff, UInt8.le_iff_toNat_le, UInt8.le_iff_toNat_le, e]
theorem any_inN {i : Nat} (hi : i < 256) (l : List (UInt8 × UInt8)) : l.any (inN i) = l.any (inR (UInt8.ofNat i)) := by
  induction l with
  | nil => rfl
  | cons z l ih => rw [List.any_cons, List.any_cons, ih, inN_inR hi]
/-- The set so far, and the units that are left. -/
structure SIn (w wr : World) (b : Nat) (l r : List Un) (A : Option Addr) (n k : Nat) : Prop where
  n : n = r.length
  us : US wr w.heap.size A k r
  set : ∃ f, BSet wr b f ∧ ∀ i, i < 256 → (rangesU l).any (inN i) = (f i || (rangesU r).any (inN i))
  bel : Below w.heap.size w wr
  hb : b = w.heap.size
theorem only_up {b B : Nat} {w w' : World} (h : Only (· = b) w w') (hB : B ≤ b) (hs : B ≤ w.heap.size) : Below B w w' := h.toBelow (fun k hk e => by have : k = b := e; omega) hs
/-- A range is put in: what is left then. -/
theorem SIn.next {w wr : World} {b n k : Nat} {l r : List Un} {A : Option Addr} {x y : UInt8} (h : SIn w wr b l r A n k) (i : Nat) (hi : i ≤ r.length) (hr : rangesU r = (x, y) :: rangesU (r.drop i)) :
    ∃ A2 k2, sliced A i n k 2 = .slice A2 (n - i) k2 ∧ ∃ f, BSet wr b f ∧ ∀ w1 w2, Below wr.heap.size wr w1 → BSet w2 b (fun i => f i || (decide (x.toNat ≤ i) && decide (i ≤ y.toNat))) → Only (· = b) w1 w2 → SIn w w2 b l (r.drop i) A2 (n - i) k2 := by
  obtain ⟨f, hf, hfa⟩ := h.set
  obtain ⟨A2, k2, e, hu⟩ := h.us.drop i hi
  have hbel := h.bel.size
  refine ⟨A2, k2, by rw [h.n]; exact e, f, hf, fun w1 w2 hb1 hs ho => ?_⟩
  have B2 : Below w.heap.size wr w2 := (hb1.mono hbel).trans (only_up ho (by have := h.hb; omega) (Nat.le_trans hbel hb1.size))
  refine ⟨by rw [List.length_drop, h.n], hu.same (fun g hg _ => B2.block g hg) B2.size, ⟨_, hs, fun j hj => ?_⟩, h.bel.trans B2, h.hb⟩
  rw [hfa j hj, hr, List.any_cons, Bool.or_assoc]
  rfl
theorem SIn.start {w W : World} {A : Option Addr} {k : Nat} {l : List Un} (hu : US w w.heap.size A k l) (hs : BSet W w.heap.size (fun _ => false)) (hb : Below w.heap.size w W) : SIn w W w.heap.size l l A l.length k :=
  ⟨rfl, hu.same (fun g hg _ => hb.block g hg) hb.size, ⟨_, hs, fun i _ => by rw [Bool.false_or]⟩, hb, rfl⟩
theorem zero_set (w : World) : BSet (w.alloc (.cells zeroCells 78)) w.heap.size (fun _ => false) :=
  ⟨⟨zeroCells, heap_alloc_new w _, by unfold zeroCells; rw [Array.size_replicate], fun i hi => by unfold zeroCells; rw [Array.getElem?_replicate, if_pos hi]⟩⟩
theorem SIn.done {w wr : World} {b n k : Nat} {l : List Un} {A : Option Addr} (h : SIn w wr b l [] A n k) : BSet wr b (fun i => (rangesU l).any (inN i)) := by
  obtain ⟨f, hf, hfa⟩ := h.set
  exact hf.as fun i hi => by rw [hfa i hi]; simp [rangesU]
set_option maxHeartbeats 4000000 in
set_option maxRecDepth 100000 in
/-- One round, a range of one unit. -/
theorem setOf_any (w : World) (A : Option Addr) (k : Nat) (l : List Un) (h : US w w.heap.size A k l) (hl : l ≠ []) :
    Calls Try.prog 46 #[.slice A l.length k] w fun e w' => ∃ b, e = .returned (.pointer (some ⟨b, 0, none⟩)) ∧ w.heap.size ≤ b ∧ Kept (BSet w' b (fun i => setU l (UInt8.ofNat i))) ∧ Kept (Below w.heap.size w w') := by
  have HU := Kept.mk h
  have hz := zeroSet_run
  have hpos : 0 < l.length := List.length_pos_iff.2 hl
  obtain ⟨g, off, rfl, hg, d0, d1⟩ := h.at hpos
  simp only [Nat.zero_mul, Nat.add_zero] at d0 d1
  obtain ⟨u, hu⟩ : ∃ u, u = l[0] := ⟨_, rfl⟩
  rw [← hu] at d0 d1
  have hnu : notU l = isU 33 u := by
    subst hu
    cases l with
    | nil => exact absurd rfl hl
    | cons a r => rfl
  obtain ⟨t, ht⟩ : ∃ t, t = notU l := ⟨_, rfl⟩
  have HT := Kept.mk ht
  have HTu : Kept (t = ((u.1.toNat : Int) == 33 && !u.2)) := ⟨by rw [ht, hnu, isU_int]; rfl⟩
  obtain ⟨A1, k1, n1, l1, hl1⟩ : ∃ A1 k1 n1 l1, Kept (n1 = l1.length ∧ US w w.heap.size A1 k1 l1 ∧ l1 = (if t then l.tail else l) ∧ (if t then (∀ W : World, (Instr.slice 47 (.slice (some ⟨g, off, none⟩) l.length k) (some (.int .i64 1)) none none).run Try.prog W = .ok (.slice A1 n1 k1) W) else (A1 = some ⟨g, off, none⟩ ∧ n1 = l.length ∧ k1 = k))) := by
    cases t with
    | false => exact ⟨_, k, _, l, ⟨rfl, h, rfl, rfl, rfl, rfl⟩⟩
    | true =>
      obtain ⟨A2, k2, e, h2⟩ := h.drop 1 hpos
      refine ⟨A2, k2, l.length - 1, l.tail, ⟨by simp, ?_, rfl, fun W => by rw [← e]; exact unit_from _ _ k 1 hpos W⟩⟩
      rw [List.drop_one] at h2
      exact h2
  obtain ⟨n, hn⟩ : ∃ n, n = l.length := ⟨_, rfl⟩
  rw [← hn] at hl1 ⊢
  have hn0 : (0 : Int) < (n : Int) := by omega
  have HW0 : Kept (Below w.heap.size w (w.alloc (.cells zeroCells 78))) := ⟨(Below.refl _ _).alloc (Nat.le_refl _) _⟩
  have HZ := Kept.mk (zero_set w)
  have e0 : (w.alloc (.cells zeroCells 78)).cell? ⟨g, off, none⟩ = some (.int .u8 (u.1.toNat : Int)) := (World.cell?_of_block (a := ⟨g, off, none⟩) (HW0.out.block g hg)).trans d0
  have e1 : (w.alloc (.cells zeroCells 78)).cell? ⟨g, off + 1, none⟩ = some (.bool u.2) := (World.cell?_of_block (a := ⟨g, off + 1, none⟩) (HW0.out.block g hg)).trans d1
  have HD : Kept (l1 = (if t then l.tail else l)) := ⟨hl1.out.2.2.1⟩
  clear h hn hl hpos hu hnu ht HU hg d0 d1
  have HS0 : ∀ w1, Below (w.alloc (.cells zeroCells 78)).heap.size (w.alloc (.cells zeroCells 78)) w1 → Kept (SIn w w1 w.heap.size l1 l1 A1 n1 k1) := fun w1 hb => ⟨by
    rw [hl1.out.1]; exact SIn.start hl1.out.2.1 (HZ.out.below hb) (HW0.out.trans (hb.mono HW0.out.size))⟩
  have HSk := Kept.mk HS0
  clear HS0
  go_enter Try.func46, Try.ntmps46
  cases t with
  | true =>
    have hsl0 := hl1.out.2.2.2
    simp only [if_true] at hsl0
    go_wp2_with (go_at_call 33; refine (is_any _ _ _ _ true HTu.out).mono ?_; rintro e w1 ⟨rfl, hb⟩; have HB1 := Kept.mk hb; clear hb)
    have HS0 := HSk.out w1 HB1.out
    clear hsl0 HSk HB1 e0 e1 HZ HW0
    go_loopw [0] (fun v wr => ∃ A n k r, v = .slice A n k ∧ Kept (SIn w wr w.heap.size l1 r A n k)) (fun v _ => sliceLen v)
    case atStart => exact ⟨_, _, _, l1, rfl, HS0⟩
    case round =>
      clear HS0
      obtain ⟨A, n, k, r, rfl, HS⟩ := hrel
      cases r with
      | nil =>
        have hn0 : ¬ (0 : Int) < (n : Int) := by rw [HS.out.n]; decide
        have HE := Kept.mk HS.out.done
        have HBl := Kept.mk HS.out.bel
        clear HS
        go_wp2_with (go_at_call 49; refine (invert_any _ w.heap.size _ HE.out).mono ?_; rintro e w3 ⟨rfl, HS3, HO3⟩)
        go_ret
        refine ⟨w.heap.size, rfl, Nat.le_refl _, ⟨HS3.out.as fun i hi => ?_⟩, ⟨HBl.out.trans (only_up HO3.out (Nat.le_refl _) HBl.out.size)⟩⟩
        unfold setU
        have h2 : l1 = l.tail := HD.out
        rw [← HT.out, if_pos rfl, any_inN hi, h2, Bool.bne_true]
      | cons a r =>
        have hn := HS.out.n
        have hn0 : (0 : Int) < (n : Int) := by rw [hn]; simp
        obtain ⟨g1, o1, hA, hg1, c0, c1⟩ := HS.out.us.at (j := 0) (by simp)
        subst hA
        simp only [Nat.zero_mul, Nat.add_zero, List.getElem_cons_zero] at c0 c1
        have c0d : wr.drew.cell? ⟨g1, o1, none⟩ = some (.int .u8 (a.1.toNat : Int)) := c0
        by_cases hn3 : 3 ≤ n
        · rcases r with _ | ⟨b, _ | ⟨c, r⟩⟩
          · simp at hn; omega
          · simp at hn; omega
          · have hn3i : (3 : Int) ≤ (n : Int) := by omega
            have h1n : (1 : Int) < (n : Int) := by omega
            have h2n : (2 : Int) < (n : Int) := by omega
            clear hn
            have hw0 : IntKind.i64.wrap 0 = 0 := by decide
            have hw2 : IntKind.i64.wrap 2 = 2 := by decide
            obtain ⟨_, _, e9, _, b0, b1⟩ := HS.out.us.at (j := 1) (by simp)
            injection e9 with e9
            injection e9 with e8 e7
            subst e8 e7
            obtain ⟨_, _, e9, _, q0, q1⟩ := HS.out.us.at (j := 2) (by simp)
            injection e9 with e9
            injection e9 with e8 e7
            subst e8 e7
            simp only [List.getElem_cons_succ, List.getElem_cons_zero, Nat.one_mul, Nat.reduceMul] at b0 b1 q0
            have q0d : wr.drew.cell? ⟨g1, o1 + 4, none⟩ = some (.int .u8 (c.1.toNat : Int)) := q0
            clear q1
            by_cases h45 : isU 45 b = true
            · have HB45 : Kept (true = ((b.1.toNat : Int) == 45 && !b.2)) := ⟨by rw [← h45, isU_int]; rfl⟩
              have HRg : Kept (rangesU (a :: b :: c :: r) = (a.1, c.1) :: rangesU ((a :: b :: c :: r).drop 3)) := ⟨by rw [rangesU, if_pos h45]; rfl⟩
              have HX := HS.out.next (x := a.1) (y := c.1) 3 (by simp only [List.length_cons]; omega) HRg.out
              obtain ⟨A2, k2, hse, f, hf, hnx⟩ := HX
              have Hf := Kept.mk hf
              have HNX := Kept.mk hnx
              have hsl : ∀ W : World, (Instr.slice 47 (.slice (some ⟨g1, o1, none⟩) n k) (some (.int .i64 3)) none none).run Try.prog W = .ok (.slice A2 (n - 3) k2) W := fun W => by rw [← hse]; exact unit_from _ n k 3 (by have := HS.out.n; simp only [List.length_cons] at this; omega) W
              have hm : Kept (n - 3 < n) := ⟨by omega⟩
              clear hse hf hnx
              go_wp2_with (go_at_call 33; refine (is_any _ _ _ _ true HB45.out).mono ?_; rintro e w1 ⟨rfl, hb⟩; have HB1 := Kept.mk hb; clear hb)
              have HFd : Kept (BSet w1.drew w.heap.size f) := ⟨(Hf.out.below HB1.out).drew⟩
              have HBd : Kept (Below wr.heap.size wr w1.drew) := ⟨HB1.out.drew⟩
              have c0e : w1.drew.cell? ⟨g1, o1, none⟩ = some (.int .u8 (a.1.toNat : Int)) := (World.cell?_of_block (a := ⟨g1, o1, none⟩) (HB1.out.block g1 hg1)).trans c0
              have q0e : w1.drew.cell? ⟨g1, o1 + 4, none⟩ = some (.int .u8 (c.1.toNat : Int)) := (World.cell?_of_block (a := ⟨g1, o1 + 4, none⟩) (HB1.out.block g1 hg1)).trans q0
              have c0f : w1.cell? ⟨g1, o1, none⟩ = some (.int .u8 (a.1.toNat : Int)) := c0e
              have q0f : w1.cell? ⟨g1, o1 + 4, none⟩ = some (.int .u8 (c.1.toNat : Int)) := q0e
              clear Hf c0 c1 c0d q0 q0d b0 b1 HB1
              go_wp2_with fail
              go_region_law (first | (go_simp; go_at_call 48; refine (include_any _ w.heap.size f a.1.toNat c.1.toNat (UInt8.toNat_lt _) (UInt8.toNat_lt _) (HFd.out)).mono ?_; rintro e w3 ⟨rfl, HS3, HO3⟩) | go_simp)
              all_goals
                have HS4 : Kept (SIn w w3 w.heap.size l1 _ A2 (n - 3) k2) := ⟨HNX.out _ w3 HBd.out HS3.out HO3.out⟩
                clear HS3 HO3
                go_wp2_with fail
                go_roundw
                case rel => exact ⟨A2, n - 3, k2, _, rfl, HS4⟩
                case measure => exact hm.out
            · have HB45 : Kept (false = ((b.1.toNat : Int) == 45 && !b.2)) := ⟨by rw [← Bool.eq_false_iff.2 h45, isU_int]; rfl⟩
              have HRg : Kept (rangesU (a :: b :: c :: r) = (a.1, a.1) :: rangesU ((a :: b :: c :: r).drop 1)) := ⟨by rw [rangesU, if_neg h45]; rfl⟩
              have HX := HS.out.next (x := a.1) (y := a.1) 1 (by simp only [List.length_cons]; omega) HRg.out
              obtain ⟨A2, k2, hse, f, hf, hnx⟩ := HX
              have Hf := Kept.mk hf
              have HNX := Kept.mk hnx
              have hsl : ∀ W : World, (Instr.slice 47 (.slice (some ⟨g1, o1, none⟩) n k) (some (.int .i64 1)) none none).run Try.prog W = .ok (.slice A2 (n - 1) k2) W := fun W => by rw [← hse]; exact unit_from _ n k 1 (by have := HS.out.n; simp only [List.length_cons] at this; omega) W
              have hm : Kept (n - 1 < n) := ⟨by omega⟩
              clear hse hf hnx
              go_wp2_with (go_at_call 33; refine (is_any _ _ _ _ false HB45.out).mono ?_; rintro e w1 ⟨rfl, hb⟩; have HB1 := Kept.mk hb; clear hb)
              have HFd : Kept (BSet w1.drew w.heap.size f) := ⟨(Hf.out.below HB1.out).drew⟩
              have HBd : Kept (Below wr.heap.size wr w1.drew) := ⟨HB1.out.drew⟩
              have c0e : w1.drew.cell? ⟨g1, o1, none⟩ = some (.int .u8 (a.1.toNat : Int)) := (World.cell?_of_block (a := ⟨g1, o1, none⟩) (HB1.out.block g1 hg1)).trans c0
              have q0e : w1.drew.cell? ⟨g1, o1 + 4, none⟩ = some (.int .u8 (c.1.toNat : Int)) := (World.cell?_of_block (a := ⟨g1, o1 + 4, none⟩) (HB1.out.block g1 hg1)).trans q0
              have c0f : w1.cell? ⟨g1, o1, none⟩ = some (.int .u8 (a.1.toNat : Int)) := c0e
              have q0f : w1.cell? ⟨g1, o1 + 4, none⟩ = some (.int .u8 (c.1.toNat : Int)) := q0e
              clear Hf c0 c1 c0d q0 q0d b0 b1 HB1
              go_wp2_with fail
              go_region_law (first | (go_simp; go_at_call 48; refine (include_any _ w.heap.size f a.1.toNat a.1.toNat (UInt8.toNat_lt _) (UInt8.toNat_lt _) (HFd.out)).mono ?_; rintro e w3 ⟨rfl, HS3, HO3⟩) | go_simp)
              all_goals
                have HS4 : Kept (SIn w w3 w.heap.size l1 _ A2 (n - 1) k2) := ⟨HNX.out _ w3 HBd.out HS3.out HO3.out⟩
                clear HS3 HO3
                go_wp2_with fail
                go_roundw
                case rel => exact ⟨A2, n - 1, k2, _, rfl, HS4⟩
                case measure => exact hm.out
        · have hn3i : ¬ (3 : Int) ≤ (n : Int) := by omega
          have hw0 : IntKind.i64.wrap 0 = 0 := by decide
          have HRg : Kept (rangesU (a :: r) = (a.1, a.1) :: rangesU ((a :: r).drop 1)) := ⟨rangesU_one a r (fun b c t e => by subst e; simp only [List.length_cons] at hn; omega)⟩
          have HX := HS.out.next (x := a.1) (y := a.1) 1 (by simp only [List.length_cons]; omega) HRg.out
          obtain ⟨A2, k2, hse, f, hf, hnx⟩ := HX
          have Hf := Kept.mk hf
          have HNX := Kept.mk hnx
          have hsl : ∀ W : World, (Instr.slice 47 (.slice (some ⟨g1, o1, none⟩) n k) (some (.int .i64 1)) none none).run Try.prog W = .ok (.slice A2 (n - 1) k2) W := fun W => by rw [← hse]; exact unit_from _ n k 1 (by have := HS.out.n; simp only [List.length_cons] at this; omega) W
          have hm : Kept (n - 1 < n) := ⟨by omega⟩
          clear hse hf hnx
          have HFd : Kept (BSet wr.drew w.heap.size f) := ⟨Hf.out.drew⟩
          have HBd : Kept (Below wr.heap.size wr wr.drew) := ⟨(Below.refl _ _).drew⟩
          clear Hf hn
          go_wp2_with fail
          go_region_law (first | (go_simp; go_at_call 48; refine (include_any _ w.heap.size f a.1.toNat a.1.toNat (UInt8.toNat_lt _) (UInt8.toNat_lt _) (HFd.out)).mono ?_; rintro e w3 ⟨rfl, HS3, HO3⟩) | go_simp)
          all_goals
            have HS4 : Kept (SIn w w3 w.heap.size l1 _ A2 (n - 1) k2) := ⟨HNX.out _ w3 HBd.out HS3.out HO3.out⟩
            clear HS3 HO3
            go_wp2_with fail
            go_roundw
            case rel => exact ⟨A2, n - 1, k2, _, rfl, HS4⟩
            case measure => exact hm.out

  | false =>
    obtain ⟨rfl, rfl, rfl⟩ := hl1.out.2.2.2
    go_wp2_with (go_at_call 33; refine (is_any _ _ _ _ false HTu.out).mono ?_; rintro e w1 ⟨rfl, hb⟩; have HB1 := Kept.mk hb; clear hb)
    have HS0 := HSk.out w1 HB1.out
    clear HSk HB1 e0 e1 HZ HW0
    go_loopw [0] (fun v wr => ∃ A n k r, v = .slice A n k ∧ Kept (SIn w wr w.heap.size l1 r A n k)) (fun v _ => sliceLen v)
    case atStart => exact ⟨_, _, _, l1, rfl, HS0⟩
    case round =>
      clear HS0
      obtain ⟨A, n, k, r, rfl, HS⟩ := hrel
      cases r with
      | nil =>
        have hn0 : ¬ (0 : Int) < (n : Int) := by rw [HS.out.n]; decide
        have HE := Kept.mk HS.out.done
        have HBl := Kept.mk HS.out.bel
        clear HS
        go_wp2_with fail
        go_ret
        refine ⟨w.heap.size, rfl, Nat.le_refl _, ⟨HE.out.as fun i hi => ?_⟩, HBl⟩
        unfold setU
        have h2 : l1 = l := HD.out
        rw [← HT.out, if_neg (by decide), any_inN hi, h2, Bool.bne_false]
      | cons a r =>
        have hn := HS.out.n
        have hn0 : (0 : Int) < (n : Int) := by rw [hn]; simp
        obtain ⟨g1, o1, hA, hg1, c0, c1⟩ := HS.out.us.at (j := 0) (by simp)
        subst hA
        simp only [Nat.zero_mul, Nat.add_zero, List.getElem_cons_zero] at c0 c1
        have c0d : wr.drew.cell? ⟨g1, o1, none⟩ = some (.int .u8 (a.1.toNat : Int)) := c0
        by_cases hn3 : 3 ≤ n
        · rcases r with _ | ⟨b, _ | ⟨c, r⟩⟩
          · simp at hn; omega
          · simp at hn; omega
          · have hn3i : (3 : Int) ≤ (n : Int) := by omega
            have h1n : (1 : Int) < (n : Int) := by omega
            have h2n : (2 : Int) < (n : Int) := by omega
            clear hn
            have hw0 : IntKind.i64.wrap 0 = 0 := by decide
            have hw2 : IntKind.i64.wrap 2 = 2 := by decide
            obtain ⟨_, _, e9, _, b0, b1⟩ := HS.out.us.at (j := 1) (by simp)
            injection e9 with e9
            injection e9 with e8 e7
            subst e8 e7
            obtain ⟨_, _, e9, _, q0, q1⟩ := HS.out.us.at (j := 2) (by simp)
            injection e9 with e9
            injection e9 with e8 e7
            subst e8 e7
            simp only [List.getElem_cons_succ, List.getElem_cons_zero, Nat.one_mul, Nat.reduceMul] at b0 b1 q0
            have q0d : wr.drew.cell? ⟨g1, o1 + 4, none⟩ = some (.int .u8 (c.1.toNat : Int)) := q0
            clear q1
            by_cases h45 : isU 45 b = true
            · have HB45 : Kept (true = ((b.1.toNat : Int) == 45 && !b.2)) := ⟨by rw [← h45, isU_int]; rfl⟩
              have HRg : Kept (rangesU (a :: b :: c :: r) = (a.1, c.1) :: rangesU ((a :: b :: c :: r).drop 3)) := ⟨by rw [rangesU, if_pos h45]; rfl⟩
              have HX := HS.out.next (x := a.1) (y := c.1) 3 (by simp only [List.length_cons]; omega) HRg.out
              obtain ⟨A2, k2, hse, f, hf, hnx⟩ := HX
              have Hf := Kept.mk hf
              have HNX := Kept.mk hnx
              have hsl : ∀ W : World, (Instr.slice 47 (.slice (some ⟨g1, o1, none⟩) n k) (some (.int .i64 3)) none none).run Try.prog W = .ok (.slice A2 (n - 3) k2) W := fun W => by rw [← hse]; exact unit_from _ n k 3 (by have := HS.out.n; simp only [List.length_cons] at this; omega) W
              have hm : Kept (n - 3 < n) := ⟨by omega⟩
              clear hse hf hnx
              go_wp2_with (go_at_call 33; refine (is_any _ _ _ _ true HB45.out).mono ?_; rintro e w1 ⟨rfl, hb⟩; have HB1 := Kept.mk hb; clear hb)
              have HFd : Kept (BSet w1.drew w.heap.size f) := ⟨(Hf.out.below HB1.out).drew⟩
              have HBd : Kept (Below wr.heap.size wr w1.drew) := ⟨HB1.out.drew⟩
              have c0e : w1.drew.cell? ⟨g1, o1, none⟩ = some (.int .u8 (a.1.toNat : Int)) := (World.cell?_of_block (a := ⟨g1, o1, none⟩) (HB1.out.block g1 hg1)).trans c0
              have q0e : w1.drew.cell? ⟨g1, o1 + 4, none⟩ = some (.int .u8 (c.1.toNat : Int)) := (World.cell?_of_block (a := ⟨g1, o1 + 4, none⟩) (HB1.out.block g1 hg1)).trans q0
              have c0f : w1.cell? ⟨g1, o1, none⟩ = some (.int .u8 (a.1.toNat : Int)) := c0e
              have q0f : w1.cell? ⟨g1, o1 + 4, none⟩ = some (.int .u8 (c.1.toNat : Int)) := q0e
              clear Hf c0 c1 c0d q0 q0d b0 b1 HB1
              go_wp2_with fail
              go_region_law (first | (go_simp; go_at_call 48; refine (include_any _ w.heap.size f a.1.toNat c.1.toNat (UInt8.toNat_lt _) (UInt8.toNat_lt _) (HFd.out)).mono ?_; rintro e w3 ⟨rfl, HS3, HO3⟩) | go_simp)
              all_goals
                have HS4 : Kept (SIn w w3 w.heap.size l1 _ A2 (n - 3) k2) := ⟨HNX.out _ w3 HBd.out HS3.out HO3.out⟩
                clear HS3 HO3
                go_wp2_with fail
                go_roundw
                case rel => exact ⟨A2, n - 3, k2, _, rfl, HS4⟩
                case measure => exact hm.out
            · have HB45 : Kept (false = ((b.1.toNat : Int) == 45 && !b.2)) := ⟨by rw [← Bool.eq_false_iff.2 h45, isU_int]; rfl⟩
              have HRg : Kept (rangesU (a :: b :: c :: r) = (a.1, a.1) :: rangesU ((a :: b :: c :: r).drop 1)) := ⟨by rw [rangesU, if_neg h45]; rfl⟩
              have HX := HS.out.next (x := a.1) (y := a.1) 1 (by simp only [List.length_cons]; omega) HRg.out
              obtain ⟨A2, k2, hse, f, hf, hnx⟩ := HX
              have Hf := Kept.mk hf
              have HNX := Kept.mk hnx
              have hsl : ∀ W : World, (Instr.slice 47 (.slice (some ⟨g1, o1, none⟩) n k) (some (.int .i64 1)) none none).run Try.prog W = .ok (.slice A2 (n - 1) k2) W := fun W => by rw [← hse]; exact unit_from _ n k 1 (by have := HS.out.n; simp only [List.length_cons] at this; omega) W
              have hm : Kept (n - 1 < n) := ⟨by omega⟩
              clear hse hf hnx
              go_wp2_with (go_at_call 33; refine (is_any _ _ _ _ false HB45.out).mono ?_; rintro e w1 ⟨rfl, hb⟩; have HB1 := Kept.mk hb; clear hb)
              have HFd : Kept (BSet w1.drew w.heap.size f) := ⟨(Hf.out.below HB1.out).drew⟩
              have HBd : Kept (Below wr.heap.size wr w1.drew) := ⟨HB1.out.drew⟩
              have c0e : w1.drew.cell? ⟨g1, o1, none⟩ = some (.int .u8 (a.1.toNat : Int)) := (World.cell?_of_block (a := ⟨g1, o1, none⟩) (HB1.out.block g1 hg1)).trans c0
              have q0e : w1.drew.cell? ⟨g1, o1 + 4, none⟩ = some (.int .u8 (c.1.toNat : Int)) := (World.cell?_of_block (a := ⟨g1, o1 + 4, none⟩) (HB1.out.block g1 hg1)).trans q0
              have c0f : w1.cell? ⟨g1, o1, none⟩ = some (.int .u8 (a.1.toNat : Int)) := c0e
              have q0f : w1.cell? ⟨g1, o1 + 4, none⟩ = some (.int .u8 (c.1.toNat : Int)) := q0e
              clear Hf c0 c1 c0d q0 q0d b0 b1 HB1
              go_wp2_with fail
              go_region_law (first | (go_simp; go_at_call 48; refine (include_any _ w.heap.size f a.1.toNat a.1.toNat (UInt8.toNat_lt _) (UInt8.toNat_lt _) (HFd.out)).mono ?_; rintro e w3 ⟨rfl, HS3, HO3⟩) | go_simp)
              all_goals
                have HS4 : Kept (SIn w w3 w.heap.size l1 _ A2 (n - 1) k2) := ⟨HNX.out _ w3 HBd.out HS3.out HO3.out⟩
                clear HS3 HO3
                go_wp2_with fail
                go_roundw
                case rel => exact ⟨A2, n - 1, k2, _, rfl, HS4⟩
                case measure => exact hm.out
        · have hn3i : ¬ (3 : Int) ≤ (n : Int) := by omega
          have hw0 : IntKind.i64.wrap 0 = 0 := by decide
          have HRg : Kept (rangesU (a :: r) = (a.1, a.1) :: rangesU ((a :: r).drop 1)) := ⟨rangesU_one a r (fun b c t e => by subst e; simp only [List.length_cons] at hn; omega)⟩
          have HX := HS.out.next (x := a.1) (y := a.1) 1 (by simp only [List.length_cons]; omega) HRg.out
          obtain ⟨A2, k2, hse, f, hf, hnx⟩ := HX
          have Hf := Kept.mk hf
          have HNX := Kept.mk hnx
          have hsl : ∀ W : World, (Instr.slice 47 (.slice (some ⟨g1, o1, none⟩) n k) (some (.int .i64 1)) none none).run Try.prog W = .ok (.slice A2 (n - 1) k2) W := fun W => by rw [← hse]; exact unit_from _ n k 1 (by have := HS.out.n; simp only [List.length_cons] at this; omega) W
          have hm : Kept (n - 1 < n) := ⟨by omega⟩
          clear hse hf hnx
          have HFd : Kept (BSet wr.drew w.heap.size f) := ⟨Hf.out.drew⟩
          have HBd : Kept (Below wr.heap.size wr wr.drew) := ⟨(Below.refl _ _).drew⟩
          clear Hf hn
          go_wp2_with fail
          go_region_law (first | (go_simp; go_at_call 48; refine (include_any _ w.heap.size f a.1.toNat a.1.toNat (UInt8.toNat_lt _) (UInt8.toNat_lt _) (HFd.out)).mono ?_; rintro e w3 ⟨rfl, HS3, HO3⟩) | go_simp)
          all_goals
            have HS4 : Kept (SIn w w3 w.heap.size l1 _ A2 (n - 1) k2) := ⟨HNX.out _ w3 HBd.out HS3.out HO3.out⟩
            clear HS3 HO3
            go_wp2_with fail
            go_roundw
            case rel => exact ⟨A2, n - 1, k2, _, rfl, HS4⟩
            case measure => exact hm.out

end Pm
end Go.Proofs.Ytkifnabkoidhcaa
