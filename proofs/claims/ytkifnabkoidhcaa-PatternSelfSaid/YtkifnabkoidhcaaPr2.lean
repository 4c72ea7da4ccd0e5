/-
  The document's patterns: a set, and a pattern's head.
-/
import Derived.Test.YtkifnabkoidhcaaPr1
import Derived.Deep.DeepCutAuto
import Derived.Deep.CutBlock
import Derived.Deep.LoopGhost
namespace Go.Proofs.Ytkifnabkoidhcaa
open Go.RowKit Tx
namespace Pm

theorem byteOf_esc {p : ByteArray} {j : Nat} (h : j < p.size) (h1 : j + 1 < p.size) (e : p[j]'h = 92) : byteOf (p[j]'h) ((toL p).drop (j + 1)) = (p[j + 1]'h1, (toL p).drop (j + 2)) := by
  unfold byteOf
  rw [drop_at h1, if_pos ⟨e, by simp⟩]
  rfl
theorem byteOf_as {p : ByteArray} {j : Nat} (h : j < p.size) (h1 : ¬ (p[j]'h = 92 ∧ j + 1 < p.size)) : byteOf (p[j]'h) ((toL p).drop (j + 1)) = (p[j]'h, (toL p).drop (j + 1)) := by
  unfold byteOf
  rw [if_neg]
  rintro ⟨e, e2⟩
  exact h1 ⟨e, Nat.lt_of_not_le fun h2 => e2 (drop_end h2)⟩
/-- No range. -/
theorem rangeOf_one {x : UInt8} {r : List UInt8} {lo : UInt8} {p : ByteArray} {a : Nat} (hb : byteOf x r = (lo, (toL p).drop a)) (h : ¬ ∃ h : a + 1 < p.size, p[a]'(by omega) = 45 ∧ p[a + 1]'h ≠ 93) : rangeOf x r = ((lo, lo), (toL p).drop a) := by
  unfold rangeOf
  rw [hb, if_neg]
  simp only []
  rintro ⟨h1, h2, h3⟩
  rw [List.length_drop, toL_length] at h1
  have ha : a < p.size := by omega
  have ha1 : a + 1 < p.size := by omega
  rw [drop_at ha] at h2 h3
  rw [List.tail_cons, drop_at ha1] at h3
  exact h ⟨ha1, h2, h3⟩
/-- A range. -/
theorem rangeOf_two {x : UInt8} {r : List UInt8} {lo hi : UInt8} {p : ByteArray} {a j : Nat} (hb : byteOf x r = (lo, (toL p).drop a)) (h : a + 1 < p.size) (h45 : p[a]'(by omega) = 45) (h93 : p[a + 1]'h ≠ 93) (hb2 : byteOf (p[a + 1]'h) ((toL p).drop (a + 1 + 1)) = (hi, (toL p).drop j)) : rangeOf x r = ((lo, hi), (toL p).drop j) := by
  have ha : a < p.size := by omega
  unfold rangeOf
  rw [hb]
  simp only []
  rw [drop_at ha, List.tail_cons, drop_at h, List.tail_cons, if_pos ⟨by simp, h45, h93⟩]
  show ((lo, (byteOf (p[a + 1]'h) _).1), (byteOf (p[a + 1]'h) _).2) = _
  rw [hb2]
/-- What the loop has read. -/
def Read (p : ByteArray) (l0 : List UInt8) (c : UInt8) (j : Nat) (f b : Bool) : Prop :=
  ∃ rs, items true l0 = (items f ((toL p).drop j)).map (fun z => (rs ++ z.1, z.2)) ∧ b = rs.any (inR c)
theorem Read.start (p : ByteArray) (c : UInt8) (j : Nat) : Read p ((toL p).drop j) c j true false := ⟨[], by cases items true ((toL p).drop j) <;> rfl, rfl⟩
theorem Read.next {p : ByteArray} {l0 : List UInt8} {c : UInt8} {j j2 : Nat} {f b : Bool} {lo hi : UInt8} (h : Read p l0 c j f b) (hj : j < p.size) (hn : ¬ (f = false ∧ p[j]'hj = 93)) (hr : rangeOf (p[j]'hj) ((toL p).drop (j + 1)) = ((lo, hi), (toL p).drop j2)) : Read p l0 c j2 false (b || inR c (lo, hi)) := by
  obtain ⟨rs, h1, h2⟩ := h
  refine ⟨rs ++ [(lo, hi)], ?_, ?_⟩
  · rw [h1, drop_at hj, items_on hn, hr, Option.map_map]
    congr 1
    funext z
    simp [List.append_assoc]
  · rw [h2, List.any_append]
    simp [inR]
theorem Read.none {p : ByteArray} {l0 : List UInt8} {c : UInt8} {j : Nat} {f b : Bool} (h : Read p l0 c j f b) (hj : p.size ≤ j) : items true l0 = none := by
  obtain ⟨rs, h1, _⟩ := h
  rw [h1, drop_end hj]; rfl
theorem Read.some {p : ByteArray} {l0 : List UInt8} {c : UInt8} {j : Nat} {b : Bool} (h : Read p l0 c j false b) (hj : j < p.size) (he : p[j]'hj = 93) : ∃ rs, items true l0 = Option.some (rs, (toL p).drop (j + 1)) ∧ b = rs.any (inR c) := by
  obtain ⟨rs, h1, h2⟩ := h
  refine ⟨rs, ?_, h2⟩
  rw [h1, drop_at hj, he, items_end]
  simp
/-- Does a range stand behind a byte? -/
def Rg (p : ByteArray) (a : Nat) (t : Bool) : Prop := t = true ↔ ∃ h : a + 1 + 1 < p.size, p[a + 1]'(by omega) = 45 ∧ p[a + 1 + 1]'h ≠ 93
theorem Rg.no {p : ByteArray} {a : Nat} (h : ¬ ∃ h : a + 1 + 1 < p.size, p[a + 1]'(by omega) = 45 ∧ p[a + 1 + 1]'h ≠ 93) : Rg p a false := ⟨fun e => (by cases e), fun e => absurd e h⟩
theorem Rg.yes {p : ByteArray} {a : Nat} (h : ∃ h : a + 1 + 1 < p.size, p[a + 1]'(by omega) = 45 ∧ p[a + 1 + 1]'h ≠ 93) : Rg p a true := ⟨fun _ => h, fun _ => rfl⟩
theorem Rg.is {p : ByteArray} {a : Nat} (h : Rg p a true) : ∃ h : a + 1 + 1 < p.size, p[a + 1]'(by omega) = 45 ∧ p[a + 1 + 1]'h ≠ 93 := h.1 rfl
theorem Rg.not {p : ByteArray} {a : Nat} (h : Rg p a false) : ¬ ∃ h : a + 1 + 1 < p.size, p[a + 1]'(by omega) = 45 ∧ p[a + 1 + 1]'h ≠ 93 := fun e => by have := h.2 e; cases this
/-- What a set answers. -/
def setAns (p : ByteArray) (c : UInt8) (r : List UInt8) : Bool × Nat :=
  match bracket r with
  | some z => (z.2.1.any (inR c) != z.1, p.size - z.2.2.length)
  | none => (false, 0)
set_option maxHeartbeats 4000000 in
set_option maxRecDepth 100000 in
theorem set_not (p : ByteArray) (c : UInt8) (w : World) (h1 : 0 < p.size) (hp : p.size ≤ 1000) (r : List UInt8) (hr : (toL p).drop 1 = r) (ans : Bool × Nat) (HAn : Kept (ans = setAns p c r)) (h2 : 1 < p.size) (h33 : p[1]'h2 = 33) :
    Calls Try.prog 40 #[.string p, .int .u8 (c.toNat : Int)] w fun e w' => e = .returned (.tuple #[.bool ans.1, .int .i64 (ans.2 : Int)]) ∧ w = w' := by
  have h22 : (1 : Int) < (p.size : Int) := by omega
  have z33 : ((p[1]'h2).toNat : Int) = 33 := by rw [h33]; rfl
  obtain ⟨l0, hl0⟩ : ∃ l0, l0 = (toL p).drop 2 := ⟨_, rfl⟩
  have hd := drop_at h2
  have HBr : Kept (bracket r = (items true l0).map fun z => (true, z)) := ⟨by
    unfold bracket
    rw [← hr, hd, h33, if_pos (show (33 :: (toL p).drop (1 + 1)).head? = some 33 from rfl), hl0]
    rfl⟩
  have HS : Kept (Read p l0 c 2 true false) := ⟨by rw [hl0]; exact Read.start p c 2⟩
  clear hl0 hd h33 hr
  go_enter Try.func40, Try.ntmps40
  go_wp2_with fail
  go_loopg [6, 8, 9] p.size (fun m iv bv fv wr => ∃ (j : Nat) (f b : Bool), iv = .int .i64 (j : Int) ∧ bv = .bool b ∧ fv = .bool f ∧ j ≤ p.size ∧ p.size - j ≤ m ∧ Kept (Read p l0 c j f b) ∧ w = wr)
  case atStart => exact ⟨2, true, false, rfl, rfl, rfl, by omega, by omega, HS, rfl⟩
  case round =>
    obtain ⟨j, f, b, rfl, rfl, rfl, hj, hjm, HRd, rfl⟩ := hrel
    have hj5 : (j : Int) ≤ 1000 := by omega
    by_cases hlt : j < p.size
    · have hl2 : (j : Int) < (p.size : Int) := by omega
      cases f with
      | false =>
        by_cases e93 : p[j]'hlt = 93
        · have z93 : ((p[j]'hlt).toNat : Int) = 93 := by rw [e93]; rfl
          have HA : Kept (ans = (!b, j + 1)) := ⟨by
            obtain ⟨rs, h1, h2⟩ := HRd.out.some hlt e93
            rw [HAn.out]
            unfold setAns
            rw [HBr.out, h1, h2]
            show (_, p.size - ((toL p).drop (j + 1)).length) = _
            rw [List.length_drop, toL_length, show p.size - (p.size - (j + 1)) = j + 1 by omega]
            cases rs.any (inR c) <;> rfl⟩
          clear e93
          go_wp2_with fail
          go_ret2
          exact ⟨by rw [HA.out]; rfl, rfl⟩
        · have z93 : ¬ ((p[j]'hlt).toNat : Int) = 93 := toNat_ne (b := 93) e93
          have HNo : Kept (¬ (false = false ∧ p[j]'hlt = 93)) := ⟨fun h => e93 h.2⟩
          clear e93
          go_upto_region 8 with fail
          go_cut [48] (fun tv wx => ∃ t : Bool, tv = .bool t ∧ Kept (t = decide (p[j]'hlt = 92 ∧ j + 1 < p.size)) ∧ w = wx)
          case first =>
            by_cases e92 : p[j]'hlt = 92
            · have z92 : ((p[j]'hlt).toNat : Int) = 92 := by rw [e92]; rfl
              by_cases hn : j + 1 < p.size
              · have hn2 : (j : Int) + 1 < (p.size : Int) := by omega
                have HT : Kept (true = decide (p[j]'hlt = 92 ∧ j + 1 < p.size)) := ⟨(decide_eq_true ⟨e92, hn⟩).symm⟩
                clear e92
                go_wp2_with fail
                go_meet
                exact ⟨true, rfl, HT, rfl⟩
              · have hn2 : ¬ (j : Int) + 1 < (p.size : Int) := by omega
                have HT : Kept (false = decide (p[j]'hlt = 92 ∧ j + 1 < p.size)) := ⟨(decide_eq_false fun h => hn h.2).symm⟩
                clear e92
                go_wp2_with fail
                go_meet
                exact ⟨false, rfl, HT, rfl⟩
            · have z92 : ¬ ((p[j]'hlt).toNat : Int) = 92 := toNat_ne (b := 92) e92
              have HT : Kept (false = decide (p[j]'hlt = 92 ∧ j + 1 < p.size)) := ⟨(decide_eq_false fun h => e92 h.1).symm⟩
              clear e92
              go_wp2_with fail
              go_meet
              exact ⟨false, rfl, HT, rfl⟩
          case rest =>
            obtain ⟨t, rfl, HT, rfl⟩ := hcut
            go_upto_if 48 with fail
            go_cut [6] (fun iv wx => ∃ (a : Nat) (h : a < p.size), iv = .int .i64 (a : Int) ∧ Kept (byteOf (p[j]'hlt) ((toL p).drop (j + 1)) = (p[a]'h, (toL p).drop (a + 1))) ∧ j ≤ a ∧ a ≤ j + 1 ∧ w = wx)
            case first =>
              cases t with
              | true =>
                obtain ⟨e92, hn⟩ := of_decide_eq_true HT.out.symm
                have HBy := Kept.mk (byteOf_esc hlt hn e92)
                clear e92
                go_wp2_with fail
                go_meet
                exact ⟨j + 1, hn, by go_num, HBy, by omega, by omega, rfl⟩
              | false =>
                have HBy := Kept.mk (byteOf_as hlt (of_decide_eq_false HT.out.symm))
                go_wp2_with fail
                go_meet
                exact ⟨j, hlt, rfl, HBy, by omega, by omega, rfl⟩
            case rest =>
              clear HT
              obtain ⟨a, ha, rfl, HBy, ha1, ha2, rfl⟩ := hcut
              have ha3 : (a : Int) < (p.size : Int) := by omega
              have ha4 : (a : Int) ≤ 1000 := by omega
              go_upto_region 13 with fail
              go_cut [74] (fun tv wx => ∃ t : Bool, tv = .bool t ∧ Kept (Rg p a t) ∧ w = wx)
              case first =>
                by_cases h2 : a + 1 + 1 < p.size
                · have h22 : (a : Int) + 1 + 1 < (p.size : Int) := by omega
                  have hb1 : a + 1 < p.size := by omega
                  by_cases e45 : p[a + 1]'hb1 = 45
                  · have z45 : ((p[a + 1]'hb1).toNat : Int) = 45 := by rw [e45]; rfl
                    by_cases e93 : p[a + 1 + 1]'h2 = 93
                    · have z93 : ((p[a + 1 + 1]'h2).toNat : Int) = 93 := by rw [e93]; rfl
                      have HT : Kept (Rg p a false) := ⟨Rg.no fun ⟨_, _, h⟩ => h e93⟩
                      clear e45 e93
                      go_wp2_with fail
                      go_meet
                      exact ⟨false, rfl, HT, rfl⟩
                    · have z93 : ¬ ((p[a + 1 + 1]'h2).toNat : Int) = 93 := toNat_ne (b := 93) e93
                      have y93 : (((p[a + 1 + 1]'h2).toNat : Int) != 93) = true := by simpa using z93
                      have HT : Kept (Rg p a true) := ⟨Rg.yes ⟨h2, e45, e93⟩⟩
                      clear e45 e93
                      go_wp2_with fail
                      go_meet
                      exact ⟨true, rfl, HT, rfl⟩
                  · have z45 : ¬ ((p[a + 1]'hb1).toNat : Int) = 45 := toNat_ne (b := 45) e45
                    have HT : Kept (Rg p a false) := ⟨Rg.no fun ⟨_, h, _⟩ => e45 h⟩
                    clear e45
                    go_wp2_with fail
                    go_meet
                    exact ⟨false, rfl, HT, rfl⟩
                · have h22 : ¬ (a : Int) + 1 + 1 < (p.size : Int) := by omega
                  have HT : Kept (Rg p a false) := ⟨Rg.no fun ⟨h, _⟩ => h2 h⟩
                  go_wp2_with fail
                  go_meet
                  exact ⟨false, rfl, HT, rfl⟩
              case rest =>
                obtain ⟨t, rfl, HT, rfl⟩ := hcut
                go_upto_if 74 with fail
                go_cut [6, 11] (fun iv hv wx => ∃ (j2 : Nat) (hi : UInt8), iv = .int .i64 (j2 : Int) ∧ hv = .int .u8 (hi.toNat : Int) ∧ j2 ≤ p.size ∧ j < j2 ∧ Kept (rangeOf (p[j]'hlt) ((toL p).drop (j + 1)) = ((p[a]'ha, hi), (toL p).drop j2)) ∧ w = wx)
                case first =>
                  cases t with
                  | false =>
                    have HRg := Kept.mk (rangeOf_one (p := p) (a := a + 1) HBy.out HT.out.not)
                    go_wp2_with fail
                    go_meet
                    exact ⟨a + 1, _, by go_num, rfl, by omega, by omega, HRg, rfl⟩
                  | true =>
                    obtain ⟨h2, e45, e93⟩ := HT.out.is
                    have h22 : (a : Int) + 1 + 1 < (p.size : Int) := by omega
                    by_cases f92 : p[a + 1 + 1]'h2 = 92
                    · have y92 : ((p[a + 1 + 1]'h2).toNat : Int) = 92 := by rw [f92]; rfl
                      by_cases h3 : a + 1 + 1 + 1 < p.size
                      · have h33 : (a : Int) + 1 + 1 + 1 < (p.size : Int) := by omega
                        have HRg := Kept.mk (rangeOf_two (p := p) (a := a + 1) HBy.out h2 e45 e93 (byteOf_esc h2 h3 f92))
                        clear e45 e93 f92
                        go_wp2_with fail
                        go_meet
                        exact ⟨a + 1 + 1 + 2, _, by go_num, rfl, by omega, by omega, HRg, rfl⟩
                      · have h33 : ¬ (a : Int) + 1 + 1 + 1 < (p.size : Int) := by omega
                        have HRg := Kept.mk (rangeOf_two (p := p) (a := a + 1) HBy.out h2 e45 e93 (byteOf_as h2 (fun h => h3 h.2)))
                        clear e45 e93 f92
                        go_wp2_with fail
                        go_meet
                        exact ⟨a + 1 + 1 + 1, _, by go_num, rfl, by omega, by omega, HRg, rfl⟩
                    · have y92 : ¬ ((p[a + 1 + 1]'h2).toNat : Int) = 92 := toNat_ne (b := 92) f92
                      have HRg := Kept.mk (rangeOf_two (p := p) (a := a + 1) HBy.out h2 e45 e93 (byteOf_as h2 (fun h => f92 h.1)))
                      clear e45 e93 f92
                      go_wp2_with fail
                      go_meet
                      exact ⟨a + 1 + 1 + 1, _, by go_num, rfl, by omega, by omega, HRg, rfl⟩
                case rest =>
                  obtain ⟨j2, hi, rfl, rfl, hj2, hjj, HRg, rfl⟩ := hcut
                  have HN := Kept.mk (HRd.out.next hlt HNo.out HRg.out)
                  have HJ : Kept (j2 ≤ p.size ∧ j < j2) := ⟨hj2, hjj⟩
                  cases b with
                  | true =>
                    go_wp2_with fail
                    go_roundg (p.size - j2)
                    case measure => have := HJ.out; omega
                    case rel => exact ⟨j2, false, true, rfl, rfl, rfl, hj2, Nat.le_refl _, HN, rfl⟩
                  | false =>
                    have HN2 : ∀ t, t = inR c (p[a]'ha, hi) → Kept (Read p l0 c j2 false t) := fun t ht => ⟨by rw [ht]; exact HN.out⟩
                    have HN2 := Kept.mk HN2
                    by_cases q1 : (p[a]'ha) ≤ c
                    · have y1 : ((p[a]'ha).toNat : Int) ≤ (c.toNat : Int) := by have := UInt8.le_iff_toNat_le.1 q1; omega
                      by_cases q2 : c ≤ hi
                      · have y2 : (c.toNat : Int) ≤ (hi.toNat : Int) := by have := UInt8.le_iff_toNat_le.1 q2; omega
                        have HT := HN2.out true (by simp [inR, q1, q2])
                        clear q1 q2
                        go_wp2_with fail
                        go_roundg (p.size - j2)
                        case measure => have := HJ.out; omega
                        case rel => exact ⟨j2, false, true, rfl, rfl, rfl, hj2, Nat.le_refl _, HT, rfl⟩
                      · have y2 : ¬ (c.toNat : Int) ≤ (hi.toNat : Int) := fun h => q2 (UInt8.le_iff_toNat_le.2 (by omega))
                        have HT := HN2.out false (by simp [inR, q2])
                        clear q1 q2
                        go_wp2_with fail
                        go_roundg (p.size - j2)
                        case measure => have := HJ.out; omega
                        case rel => exact ⟨j2, false, false, rfl, rfl, rfl, hj2, Nat.le_refl _, HT, rfl⟩
                    · have y1 : ¬ ((p[a]'ha).toNat : Int) ≤ (c.toNat : Int) := fun h => q1 (UInt8.le_iff_toNat_le.2 (by omega))
                      have HT := HN2.out false (by simp [inR, q1])
                      clear q1
                      go_wp2_with fail
                      go_roundg (p.size - j2)
                      case measure => have := HJ.out; omega
                      case rel => exact ⟨j2, false, false, rfl, rfl, rfl, hj2, Nat.le_refl _, HT, rfl⟩
      | true =>
        have HNo : Kept (¬ (true = false ∧ p[j]'hlt = 93)) := ⟨fun h => by cases h.1⟩
        go_upto_region 8 with fail
        go_cut [48] (fun tv wx => ∃ t : Bool, tv = .bool t ∧ Kept (t = decide (p[j]'hlt = 92 ∧ j + 1 < p.size)) ∧ w = wx)
        case first =>
          by_cases e92 : p[j]'hlt = 92
          · have z92 : ((p[j]'hlt).toNat : Int) = 92 := by rw [e92]; rfl
            by_cases hn : j + 1 < p.size
            · have hn2 : (j : Int) + 1 < (p.size : Int) := by omega
              have HT : Kept (true = decide (p[j]'hlt = 92 ∧ j + 1 < p.size)) := ⟨(decide_eq_true ⟨e92, hn⟩).symm⟩
              clear e92
              go_wp2_with fail
              go_meet
              exact ⟨true, rfl, HT, rfl⟩
            · have hn2 : ¬ (j : Int) + 1 < (p.size : Int) := by omega
              have HT : Kept (false = decide (p[j]'hlt = 92 ∧ j + 1 < p.size)) := ⟨(decide_eq_false fun h => hn h.2).symm⟩
              clear e92
              go_wp2_with fail
              go_meet
              exact ⟨false, rfl, HT, rfl⟩
          · have z92 : ¬ ((p[j]'hlt).toNat : Int) = 92 := toNat_ne (b := 92) e92
            have HT : Kept (false = decide (p[j]'hlt = 92 ∧ j + 1 < p.size)) := ⟨(decide_eq_false fun h => e92 h.1).symm⟩
            clear e92
            go_wp2_with fail
            go_meet
            exact ⟨false, rfl, HT, rfl⟩
        case rest =>
          obtain ⟨t, rfl, HT, rfl⟩ := hcut
          go_upto_if 48 with fail
          go_cut [6] (fun iv wx => ∃ (a : Nat) (h : a < p.size), iv = .int .i64 (a : Int) ∧ Kept (byteOf (p[j]'hlt) ((toL p).drop (j + 1)) = (p[a]'h, (toL p).drop (a + 1))) ∧ j ≤ a ∧ a ≤ j + 1 ∧ w = wx)
          case first =>
            cases t with
            | true =>
              obtain ⟨e92, hn⟩ := of_decide_eq_true HT.out.symm
              have HBy := Kept.mk (byteOf_esc hlt hn e92)
              clear e92
              go_wp2_with fail
              go_meet
              exact ⟨j + 1, hn, by go_num, HBy, by omega, by omega, rfl⟩
            | false =>
              have HBy := Kept.mk (byteOf_as hlt (of_decide_eq_false HT.out.symm))
              go_wp2_with fail
              go_meet
              exact ⟨j, hlt, rfl, HBy, by omega, by omega, rfl⟩
          case rest =>
            clear HT
            obtain ⟨a, ha, rfl, HBy, ha1, ha2, rfl⟩ := hcut
            have ha3 : (a : Int) < (p.size : Int) := by omega
            have ha4 : (a : Int) ≤ 1000 := by omega
            go_upto_region 13 with fail
            go_cut [74] (fun tv wx => ∃ t : Bool, tv = .bool t ∧ Kept (Rg p a t) ∧ w = wx)
            case first =>
              by_cases h2 : a + 1 + 1 < p.size
              · have h22 : (a : Int) + 1 + 1 < (p.size : Int) := by omega
                have hb1 : a + 1 < p.size := by omega
                by_cases e45 : p[a + 1]'hb1 = 45
                · have z45 : ((p[a + 1]'hb1).toNat : Int) = 45 := by rw [e45]; rfl
                  by_cases e93 : p[a + 1 + 1]'h2 = 93
                  · have z93 : ((p[a + 1 + 1]'h2).toNat : Int) = 93 := by rw [e93]; rfl
                    have HT : Kept (Rg p a false) := ⟨Rg.no fun ⟨_, _, h⟩ => h e93⟩
                    clear e45 e93
                    go_wp2_with fail
                    go_meet
                    exact ⟨false, rfl, HT, rfl⟩
                  · have z93 : ¬ ((p[a + 1 + 1]'h2).toNat : Int) = 93 := toNat_ne (b := 93) e93
                    have y93 : (((p[a + 1 + 1]'h2).toNat : Int) != 93) = true := by simpa using z93
                    have HT : Kept (Rg p a true) := ⟨Rg.yes ⟨h2, e45, e93⟩⟩
                    clear e45 e93
                    go_wp2_with fail
                    go_meet
                    exact ⟨true, rfl, HT, rfl⟩
                · have z45 : ¬ ((p[a + 1]'hb1).toNat : Int) = 45 := toNat_ne (b := 45) e45
                  have HT : Kept (Rg p a false) := ⟨Rg.no fun ⟨_, h, _⟩ => e45 h⟩
                  clear e45
                  go_wp2_with fail
                  go_meet
                  exact ⟨false, rfl, HT, rfl⟩
              · have h22 : ¬ (a : Int) + 1 + 1 < (p.size : Int) := by omega
                have HT : Kept (Rg p a false) := ⟨Rg.no fun ⟨h, _⟩ => h2 h⟩
                go_wp2_with fail
                go_meet
                exact ⟨false, rfl, HT, rfl⟩
            case rest =>
              obtain ⟨t, rfl, HT, rfl⟩ := hcut
              go_upto_if 74 with fail
              go_cut [6, 11] (fun iv hv wx => ∃ (j2 : Nat) (hi : UInt8), iv = .int .i64 (j2 : Int) ∧ hv = .int .u8 (hi.toNat : Int) ∧ j2 ≤ p.size ∧ j < j2 ∧ Kept (rangeOf (p[j]'hlt) ((toL p).drop (j + 1)) = ((p[a]'ha, hi), (toL p).drop j2)) ∧ w = wx)
              case first =>
                cases t with
                | false =>
                  have HRg := Kept.mk (rangeOf_one (p := p) (a := a + 1) HBy.out HT.out.not)
                  go_wp2_with fail
                  go_meet
                  exact ⟨a + 1, _, by go_num, rfl, by omega, by omega, HRg, rfl⟩
                | true =>
                  obtain ⟨h2, e45, e93⟩ := HT.out.is
                  have h22 : (a : Int) + 1 + 1 < (p.size : Int) := by omega
                  by_cases f92 : p[a + 1 + 1]'h2 = 92
                  · have y92 : ((p[a + 1 + 1]'h2).toNat : Int) = 92 := by rw [f92]; rfl
                    by_cases h3 : a + 1 + 1 + 1 < p.size
                    · have h33 : (a : Int) + 1 + 1 + 1 < (p.size : Int) := by omega
                      have HRg := Kept.mk (rangeOf_two (p := p) (a := a + 1) HBy.out h2 e45 e93 (byteOf_esc h2 h3 f92))
                      clear e45 e93 f92
                      go_wp2_with fail
                      go_meet
                      exact ⟨a + 1 + 1 + 2, _, by go_num, rfl, by omega, by omega, HRg, rfl⟩
                    · have h33 : ¬ (a : Int) + 1 + 1 + 1 < (p.size : Int) := by omega
                      have HRg := Kept.mk (rangeOf_two (p := p) (a := a + 1) HBy.out h2 e45 e93 (byteOf_as h2 (fun h => h3 h.2)))
                      clear e45 e93 f92
                      go_wp2_with fail
                      go_meet
                      exact ⟨a + 1 + 1 + 1, _, by go_num, rfl, by omega, by omega, HRg, rfl⟩
                  · have y92 : ¬ ((p[a + 1 + 1]'h2).toNat : Int) = 92 := toNat_ne (b := 92) f92
                    have HRg := Kept.mk (rangeOf_two (p := p) (a := a + 1) HBy.out h2 e45 e93 (byteOf_as h2 (fun h => f92 h.1)))
                    clear e45 e93 f92
                    go_wp2_with fail
                    go_meet
                    exact ⟨a + 1 + 1 + 1, _, by go_num, rfl, by omega, by omega, HRg, rfl⟩
              case rest =>
                obtain ⟨j2, hi, rfl, rfl, hj2, hjj, HRg, rfl⟩ := hcut
                have HN := Kept.mk (HRd.out.next hlt HNo.out HRg.out)
                have HJ : Kept (j2 ≤ p.size ∧ j < j2) := ⟨hj2, hjj⟩
                cases b with
                | true =>
                  go_wp2_with fail
                  go_roundg (p.size - j2)
                  case measure => have := HJ.out; omega
                  case rel => exact ⟨j2, false, true, rfl, rfl, rfl, hj2, Nat.le_refl _, HN, rfl⟩
                | false =>
                  have HN2 : ∀ t, t = inR c (p[a]'ha, hi) → Kept (Read p l0 c j2 false t) := fun t ht => ⟨by rw [ht]; exact HN.out⟩
                  have HN2 := Kept.mk HN2
                  by_cases q1 : (p[a]'ha) ≤ c
                  · have y1 : ((p[a]'ha).toNat : Int) ≤ (c.toNat : Int) := by have := UInt8.le_iff_toNat_le.1 q1; omega
                    by_cases q2 : c ≤ hi
                    · have y2 : (c.toNat : Int) ≤ (hi.toNat : Int) := by have := UInt8.le_iff_toNat_le.1 q2; omega
                      have HT := HN2.out true (by simp [inR, q1, q2])
                      clear q1 q2
                      go_wp2_with fail
                      go_roundg (p.size - j2)
                      case measure => have := HJ.out; omega
                      case rel => exact ⟨j2, false, true, rfl, rfl, rfl, hj2, Nat.le_refl _, HT, rfl⟩
                    · have y2 : ¬ (c.toNat : Int) ≤ (hi.toNat : Int) := fun h => q2 (UInt8.le_iff_toNat_le.2 (by omega))
                      have HT := HN2.out false (by simp [inR, q2])
                      clear q1 q2
                      go_wp2_with fail
                      go_roundg (p.size - j2)
                      case measure => have := HJ.out; omega
                      case rel => exact ⟨j2, false, false, rfl, rfl, rfl, hj2, Nat.le_refl _, HT, rfl⟩
                  · have y1 : ¬ ((p[a]'ha).toNat : Int) ≤ (c.toNat : Int) := fun h => q1 (UInt8.le_iff_toNat_le.2 (by omega))
                    have HT := HN2.out false (by simp [inR, q1])
                    clear q1
                    go_wp2_with fail
                    go_roundg (p.size - j2)
                    case measure => have := HJ.out; omega
                    case rel => exact ⟨j2, false, false, rfl, rfl, rfl, hj2, Nat.le_refl _, HT, rfl⟩
    · have hl2 : ¬ (j : Int) < (p.size : Int) := by omega
      have HA : Kept (ans = (false, 0)) := ⟨by
        rw [HAn.out]
        unfold setAns
        rw [HBr.out, HRd.out.none (by omega)]
        rfl⟩
      clear hlt
      go_wp2_with fail
      go_ret2
      exact ⟨by rw [HA.out]; rfl, rfl⟩
set_option maxHeartbeats 4000000 in
set_option maxRecDepth 100000 in
theorem set_yes (p : ByteArray) (c : UInt8) (w : World) (h1 : 0 < p.size) (hp : p.size ≤ 1000) (r : List UInt8) (hr : (toL p).drop 1 = r) (ans : Bool × Nat) (HAn : Kept (ans = setAns p c r)) (h2 : 1 < p.size) (h33 : p[1]'h2 ≠ 33) :
    Calls Try.prog 40 #[.string p, .int .u8 (c.toNat : Int)] w fun e w' => e = .returned (.tuple #[.bool ans.1, .int .i64 (ans.2 : Int)]) ∧ w = w' := by
  have h22 : (1 : Int) < (p.size : Int) := by omega
  have z33 : ¬ ((p[1]'h2).toNat : Int) = 33 := toNat_ne (b := 33) h33
  obtain ⟨l0, hl0⟩ : ∃ l0, l0 = (toL p).drop 1 := ⟨_, rfl⟩
  have HBr : Kept (bracket r = (items true l0).map fun z => (false, z)) := ⟨by
    unfold bracket
    rw [if_neg, hl0, hr]
    · rw [← hr, drop_at h2]
      exact fun h => h33 (Option.some.inj h)⟩
  have HS : Kept (Read p l0 c 1 true false) := ⟨by rw [hl0]; exact Read.start p c 1⟩
  clear hl0 h33 hr
  go_enter Try.func40, Try.ntmps40
  go_wp2_with fail
  simp only [show (((p[1]'h2).toNat : Int) == 33) = false from by simpa using z33]
  go_loopg [6, 8, 9] p.size (fun m iv bv fv wr => ∃ (j : Nat) (f b : Bool), iv = .int .i64 (j : Int) ∧ bv = .bool b ∧ fv = .bool f ∧ j ≤ p.size ∧ p.size - j ≤ m ∧ Kept (Read p l0 c j f b) ∧ w = wr)
  case atStart => exact ⟨1, true, false, rfl, rfl, rfl, by omega, by omega, HS, rfl⟩
  case round =>
    obtain ⟨j, f, b, rfl, rfl, rfl, hj, hjm, HRd, rfl⟩ := hrel
    have hj5 : (j : Int) ≤ 1000 := by omega
    by_cases hlt : j < p.size
    · have hl2 : (j : Int) < (p.size : Int) := by omega
      cases f with
      | false =>
        by_cases e93 : p[j]'hlt = 93
        · have z93 : ((p[j]'hlt).toNat : Int) = 93 := by rw [e93]; rfl
          have HA : Kept (ans = (b, j + 1)) := ⟨by
            obtain ⟨rs, h1, h2⟩ := HRd.out.some hlt e93
            rw [HAn.out]
            unfold setAns
            rw [HBr.out, h1, h2]
            show (_, p.size - ((toL p).drop (j + 1)).length) = _
            rw [List.length_drop, toL_length, show p.size - (p.size - (j + 1)) = j + 1 by omega]
            cases rs.any (inR c) <;> rfl⟩
          clear e93
          go_wp2_with fail
          go_ret2
          exact ⟨by rw [HA.out]; rfl, rfl⟩
        · have z93 : ¬ ((p[j]'hlt).toNat : Int) = 93 := toNat_ne (b := 93) e93
          have HNo : Kept (¬ (false = false ∧ p[j]'hlt = 93)) := ⟨fun h => e93 h.2⟩
          clear e93
          go_upto_region 8 with fail
          go_cut [48] (fun tv wx => ∃ t : Bool, tv = .bool t ∧ Kept (t = decide (p[j]'hlt = 92 ∧ j + 1 < p.size)) ∧ w = wx)
          case first =>
            by_cases e92 : p[j]'hlt = 92
            · have z92 : ((p[j]'hlt).toNat : Int) = 92 := by rw [e92]; rfl
              by_cases hn : j + 1 < p.size
              · have hn2 : (j : Int) + 1 < (p.size : Int) := by omega
                have HT : Kept (true = decide (p[j]'hlt = 92 ∧ j + 1 < p.size)) := ⟨(decide_eq_true ⟨e92, hn⟩).symm⟩
                clear e92
                go_wp2_with fail
                go_meet
                exact ⟨true, rfl, HT, rfl⟩
              · have hn2 : ¬ (j : Int) + 1 < (p.size : Int) := by omega
                have HT : Kept (false = decide (p[j]'hlt = 92 ∧ j + 1 < p.size)) := ⟨(decide_eq_false fun h => hn h.2).symm⟩
                clear e92
                go_wp2_with fail
                go_meet
                exact ⟨false, rfl, HT, rfl⟩
            · have z92 : ¬ ((p[j]'hlt).toNat : Int) = 92 := toNat_ne (b := 92) e92
              have HT : Kept (false = decide (p[j]'hlt = 92 ∧ j + 1 < p.size)) := ⟨(decide_eq_false fun h => e92 h.1).symm⟩
              clear e92
              go_wp2_with fail
              go_meet
              exact ⟨false, rfl, HT, rfl⟩
          case rest =>
            obtain ⟨t, rfl, HT, rfl⟩ := hcut
            go_upto_if 48 with fail
            go_cut [6] (fun iv wx => ∃ (a : Nat) (h : a < p.size), iv = .int .i64 (a : Int) ∧ Kept (byteOf (p[j]'hlt) ((toL p).drop (j + 1)) = (p[a]'h, (toL p).drop (a + 1))) ∧ j ≤ a ∧ a ≤ j + 1 ∧ w = wx)
            case first =>
              cases t with
              | true =>
                obtain ⟨e92, hn⟩ := of_decide_eq_true HT.out.symm
                have HBy := Kept.mk (byteOf_esc hlt hn e92)
                clear e92
                go_wp2_with fail
                go_meet
                exact ⟨j + 1, hn, by go_num, HBy, by omega, by omega, rfl⟩
              | false =>
                have HBy := Kept.mk (byteOf_as hlt (of_decide_eq_false HT.out.symm))
                go_wp2_with fail
                go_meet
                exact ⟨j, hlt, rfl, HBy, by omega, by omega, rfl⟩
            case rest =>
              clear HT
              obtain ⟨a, ha, rfl, HBy, ha1, ha2, rfl⟩ := hcut
              have ha3 : (a : Int) < (p.size : Int) := by omega
              have ha4 : (a : Int) ≤ 1000 := by omega
              go_upto_region 13 with fail
              go_cut [74] (fun tv wx => ∃ t : Bool, tv = .bool t ∧ Kept (Rg p a t) ∧ w = wx)
              case first =>
                by_cases h2 : a + 1 + 1 < p.size
                · have h22 : (a : Int) + 1 + 1 < (p.size : Int) := by omega
                  have hb1 : a + 1 < p.size := by omega
                  by_cases e45 : p[a + 1]'hb1 = 45
                  · have z45 : ((p[a + 1]'hb1).toNat : Int) = 45 := by rw [e45]; rfl
                    by_cases e93 : p[a + 1 + 1]'h2 = 93
                    · have z93 : ((p[a + 1 + 1]'h2).toNat : Int) = 93 := by rw [e93]; rfl
                      have HT : Kept (Rg p a false) := ⟨Rg.no fun ⟨_, _, h⟩ => h e93⟩
                      clear e45 e93
                      go_wp2_with fail
                      go_meet
                      exact ⟨false, rfl, HT, rfl⟩
                    · have z93 : ¬ ((p[a + 1 + 1]'h2).toNat : Int) = 93 := toNat_ne (b := 93) e93
                      have y93 : (((p[a + 1 + 1]'h2).toNat : Int) != 93) = true := by simpa using z93
                      have HT : Kept (Rg p a true) := ⟨Rg.yes ⟨h2, e45, e93⟩⟩
                      clear e45 e93
                      go_wp2_with fail
                      go_meet
                      exact ⟨true, rfl, HT, rfl⟩
                  · have z45 : ¬ ((p[a + 1]'hb1).toNat : Int) = 45 := toNat_ne (b := 45) e45
                    have HT : Kept (Rg p a false) := ⟨Rg.no fun ⟨_, h, _⟩ => e45 h⟩
                    clear e45
                    go_wp2_with fail
                    go_meet
                    exact ⟨false, rfl, HT, rfl⟩
                · have h22 : ¬ (a : Int) + 1 + 1 < (p.size : Int) := by omega
                  have HT : Kept (Rg p a false) := ⟨Rg.no fun ⟨h, _⟩ => h2 h⟩
                  go_wp2_with fail
                  go_meet
                  exact ⟨false, rfl, HT, rfl⟩
              case rest =>
                obtain ⟨t, rfl, HT, rfl⟩ := hcut
                go_upto_if 74 with fail
                go_cut [6, 11] (fun iv hv wx => ∃ (j2 : Nat) (hi : UInt8), iv = .int .i64 (j2 : Int) ∧ hv = .int .u8 (hi.toNat : Int) ∧ j2 ≤ p.size ∧ j < j2 ∧ Kept (rangeOf (p[j]'hlt) ((toL p).drop (j + 1)) = ((p[a]'ha, hi), (toL p).drop j2)) ∧ w = wx)
                case first =>
                  cases t with
                  | false =>
                    have HRg := Kept.mk (rangeOf_one (p := p) (a := a + 1) HBy.out HT.out.not)
                    go_wp2_with fail
                    go_meet
                    exact ⟨a + 1, _, by go_num, rfl, by omega, by omega, HRg, rfl⟩
                  | true =>
                    obtain ⟨h2, e45, e93⟩ := HT.out.is
                    have h22 : (a : Int) + 1 + 1 < (p.size : Int) := by omega
                    by_cases f92 : p[a + 1 + 1]'h2 = 92
                    · have y92 : ((p[a + 1 + 1]'h2).toNat : Int) = 92 := by rw [f92]; rfl
                      by_cases h3 : a + 1 + 1 + 1 < p.size
                      · have h33 : (a : Int) + 1 + 1 + 1 < (p.size : Int) := by omega
                        have HRg := Kept.mk (rangeOf_two (p := p) (a := a + 1) HBy.out h2 e45 e93 (byteOf_esc h2 h3 f92))
                        clear e45 e93 f92
                        go_wp2_with fail
                        go_meet
                        exact ⟨a + 1 + 1 + 2, _, by go_num, rfl, by omega, by omega, HRg, rfl⟩
                      · have h33 : ¬ (a : Int) + 1 + 1 + 1 < (p.size : Int) := by omega
                        have HRg := Kept.mk (rangeOf_two (p := p) (a := a + 1) HBy.out h2 e45 e93 (byteOf_as h2 (fun h => h3 h.2)))
                        clear e45 e93 f92
                        go_wp2_with fail
                        go_meet
                        exact ⟨a + 1 + 1 + 1, _, by go_num, rfl, by omega, by omega, HRg, rfl⟩
                    · have y92 : ¬ ((p[a + 1 + 1]'h2).toNat : Int) = 92 := toNat_ne (b := 92) f92
                      have HRg := Kept.mk (rangeOf_two (p := p) (a := a + 1) HBy.out h2 e45 e93 (byteOf_as h2 (fun h => f92 h.1)))
                      clear e45 e93 f92
                      go_wp2_with fail
                      go_meet
                      exact ⟨a + 1 + 1 + 1, _, by go_num, rfl, by omega, by omega, HRg, rfl⟩
                case rest =>
                  obtain ⟨j2, hi, rfl, rfl, hj2, hjj, HRg, rfl⟩ := hcut
                  have HN := Kept.mk (HRd.out.next hlt HNo.out HRg.out)
                  have HJ : Kept (j2 ≤ p.size ∧ j < j2) := ⟨hj2, hjj⟩
                  cases b with
                  | true =>
                    go_wp2_with fail
                    go_roundg (p.size - j2)
                    case measure => have := HJ.out; omega
                    case rel => exact ⟨j2, false, true, rfl, rfl, rfl, hj2, Nat.le_refl _, HN, rfl⟩
                  | false =>
                    have HN2 : ∀ t, t = inR c (p[a]'ha, hi) → Kept (Read p l0 c j2 false t) := fun t ht => ⟨by rw [ht]; exact HN.out⟩
                    have HN2 := Kept.mk HN2
                    by_cases q1 : (p[a]'ha) ≤ c
                    · have y1 : ((p[a]'ha).toNat : Int) ≤ (c.toNat : Int) := by have := UInt8.le_iff_toNat_le.1 q1; omega
                      by_cases q2 : c ≤ hi
                      · have y2 : (c.toNat : Int) ≤ (hi.toNat : Int) := by have := UInt8.le_iff_toNat_le.1 q2; omega
                        have HT := HN2.out true (by simp [inR, q1, q2])
                        clear q1 q2
                        go_wp2_with fail
                        go_roundg (p.size - j2)
                        case measure => have := HJ.out; omega
                        case rel => exact ⟨j2, false, true, rfl, rfl, rfl, hj2, Nat.le_refl _, HT, rfl⟩
                      · have y2 : ¬ (c.toNat : Int) ≤ (hi.toNat : Int) := fun h => q2 (UInt8.le_iff_toNat_le.2 (by omega))
                        have HT := HN2.out false (by simp [inR, q2])
                        clear q1 q2
                        go_wp2_with fail
                        go_roundg (p.size - j2)
                        case measure => have := HJ.out; omega
                        case rel => exact ⟨j2, false, false, rfl, rfl, rfl, hj2, Nat.le_refl _, HT, rfl⟩
                    · have y1 : ¬ ((p[a]'ha).toNat : Int) ≤ (c.toNat : Int) := fun h => q1 (UInt8.le_iff_toNat_le.2 (by omega))
                      have HT := HN2.out false (by simp [inR, q1])
                      clear q1
                      go_wp2_with fail
                      go_roundg (p.size - j2)
                      case measure => have := HJ.out; omega
                      case rel => exact ⟨j2, false, false, rfl, rfl, rfl, hj2, Nat.le_refl _, HT, rfl⟩
      | true =>
        have HNo : Kept (¬ (true = false ∧ p[j]'hlt = 93)) := ⟨fun h => by cases h.1⟩
        go_upto_region 8 with fail
        go_cut [48] (fun tv wx => ∃ t : Bool, tv = .bool t ∧ Kept (t = decide (p[j]'hlt = 92 ∧ j + 1 < p.size)) ∧ w = wx)
        case first =>
          by_cases e92 : p[j]'hlt = 92
          · have z92 : ((p[j]'hlt).toNat : Int) = 92 := by rw [e92]; rfl
            by_cases hn : j + 1 < p.size
            · have hn2 : (j : Int) + 1 < (p.size : Int) := by omega
              have HT : Kept (true = decide (p[j]'hlt = 92 ∧ j + 1 < p.size)) := ⟨(decide_eq_true ⟨e92, hn⟩).symm⟩
              clear e92
              go_wp2_with fail
              go_meet
              exact ⟨true, rfl, HT, rfl⟩
            · have hn2 : ¬ (j : Int) + 1 < (p.size : Int) := by omega
              have HT : Kept (false = decide (p[j]'hlt = 92 ∧ j + 1 < p.size)) := ⟨(decide_eq_false fun h => hn h.2).symm⟩
              clear e92
              go_wp2_with fail
              go_meet
              exact ⟨false, rfl, HT, rfl⟩
          · have z92 : ¬ ((p[j]'hlt).toNat : Int) = 92 := toNat_ne (b := 92) e92
            have HT : Kept (false = decide (p[j]'hlt = 92 ∧ j + 1 < p.size)) := ⟨(decide_eq_false fun h => e92 h.1).symm⟩
            clear e92
            go_wp2_with fail
            go_meet
            exact ⟨false, rfl, HT, rfl⟩
        case rest =>
          obtain ⟨t, rfl, HT, rfl⟩ := hcut
          go_upto_if 48 with fail
          go_cut [6] (fun iv wx => ∃ (a : Nat) (h : a < p.size), iv = .int .i64 (a : Int) ∧ Kept (byteOf (p[j]'hlt) ((toL p).drop (j + 1)) = (p[a]'h, (toL p).drop (a + 1))) ∧ j ≤ a ∧ a ≤ j + 1 ∧ w = wx)
          case first =>
            cases t with
            | true =>
              obtain ⟨e92, hn⟩ := of_decide_eq_true HT.out.symm
              have HBy := Kept.mk (byteOf_esc hlt hn e92)
              clear e92
              go_wp2_with fail
              go_meet
              exact ⟨j + 1, hn, by go_num, HBy, by omega, by omega, rfl⟩
            | false =>
              have HBy := Kept.mk (byteOf_as hlt (of_decide_eq_false HT.out.symm))
              go_wp2_with fail
              go_meet
              exact ⟨j, hlt, rfl, HBy, by omega, by omega, rfl⟩
          case rest =>
            clear HT
            obtain ⟨a, ha, rfl, HBy, ha1, ha2, rfl⟩ := hcut
            have ha3 : (a : Int) < (p.size : Int) := by omega
            have ha4 : (a : Int) ≤ 1000 := by omega
            go_upto_region 13 with fail
            go_cut [74] (fun tv wx => ∃ t : Bool, tv = .bool t ∧ Kept (Rg p a t) ∧ w = wx)
            case first =>
              by_cases h2 : a + 1 + 1 < p.size
              · have h22 : (a : Int) + 1 + 1 < (p.size : Int) := by omega
                have hb1 : a + 1 < p.size := by omega
                by_cases e45 : p[a + 1]'hb1 = 45
                · have z45 : ((p[a + 1]'hb1).toNat : Int) = 45 := by rw [e45]; rfl
                  by_cases e93 : p[a + 1 + 1]'h2 = 93
                  · have z93 : ((p[a + 1 + 1]'h2).toNat : Int) = 93 := by rw [e93]; rfl
                    have HT : Kept (Rg p a false) := ⟨Rg.no fun ⟨_, _, h⟩ => h e93⟩
                    clear e45 e93
                    go_wp2_with fail
                    go_meet
                    exact ⟨false, rfl, HT, rfl⟩
                  · have z93 : ¬ ((p[a + 1 + 1]'h2).toNat : Int) = 93 := toNat_ne (b := 93) e93
                    have y93 : (((p[a + 1 + 1]'h2).toNat : Int) != 93) = true := by simpa using z93
                    have HT : Kept (Rg p a true) := ⟨Rg.yes ⟨h2, e45, e93⟩⟩
                    clear e45 e93
                    go_wp2_with fail
                    go_meet
                    exact ⟨true, rfl, HT, rfl⟩
                · have z45 : ¬ ((p[a + 1]'hb1).toNat : Int) = 45 := toNat_ne (b := 45) e45
                  have HT : Kept (Rg p a false) := ⟨Rg.no fun ⟨_, h, _⟩ => e45 h⟩
                  clear e45
                  go_wp2_with fail
                  go_meet
                  exact ⟨false, rfl, HT, rfl⟩
              · have h22 : ¬ (a : Int) + 1 + 1 < (p.size : Int) := by omega
                have HT : Kept (Rg p a false) := ⟨Rg.no fun ⟨h, _⟩ => h2 h⟩
                go_wp2_with fail
                go_meet
                exact ⟨false, rfl, HT, rfl⟩
            case rest =>
              obtain ⟨t, rfl, HT, rfl⟩ := hcut
              go_upto_if 74 with fail
              go_cut [6, 11] (fun iv hv wx => ∃ (j2 : Nat) (hi : UInt8), iv = .int .i64 (j2 : Int) ∧ hv = .int .u8 (hi.toNat : Int) ∧ j2 ≤ p.size ∧ j < j2 ∧ Kept (rangeOf (p[j]'hlt) ((toL p).drop (j + 1)) = ((p[a]'ha, hi), (toL p).drop j2)) ∧ w = wx)
              case first =>
                cases t with
                | false =>
                  have HRg := Kept.mk (rangeOf_one (p := p) (a := a + 1) HBy.out HT.out.not)
                  go_wp2_with fail
                  go_meet
                  exact ⟨a + 1, _, by go_num, rfl, by omega, by omega, HRg, rfl⟩
                | true =>
                  obtain ⟨h2, e45, e93⟩ := HT.out.is
                  have h22 : (a : Int) + 1 + 1 < (p.size : Int) := by omega
                  by_cases f92 : p[a + 1 + 1]'h2 = 92
                  · have y92 : ((p[a + 1 + 1]'h2).toNat : Int) = 92 := by rw [f92]; rfl
                    by_cases h3 : a + 1 + 1 + 1 < p.size
                    · have h33 : (a : Int) + 1 + 1 + 1 < (p.size : Int) := by omega
                      have HRg := Kept.mk (rangeOf_two (p := p) (a := a + 1) HBy.out h2 e45 e93 (byteOf_esc h2 h3 f92))
                      clear e45 e93 f92
                      go_wp2_with fail
                      go_meet
                      exact ⟨a + 1 + 1 + 2, _, by go_num, rfl, by omega, by omega, HRg, rfl⟩
                    · have h33 : ¬ (a : Int) + 1 + 1 + 1 < (p.size : Int) := by omega
                      have HRg := Kept.mk (rangeOf_two (p := p) (a := a + 1) HBy.out h2 e45 e93 (byteOf_as h2 (fun h => h3 h.2)))
                      clear e45 e93 f92
                      go_wp2_with fail
                      go_meet
                      exact ⟨a + 1 + 1 + 1, _, by go_num, rfl, by omega, by omega, HRg, rfl⟩
                  · have y92 : ¬ ((p[a + 1 + 1]'h2).toNat : Int) = 92 := toNat_ne (b := 92) f92
                    have HRg := Kept.mk (rangeOf_two (p := p) (a := a + 1) HBy.out h2 e45 e93 (byteOf_as h2 (fun h => f92 h.1)))
                    clear e45 e93 f92
                    go_wp2_with fail
                    go_meet
                    exact ⟨a + 1 + 1 + 1, _, by go_num, rfl, by omega, by omega, HRg, rfl⟩
              case rest =>
                obtain ⟨j2, hi, rfl, rfl, hj2, hjj, HRg, rfl⟩ := hcut
                have HN := Kept.mk (HRd.out.next hlt HNo.out HRg.out)
                have HJ : Kept (j2 ≤ p.size ∧ j < j2) := ⟨hj2, hjj⟩
                cases b with
                | true =>
                  go_wp2_with fail
                  go_roundg (p.size - j2)
                  case measure => have := HJ.out; omega
                  case rel => exact ⟨j2, false, true, rfl, rfl, rfl, hj2, Nat.le_refl _, HN, rfl⟩
                | false =>
                  have HN2 : ∀ t, t = inR c (p[a]'ha, hi) → Kept (Read p l0 c j2 false t) := fun t ht => ⟨by rw [ht]; exact HN.out⟩
                  have HN2 := Kept.mk HN2
                  by_cases q1 : (p[a]'ha) ≤ c
                  · have y1 : ((p[a]'ha).toNat : Int) ≤ (c.toNat : Int) := by have := UInt8.le_iff_toNat_le.1 q1; omega
                    by_cases q2 : c ≤ hi
                    · have y2 : (c.toNat : Int) ≤ (hi.toNat : Int) := by have := UInt8.le_iff_toNat_le.1 q2; omega
                      have HT := HN2.out true (by simp [inR, q1, q2])
                      clear q1 q2
                      go_wp2_with fail
                      go_roundg (p.size - j2)
                      case measure => have := HJ.out; omega
                      case rel => exact ⟨j2, false, true, rfl, rfl, rfl, hj2, Nat.le_refl _, HT, rfl⟩
                    · have y2 : ¬ (c.toNat : Int) ≤ (hi.toNat : Int) := fun h => q2 (UInt8.le_iff_toNat_le.2 (by omega))
                      have HT := HN2.out false (by simp [inR, q2])
                      clear q1 q2
                      go_wp2_with fail
                      go_roundg (p.size - j2)
                      case measure => have := HJ.out; omega
                      case rel => exact ⟨j2, false, false, rfl, rfl, rfl, hj2, Nat.le_refl _, HT, rfl⟩
                  · have y1 : ¬ ((p[a]'ha).toNat : Int) ≤ (c.toNat : Int) := fun h => q1 (UInt8.le_iff_toNat_le.2 (by omega))
                    have HT := HN2.out false (by simp [inR, q1])
                    clear q1
                    go_wp2_with fail
                    go_roundg (p.size - j2)
                    case measure => have := HJ.out; omega
                    case rel => exact ⟨j2, false, false, rfl, rfl, rfl, hj2, Nat.le_refl _, HT, rfl⟩
    · have hl2 : ¬ (j : Int) < (p.size : Int) := by omega
      have HA : Kept (ans = (false, 0)) := ⟨by
        rw [HAn.out]
        unfold setAns
        rw [HBr.out, HRd.out.none (by omega)]
        rfl⟩
      clear hlt
      go_wp2_with fail
      go_ret2
      exact ⟨by rw [HA.out]; rfl, rfl⟩
set_option maxHeartbeats 4000000 in
set_option maxRecDepth 100000 in
theorem set_end (p : ByteArray) (c : UInt8) (w : World) (_h1 : 0 < p.size) (_hp : p.size ≤ 1000) (r : List UInt8) (hr : (toL p).drop 1 = r) (ans : Bool × Nat) (HAn : Kept (ans = setAns p c r)) (h2 : p.size = 1) :
    Calls Try.prog 40 #[.string p, .int .u8 (c.toNat : Int)] w fun e w' => e = .returned (.tuple #[.bool ans.1, .int .i64 (ans.2 : Int)]) ∧ w = w' := by
  have HA : Kept (ans = (false, 0)) := ⟨by
    rw [HAn.out]
    have e : r = [] := by rw [← hr]; exact drop_end (by omega)
    rw [e]
    rfl⟩
  clear hr
  go_enter Try.func40, Try.ntmps40
  go_wp2_with fail
  go_loopg [6, 8, 9] p.size (fun m iv bv fv wr => iv = .int .i64 1 ∧ bv = .bool false ∧ fv = .bool true ∧ w = wr)
  case atStart => exact ⟨rfl, rfl, rfl, rfl⟩
  case round =>
    obtain ⟨rfl, rfl, rfl, rfl⟩ := hrel
    go_wp2_with fail
    go_ret2
    exact ⟨by rw [HA.out]; rfl, rfl⟩
theorem set_any (p : ByteArray) (c : UInt8) (w : World) (h1 : 0 < p.size) (hp : p.size ≤ 1000) (r : List UInt8) (hr : (toL p).drop 1 = r) (ans : Bool × Nat) (HAn : Kept (ans = setAns p c r)) :
    Calls Try.prog 40 #[.string p, .int .u8 (c.toNat : Int)] w fun e w' => e = .returned (.tuple #[.bool ans.1, .int .i64 (ans.2 : Int)]) ∧ w = w' := by
  by_cases h2 : 1 < p.size
  · by_cases h33 : p[1]'h2 = 33
    · exact set_not p c w h1 hp r hr ans HAn h2 h33
    · exact set_yes p c w h1 hp r hr ans HAn h2 h33
  · exact set_end p c w h1 hp r hr ans HAn (by omega)
set_option maxHeartbeats 2000000 in
set_option maxRecDepth 100000 in
/-- A pattern's head that is no star. -/
theorem one_any (p : ByteArray) (w : World) (c : UInt8) (h1 : 0 < p.size) (hp : p.size ≤ 1000) (x : UInt8) (r : List UInt8) (hd : Kept (toL p = x :: r)) (b : Bool) (hb : Kept (b = (elem x r).1 c)) (k : Nat) (hk : Kept (k = p.size - (elem x r).2.length)) :
    Calls Try.prog 27 #[.string p, .int .u8 (c.toNat : Int)] w fun e w' => e = .returned (.tuple #[.bool b, .int .i64 (k : Int)]) ∧ w = w' := by
  have hx : p[0]'h1 = x := by
    have := drop_at h1
    rw [List.drop_zero, hd.out] at this
    injection this with h _
    exact h.symm
  have hr : (toL p).drop 1 = r := by rw [hd.out]; rfl
  have hrl : r.length = p.size - 1 := by rw [← hr, List.length_drop, toL_length]
  have hb := hb.out
  have hk := hk.out
  unfold elem at hb hk
  by_cases h63 : x = 63
  · rw [if_pos h63] at hb hk
    obtain rfl : b = true := hb
    obtain rfl : k = 1 := by rw [hk]; show p.size - r.length = 1; omega
    have z63 : ((p[0]'h1).toNat : Int) = 63 := by rw [hx, h63]; rfl
    clear hb hk hx hr hrl h63
    go_enter Try.func27, Try.ntmps27
    go_wp2_with fail
    go_ret2
    exact ⟨rfl, rfl⟩
  rw [if_neg h63] at hb hk
  have z63 : ¬ ((p[0]'h1).toNat : Int) = 63 := by rw [hx]; exact toNat_ne (b := 63) h63
  by_cases h92 : x = 92 ∧ r ≠ []
  · rw [if_pos h92] at hb hk
    have h2 : 1 < p.size := by have := List.length_pos_iff.2 h92.2; omega
    have h22 : (1 : Int) < (p.size : Int) := by omega
    have z92 : ((p[0]'h1).toNat : Int) = 92 := by rw [hx, h92.1]; rfl
    have hr2 := drop_at h2
    rw [hr] at hr2
    obtain rfl : k = 2 := by rw [hk]; show p.size - r.tail.length = 2; rw [List.length_tail]; omega
    have hb2 : b = (p[1]'h2 == c) := by rw [hb]; show (r.headD 0 == c) = _; rw [hr2]; rfl
    by_cases hc : p[1]'h2 = c
    · obtain rfl : b = true := by rw [hb2, hc]; simp
      have zc : ((p[1]'h2).toNat : Int) = (c.toNat : Int) := by rw [hc]
      clear hb hb2 hk hx hr hr2 hrl h63 h92 hc
      go_enter Try.func27, Try.ntmps27
      go_wp2_with fail
      go_ret2
      exact ⟨by simp, rfl⟩
    · obtain rfl : b = false := by rw [hb2]; simpa using hc
      have zc : ¬ ((p[1]'h2).toNat : Int) = (c.toNat : Int) := toNat_ne hc
      have zb : (((p[1]'h2).toNat : Int) == (c.toNat : Int)) = false := by simpa using zc
      clear hb hb2 hk hx hr hr2 hrl h63 h92 hc
      go_enter Try.func27, Try.ntmps27
      go_wp2_with fail
      go_ret2
      exact ⟨rfl, rfl⟩
  rw [if_neg h92] at hb hk
  have hq : ¬ (p[0]'h1 = 92 ∧ 1 < p.size) := fun h => h92 ⟨hx ▸ h.1, fun e => by rw [e] at hrl; simp at hrl; omega⟩
  by_cases h91 : x = 91
  · rw [if_pos h91] at hb hk
    have z91 : ((p[0]'h1).toNat : Int) = 91 := by rw [hx, h91]; rfl
    obtain ⟨ans, hans⟩ : ∃ ans, ans = setAns p c r := ⟨_, rfl⟩
    have HS := Kept.mk (set_any p c w h1 hp r hr ans ⟨hans⟩)
    unfold setAns at hans
    cases hbr : bracket r with
    | some z =>
      rw [hbr] at hb hk hans
      simp only [] at hb hk hans
      have hsuf := (bracket_suf hbr).length_le
      have hkp : ¬ (k : Int) ≤ 0 := by omega
      have hkq : (0 : Int) < (k : Int) := by omega
      rw [← hb, ← hk] at hans
      subst hans
      clear hb hk hx hr hrl h63 h92 h91 hq hsuf hbr
      go_enter Try.func27, Try.ntmps27
      go_wp2_with (go_at_call 40; refine HS.out.mono ?_; rintro e1 w1 ⟨rfl, rfl⟩)
      go_ret2
      exact ⟨rfl, rfl⟩
    | none =>
      rw [hbr] at hb hk hans
      simp only [] at hb hk hans
      subst hans
      obtain rfl : k = 1 := by rw [hk]; omega
      by_cases hc : x = c
      · obtain rfl : b = true := by rw [hb, hc]; simp
        have zc : ((p[0]'h1).toNat : Int) = (c.toNat : Int) := by rw [hx, hc]
        clear hb hk hx hr hrl h63 h92 h91 hq hc
        go_enter Try.func27, Try.ntmps27
        go_wp2_with (go_at_call 40; refine HS.out.mono ?_; rintro e1 w1 ⟨rfl, rfl⟩)
        go_ret2
        exact ⟨by first | (simp; done) | (simp; omega), rfl⟩
      · obtain rfl : b = false := by rw [hb]; simpa using hc
        have zc : ¬ ((p[0]'h1).toNat : Int) = (c.toNat : Int) := by rw [hx]; exact toNat_ne hc
        have zb : (((p[0]'h1).toNat : Int) == (c.toNat : Int)) = false := by simpa using zc
        have zb2 := zb
        rw [z91] at zb2
        clear hb hk hx hr hrl h63 h92 h91 hq hc
        go_enter Try.func27, Try.ntmps27
        go_wp2_with (go_at_call 40; refine HS.out.mono ?_; rintro e1 w1 ⟨rfl, rfl⟩)
        go_ret2
        exact ⟨rfl, rfl⟩
  · rw [if_neg h91] at hb hk
    simp only [] at hb hk
    obtain rfl : k = 1 := by rw [hk]; omega
    have z91 : ¬ ((p[0]'h1).toNat : Int) = 91 := by rw [hx]; exact toNat_ne (b := 91) h91
    by_cases g92 : p[0]'h1 = 92
    · have z92 : ((p[0]'h1).toNat : Int) = 92 := by rw [g92]; rfl
      have h22 : ¬ (1 : Int) < (p.size : Int) := by have : ¬ 1 < p.size := fun h => hq ⟨g92, h⟩; omega
      clear g92
      by_cases hc : x = c
      · obtain rfl : b = true := by rw [hb, hc]; simp
        have zc : ((p[0]'h1).toNat : Int) = (c.toNat : Int) := by rw [hx, hc]
        clear hb hk hx hr hrl h63 h92 h91 hq hc
        go_enter Try.func27, Try.ntmps27
        go_wp2_with fail
        go_ret2
        exact ⟨by first | (simp; done) | (simp; omega), rfl⟩
      · obtain rfl : b = false := by rw [hb]; simpa using hc
        have zc : ¬ ((p[0]'h1).toNat : Int) = (c.toNat : Int) := by rw [hx]; exact toNat_ne hc
        have zb : (((p[0]'h1).toNat : Int) == (c.toNat : Int)) = false := by simpa using zc
        have zb2 := zb
        rw [z92] at zb2
        clear hb hk hx hr hrl h63 h92 h91 hq hc
        go_enter Try.func27, Try.ntmps27
        go_wp2_with fail
        go_ret2
        exact ⟨rfl, rfl⟩
    · have z92 : ¬ ((p[0]'h1).toNat : Int) = 92 := toNat_ne (b := 92) g92
      clear g92
      by_cases hc : x = c
      · obtain rfl : b = true := by rw [hb, hc]; simp
        have zc : ((p[0]'h1).toNat : Int) = (c.toNat : Int) := by rw [hx, hc]
        clear hb hk hx hr hrl h63 h92 h91 hq hc
        go_enter Try.func27, Try.ntmps27
        go_wp2_with fail
        go_ret2
        exact ⟨by first | (simp; done) | (simp; omega), rfl⟩
      · obtain rfl : b = false := by rw [hb]; simpa using hc
        have zc : ¬ ((p[0]'h1).toNat : Int) = (c.toNat : Int) := by rw [hx]; exact toNat_ne hc
        have zb : (((p[0]'h1).toNat : Int) == (c.toNat : Int)) = false := by simpa using zc
        clear hb hk hx hr hrl h63 h92 h91 hq hc
        go_enter Try.func27, Try.ntmps27
        go_wp2_with fail
        go_ret2
        exact ⟨rfl, rfl⟩
end Pm
end Go.Proofs.Ytkifnabkoidhcaa
