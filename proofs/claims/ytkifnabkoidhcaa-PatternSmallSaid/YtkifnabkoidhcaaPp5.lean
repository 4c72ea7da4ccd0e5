/-
  The program's reader of patterns: what stands in a bracket expression.
-/
import Derived.Test.YtkifnabkoidhcaaPp4
namespace Go.Proofs.Ytkifnabkoidhcaa
open Go.RowKit Tx
namespace Pm

/-- The reader in memory. -/
structure RD (w : World) (b : Nat) (A : Option Addr) (k : Nat) (l : List Un) (f : Bool) : Prop where
  row : w.heap[b]? = some (.cells #[.slice A l.length k, .bool f] 66 (0, 0))
  us : US w b A k l
section
variable {w w' : World} {b k : Nat} {A : Option Addr} {l : List Un} {f : Bool}
theorem RD.lt (h : RD w b A k l f) : b < w.heap.size := (Array.getElem?_eq_some_iff.1 h.row).1
theorem RD.c0 (h : RD w b A k l f) : w.cell? ⟨b, 0, none⟩ = some (.slice A l.length k) := cell_of_row w b 0 _ _ _ h.row
theorem RD.c1 (h : RD w b A k l f) : w.cell? ⟨b, 1, none⟩ = some (.bool f) := cell_of_row w b 1 _ _ _ h.row
theorem RD.f0 (h : RD w b A k l f) : w.frozen? ⟨b, 0, none⟩ = false := frozen_of_row w b 0 _ _ h.row
theorem RD.f1 (h : RD w b A k l f) : w.frozen? ⟨b, 1, none⟩ = false := frozen_of_row w b 1 _ _ h.row
theorem RD.below (h : RD w b A k l f) (hb : Below w.heap.size w w') : RD w' b A k l f := ⟨(hb.block b h.lt).trans h.row, h.us.below hb⟩
end
theorem only_self {w w1 w2 : World} {b : Nat} (h : Below w.heap.size w w1) (k : Only (· = b) w1 w2) : Only (· = b) w w2 := ((Only.refl _ _).below h).trans k fun _ _ e => e
set_option maxHeartbeats 1000000 in
set_option maxRecDepth 100000 in
theorem members_no (w : World) (b : Nat) (A : Option Addr) (k : Nat) (u : Un) (r : List Un) (f : Bool) (h : RD w b A k (u :: r) f) (hc : ¬ (isU 91 u = true ∧ f = false)) :
    Calls Try.prog 45 #[.pointer (some ⟨b, 0, none⟩)] w fun e w' => e = .returned (.slice none 0 0) ∧ Below w.heap.size w w' := by
  have H := Kept.mk h
  have c0 := h.c0
  obtain ⟨g, off, rfl, hg, d0, d1⟩ := h.us.at (j := 0) (by simp)
  simp only [Nat.zero_mul, Nat.add_zero, List.getElem_cons_zero] at d0 d1
  obtain ⟨n, hn⟩ : ∃ n, n = (u :: r).length := ⟨_, rfl⟩
  rw [← hn] at c0
  have hn0 : (0 : Int) < (n : Int) := by rw [hn]; simp
  obtain ⟨t, ht⟩ : ∃ t, t = isU 91 u := ⟨_, rfl⟩
  have HI : Kept (t = ((u.1.toNat : Int) == 91 && !u.2)) := ⟨by rw [ht, isU_int]; rfl⟩
  cases t with
  | false =>
    clear h hn hc ht hg
    go_enter Try.func45, Try.ntmps45
    go_wp2_with (go_at_call 33; refine (is_any _ _ _ _ false HI.out).mono ?_; rintro e w1 ⟨rfl, hb⟩; have HB1 := Kept.mk hb; clear hb)
    go_ret
    exact ⟨rfl, HB1.out⟩
  | true =>
    cases f with
    | false => exact absurd ⟨ht.symm, rfl⟩ hc
    | true =>
      clear h hn hc ht hg
      go_enter Try.func45, Try.ntmps45
      go_wp2_with (go_at_call 33; refine (is_any _ _ _ _ true HI.out).mono ?_; rintro e w1 ⟨rfl, hb⟩; have HB1 := Kept.mk hb; have c1 := (H.out.below hb).c1; clear hb)
      go_ret
      exact ⟨rfl, HB1.out⟩
/-- What members answers where a bracket stands. -/
inductive MemQ (w : World) (b : Nat) (A : Option Addr) (k : Nat) (u : Un) (r : List Un) : Ending → World → Prop
  | some (n : Nat) (A2 : Option Addr) (k2 : Nat) (w2 : World) (hm : members r = Option.some n) (hu : US w2 b A2 k2 (r.take n)) (hn : n ≤ r.length) (h0 : 0 < n) (hb : Below w.heap.size w w2) : MemQ w b A k u r (.returned (.slice A2 n k2)) w2
  | none (w2 : World) (hm : members r = Option.none) (hr : RD w2 b A k (u :: r) true) (ho : Only (· = b) w w2) : MemQ w b A k u r (.returned (.slice Option.none 0 0)) w2
theorem RD.close {w w1 : World} {b k : Nat} {A : Option Addr} {l : List Un} (h : RD w b A k l false) (hb : Below w.heap.size w w1) : RD (w1.setCell ⟨b, 1, none⟩ (.bool true)) b A k l true ∧ Only (· = b) w (w1.setCell ⟨b, 1, none⟩ (.bool true)) := by
  have h1 := h.below hb
  have ho : Only (· = b) w1 (w1.setCell ⟨b, 1, none⟩ (.bool true)) := (Only.refl _ _).setCell _ _ (fun _ => rfl)
  refine ⟨⟨?_, h1.us.same (fun i hi hl => ho.block i hl (Nat.ne_of_lt hi)) ho.size⟩, only_self hb ho⟩
  have := heap_setCell_same w1 b 1 _ _ (.bool true) h1.row
  simpa using this
theorem members_from {r : List Un} {c : Nat} (hc : c = (if notU r then 1 else 0) + 1) : members r = (closeF 0 (r.drop c)).map (· + c) := by
  unfold members
  rw [← hc, closeF_drop]
theorem close_at {r : List Un} {c : Nat} {v : Un} (hc : r[c]? = some v) : closeF 0 (r.drop c) = if isU 93 v then some 0 else (closeF 0 (r.drop (c + 1))).map (· + 1) := by
  obtain ⟨h, rfl⟩ := List.getElem?_eq_some_iff.1 hc
  rw [List.drop_eq_getElem_cons h, closeF]
set_option maxHeartbeats 4000000 in
set_option maxRecDepth 100000 in
theorem members_yes (w : World) (b : Nat) (A : Option Addr) (k : Nat) (u : Un) (r : List Un) (h : RD w b A k (u :: r) false) (hc : isU 91 u = true) :
    Calls Try.prog 45 #[.pointer (some ⟨b, 0, none⟩)] w (MemQ w b A k u r) := by
  have H := Kept.mk h
  have c0 := h.c0
  obtain ⟨g, off, rfl, hg, d0, d1⟩ := h.us.at (j := 0) (by simp)
  obtain ⟨A1, k1, hs1, hu1⟩ := h.us.drop 1 (by simp)
  rw [List.drop_one, List.tail_cons] at hu1
  simp only [Nat.zero_mul, Nat.add_zero, List.getElem_cons_zero] at d0 d1
  obtain ⟨n, hn⟩ : ∃ n, n = (u :: r).length := ⟨_, rfl⟩
  obtain ⟨m, hm⟩ : ∃ m, m = r.length := ⟨_, rfl⟩
  have hs2 : sliced (some ⟨g, off, none⟩) 1 n k 2 = .slice A1 m k1 := by rw [hn, hs1, hm]; simp
  have hsl : ∀ W : World, (Instr.slice 47 (.slice (some ⟨g, off, none⟩) n k) (some (.int .i64 1)) none none).run Try.prog W = .ok (.slice A1 m k1) W := fun W => by rw [← hs2]; exact unit_from _ n k 1 (by rw [hn]; simp) W
  rw [← hn] at c0
  have hn0 : (0 : Int) < (n : Int) := by rw [hn]; simp
  have HI : Kept (true = ((u.1.toNat : Int) == 91 && !u.2)) := ⟨by rw [← hc, isU_int]; rfl⟩
  have HU := Kept.mk hu1
  have HM := Kept.mk hm
  have h2000 := hu1.few
  have HMn : Kept (m ≤ 2000) := ⟨by omega⟩
  have HQ : ∀ w1, Kept (Below w.heap.size w w1) → Kept (w1.cell? ⟨b, 1, none⟩ = some (.bool false)) ∧ Kept (w1.frozen? ⟨b, 1, none⟩ = false) ∧ Kept (w1.cell? ⟨b, 0, none⟩ = some (.slice (some ⟨g, off, none⟩) n k)) := fun w1 hb => ⟨⟨(H.out.below hb.out).c1⟩, ⟨(H.out.below hb.out).f1⟩, ⟨by have := (H.out.below hb.out).c0; rwa [← hn] at this⟩⟩
  have HQk := Kept.mk HQ
  clear h hn hc hg hs1 hs2 hu1 h2000 HQ
  cases r with
  | nil =>
    have hm0 : ¬ (0 : Int) < (m : Int) := by rw [hm]; decide
    have HF : Kept (1 = (if notU ([] : List Un) then 1 else 0) + 1) := ⟨rfl⟩
    have HF2 : Kept (1 ≤ 2) := ⟨by omega⟩
    clear hm
    go_enter Try.func45, Try.ntmps45
    go_wp2_with (go_at_call 33; refine (is_any _ _ _ _ true HI.out).mono ?_; rintro e w1 ⟨rfl, hb⟩; have HB1 := Kept.mk hb; obtain ⟨⟨z1⟩, ⟨z2⟩, ⟨z3⟩⟩ := HQk.out w1 HB1; clear hb)
    have HL0 := HB1
    clear HB1
    go_loopw [5] (fun i wr => ∃ c : Nat, i = .int .i64 (c : Int) ∧ c ≤ 2002 ∧ Kept (members ([] : List Un) = (closeF 0 (([] : List Un).drop c)).map (· + c)) ∧ Kept (0 < c) ∧ Kept (c ≤ m ∨ c ≤ 2) ∧ Kept (Below w.heap.size w wr)) (fun i _ => 3000 - (intOf i).toNat)
    case atStart => exact ⟨1, rfl, by omega, ⟨members_from HF.out⟩, ⟨by omega⟩, ⟨.inr HF2.out⟩, HL0⟩
    case round =>
      clear HL0
      obtain ⟨c, rfl, hc2, HM1, HC0, HCm, HBr⟩ := hrel
      obtain ⟨⟨z1⟩, ⟨z2⟩, _⟩ := HQk.out wr HBr
      by_cases hlt : c < m
      · have hl2 : (c : Int) < (m : Int) := by omega
        have hl0 : (0 : Int) ≤ (c : Int) := by omega
        have hj : c < (([] : List Un)).length := by rw [← HM.out]; exact hlt
        obtain ⟨g2, o2, e2, hg2, q0, q1⟩ := (HU.out.below HBr.out).at hj
        obtain ⟨v, hv⟩ : ∃ v, v = (([] : List Un))[c] := ⟨_, rfl⟩
        rw [← hv] at q0 q1
        have HV : Kept ((([] : List Un))[c]? = some v) := ⟨by rw [hv]; exact List.getElem?_eq_getElem hj⟩
        have HLen : Kept (c < (([] : List Un)).length) := ⟨hj⟩
        clear hv hg2 hj
        obtain ⟨t3, ht3⟩ : ∃ t3, t3 = isU 93 v := ⟨_, rfl⟩
        have HT3 : Kept (t3 = ((v.1.toNat : Int) == 93 && !v.2)) := ⟨by rw [ht3, isU_int]; rfl⟩
        have HT4 : Kept (t3 = isU 93 v) := ⟨ht3⟩
        clear ht3
        cases t3 with
        | true =>
          obtain ⟨A5, k5, hs5, hu5⟩ := (HU.out.below HBr.out).take c (Nat.le_of_lt HLen.out)
          have hcap := HU.out.cap
          have hck : c ≤ k1 := by have := HLen.out; omega
          have hsl5 : ∀ W : World, (Instr.slice 47 (.slice A1 m k1) none (some (.int .i64 (c : Int))) none).run Try.prog W = .ok (.slice A5 c k5) W := fun W => by rw [← hs5]; exact unit_upto _ m k1 c hck W
          have HU5 := Kept.mk hu5
          clear hs5 hu5 hcap hck
          subst e2
          go_wp2_with (go_at_call 33; refine (is_any _ _ _ _ true HT3.out).mono ?_; rintro e w3 ⟨rfl, hb⟩; have HB3 := Kept.mk hb; clear hb)
          go_ret
          exact .some c A5 k5 _ (by rw [HM1.out, close_at HV.out, if_pos HT4.out.symm]; simp) (HU5.out.below HB3.out) (Nat.le_of_lt HLen.out) HC0.out (HBr.out.trans (HB3.out.mono HBr.out.size))
        | false =>
          subst e2
          go_wp2_with (go_at_call 33; refine (is_any _ _ _ _ false HT3.out).mono ?_; rintro e w3 ⟨rfl, hb⟩; have HB3 := Kept.mk hb; clear hb)
          go_roundw
          case rel => exact ⟨c + 1, by go_num, by have := HMn.out; omega, ⟨by
            rw [HM1.out, close_at HV.out, if_neg (by rw [← HT4.out]; decide), Option.map_map]
            congr 1
            funext z
            show z + 1 + c = z + (c + 1)
            omega⟩, ⟨by omega⟩, ⟨.inl hlt⟩, ⟨HBr.out.trans (HB3.out.mono HBr.out.size)⟩⟩
          case measure => simp [intOf]; have := HMn.out; omega
      · have hl2 : ¬ (c : Int) < (m : Int) := by omega
        have HNo : Kept (members ([] : List Un) = Option.none) := ⟨by
          rw [HM1.out, List.drop_eq_nil_of_le (by rw [← HM.out]; omega)]; rfl⟩
        clear hlt HM1
        go_wp2_with fail
        go_ret
        obtain ⟨x1, x2⟩ := H.out.close HBr.out
        exact .none _ HNo.out x1 x2
  | cons a r =>
    have hm0 : (0 : Int) < (m : Int) := by rw [hm]; simp
    have hm1 : 0 < m := by omega
    obtain ⟨g1, o1, e1, hg1, a0, a1⟩ := HU.out.at (j := 0) (by simp)
    subst e1
    simp only [Nat.zero_mul, Nat.add_zero, List.getElem_cons_zero] at a0 a1
    obtain ⟨t, ht⟩ : ∃ t, t = isU 33 a := ⟨_, rfl⟩
    have HT : Kept (t = ((a.1.toNat : Int) == 33 && !a.2)) := ⟨by rw [ht, isU_int]; rfl⟩
    have HN : Kept (notU (a :: r) = t) := ⟨ht.symm⟩
    clear ht hm
    have HA : ∀ w1, Kept (Below w.heap.size w w1) → Kept (w1.cell? ⟨g1, o1, none⟩ = some (.int .u8 (a.1.toNat : Int))) ∧ Kept (w1.cell? ⟨g1, o1 + 1, none⟩ = some (.bool a.2)) := fun w1 hb => ⟨⟨(World.cell?_of_block (a := ⟨g1, o1, none⟩) (hb.out.block g1 hg1)).trans a0⟩, ⟨(World.cell?_of_block (a := ⟨g1, o1 + 1, none⟩) (hb.out.block g1 hg1)).trans a1⟩⟩
    have HAk := Kept.mk HA
    clear HA hg1 a0 a1
    cases t with
    | true =>
      have HF : Kept (2 = (if notU (a :: r) then 1 else 0) + 1) := ⟨by rw [HN.out]; rfl⟩
      have HF2 : Kept (2 ≤ 2) := ⟨by omega⟩
      have HN2 := HN
      clear HN
      go_enter Try.func45, Try.ntmps45
      go_wp2_with (first | (go_at_call 33; refine (is_any _ _ _ _ true HI.out).mono ?_; rintro e w1 ⟨rfl, hb⟩; have HB0 := Kept.mk hb; obtain ⟨⟨z1⟩, ⟨z2⟩, ⟨z3⟩⟩ := HQk.out w1 HB0; obtain ⟨⟨y1⟩, ⟨y2⟩⟩ := HAk.out w1 HB0; clear hb HI) | (go_at_call 33; refine (is_any _ _ _ _ true HT.out).mono ?_; rintro e w2 ⟨rfl, hb⟩; have HB1 : Kept (Below w.heap.size w w2) := ⟨HB0.out.trans (hb.mono HB0.out.size)⟩; clear hb))
      have HL0 := HB1
      clear HB1
      go_loopw [5] (fun i wr => ∃ c : Nat, i = .int .i64 (c : Int) ∧ c ≤ 2002 ∧ Kept (members (a :: r) = (closeF 0 ((a :: r).drop c)).map (· + c)) ∧ Kept (0 < c) ∧ Kept (c ≤ m ∨ c ≤ 2) ∧ Kept (Below w.heap.size w wr)) (fun i _ => 3000 - (intOf i).toNat)
      case atStart => exact ⟨2, rfl, by omega, ⟨members_from HF.out⟩, ⟨by omega⟩, ⟨.inr HF2.out⟩, HL0⟩
      case round =>
        clear HL0
        obtain ⟨c, rfl, hc2, HM1, HC0, HCm, HBr⟩ := hrel
        obtain ⟨⟨z1⟩, ⟨z2⟩, _⟩ := HQk.out wr HBr
        by_cases hlt : c < m
        · have hl2 : (c : Int) < (m : Int) := by omega
          have hl0 : (0 : Int) ≤ (c : Int) := by omega
          have hj : c < ((a :: r)).length := by rw [← HM.out]; exact hlt
          obtain ⟨g2, o2, e2, hg2, q0, q1⟩ := (HU.out.below HBr.out).at hj
          obtain ⟨v, hv⟩ : ∃ v, v = ((a :: r))[c] := ⟨_, rfl⟩
          rw [← hv] at q0 q1
          have HV : Kept (((a :: r))[c]? = some v) := ⟨by rw [hv]; exact List.getElem?_eq_getElem hj⟩
          have HLen : Kept (c < ((a :: r)).length) := ⟨hj⟩
          clear hv hg2 hj
          obtain ⟨t3, ht3⟩ : ∃ t3, t3 = isU 93 v := ⟨_, rfl⟩
          have HT3 : Kept (t3 = ((v.1.toNat : Int) == 93 && !v.2)) := ⟨by rw [ht3, isU_int]; rfl⟩
          have HT4 : Kept (t3 = isU 93 v) := ⟨ht3⟩
          clear ht3
          cases t3 with
          | true =>
            obtain ⟨A5, k5, hs5, hu5⟩ := (HU.out.below HBr.out).take c (Nat.le_of_lt HLen.out)
            have hcap := HU.out.cap
            have hck : c ≤ k1 := by have := HLen.out; omega
            have hsl5 : ∀ W : World, (Instr.slice 47 (.slice (some ⟨g1, o1, none⟩) m k1) none (some (.int .i64 (c : Int))) none).run Try.prog W = .ok (.slice A5 c k5) W := fun W => by rw [← hs5]; exact unit_upto _ m k1 c hck W
            have HU5 := Kept.mk hu5
            clear hs5 hu5 hcap hck
            injection e2 with e2; injection e2 with e3 e4; subst e3 e4
            go_wp2_with (go_at_call 33; refine (is_any _ _ _ _ true HT3.out).mono ?_; rintro e w3 ⟨rfl, hb⟩; have HB3 := Kept.mk hb; clear hb)
            go_ret
            exact .some c A5 k5 _ (by rw [HM1.out, close_at HV.out, if_pos HT4.out.symm]; simp) (HU5.out.below HB3.out) (Nat.le_of_lt HLen.out) HC0.out (HBr.out.trans (HB3.out.mono HBr.out.size))
          | false =>
            injection e2 with e2; injection e2 with e3 e4; subst e3 e4
            go_wp2_with (go_at_call 33; refine (is_any _ _ _ _ false HT3.out).mono ?_; rintro e w3 ⟨rfl, hb⟩; have HB3 := Kept.mk hb; clear hb)
            go_roundw
            case rel => exact ⟨c + 1, by go_num, by have := HMn.out; omega, ⟨by
              rw [HM1.out, close_at HV.out, if_neg (by rw [← HT4.out]; decide), Option.map_map]
              congr 1
              funext z
              show z + 1 + c = z + (c + 1)
              omega⟩, ⟨by omega⟩, ⟨.inl hlt⟩, ⟨HBr.out.trans (HB3.out.mono HBr.out.size)⟩⟩
            case measure => simp [intOf]; have := HMn.out; omega
        · have hl2 : ¬ (c : Int) < (m : Int) := by omega
          have HNo : Kept (members (a :: r) = Option.none) := ⟨by
            rw [HM1.out, List.drop_eq_nil_of_le (by rw [← HM.out]; omega)]; rfl⟩
          clear hlt HM1
          go_wp2_with fail
          go_ret
          obtain ⟨x1, x2⟩ := H.out.close HBr.out
          exact .none _ HNo.out x1 x2
    | false =>
      have HF : Kept (1 = (if notU (a :: r) then 1 else 0) + 1) := ⟨by rw [HN.out]; rfl⟩
      have HF2 : Kept (1 ≤ 2) := ⟨by omega⟩
      have HN2 := HN
      clear HN
      go_enter Try.func45, Try.ntmps45
      go_wp2_with (first | (go_at_call 33; refine (is_any _ _ _ _ true HI.out).mono ?_; rintro e w1 ⟨rfl, hb⟩; have HB0 := Kept.mk hb; obtain ⟨⟨z1⟩, ⟨z2⟩, ⟨z3⟩⟩ := HQk.out w1 HB0; obtain ⟨⟨y1⟩, ⟨y2⟩⟩ := HAk.out w1 HB0; clear hb HI) | (go_at_call 33; refine (is_any _ _ _ _ false HT.out).mono ?_; rintro e w2 ⟨rfl, hb⟩; have HB1 : Kept (Below w.heap.size w w2) := ⟨HB0.out.trans (hb.mono HB0.out.size)⟩; clear hb))
      have HL0 := HB1
      clear HB1
      go_loopw [5] (fun i wr => ∃ c : Nat, i = .int .i64 (c : Int) ∧ c ≤ 2002 ∧ Kept (members (a :: r) = (closeF 0 ((a :: r).drop c)).map (· + c)) ∧ Kept (0 < c) ∧ Kept (c ≤ m ∨ c ≤ 2) ∧ Kept (Below w.heap.size w wr)) (fun i _ => 3000 - (intOf i).toNat)
      case atStart => exact ⟨1, rfl, by omega, ⟨members_from HF.out⟩, ⟨by omega⟩, ⟨.inr HF2.out⟩, HL0⟩
      case round =>
        clear HL0
        obtain ⟨c, rfl, hc2, HM1, HC0, HCm, HBr⟩ := hrel
        obtain ⟨⟨z1⟩, ⟨z2⟩, _⟩ := HQk.out wr HBr
        by_cases hlt : c < m
        · have hl2 : (c : Int) < (m : Int) := by omega
          have hl0 : (0 : Int) ≤ (c : Int) := by omega
          have hj : c < ((a :: r)).length := by rw [← HM.out]; exact hlt
          obtain ⟨g2, o2, e2, hg2, q0, q1⟩ := (HU.out.below HBr.out).at hj
          obtain ⟨v, hv⟩ : ∃ v, v = ((a :: r))[c] := ⟨_, rfl⟩
          rw [← hv] at q0 q1
          have HV : Kept (((a :: r))[c]? = some v) := ⟨by rw [hv]; exact List.getElem?_eq_getElem hj⟩
          have HLen : Kept (c < ((a :: r)).length) := ⟨hj⟩
          clear hv hg2 hj
          obtain ⟨t3, ht3⟩ : ∃ t3, t3 = isU 93 v := ⟨_, rfl⟩
          have HT3 : Kept (t3 = ((v.1.toNat : Int) == 93 && !v.2)) := ⟨by rw [ht3, isU_int]; rfl⟩
          have HT4 : Kept (t3 = isU 93 v) := ⟨ht3⟩
          clear ht3
          cases t3 with
          | true =>
            obtain ⟨A5, k5, hs5, hu5⟩ := (HU.out.below HBr.out).take c (Nat.le_of_lt HLen.out)
            have hcap := HU.out.cap
            have hck : c ≤ k1 := by have := HLen.out; omega
            have hsl5 : ∀ W : World, (Instr.slice 47 (.slice (some ⟨g1, o1, none⟩) m k1) none (some (.int .i64 (c : Int))) none).run Try.prog W = .ok (.slice A5 c k5) W := fun W => by rw [← hs5]; exact unit_upto _ m k1 c hck W
            have HU5 := Kept.mk hu5
            clear hs5 hu5 hcap hck
            injection e2 with e2; injection e2 with e3 e4; subst e3 e4
            go_wp2_with (go_at_call 33; refine (is_any _ _ _ _ true HT3.out).mono ?_; rintro e w3 ⟨rfl, hb⟩; have HB3 := Kept.mk hb; clear hb)
            go_ret
            exact .some c A5 k5 _ (by rw [HM1.out, close_at HV.out, if_pos HT4.out.symm]; simp) (HU5.out.below HB3.out) (Nat.le_of_lt HLen.out) HC0.out (HBr.out.trans (HB3.out.mono HBr.out.size))
          | false =>
            injection e2 with e2; injection e2 with e3 e4; subst e3 e4
            go_wp2_with (go_at_call 33; refine (is_any _ _ _ _ false HT3.out).mono ?_; rintro e w3 ⟨rfl, hb⟩; have HB3 := Kept.mk hb; clear hb)
            go_roundw
            case rel => exact ⟨c + 1, by go_num, by have := HMn.out; omega, ⟨by
              rw [HM1.out, close_at HV.out, if_neg (by rw [← HT4.out]; decide), Option.map_map]
              congr 1
              funext z
              show z + 1 + c = z + (c + 1)
              omega⟩, ⟨by omega⟩, ⟨.inl hlt⟩, ⟨HBr.out.trans (HB3.out.mono HBr.out.size)⟩⟩
            case measure => simp [intOf]; have := HMn.out; omega
        · have hl2 : ¬ (c : Int) < (m : Int) := by omega
          have HNo : Kept (members (a :: r) = Option.none) := ⟨by
            rw [HM1.out, List.drop_eq_nil_of_le (by rw [← HM.out]; omega)]; rfl⟩
          clear hlt HM1
          go_wp2_with fail
          go_ret
          obtain ⟨x1, x2⟩ := H.out.close HBr.out
          exact .none _ HNo.out x1 x2
end Pm
end Go.Proofs.Ytkifnabkoidhcaa
