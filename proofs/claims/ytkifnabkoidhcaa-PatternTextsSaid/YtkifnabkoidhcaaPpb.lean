/-
  The program's matcher: it goes on.
-/
import Derived.Test.YtkifnabkoidhcaaPpa
import Derived.Deep.RegionHeld3
namespace Go.Proofs.Ytkifnabkoidhcaa
open Go.RowKit Tx
namespace Pm

abbrev fns (l : List PE) : List El := l.map PE.fn
/-- The matcher in memory. -/
structure MM (w : World) (B b : Nat) (v : Value) (ts : List PT) (l : List PE) (s : ByteArray) (i a m k : Nat) : Prop where
  row : w.heap[b]? = some (.cells #[v, .string s, .int .i64 (i : Int), .int .i64 (a : Int), .int .i64 (m : Int), .int .i64 (k : Int)] 64 (0, 0))
  es : ES w B v ts l
  ok : Ok (fns l) (toL s) i a m k
  few : l.length ≤ 2000 ∧ s.size ≤ 2000
section
variable {w w' : World} {B b i a m k i2 a2 m2 k2 : Nat} {v : Value} {ts : List PT} {l : List PE} {s : ByteArray}
theorem MM.lt (h : MM w B b v ts l s i a m k) : b < w.heap.size := (Array.getElem?_eq_some_iff.1 h.row).1
theorem MM.c0 (h : MM w B b v ts l s i a m k) : w.cell? ⟨b, 0, none⟩ = some v := cell_of_row w b 0 _ _ _ h.row
theorem MM.c1 (h : MM w B b v ts l s i a m k) : w.cell? ⟨b, 1, none⟩ = some (.string s) := cell_of_row w b 1 _ _ _ h.row
theorem MM.c2 (h : MM w B b v ts l s i a m k) : w.cell? ⟨b, 2, none⟩ = some (.int .i64 (i : Int)) := cell_of_row w b 2 _ _ _ h.row
theorem MM.c3 (h : MM w B b v ts l s i a m k) : w.cell? ⟨b, 3, none⟩ = some (.int .i64 (a : Int)) := cell_of_row w b 3 _ _ _ h.row
theorem MM.c4 (h : MM w B b v ts l s i a m k) : w.cell? ⟨b, 4, none⟩ = some (.int .i64 (m : Int)) := cell_of_row w b 4 _ _ _ h.row
theorem MM.c5 (h : MM w B b v ts l s i a m k) : w.cell? ⟨b, 5, none⟩ = some (.int .i64 (k : Int)) := cell_of_row w b 5 _ _ _ h.row
theorem MM.fz (h : MM w B b v ts l s i a m k) (j : Nat) : w.frozen? ⟨b, j, none⟩ = false := frozen_of_row w b j _ _ h.row
theorem MM.on (h : MM w B b v ts l s i a m k) (ho : Only (· = b) w w') (hk : Ok (fns l) (toL s) i2 a2 m2 k2)
    (hr : w'.heap[b]? = some (.cells #[v, .string s, .int .i64 (i2 : Int), .int .i64 (a2 : Int), .int .i64 (m2 : Int), .int .i64 (k2 : Int)] 64 (0, 0))) : MM w' B b v ts l s i2 a2 m2 k2 :=
  ⟨hr, h.es.keep (fun g _ hg => ho.block g (Array.getElem?_eq_some_iff.1 hg).1 (type_ne hg h.row (by decide))) (fun q _ hq => ho.block q hq.lt (hq.ne h.row (by decide))), hk, h.few⟩
theorem MM.below (h : MM w B b v ts l s i a m k) (hb : Below w.heap.size w w') : MM w' B b v ts l s i a m k :=
  h.on ((Only.refl _ _).below hb) h.ok ((hb.block b h.lt).trans h.row)
theorem MM.es_below (h : ES w B v ts l) (hb : Below w.heap.size w w') : ES w' B v ts l :=
  h.keep (fun g _ hg => hb.block g (Array.getElem?_eq_some_iff.1 hg).1) (fun q _ hq => hb.block q hq.lt)
theorem MM.again (h : MM w B b v ts l s i a m k) {P : World → Prop} (hp : ∀ w2, MM w2 B b v ts l s i a m k → Only (· = b) w w2 → P w2) (n : Nat) : P (w.drewN n) :=
  hp _ (h.below (below_drewN (Below.refl _ _) n)) ((Only.refl _ _).drewN n)
/-- One element's cells. -/
theorem tcss_at {ts : List PT} {j : Nat} (hj : j < ts.length) : (tcss ts)[j * 3]? = some (.int .i64 ts[j].k) ∧ (tcss ts)[j * 3 + 1]? = some (.int .u8 ts[j].v) ∧ (tcss ts)[j * 3 + 2]? = some ts[j].ptr := by
  induction ts generalizing j with
  | nil => simp at hj
  | cons p t ih =>
    have hc : tcss (p :: t) = tcs p ++ tcss t := rfl
    have h2 : (tcs p).length = 3 := rfl
    cases j with
    | zero => exact ⟨rfl, rfl, rfl⟩
    | succ j =>
      have := ih (j := j) (by simpa using hj)
      rw [hc, List.getElem?_append_right (by omega), List.getElem?_append_right (by omega), List.getElem?_append_right (by omega), h2]
      rw [show (j + 1) * 3 - 3 = j * 3 by omega, show (j + 1) * 3 + 1 - 3 = j * 3 + 1 by omega, show (j + 1) * 3 + 2 - 3 = j * 3 + 2 by omega]
      exact this
theorem ES.at (h : ES w B v ts l) {j : Nat} (hj : j < l.length) : ∃ g k, v = .slice (some ⟨g, 0, none⟩) l.length k ∧ g < w.heap.size ∧ (∃ cs, w.heap[g]? = some (.cells cs 61 (0, 0))) ∧ ∃ t, ts[j]? = some t ∧ EOk w l[j] t ∧ w.cell? ⟨g, j * 3, none⟩ = some (.int .i64 t.k) ∧ w.cell? ⟨g, j * 3 + 1, none⟩ = some (.int .u8 t.v) ∧ w.cell? ⟨g, j * 3 + 2, none⟩ = some t.ptr := by
  have hjt : j < ts.length := by rw [h.len]; exact hj
  rcases h.own.2 with ⟨_, h0⟩ | ⟨g, cap, cur, rfl, hB, hg, r, _, _, htake⟩
  · omega
  · obtain ⟨a0, a1, a2⟩ := tcss_at hjt
    have hc : ∀ q u, (tcss ts)[q]? = some u → w.cell? ⟨g, q, none⟩ = some u := fun q u hu => by
      rw [cell_of_row w g q cur _ (0, 0) hg]
      rw [← htake, List.getElem?_take] at hu
      split at hu
      · simpa using hu
      · cases hu
    exact ⟨g, cap, by rw [h.len], (Array.getElem?_eq_some_iff.1 hg).1, ⟨cur, hg⟩, ts[j], List.getElem?_eq_getElem hjt, h.ok j _ _ (List.getElem?_eq_getElem hj) (List.getElem?_eq_getElem hjt), hc _ _ a0, hc _ _ a1, hc _ _ a2⟩
end
theorem ok_mark {l : List El} {s : List UInt8} {i a m k : Nat} (h : Ok l s i a m k) : k ≤ a := by
  rcases Nat.eq_zero_or_pos m with h0 | h0
  · have := h.free h0; omega
  · have := (h.mark (by omega)).2.1; omega
/-- What advance ends in. -/
def AdvQ (w : World) (B b : Nat) (v : Value) (ts : List PT) (l : List PE) (s : ByteArray) (L : Nat → Prop) (k0 : Nat) (e : Ending) (w' : World) : Prop :=
  e = .returned (.tuple #[]) ∧ ∃ i a m k, Kept (MM w' B b v ts l s i a m k) ∧ Kept (Stuck (fns l) (toL s) i a) ∧ Kept (∀ n, Left (fns l) (toL s) i a m k n ↔ L n) ∧ Kept (Only (· = b) w w') ∧ Kept (k0 ≤ k)
def cellI (w : World) (b j : Nat) : Nat := match w.cell? ⟨b, j, none⟩ with
  | some (.int _ n) => n.toNat
  | _ => 0
set_option maxHeartbeats 4000000 in
set_option maxRecDepth 100000 in
theorem advance_any (w : World) (B b : Nat) (v : Value) (ts : List PT) (l : List PE) (s : ByteArray) (i a m k : Nat) (h : MM w B b v ts l s i a m k) :
    Calls Try.prog 38 #[.pointer (some ⟨b, 0, none⟩)] w (AdvQ w B b v ts l s (Left (fns l) (toL s) i a m k) k) := by
  have H0 := Kept.mk h
  obtain ⟨L, hL⟩ : ∃ L, L = Left (fns l) (toL s) i a m k := ⟨_, rfl⟩
  have HL0 : Kept (∀ n, Left (fns l) (toL s) i a m k n ↔ L n) := ⟨fun n => by rw [hL]⟩
  rw [← hL]
  obtain ⟨k0, hk0⟩ : ∃ k0, k0 = k := ⟨_, rfl⟩
  have HK0 : Kept (k0 ≤ k) := ⟨by omega⟩
  rw [← hk0]
  clear h hL hk0
  go_enter Try.func38, Try.ntmps38
  go_wp2_with fail
  go_loopw [] (fun wr => ∃ i a m k, Kept (MM wr B b v ts l s i a m k) ∧ Kept (∀ n, Left (fns l) (toL s) i a m k n ↔ L n) ∧ Kept (Only (· = b) w wr) ∧ Kept (k0 ≤ k)) (fun wr => l.length - cellI wr b 2)
  case atStart => exact ⟨_, _, _, _, H0, HL0, ⟨Only.refl _ _⟩, HK0⟩
  case round =>
    clear H0 HL0 HK0
    obtain ⟨i, a, m, k, HM, HL, HO, HK⟩ := hrel
    obtain ⟨A, q, hv⟩ := own_shape HM.out.es.own
    have c0 := HM.out.c0
    have c2 := HM.out.c2
    obtain ⟨n, hn⟩ : ∃ n, n = ts.length := ⟨_, rfl⟩
    have HN : Kept (n = l.length) := ⟨by rw [hn, HM.out.es.len]⟩
    have hvn : v = .slice A n q := by rw [hv, hn]
    have HV := Kept.mk hvn
    have c0' : wr.cell? ⟨b, 0, none⟩ = some (.slice A n q) := by rw [c0, hvn]
    have HC2 : Kept (cellI wr b 2 = i) := ⟨by unfold cellI; rw [c2]; show ((i : Nat) : Int).toNat = i; omega⟩
    clear hn hv c0 hvn
    by_cases hlt : i < n
    · have hl2 : (i : Int) < (n : Int) := by omega
      go_wp2_with fail
      go_quiet (fail)
      refine HM.out.again (P := fun W => Exit.then _ _ _ _ W) ?_ nq
      intro W hW hOW
      have HW := Kept.mk hW
      have HOW : Kept (Only (· = b) w W) := ⟨HO.out.trans hOW fun _ _ e => e⟩
      have hil : i < l.length := by have := HN.out; omega
      obtain ⟨g, q', hvq, hg, hgr, t, htt, hE, d0, d1, d2⟩ := hW.es.at hil
      have e0 : W.cell? ⟨b, 0, none⟩ = some (.slice (some ⟨g, 0, none⟩) n q') := by rw [hW.c0, hvq, HN.out]
      have e2 := hW.c2
      have hbW := hW.lt
      obtain ⟨tk, tv, tp⟩ := t
      dsimp only [PT.ptr] at d0 d1 d2
      obtain ⟨P0, hP0⟩ : ∃ P0, P0 = tp.map (fun q : Nat => (⟨q, 0, none⟩ : Addr)) := ⟨_, rfl⟩
      rw [← hP0] at d2
      have HP0 := Kept.mk hP0
      have HE := Kept.mk hE
      obtain ⟨el, hel⟩ : ∃ el, el = l[i] := ⟨_, rfl⟩
      have Hel : Kept (l[i]? = some el) := ⟨by rw [hel]; exact List.getElem?_eq_getElem hil⟩
      rw [← hel] at HE
      have HA := Kept.mk (Below.alloc (Below.refl W.heap.size W) (Nat.le_refl _) (.cells #[.int .i64 0, .int .u8 0, .pointer none] 61))
      have a0 : (W.alloc (.cells #[.int .i64 0, .int .u8 0, .pointer none] 61)).cell? ⟨b, 0, none⟩ = some (.slice (some ⟨g, 0, none⟩) n q') := (World.cell?_of_block (a := ⟨b, 0, none⟩) (HA.out.block b hbW)).trans e0
      have a2 : (W.alloc (.cells #[.int .i64 0, .int .u8 0, .pointer none] 61)).cell? ⟨b, 2, none⟩ = some (.int .i64 (i : Int)) := (World.cell?_of_block (a := ⟨b, 2, none⟩) (HA.out.block b hbW)).trans e2
      have b0 : (W.alloc (.cells #[.int .i64 0, .int .u8 0, .pointer none] 61)).cell? ⟨g, i * 3, none⟩ = some (.int .i64 tk) := (World.cell?_of_block (a := ⟨g, i * 3, none⟩) (HA.out.block g hg)).trans d0
      have b1 : (W.alloc (.cells #[.int .i64 0, .int .u8 0, .pointer none] 61)).cell? ⟨g, i * 3 + 1, none⟩ = some (.int .u8 tv) := (World.cell?_of_block (a := ⟨g, i * 3 + 1, none⟩) (HA.out.block g hg)).trans d1
      have b2 : (W.alloc (.cells #[.int .i64 0, .int .u8 0, .pointer none] 61)).cell? ⟨g, i * 3 + 2, none⟩ = some (.pointer P0) := (World.cell?_of_block (a := ⟨g, i * 3 + 2, none⟩) (HA.out.block g hg)).trans d2
      clear hE hP0 hgr hg hvq htt hil hel c0' c2 hW hOW hbW HM HO HV
      go_wp2_with fail
      go_region
      have HB2 : Kept (Below W.heap.size W (W.alloc (.cells #[.int .i64 tk, .int .u8 tv, .pointer P0] 61)).drew) := ⟨((Below.refl _ _).alloc (Nat.le_refl _) _).drew⟩
      have HM2 := Kept.mk (HW.out.below HB2.out)
      have HE2 := Kept.mk (HE.out.keep fun q f _ hq => HB2.out.block q hq.lt)
      have HO2 : Kept (Only (· = b) w (W.alloc (.cells #[.int .i64 tk, .int .u8 tv, .pointer P0] 61)).drew) := ⟨HOW.out.below HB2.out⟩
      have HR2 : Kept ((W.alloc (.cells #[.int .i64 tk, .int .u8 tv, .pointer P0] 61)).drew.heap[W.heap.size]? = some (.cells #[.int .i64 tk, .int .u8 tv, .pointer P0] 61 (0, 0))) := ⟨heap_alloc_new W _⟩
      clear a0 a2 b0 b1 b2 e0 e2 d0 d1 d2 HA HB2 HE HW HOW
      generalize W.heap.size = x at *
      generalize (W.alloc (.cells #[.int .i64 tk, .int .u8 tv, .pointer P0] 61)).drew = W2 at *
      have z0 := cell_of_row _ _ 0 _ _ _ HR2.out
      have hi5 : (i : Int) ≤ 2000 := by have := HM2.out.few.1; have := HN.out; omega
      have hw1 : IntKind.i64.wrap ((i : Int) + 1) = (i : Int) + 1 := IntWalk.i64_in _ (by omega)
      have q2 := HM2.out.c2
      have q3 := HM2.out.c3
      have q4 := HM2.out.c4
      have q5 := HM2.out.c5
      have f2 := HM2.out.fz 2
      have f3 := HM2.out.fz 3
      have f4 := HM2.out.fz 4
      have f5 := HM2.out.fz 5
      cases el with
      | star =>
        obtain ⟨rfl, rfl, rfl⟩ : tk = 2 ∧ tv = 0 ∧ tp = none := by
          have h : (⟨tk, tv, tp⟩ : PT) = ⟨2, 0, none⟩ := HE2.out
          injection h with h1 h2 h3
          exact ⟨h1, h2, h3⟩
        have hi : (fns l)[i]? = some none := by rw [List.getElem?_map, Hel.out]; rfl
        have HOk := Kept.mk (star_ok HM2.out.ok hi)
        have HL2 : Kept (∀ n, Left (fns l) (toL s) (i + 1) a (i + 1) a n ↔ L n) := ⟨fun n => by rw [star_left HM2.out.ok hi]; exact HL.out n⟩
        have HO3 : Kept (Only (· = b) W2 (((W2.setCell ⟨b, 4, none⟩ (.int .i64 ((i : Int) + 1))).setCell ⟨b, 5, none⟩ (.int .i64 (a : Int))).drew)) := ⟨(((Only.refl (· = b) W2).setCell ⟨b, 4, none⟩ _ (fun _ => rfl)).setCell ⟨b, 5, none⟩ _ (fun _ => rfl)).drew⟩
        have HR3 : Kept ((((W2.setCell ⟨b, 4, none⟩ (.int .i64 ((i : Int) + 1))).setCell ⟨b, 5, none⟩ (.int .i64 (a : Int))).drew).heap[b]? = some (.cells #[v, .string s, .int .i64 (i : Int), .int .i64 (a : Int), .int .i64 ((i : Int) + 1), .int .i64 (a : Int)] 64 (0, 0))) := ⟨by
          have h1 := heap_setCell_same W2 b 4 _ _ (.int .i64 ((i : Int) + 1)) HM2.out.row
          have h2 := heap_setCell_same _ b 5 _ _ (.int .i64 (a : Int)) h1
          have h3 : ((W2.setCell ⟨b, 4, none⟩ (.int .i64 ((i : Int) + 1))).setCell ⟨b, 5, none⟩ (.int .i64 (a : Int))).heap[b]? = some (.cells #[v, .string s, .int .i64 (i : Int), .int .i64 (a : Int), .int .i64 ((i : Int) + 1), .int .i64 (a : Int)] 64 (0, 0)) := by simpa using h2
          exact h3⟩
        go_wp2_with fail
        go_region
        clear q2 q3 q4 q5 f2 f3 f4 f5 z0
        generalize ((W2.setCell ⟨b, 4, none⟩ (.int .i64 ((i : Int) + 1))).setCell ⟨b, 5, none⟩ (.int .i64 (a : Int))).drew = W3 at *
        have q2 := cell_of_row _ _ 2 _ _ _ HR3.out
        have f2 := frozen_of_row _ _ 2 _ _ HR3.out
        have HO4 : Kept (Only (· = b) W2 (W3.setCell ⟨b, 2, none⟩ (.int .i64 ((i : Int) + 1)))) := ⟨HO3.out.setCell _ _ (fun _ => rfl)⟩
        have HM4 : Kept (MM (W3.setCell ⟨b, 2, none⟩ (.int .i64 ((i : Int) + 1))) B b v ts l s (i + 1) a (i + 1) a) := ⟨HM2.out.on HO4.out HOk.out (by
          have h1 := heap_setCell_same W3 b 2 _ _ (.int .i64 ((i : Int) + 1)) HR3.out
          simpa using h1)⟩
        have HM5 : Kept (l.length - (i + 1) < l.length - i) := ⟨by have := HN.out; omega⟩
        go_wp2_with fail
        go_roundw
        case rel => exact ⟨_, _, _, _, HM4, HL2, ⟨HO2.out.trans HO4.out fun _ _ e => e⟩, ⟨Nat.le_trans HK.out (ok_mark HM2.out.ok)⟩⟩
        case measure =>
          rw [HC2.out, show cellI (W3.setCell ⟨b, 2, none⟩ (.int .i64 ((i : Int) + 1))) b 2 = i + 1 by unfold cellI; rw [HM4.out.c2]; show (((i + 1 : Nat) : Int)).toNat = i + 1; omega]
          exact HM5.out
      | any =>
        obtain ⟨rfl, rfl, rfl⟩ : tk = 1 ∧ tv = 0 ∧ tp = none := by
          have h : (⟨tk, tv, tp⟩ : PT) = ⟨1, 0, none⟩ := HE2.out
          injection h with h1 h2 h3
          exact ⟨h1, h2, h3⟩
        have hk2 : ¬ (1 : Int) = 2 := by decide
        obtain rfl : P0 = none := HP0.out
        obtain ⟨f, hf⟩ : ∃ f, PE.any.fn = some f := ⟨_, rfl⟩
        have hi : (fns l)[i]? = some (some f) := by rw [List.getElem?_map, Hel.out]; exact congrArg some hf
        have HI := Kept.mk hi
        have z1 := cell_of_row _ _ 1 _ _ _ HR2.out
        have z2 := cell_of_row _ _ 2 _ _ _ HR2.out
        have q1 := HM2.out.c1
        clear hi
        by_cases has : a < s.size
        · have has2 : (a : Int) < (s.size : Int) := by omega
          have ha0 : (0 : Int) ≤ (a : Int) := by omega
          have HMt := Kept.mk (ematches_any W2.drew _ _ (HE2.out.keep fun q f _ hq => rfl) (s[a]'has) f hf)
          go_wp2_with fail
          have hq : ∀ (p : Addr) (v : Value) (wa wb : World), wa.cell? p = some v → Below wa.heap.size wa wb → wb.cell? p = some v := fun p v wa wb h hb => (hb.cell (World.block_lt_of_cell? wa _ h)).trans h
          have HQ := Kept.mk hq
          clear hq
          obtain ⟨fc, hfc⟩ : ∃ fc, fc = f (s[a]'has) := ⟨_, rfl⟩
          have HFC := Kept.mk hfc
          rw [← hfc] at HMt
          clear hfc
          go_region_held3 (fun w' => (w'.cell? ⟨b, 1, none⟩ = some (.string s) ∧ w'.cell? ⟨b, 3, none⟩ = some (.int .i64 (a : Int))) ∧ (w'.cell? ⟨x, 0, none⟩ = some (.int .i64 1) ∧ w'.cell? ⟨x, 1, none⟩ = some (.int .u8 0) ∧ w'.cell? ⟨x, 2, none⟩ = some (.pointer none)))
            (first
              | exact ⟨⟨q1', q3'⟩, ⟨z0', z1', z2'⟩⟩
              | exact ⟨⟨q1, q3⟩, ⟨z0, z1, z2⟩⟩)
            (first
              | (go_at_call 44
                 refine HMt.out.mono ?_
                 rintro e w4 ⟨rfl, hb4⟩
                 have hb5 := (Below.refl W2.heap.size W2).drew.trans hb4
                 have HB5 := Kept.mk hb5
                 have q1' := HQ.out _ _ _ _ q1 hb5
                 have q3' := HQ.out _ _ _ _ q3 hb5
                 have z0' := HQ.out _ _ _ _ z0 hb5
                 have z1' := HQ.out _ _ _ _ z1 hb5
                 have z2' := HQ.out _ _ _ _ z2 hb5
                 clear hb4 hb5))
          clear q1 q3 z0 z1 z2 q1' q3' z0' z1' z2' q2 q4 q5 f2 f4 f5
          have HM4 := Kept.mk (HM2.out.below HB5.out)
          have HO4 : Kept (Only (· = b) w w4) := ⟨HO2.out.below HB5.out⟩
          have hsa : (toL s)[a]? = some (s[a]'has) := by rw [List.getElem?_eq_getElem (by rw [toL_length]; exact has)]; rfl
          cases fc with
          | true =>
            have HOk := Kept.mk (one_ok HM2.out.ok HI.out hsa)
            have HL2 : Kept (∀ n, Left (fns l) (toL s) (i + 1) (a + 1) m k n ↔ L n) := ⟨fun n => by rw [one_left HI.out hsa HFC.out.symm]; exact HL.out n⟩
            have hw2 : IntKind.i64.wrap ((a : Int) + 1) = (a : Int) + 1 := IntWalk.i64_in _ (by have := HM2.out.few.2; omega)
            have q3 := HM4.out.c3
            have f3 := HM4.out.fz 3
            have q2 : (w4.setCell ⟨b, 3, none⟩ (.int .i64 ((a : Int) + 1))).cell? ⟨b, 2, none⟩ = some (.int .i64 (i : Int)) := (World.cell?_setCell_other _ _ _ _ (by simp)).trans HM4.out.c2
            have HR5 := Kept.mk (heap_setCell_same w4 b 3 _ _ (.int .i64 ((a : Int) + 1)) HM4.out.row)
            have f2 : (w4.setCell ⟨b, 3, none⟩ (.int .i64 ((a : Int) + 1))).frozen? ⟨b, 2, none⟩ = false := frozen_of_row _ _ 2 _ _ HR5.out
            have HO5 : Kept (Only (· = b) w4 ((w4.setCell ⟨b, 3, none⟩ (.int .i64 ((a : Int) + 1))).setCell ⟨b, 2, none⟩ (.int .i64 ((i : Int) + 1)))) := ⟨((Only.refl (· = b) w4).setCell ⟨b, 3, none⟩ _ (fun _ => rfl)).setCell ⟨b, 2, none⟩ _ (fun _ => rfl)⟩
            have HM5 : Kept (MM ((w4.setCell ⟨b, 3, none⟩ (.int .i64 ((a : Int) + 1))).setCell ⟨b, 2, none⟩ (.int .i64 ((i : Int) + 1))) B b v ts l s (i + 1) (a + 1) m k) := ⟨HM4.out.on HO5.out HOk.out (by
              have h2 := heap_setCell_same _ b 2 _ _ (.int .i64 ((i : Int) + 1)) HR5.out
              simpa using h2)⟩
            have HMe : Kept (l.length - (i + 1) < l.length - i) := ⟨by have := HN.out; omega⟩
            clear hsa
            go_wp2_with fail
            go_roundw
            case rel => exact ⟨_, _, _, _, HM5, HL2, ⟨HO4.out.trans HO5.out fun _ _ e => e⟩, HK⟩
            case measure =>
              rw [HC2.out, show cellI ((w4.setCell ⟨b, 3, none⟩ (.int .i64 ((a : Int) + 1))).setCell ⟨b, 2, none⟩ (.int .i64 ((i : Int) + 1))) b 2 = i + 1 by unfold cellI; rw [HM5.out.c2]; show (((i + 1 : Nat) : Int)).toNat = i + 1; omega]
              exact HMe.out
          | false =>
            have HSt : Kept (Stuck (fns l) (toL s) i a) := ⟨.inr ⟨f, HI.out, fun c hc => by rw [hsa] at hc; cases hc; exact HFC.out.symm⟩⟩
            clear hsa
            go_wp2_with fail
            refine bodyPost_ret (results_none rfl _ _ _) rfl ?_
            exact ⟨rfl, i, a, m, k, HM4, HSt, HL, HO4, HK⟩
        · have has2 : ¬ (a : Int) < (s.size : Int) := by omega
          go_wp2_with fail
          go_quiet (fail)
          refine HM2.out.again (P := fun W => Exit.then _ _ _ _ W) ?_ nq
          intro W3 hW hOW
          have HM4 := Kept.mk hW
          have HO4 : Kept (Only (· = b) w W3) := ⟨HO2.out.trans hOW fun _ _ e => e⟩
          have HSt : Kept (Stuck (fns l) (toL s) i a) := ⟨.inr ⟨f, HI.out, fun c hc => by rw [List.getElem?_eq_none (by rw [toL_length]; omega)] at hc; cases hc⟩⟩
          clear hW hOW q1 q3 z0 z1 z2 q2 q4 q5 f2 f3 f4 f5
          go_wp2_with fail
          refine bodyPost_ret (results_none rfl _ _ _) rfl ?_
          exact ⟨rfl, i, a, m, k, HM4, HSt, HL, HO4, HK⟩
      | one c =>
        obtain ⟨rfl, rfl, rfl⟩ : tk = 0 ∧ tv = (c.toNat : Int) ∧ tp = none := by
          have h : (⟨tk, tv, tp⟩ : PT) = ⟨0, (c.toNat : Int), none⟩ := HE2.out
          injection h with h1 h2 h3
          exact ⟨h1, h2, h3⟩
        have hk2 : ¬ (0 : Int) = 2 := by decide
        obtain rfl : P0 = none := HP0.out
        obtain ⟨f, hf⟩ : ∃ f, (PE.one c).fn = some f := ⟨_, rfl⟩
        have hi : (fns l)[i]? = some (some f) := by rw [List.getElem?_map, Hel.out]; exact congrArg some hf
        have HI := Kept.mk hi
        have z1 := cell_of_row _ _ 1 _ _ _ HR2.out
        have z2 := cell_of_row _ _ 2 _ _ _ HR2.out
        have q1 := HM2.out.c1
        clear hi
        by_cases has : a < s.size
        · have has2 : (a : Int) < (s.size : Int) := by omega
          have ha0 : (0 : Int) ≤ (a : Int) := by omega
          have HMt := Kept.mk (ematches_any W2.drew _ _ (HE2.out.keep fun q f _ hq => rfl) (s[a]'has) f hf)
          go_wp2_with fail
          have hq : ∀ (p : Addr) (v : Value) (wa wb : World), wa.cell? p = some v → Below wa.heap.size wa wb → wb.cell? p = some v := fun p v wa wb h hb => (hb.cell (World.block_lt_of_cell? wa _ h)).trans h
          have HQ := Kept.mk hq
          clear hq
          obtain ⟨fc, hfc⟩ : ∃ fc, fc = f (s[a]'has) := ⟨_, rfl⟩
          have HFC := Kept.mk hfc
          rw [← hfc] at HMt
          clear hfc
          go_region_held3 (fun w' => (w'.cell? ⟨b, 1, none⟩ = some (.string s) ∧ w'.cell? ⟨b, 3, none⟩ = some (.int .i64 (a : Int))) ∧ (w'.cell? ⟨x, 0, none⟩ = some (.int .i64 0) ∧ w'.cell? ⟨x, 1, none⟩ = some (.int .u8 (c.toNat : Int)) ∧ w'.cell? ⟨x, 2, none⟩ = some (.pointer none)))
            (first
              | exact ⟨⟨q1', q3'⟩, ⟨z0', z1', z2'⟩⟩
              | exact ⟨⟨q1, q3⟩, ⟨z0, z1, z2⟩⟩)
            (first
              | (go_at_call 44
                 refine HMt.out.mono ?_
                 rintro e w4 ⟨rfl, hb4⟩
                 have hb5 := (Below.refl W2.heap.size W2).drew.trans hb4
                 have HB5 := Kept.mk hb5
                 have q1' := HQ.out _ _ _ _ q1 hb5
                 have q3' := HQ.out _ _ _ _ q3 hb5
                 have z0' := HQ.out _ _ _ _ z0 hb5
                 have z1' := HQ.out _ _ _ _ z1 hb5
                 have z2' := HQ.out _ _ _ _ z2 hb5
                 clear hb4 hb5))
          clear q1 q3 z0 z1 z2 q1' q3' z0' z1' z2' q2 q4 q5 f2 f4 f5
          have HM4 := Kept.mk (HM2.out.below HB5.out)
          have HO4 : Kept (Only (· = b) w w4) := ⟨HO2.out.below HB5.out⟩
          have hsa : (toL s)[a]? = some (s[a]'has) := by rw [List.getElem?_eq_getElem (by rw [toL_length]; exact has)]; rfl
          cases fc with
          | true =>
            have HOk := Kept.mk (one_ok HM2.out.ok HI.out hsa)
            have HL2 : Kept (∀ n, Left (fns l) (toL s) (i + 1) (a + 1) m k n ↔ L n) := ⟨fun n => by rw [one_left HI.out hsa HFC.out.symm]; exact HL.out n⟩
            have hw2 : IntKind.i64.wrap ((a : Int) + 1) = (a : Int) + 1 := IntWalk.i64_in _ (by have := HM2.out.few.2; omega)
            have q3 := HM4.out.c3
            have f3 := HM4.out.fz 3
            have q2 : (w4.setCell ⟨b, 3, none⟩ (.int .i64 ((a : Int) + 1))).cell? ⟨b, 2, none⟩ = some (.int .i64 (i : Int)) := (World.cell?_setCell_other _ _ _ _ (by simp)).trans HM4.out.c2
            have HR5 := Kept.mk (heap_setCell_same w4 b 3 _ _ (.int .i64 ((a : Int) + 1)) HM4.out.row)
            have f2 : (w4.setCell ⟨b, 3, none⟩ (.int .i64 ((a : Int) + 1))).frozen? ⟨b, 2, none⟩ = false := frozen_of_row _ _ 2 _ _ HR5.out
            have HO5 : Kept (Only (· = b) w4 ((w4.setCell ⟨b, 3, none⟩ (.int .i64 ((a : Int) + 1))).setCell ⟨b, 2, none⟩ (.int .i64 ((i : Int) + 1)))) := ⟨((Only.refl (· = b) w4).setCell ⟨b, 3, none⟩ _ (fun _ => rfl)).setCell ⟨b, 2, none⟩ _ (fun _ => rfl)⟩
            have HM5 : Kept (MM ((w4.setCell ⟨b, 3, none⟩ (.int .i64 ((a : Int) + 1))).setCell ⟨b, 2, none⟩ (.int .i64 ((i : Int) + 1))) B b v ts l s (i + 1) (a + 1) m k) := ⟨HM4.out.on HO5.out HOk.out (by
              have h2 := heap_setCell_same _ b 2 _ _ (.int .i64 ((i : Int) + 1)) HR5.out
              simpa using h2)⟩
            have HMe : Kept (l.length - (i + 1) < l.length - i) := ⟨by have := HN.out; omega⟩
            clear hsa
            go_wp2_with fail
            go_roundw
            case rel => exact ⟨_, _, _, _, HM5, HL2, ⟨HO4.out.trans HO5.out fun _ _ e => e⟩, HK⟩
            case measure =>
              rw [HC2.out, show cellI ((w4.setCell ⟨b, 3, none⟩ (.int .i64 ((a : Int) + 1))).setCell ⟨b, 2, none⟩ (.int .i64 ((i : Int) + 1))) b 2 = i + 1 by unfold cellI; rw [HM5.out.c2]; show (((i + 1 : Nat) : Int)).toNat = i + 1; omega]
              exact HMe.out
          | false =>
            have HSt : Kept (Stuck (fns l) (toL s) i a) := ⟨.inr ⟨f, HI.out, fun c hc => by rw [hsa] at hc; cases hc; exact HFC.out.symm⟩⟩
            clear hsa
            go_wp2_with fail
            refine bodyPost_ret (results_none rfl _ _ _) rfl ?_
            exact ⟨rfl, i, a, m, k, HM4, HSt, HL, HO4, HK⟩
        · have has2 : ¬ (a : Int) < (s.size : Int) := by omega
          go_wp2_with fail
          go_quiet (fail)
          refine HM2.out.again (P := fun W => Exit.then _ _ _ _ W) ?_ nq
          intro W3 hW hOW
          have HM4 := Kept.mk hW
          have HO4 : Kept (Only (· = b) w W3) := ⟨HO2.out.trans hOW fun _ _ e => e⟩
          have HSt : Kept (Stuck (fns l) (toL s) i a) := ⟨.inr ⟨f, HI.out, fun c hc => by rw [List.getElem?_eq_none (by rw [toL_length]; omega)] at hc; cases hc⟩⟩
          clear hW hOW q1 q3 z0 z1 z2 q2 q4 q5 f2 f3 f4 f5
          go_wp2_with fail
          refine bodyPost_ret (results_none rfl _ _ _) rfl ?_
          exact ⟨rfl, i, a, m, k, HM4, HSt, HL, HO4, HK⟩
      | set us =>
        obtain ⟨q9, h9, _⟩ := HE2.out
        injection h9 with h1 h2 h3
        subst h1 h2 h3
        have hk2 : ¬ (3 : Int) = 2 := by decide
        obtain rfl : P0 = some ⟨q9, 0, none⟩ := HP0.out
        obtain ⟨f, hf⟩ : ∃ f, (PE.set us).fn = some f := ⟨_, rfl⟩
        have hi : (fns l)[i]? = some (some f) := by rw [List.getElem?_map, Hel.out]; exact congrArg some hf
        have HI := Kept.mk hi
        have z1 := cell_of_row _ _ 1 _ _ _ HR2.out
        have z2 := cell_of_row _ _ 2 _ _ _ HR2.out
        have q1 := HM2.out.c1
        clear hi
        by_cases has : a < s.size
        · have has2 : (a : Int) < (s.size : Int) := by omega
          have ha0 : (0 : Int) ≤ (a : Int) := by omega
          have HMt := Kept.mk (ematches_any W2.drew _ _ (HE2.out.keep fun q f _ hq => rfl) (s[a]'has) f hf)
          go_wp2_with fail
          have hq : ∀ (p : Addr) (v : Value) (wa wb : World), wa.cell? p = some v → Below wa.heap.size wa wb → wb.cell? p = some v := fun p v wa wb h hb => (hb.cell (World.block_lt_of_cell? wa _ h)).trans h
          have HQ := Kept.mk hq
          clear hq
          obtain ⟨fc, hfc⟩ : ∃ fc, fc = f (s[a]'has) := ⟨_, rfl⟩
          have HFC := Kept.mk hfc
          rw [← hfc] at HMt
          clear hfc
          go_region_held3 (fun w' => (w'.cell? ⟨b, 1, none⟩ = some (.string s) ∧ w'.cell? ⟨b, 3, none⟩ = some (.int .i64 (a : Int))) ∧ (w'.cell? ⟨x, 0, none⟩ = some (.int .i64 3) ∧ w'.cell? ⟨x, 1, none⟩ = some (.int .u8 0) ∧ w'.cell? ⟨x, 2, none⟩ = some (.pointer (some ⟨q9, 0, none⟩))))
            (first
              | exact ⟨⟨q1', q3'⟩, ⟨z0', z1', z2'⟩⟩
              | exact ⟨⟨q1, q3⟩, ⟨z0, z1, z2⟩⟩)
            (first
              | (go_at_call 44
                 refine HMt.out.mono ?_
                 rintro e w4 ⟨rfl, hb4⟩
                 have hb5 := (Below.refl W2.heap.size W2).drew.trans hb4
                 have HB5 := Kept.mk hb5
                 have q1' := HQ.out _ _ _ _ q1 hb5
                 have q3' := HQ.out _ _ _ _ q3 hb5
                 have z0' := HQ.out _ _ _ _ z0 hb5
                 have z1' := HQ.out _ _ _ _ z1 hb5
                 have z2' := HQ.out _ _ _ _ z2 hb5
                 clear hb4 hb5))
          clear q1 q3 z0 z1 z2 q1' q3' z0' z1' z2' q2 q4 q5 f2 f4 f5
          have HM4 := Kept.mk (HM2.out.below HB5.out)
          have HO4 : Kept (Only (· = b) w w4) := ⟨HO2.out.below HB5.out⟩
          have hsa : (toL s)[a]? = some (s[a]'has) := by rw [List.getElem?_eq_getElem (by rw [toL_length]; exact has)]; rfl
          cases fc with
          | true =>
            have HOk := Kept.mk (one_ok HM2.out.ok HI.out hsa)
            have HL2 : Kept (∀ n, Left (fns l) (toL s) (i + 1) (a + 1) m k n ↔ L n) := ⟨fun n => by rw [one_left HI.out hsa HFC.out.symm]; exact HL.out n⟩
            have hw2 : IntKind.i64.wrap ((a : Int) + 1) = (a : Int) + 1 := IntWalk.i64_in _ (by have := HM2.out.few.2; omega)
            have q3 := HM4.out.c3
            have f3 := HM4.out.fz 3
            have q2 : (w4.setCell ⟨b, 3, none⟩ (.int .i64 ((a : Int) + 1))).cell? ⟨b, 2, none⟩ = some (.int .i64 (i : Int)) := (World.cell?_setCell_other _ _ _ _ (by simp)).trans HM4.out.c2
            have HR5 := Kept.mk (heap_setCell_same w4 b 3 _ _ (.int .i64 ((a : Int) + 1)) HM4.out.row)
            have f2 : (w4.setCell ⟨b, 3, none⟩ (.int .i64 ((a : Int) + 1))).frozen? ⟨b, 2, none⟩ = false := frozen_of_row _ _ 2 _ _ HR5.out
            have HO5 : Kept (Only (· = b) w4 ((w4.setCell ⟨b, 3, none⟩ (.int .i64 ((a : Int) + 1))).setCell ⟨b, 2, none⟩ (.int .i64 ((i : Int) + 1)))) := ⟨((Only.refl (· = b) w4).setCell ⟨b, 3, none⟩ _ (fun _ => rfl)).setCell ⟨b, 2, none⟩ _ (fun _ => rfl)⟩
            have HM5 : Kept (MM ((w4.setCell ⟨b, 3, none⟩ (.int .i64 ((a : Int) + 1))).setCell ⟨b, 2, none⟩ (.int .i64 ((i : Int) + 1))) B b v ts l s (i + 1) (a + 1) m k) := ⟨HM4.out.on HO5.out HOk.out (by
              have h2 := heap_setCell_same _ b 2 _ _ (.int .i64 ((i : Int) + 1)) HR5.out
              simpa using h2)⟩
            have HMe : Kept (l.length - (i + 1) < l.length - i) := ⟨by have := HN.out; omega⟩
            clear hsa
            go_wp2_with fail
            go_roundw
            case rel => exact ⟨_, _, _, _, HM5, HL2, ⟨HO4.out.trans HO5.out fun _ _ e => e⟩, HK⟩
            case measure =>
              rw [HC2.out, show cellI ((w4.setCell ⟨b, 3, none⟩ (.int .i64 ((a : Int) + 1))).setCell ⟨b, 2, none⟩ (.int .i64 ((i : Int) + 1))) b 2 = i + 1 by unfold cellI; rw [HM5.out.c2]; show (((i + 1 : Nat) : Int)).toNat = i + 1; omega]
              exact HMe.out
          | false =>
            have HSt : Kept (Stuck (fns l) (toL s) i a) := ⟨.inr ⟨f, HI.out, fun c hc => by rw [hsa] at hc; cases hc; exact HFC.out.symm⟩⟩
            clear hsa
            go_wp2_with fail
            refine bodyPost_ret (results_none rfl _ _ _) rfl ?_
            exact ⟨rfl, i, a, m, k, HM4, HSt, HL, HO4, HK⟩
        · have has2 : ¬ (a : Int) < (s.size : Int) := by omega
          go_wp2_with fail
          go_quiet (fail)
          refine HM2.out.again (P := fun W => Exit.then _ _ _ _ W) ?_ nq
          intro W3 hW hOW
          have HM4 := Kept.mk hW
          have HO4 : Kept (Only (· = b) w W3) := ⟨HO2.out.trans hOW fun _ _ e => e⟩
          have HSt : Kept (Stuck (fns l) (toL s) i a) := ⟨.inr ⟨f, HI.out, fun c hc => by rw [List.getElem?_eq_none (by rw [toL_length]; omega)] at hc; cases hc⟩⟩
          clear hW hOW q1 q3 z0 z1 z2 q2 q4 q5 f2 f3 f4 f5
          go_wp2_with fail
          refine bodyPost_ret (results_none rfl _ _ _) rfl ?_
          exact ⟨rfl, i, a, m, k, HM4, HSt, HL, HO4, HK⟩
    · have hl2 : ¬ (i : Int) < (n : Int) := by omega
      go_wp2_with fail
      go_quiet (fail)
      refine HM.out.again (P := fun W => Exit.then _ _ _ _ W) ?_ nq
      intro W hW hOW
      have HW := Kept.mk hW
      have HOW : Kept (Only (· = b) w W) := ⟨HO.out.trans hOW fun _ _ e => e⟩
      clear hW hOW HM HO c0' c2 hlt
      go_wp2_with fail
      refine bodyPost_end (results_none rfl _ _ _) rfl ?_
      refine ⟨rfl, i, a, m, k, HW, ⟨.inl ?_⟩, HL, HOW, HK⟩
      have := HW.out.ok.hi
      rw [List.length_map] at this ⊢
      have := HN.out
      omega
end Pm
end Go.Proofs.Ytkifnabkoidhcaa
