/-
  The program's Tokens: the tokens of a script, or it is refused.
-/
import Derived.Test.YtnafecdionhnfaaDoorPl6
import Derived.Laws.ResultCell
namespace Go.Proofs.YtnafecdionhnfaaDoor
open Go.RowKit Tx
namespace Lx

theorem assertErr (n : Int) (w : World) : (Instr.typeAssert (.iface 27 (.int .i64 n)) 20 27 true).run Tryd.prog w = .ok (.tuple #[.int .i64 n, .bool true]) w := by kernel_rfl
theorem assertNil (w : World) : (Instr.typeAssert .nilIface 20 27 true).run Tryd.prog w = .ok (.tuple #[.int .i64 0, .bool false]) w := by kernel_rfl
theorem catch_bad (p q : Nat) (n : Int) (w : World) (v u : Value) (hpq : p ≠ q) (hp : w.cell? ⟨p, 0, none⟩ = some v) (hq : w.cell? ⟨q, 0, none⟩ = some u) (fp : w.frozen? ⟨p, 0, none⟩ = false) (fq : w.frozen? ⟨q, 0, none⟩ = false) :
    CallsD Tryd.prog 13 #[.pointer (some ⟨p, 0, none⟩), .pointer (some ⟨q, 0, none⟩)] (.panicking (pan n)) w fun e u' w' =>
      e = .returned (.tuple #[]) ∧ u' = .panicking [{ v := .iface 27 (.int .i64 n), recovered := true }] ∧ w' = (w.setCell ⟨p, 0, none⟩ (.slice none 0 0)).setCell ⟨q, 0, none⟩ (.int .i64 n) := by
  have hq2 : (w.setCell ⟨p, 0, none⟩ (.slice none 0 0)).cell? ⟨q, 0, none⟩ = some u := (World.cell?_setCell_other _ _ _ _ (by simp_all)).trans hq
  refine callsD_of_wpS Tryd.func13 rfl fun c₀ cs hu => ?_
  apply wpS_seq
  apply wpS_region
  simp [wpOpsS, go_sem, recoverD, hu, Tryd.ntmps13, Exit.thenS, pan]
  apply wpS_seq
  apply wpS_region
  simp [wpOpsS, go_sem, Exit.thenS, assertErr]
  apply wpS_seq
  apply wpS_region
  simp [wpOpsS, go_sem, Exit.thenS]
  refine wpS_cond (t := true) (by simp [Act.eval, Array.replicate]) ?_
  simp only [if_true]
  apply wpS_region
  simp [wpOpsS, go_sem, hp, hq, hq2, fp, fq, bodyPostS, results, Tryd.results13, pan]
theorem catch_idle (p q : Addr) (w : World) :
    CallsD Tryd.prog 13 #[.pointer (some p), .pointer (some q)] .returning w fun e u' w' => e = .returned (.tuple #[]) ∧ u' = .returning ∧ w' = w := by
  refine callsD_of_wpS Tryd.func13 rfl fun c₀ cs hu => ?_
  apply wpS_seq
  apply wpS_region
  simp [wpOpsS, go_sem, recoverD, hu, Tryd.ntmps13, Exit.thenS]
  apply wpS_seq
  apply wpS_region
  simp [wpOpsS, go_sem, Exit.thenS, assertNil]
  apply wpS_seq
  apply wpS_region
  simp [wpOpsS, go_sem, Exit.thenS]
  refine wpS_cond (t := false) (by simp [Act.eval, Array.replicate]) ?_
  simp only [Bool.false_eq_true, if_false]
  apply wpS_seq
  apply wpS_region
  simp [wpOpsS, go_sem, Exit.thenS]
  refine wpS_cond (t := false) (by simp [Act.eval, Array.replicate]) ?_
  simp only [Bool.false_eq_true, if_false]
  refine wpS_of_wp (wp_skip ?_)
  cases c₀
  simp_all [bodyPostS, results, Tryd.results13]

/-- The slice at A holds the tokens l. -/
def Rt (w : World) (A : Option Addr) (l : List Tok) : Prop := ∀ j (hj : j < l.length), ∃ g, A = some ⟨g, 0, none⟩ ∧ g < w.heap.size ∧ w.cell? ⟨g, j * 2, none⟩ = some (.int .i64 l[j].kind) ∧ w.cell? ⟨g, j * 2 + 1, none⟩ = some (.string (bs l[j].text))
theorem Rt.below {w w' : World} {A : Option Addr} {l : List Tok} (h : Rt w A l) (hb : Below w.heap.size w w') : Rt w' A l := by
  intro j hj
  obtain ⟨g, e, hg, h0, h1⟩ := h j hj
  exact ⟨g, e, Nat.lt_of_lt_of_le hg hb.size, (hb.cell (p := ⟨g, j * 2, none⟩) hg).trans h0, (hb.cell (p := ⟨g, j * 2 + 1, none⟩) hg).trans h1⟩
theorem Rt.far {w : World} {A : Option Addr} {l : List Tok} (h : Rt w A l) {a : Addr} {u : Value} (ha : ∀ g off, A = some ⟨g, off, none⟩ → a.block ≠ g) : Rt (w.setCell a u) A l := by
  intro j hj
  obtain ⟨g, e, hg, h0, h1⟩ := h j hj
  have hb := Below.heap_setCell w a u g (fun e2 => ha g 0 e e2.symm)
  exact ⟨g, e, by simpa [World.setCell] using hg, (World.cell?_of_block (w := w) (a := ⟨g, j * 2, none⟩) hb).trans h0, (World.cell?_of_block (w := w) (a := ⟨g, j * 2 + 1, none⟩) hb).trans h1⟩
theorem Rt.nil (w : World) (A : Option Addr) : Rt w A [] := fun j hj => by simp at hj
theorem Rt.of_own {w : World} {B n : Nat} {e : TypeId} {v : Value} {l : List Tok} (h : w.ownsRow B e 2 v n (tvs l)) : ∃ A k, v = .slice A l.length k ∧ Rt w A l ∧ (∀ g, v.ownBlock = some g → B ≤ g) ∧ (A = none → k = 0) := by
  have hn : n = l.length := by have := h.1; rw [tvs_length] at this; omega
  subst hn
  rcases h.2 with ⟨rfl, h0⟩ | ⟨g, cap, cur, rfl, hB, hg, hnc, hcm, hcs, htake⟩
  · obtain rfl := List.eq_nil_of_length_eq_zero h0
    exact ⟨none, 0, rfl, Rt.nil _ _, (fun g hg => by cases hg), fun _ => rfl⟩
  · have hc : ∀ i u, (tvs l)[i]? = some u → w.cell? ⟨g, i, none⟩ = some u := fun i u hu => by
      rw [← htake, List.getElem?_take] at hu
      rw [cell_of_row w g i cur e (0, 0) hg]
      split at hu
      · simpa using hu
      · cases hu
    exact ⟨_, _, rfl, fun j hj => ⟨g, rfl, (Array.getElem?_eq_some_iff.1 hg).1, hc _ _ (tvs_at hj).1, hc _ _ (tvs_at hj).2⟩, (fun k hk => by
      injection hk with hk
      have : g = k := hk
      omega), fun h => by cases h⟩
/-- What Tokens ends in. -/
def TokE (w : World) (o : Option (List Tok)) (e : Ending) (w' : World) : Prop :=
  match o with
  | some ts => (∃ A k, e = .returned (.tuple #[.slice A ts.length k, .int .i64 0]) ∧ Kept (Rt w' A ts) ∧ Kept (A = none → k = 0)) ∧ Below w.heap.size w w'
  | none => e = .returned (.tuple #[.slice none 0 0, .int .i64 80]) ∧ Below w.heap.size w w'

set_option maxHeartbeats 4000000 in
set_option maxRecDepth 100000 in
theorem tokens_any (s : ByteArray) (w : World) (hK : Kit w) (hs : s.size ≤ 20000) (o : Option (List Tok)) (HO : Kept (o = toks (toL s))) :
    Calls Tryd.prog 9 #[.string s] w (TokE w o) := by
  have hmf : ∀ (fn : Fn) (first cap : Array Value) (w : World), (Instr.makeFunc fn first cap).run Tryd.prog w = .ok (.func fn first cap) w := fun _ _ _ _ => rfl
  have HK := Kept.mk hK
  clear hK
  go_enter_defers Tryd.func9, Tryd.ntmps9
  go_wp2_with fail
  generalize hw2 : ((w.alloc (.cells #[.slice none 0 0] 26)).alloc (.cells #[.int .i64 0] 27)).alloc (.cells #[.string s, .int .i64 0, .slice none 0 0] 40) = w2
  have HB2 : Kept (Below w.heap.size w w2) := ⟨by rw [← hw2]; exact (((Below.refl _ _).alloc (Nat.le_refl _) _).alloc (by simp) _).alloc (by simp <;> omega) _⟩
  have HZ2 : Kept (w2.heap.size = w.heap.size + 3) := ⟨by rw [← hw2]; simp⟩
  have HA2 : Kept (w2.heap[w.heap.size]? = some (.cells #[.slice none 0 0] 26 (0, 0)) ∧ w2.heap[w.heap.size + 1]? = some (.cells #[.int .i64 0] 27 (0, 0))) := ⟨by
    rw [← hw2]
    refine ⟨?_, ?_⟩
    · rw [Below.heap_alloc _ _ _ (by simp <;> omega), Below.heap_alloc _ _ _ (by simp <;> omega)]
      exact heap_alloc_new w _
    · rw [Below.heap_alloc _ _ _ (by simp <;> omega)]
      have := heap_alloc_new (w.alloc (.cells #[.slice none 0 0] 26)) (.cells #[.int .i64 0] 27)
      simpa using this⟩
  have HM2 : Kept (TM w2 (w.heap.size + 1 + 1) s 0 (.slice none 0 0) []) := ⟨by
    refine ⟨⟨⟨?_, Nat.zero_le _, hs⟩, HK.out.below HB2.out, ?_, ?_⟩, World.ownsRow_nil _ _ _ _⟩
    · rw [← hw2]
      have := heap_alloc_new ((w.alloc (.cells #[.slice none 0 0] 26)).alloc (.cells #[.int .i64 0] 27)) (.cells #[.string s, .int .i64 0, .slice none 0 0] 40)
      simpa using this
    · have := HK.out.lt; omega
    · have := HK.out.lt; omega⟩
  clear hw2
  generalize hb : w.heap.size + 1 + 1 = b at HM2
  have HB : Kept (b = w.heap.size + 2) := ⟨by omega⟩
  clear hb
  go_loopw [] (fun wr => ∃ p v ts, Kept (TM wr b s p v ts) ∧ Kept (Left (toL s) ts ((toL s).drop p)) ∧ Kept (Up b w2 wr)) (fun wr => s.size - far b wr)
  case atStart => exact ⟨0, _, [], HM2, ⟨Left.start _⟩, ⟨Up.refl _ _⟩⟩
  case round =>
    obtain ⟨p, v, ts, HT, HL, HU⟩ := hrel
    by_cases hlt : p < s.size
    · have HF : Kept (false = decide (p = s.size)) := ⟨(decide_eq_false (by omega)).symm⟩
      have HLT := Kept.mk hlt
      clear hlt
      go_wp2_with (go_at_call 14; refine (ended_any wr b s p v false HT.out.rm.rd HF.out).mono ?_; rintro e0 w3 ⟨rfl, hq⟩; have H3 := Kept.mk (HT.out.qt hq); have HU3 : Kept (Up b w2 w3) := ⟨HU.out.trans (up_mv HT.out (hq.only _))⟩; clear hq)
      go_at_call 15
      refine (read_any _ b s p v ts H3 HL HLT.out).mono ?_
      intro e0 w4 hE
      cases hE with
      | on _ v4 q ts4 ht hp hL hu =>
        have HL4 := Kept.mk hL
        have HU4 : Kept (Up b w2 w4) := ⟨HU3.out.trans hu⟩
        have HMs : Kept (s.size - far b w4 < s.size - far b wr) := ⟨by
          rw [ht.out.rm.rd.far, HT.out.rm.rd.far]
          have := HLT.out
          have := ht.out.rm.rd.le
          omega⟩
        clear hL hu hp
        go_wp2
        go_roundw
        case rel => exact ⟨q, v4, ts4, ht, HL4, HU4⟩
        case measure => exact HMs.out
      | bad _ hn hu =>
        have HU4 : Kept (Up b w2 w4) := ⟨HU3.out.trans hu⟩
        have hx0 : w4.heap[w.heap.size]? = some (.cells #[.slice none 0 0] 26 (0, 0)) := (HU4.out.block _ (by have := HB.out; omega)).trans HA2.out.1
        have hx1 : w4.heap[w.heap.size + 1]? = some (.cells #[.int .i64 0] 27 (0, 0)) := (HU4.out.block _ (by have := HB.out; omega)).trans HA2.out.2
        obtain rfl : o = none := by rw [HO.out, hn]
        clear hn hu
        refine leaves_cons (f := 13) (args := #[.pointer (some ⟨w.heap.size, 0, none⟩), .pointer (some ⟨w.heap.size + 1, 0, none⟩)]) (by simp) (by simp [go_sem]) ?_
        refine (catch_bad w.heap.size (w.heap.size + 1) 80 _ _ _ (by omega) (cell_of_row _ _ 0 _ _ _ hx0) (cell_of_row _ _ 0 _ _ _ hx1) (frozen_of_row _ _ 0 _ _ hx0) (frozen_of_row _ _ 0 _ _ hx1)).mono ?_
        rintro e u' w'' ⟨rfl, rfl, rfl⟩
        have hy0 := heap_setCell_same w4 w.heap.size 0 _ _ (.slice none 0 0) hx0
        have hz0 := (Below.heap_setCell (w4.setCell ⟨w.heap.size, 0, none⟩ (.slice none 0 0)) ⟨w.heap.size + 1, 0, none⟩ (.int .i64 80) w.heap.size (by simp)).trans hy0
        have hz1 := heap_setCell_same (w4.setCell ⟨w.heap.size, 0, none⟩ (.slice none 0 0)) (w.heap.size + 1) 0 _ _ (.int .i64 80) ((Below.heap_setCell w4 ⟨w.heap.size, 0, none⟩ (.slice none 0 0) (w.heap.size + 1) (by simp)).trans hx1)
        have d0 : ((w4.setCell ⟨w.heap.size, 0, none⟩ (.slice none 0 0)).setCell ⟨w.heap.size + 1, 0, none⟩ (.int .i64 80)).cell? ⟨w.heap.size, 0, none⟩ = some (.slice none 0 0) := cell_of_row _ _ 0 _ _ _ hz0
        have d1 : ((w4.setCell ⟨w.heap.size, 0, none⟩ (.slice none 0 0)).setCell ⟨w.heap.size + 1, 0, none⟩ (.int .i64 80)).cell? ⟨w.heap.size + 1, 0, none⟩ = some (.int .i64 80) := cell_of_row _ _ 0 _ _ _ hz1
        have HBf : Kept (Below w.heap.size w ((w4.setCell ⟨w.heap.size, 0, none⟩ (.slice none 0 0)).setCell ⟨w.heap.size + 1, 0, none⟩ (.int .i64 80))) := ⟨((HB2.out.trans (HU4.out.mono (by have := HB.out; omega))).setCell (by simp) _).setCell (by simp) _⟩
        clear hx0 hx1 hy0 hz0 hz1
        generalize (w4.setCell ⟨w.heap.size, 0, none⟩ (.slice none 0 0)).setCell ⟨w.heap.size + 1, 0, none⟩ (.int .i64 80) = wf at *
        simp [Leaves, settle, results, Tryd.results9, go_sem, d0, d1]
        exact ⟨rfl, HBf.out⟩
    · have hle := HT.out.rm.rd.le
      have HF : Kept (true = decide (p = s.size)) := ⟨(decide_eq_true (by omega)).symm⟩
      have HD : Kept (toks (toL s) = some ts) := ⟨by
        have := HL.out
        rw [drop_end (by omega)] at this
        exact this.done⟩
      obtain rfl : o = some ts := by rw [HO.out, HD.out]
      obtain ⟨A, k, rfl, hR, hlo, hno⟩ := Rt.of_own HT.out.own
      have HNo := Kept.mk hno
      have HR := Kept.mk hR
      have HLo := Kept.mk hlo
      clear hlt hle hR hlo hno HD HO
      go_wp2_with (go_at_call 14
                   refine (ended_any wr b s p _ true HT.out.rm.rd HF.out).mono ?_
                   rintro e0 w3 ⟨rfl, hq⟩
                   have H3 := Kept.mk (HT.out.qt hq)
                   have HR3 := Kept.mk (HR.out.below hq.below)
                   have HU3 : Kept (Up b w2 w3) := ⟨HU.out.trans (up_mv HT.out (hq.only _))⟩
                   clear hq
                   have hx0 : w3.heap[w.heap.size]? = some (.cells #[.slice none 0 0] 26 (0, 0)) := (HU3.out.block _ (by have := HB.out; omega)).trans HA2.out.1
                   have hx1 : w3.heap[w.heap.size + 1]? = some (.cells #[.int .i64 0] 27 (0, 0)) := (HU3.out.block _ (by have := HB.out; omega)).trans HA2.out.2
                   have c2 := H3.out.rm.rd.c2
                   have c0' := cell_of_row _ _ 0 _ _ _ hx0
                   have c1' := cell_of_row _ _ 0 _ _ _ hx1
                   have f0' := frozen_of_row _ _ 0 _ _ hx0
                   have f1' := frozen_of_row _ _ 0 _ _ hx1
                   have c1s : (w3.setCell ⟨w.heap.size, 0, none⟩ (.slice A ts.length k)).cell? ⟨w.heap.size + 1, 0, none⟩ = some (.int .i64 0) := (World.cell?_setCell_other _ _ _ _ (by simp)).trans c1'
                   have HX := Kept.mk (And.intro hx0 hx1)
                   clear hx0 hx1)
      clear c0' c1' c1s f0' f1' c2
      have hy0 := heap_setCell_same w3 w.heap.size 0 _ _ (.slice A ts.length k) HX.out.1
      have hz0 := (Below.heap_setCell (w3.setCell ⟨w.heap.size, 0, none⟩ (.slice A ts.length k)) ⟨w.heap.size + 1, 0, none⟩ (.int .i64 0) w.heap.size (by simp)).trans hy0
      have hz1 := heap_setCell_same (w3.setCell ⟨w.heap.size, 0, none⟩ (.slice A ts.length k)) (w.heap.size + 1) 0 _ _ (.int .i64 0) ((Below.heap_setCell w3 ⟨w.heap.size, 0, none⟩ (.slice A ts.length k) (w.heap.size + 1) (by simp)).trans HX.out.2)
      have d0 : ((w3.setCell ⟨w.heap.size, 0, none⟩ (.slice A ts.length k)).setCell ⟨w.heap.size + 1, 0, none⟩ (.int .i64 0)).cell? ⟨w.heap.size, 0, none⟩ = some (.slice A ts.length k) := cell_of_row _ _ 0 _ _ _ hz0
      have d1 : ((w3.setCell ⟨w.heap.size, 0, none⟩ (.slice A ts.length k)).setCell ⟨w.heap.size + 1, 0, none⟩ (.int .i64 0)).cell? ⟨w.heap.size + 1, 0, none⟩ = some (.int .i64 0) := cell_of_row _ _ 0 _ _ _ hz1
      have HBf : Kept (Below w.heap.size w ((w3.setCell ⟨w.heap.size, 0, none⟩ (.slice A ts.length k)).setCell ⟨w.heap.size + 1, 0, none⟩ (.int .i64 0))) := ⟨((HB2.out.trans (HU3.out.mono (by have := HB.out; omega))).setCell (by simp) _).setCell (by simp) _⟩
      have HRf : Kept (Rt ((w3.setCell ⟨w.heap.size, 0, none⟩ (.slice A ts.length k)).setCell ⟨w.heap.size + 1, 0, none⟩ (.int .i64 0)) A ts) := ⟨(HR3.out.far (fun g off e => by have := HLo.out g (by rw [e]; rfl); have := HB.out; show w.heap.size ≠ g; omega)).far (fun g off e => by have := HLo.out g (by rw [e]; rfl); have := HB.out; show w.heap.size + 1 ≠ g; omega)⟩
      clear hy0 hz0 hz1 HX
      generalize (w3.setCell ⟨w.heap.size, 0, none⟩ (.slice A ts.length k)).setCell ⟨w.heap.size + 1, 0, none⟩ (.int .i64 0) = wf at *
      refine leaves_cons (f := 13) (args := #[.pointer (some ⟨w.heap.size, 0, none⟩), .pointer (some ⟨w.heap.size + 1, 0, none⟩)]) (by simp) (by simp [go_sem]) ?_
      refine (catch_idle ⟨w.heap.size, 0, none⟩ ⟨w.heap.size + 1, 0, none⟩ _).mono ?_
      rintro e u' w'' ⟨rfl, rfl, rfl⟩
      simp [Leaves, settle, results, Tryd.results9, go_sem, d0, d1]
      exact ⟨⟨A, k, rfl, HRf, HNo⟩, HBf.out⟩
end Lx
end Go.Proofs.YtnafecdionhnfaaDoor
