/-
  The program's iterator over the beginnings of a text that elements match.
-/
import Derived.Test.YtkifnabkoidhcaaPpc
import Derived.Test.YtkifnabkoidhcaaPpd
import Derived.RangeFuncNested
import Derived.RangeFuncBound
import Derived.RangeFuncCalls
import Derived.RangeFuncLeaves
import Derived.Shelf.Abstract
import Derived.Shelf.RegionOpen
import Derived.OwnWalkIn
import Derived.TacticsInMore
import Derived.LoopNIn
import Derived.LoopIn
namespace Go.Proofs.Ytkifnabkoidhcaa
open Go.RowKit Go.Shelf Tx
attribute [local go_sem] Oper.semAt_some
namespace Pm

/-- The iterator between two rounds. -/
structure It (n0 : Nat) (B b lb sb : Nat) (v : Value) (ts : List PT) (l : List PE) (s : ByteArray) (J : List Nat → World → Prop) (ys : List Nat) (i a m k : Nat) (wr : World) : Prop where
  mm : MM wr B b v ts l s i a m k
  came : Came (fns l) (toL s) ys (Left (fns l) (toL s) i a m k)
  j : J ys wr
  c1 : wr.cell? ⟨lb, 0, none⟩ = some v
  c2 : wr.cell? ⟨sb, 0, none⟩ = some (.string s)
  sz : n0 ≤ wr.heap.size
inductive St (n0 : Nat) (B b lb sb : Nat) (v : Value) (ts : List PT) (l : List PE) (s : ByteArray) (J : List Nat → World → Prop) : Bool → World → Prop
  | go (ys : List Nat) (i a m k : Nat) (wr : World) (h : It n0 B b lb sb v ts l s J ys i a m k wr) : St n0 B b lb sb v ts l s J true wr
  | done (ys : List Nat) (wr : World) (h : Whole (fns l) (toL s) ys) (hj : J ys wr) : St n0 B b lb sb v ts l s J false wr
def meas (t : Value) (n : Nat) : Nat := match t with
  | .bool true => n
  | _ => 0
/-- The elements stand, where the block r is none of theirs. -/
theorem ES.but {w w' : World} {B r : Nat} {v : Value} {ts : List PT} {l : List PE} (h : ES w B v ts l) (hb : Rg.But r w w') (h1 : v.ownBlock ≠ some r) (h2 : ∀ t ∈ ts, t.p ≠ some r) : ES w' B v ts l := by
  refine ⟨?_, h.len, fun i e t he ht => (h.ok i e t he ht).keep fun q f hq hs => hb.block q hs.lt (fun e => ?_)⟩
  · refine ⟨h.own.1, ?_⟩
    rcases h.own.2 with h0 | ⟨g, cap, cur, rfl, hB, hg, r2⟩
    · exact .inl h0
    · exact .inr ⟨g, cap, cur, rfl, hB, (hb.block g (Array.getElem?_eq_some_iff.1 hg).1 (fun e => h1 (by rw [← e]; rfl))).trans hg, r2⟩
  · subst e
    exact h2 t (List.mem_of_getElem? ht) hq
set_option maxHeartbeats 4000000 in
set_option maxRecDepth 100000 in
theorem iter_any (nn r : Nat) (w : World) (B lb sb : Nat) (v : Value) (ts : List PT) (l : List PE) (s : ByteArray) (hl : w.cell? ⟨lb, 0, none⟩ = some v) (hs : w.cell? ⟨sb, 0, none⟩ = some (.string s)) (he : ES w B v ts l) (hf : l.length ≤ 2000 ∧ s.size ≤ 2000)
    (hr : r ≠ lb ∧ r ≠ sb ∧ v.ownBlock ≠ some r ∧ ∀ t ∈ ts, t.p ≠ some r) (hrw : r < w.heap.size) (hnn : 1 ≤ nn) :
    Rg.Seq Fence.wide nn Try.prog 36 #[.pointer (some ⟨lb, 0, none⟩), .pointer (some ⟨sb, 0, none⟩)] r (Whole (fns l) (toL s)) (Part (fns l) (toL s)) (s.size + 2) w := by
  intro lp J Jx W hW hJ hJx hY h0
  have hlb : lb < w.heap.size := World.block_lt_of_cell? w _ hl
  have hsb : sb < w.heap.size := World.block_lt_of_cell? w _ hs
  have cl : W.cell? ⟨lb, 0, none⟩ = some v := (World.cell?_of_block (a := ⟨lb, 0, none⟩) (hW.block lb hlb)).trans hl
  have cs : W.cell? ⟨sb, 0, none⟩ = some (.string s) := (World.cell?_of_block (a := ⟨sb, 0, none⟩) (hW.block sb hsb)).trans hs
  obtain ⟨A, q, hv⟩ := own_shape he.own
  obtain ⟨n, hn⟩ : ∃ n, n = ts.length := ⟨_, rfl⟩
  have HN : Kept (n = l.length) := ⟨by rw [hn, he.len]⟩
  rw [← hn] at hv
  subst hv
  have hA := Below.alloc (Below.refl W.heap.size W) (Nat.le_refl _) (.cells #[.slice A n q, .string s, .int .i64 0, .int .i64 0, .int .i64 0, .int .i64 0] 64)
  have HJ := Kept.mk hJ
  have HJx := Kept.mk hJx
  have HY := Kept.mk hY
  have HF := Kept.mk hf
  have HR := Kept.mk hr
  have HI0 : Kept (It W.heap.size B W.heap.size lb sb (.slice A n q) ts l s J [] 0 0 0 0 (W.alloc (.cells #[.slice A n q, .string s, .int .i64 0, .int .i64 0, .int .i64 0, .int .i64 0] 64))) :=
    ⟨⟨⟨heap_alloc_new W _, MM.es_below (MM.es_below he hW) hA, start_ok _ _, hf⟩, Came.start _ _, hJ _ _ _ h0 hA, (World.cell?_of_block (a := ⟨lb, 0, none⟩) (hA.block lb (Nat.lt_of_lt_of_le hlb hW.size))).trans cl, (World.cell?_of_block (a := ⟨sb, 0, none⟩) (hA.block sb (Nat.lt_of_lt_of_le hsb hW.size))).trans cs, hA.size⟩⟩
  obtain ⟨n0, hn0⟩ : ∃ n0, n0 = W.heap.size := ⟨_, rfl⟩
  have HN0 := Kept.mk hn0
  have Hlb : Kept (lb < n0 ∧ sb < n0) := ⟨by have := hW.size; omega⟩
  have Hrn : Kept (r < n0) := ⟨by rw [hn0]; exact Nat.lt_of_lt_of_le hrw hW.size⟩
  replace HI0 : Kept (It n0 B n0 lb sb (.slice A n q) ts l s J [] 0 0 0 0 (W.alloc (.cells #[.slice A n q, .string s, .int .i64 0, .int .i64 0, .int .i64 0, .int .i64 0] 64))) := ⟨by rw [hn0]; exact HI0.out⟩
  clear hl hs he hf hr hrw hW hJ hJx hY h0 hlb hsb hn hA hn0
  refine callsIn_of_wp Try.func36 rfl trivial ?_ rfl
  simp only [Try.ntmps36, List.size_toArray, List.length_cons, List.length_nil, Nat.reduceAdd, Nat.reduceSub, Array.replicate_succ, Array.replicate_zero, List.push_toArray, List.append_toArray, List.nil_append, List.cons_append]
  gi_wp2
  rw [← HN0.out]
  generalize World.alloc _ _ = W1 at *
  clear cl cs
  gi_loopw [5] (fun t wr => ∃ t', t = .bool t' ∧ Kept (St n0 B n0 lb sb (.slice A n q) ts l s J t' wr)) (fun t wr => meas t (s.size + 2 - cellI wr n0 5))
  case atStart => exact ⟨true, rfl, ⟨.go _ _ _ _ _ _ HI0.out⟩⟩
  case round =>
    clear HI0
    obtain ⟨t', rfl, HSt⟩ := hrel
    cases t' with
    | false =>
      obtain ⟨ys, hw, hj⟩ : ∃ ys, Whole (fns l) (toL s) ys ∧ J ys wr := by cases HSt.out with | done ys _ h hj => exact ⟨ys, h, hj⟩
      gi_wp2
      go_end0
      exact ⟨⟨_, rfl⟩, .inl ⟨ys, hw, hj⟩⟩
    | true =>
      obtain ⟨ys, i, a, m, k, hI⟩ : ∃ ys i a m k, It n0 B n0 lb sb (.slice A n q) ts l s J ys i a m k wr := by cases HSt.out with | go ys i a m k _ h => exact ⟨ys, i, a, m, k, h⟩
      have HI := Kept.mk hI
      clear hI HSt
      gi_wp2_with fail
      refine ⟨trivial, ?_⟩
      gi_at_call 38
      refine (callsIn_wide.2 (advance_any wr B n0 _ ts l s i a m k HI.out.mm)).mono ?_
      rintro e w2 ⟨rfl, i2, a2, m2, k2, HM2, HS2, HL2, HO2, HK2⟩
      have HB2 : Kept (Below n0 wr w2) := ⟨only_up HO2.out (Nat.le_refl _) HI.out.sz⟩
      have HJ2 : Kept (J ys w2) := ⟨HJ.out _ _ _ HI.out.j (by rw [← HN0.out]; exact HB2.out)⟩
      have HC2 := Kept.mk (HI.out.came.iff HL2.out)
      have p1 : w2.cell? ⟨lb, 0, none⟩ = some (.slice A n q) := (World.cell?_of_block (a := ⟨lb, 0, none⟩) (HB2.out.block lb Hlb.out.1)).trans HI.out.c1
      have p2 : w2.cell? ⟨sb, 0, none⟩ = some (.string s) := (World.cell?_of_block (a := ⟨sb, 0, none⟩) (HB2.out.block sb Hlb.out.2)).trans HI.out.c2
      have HP := Kept.mk (And.intro p1 p2)
      have HKm : Kept (cellI wr n0 5 = k) := ⟨by unfold cellI; rw [HI.out.mm.c5]; show ((k : Nat) : Int).toNat = k; omega⟩
      have HSz2 : Kept (n0 ≤ w2.heap.size) := ⟨Nat.le_trans HI.out.sz HO2.out.size⟩
      have c2 := HM2.out.c2
      have c3 := HM2.out.c3
      clear HO2 HB2 HL2 HI p2
      by_cases hi2 : i2 = n
      · have hi3 : ((i2 : Int) == (n : Int)) = true := by rw [beq_iff_eq]; omega
        have hi4 : (i2 : Int) = (n : Int) := by omega
        have HIe : Kept (i2 = (fns l).length) := ⟨by rw [List.length_map, ← HN.out]; exact hi2⟩
        obtain ⟨fn, tmps, assign, body, hy, hR⟩ := HY.out ys a2 w2 HJ2.out (by have := HC2.out.few; rw [toL_length] at this; omega)
        clear hi2
        gi_wp2_with fail
        refine hR.mono ?_
        rintro e W3 (⟨rfl, hj3, hk3⟩ | ⟨rfl, hx3⟩)
        · have HES3 := Kept.mk (HM2.out.es.but hk3 HR.out.2.2.1 HR.out.2.2.2)
          have HM3 : Kept (MM W3 B n0 (.slice A n q) ts l s i2 a2 m2 k2) := ⟨⟨(hk3.block n0 HM2.out.lt (by have := Hrn.out; omega)).trans HM2.out.row, HES3.out, HM2.out.ok, HM2.out.few⟩⟩
          have HJ3 := Kept.mk hj3
          have HC3 := Kept.mk (HC2.out.next HM2.out.ok HIe.out)
          have HP3 : Kept (W3.cell? ⟨lb, 0, none⟩ = some (.slice A n q) ∧ W3.cell? ⟨sb, 0, none⟩ = some (.string s)) := ⟨(World.cell?_of_block (a := ⟨lb, 0, none⟩) (hk3.block lb (by have := Hlb.out.1; have := HSz2.out; omega) HR.out.1.symm)).trans HP.out.1, (World.cell?_of_block (a := ⟨sb, 0, none⟩) (hk3.block sb (by have := Hlb.out.2; have := HSz2.out; omega) HR.out.2.1.symm)).trans HP.out.2⟩
          have HSz3 : Kept (n0 ≤ W3.heap.size) := ⟨Nat.le_trans HSz2.out hk3.size⟩
          clear hj3 hk3 hR hy c2 c3 p1
          gi_wp2_with fail
          refine ⟨trivial, ?_⟩
          gi_at_call 37
          refine (callsIn_wide.2 (backtrack_any W3 B n0 _ ts l s i2 a2 m2 k2 HM3.out)).mono ?_
          rintro e w5 hQ
          rcases hQ with @⟨w5, h5, ho, hno⟩ | @⟨w5, h5, ho, hm⟩
          · have HW5 : Kept (Whole (fns l) (toL s) (ys ++ [a2])) := ⟨HC3.out.whole fun n => rest_none HM3.out.ok (by rw [toL_length]; exact hno)⟩
            have HJ5 : Kept (J (ys ++ [a2]) w5) := ⟨HJ.out _ _ _ HJ3.out (by rw [← HN0.out]; exact only_up ho (Nat.le_refl _) HSz3.out)⟩
            clear h5 ho hno
            gi_wp2_with fail
            go_roundw
            case rel => exact ⟨false, rfl, ⟨.done _ _ HW5.out HJ5.out⟩⟩
            case measure => show 0 < s.size + 2 - cellI wr n0 5; rw [HKm.out]; have := HM2.out.ok.ha; rw [toL_length] at this; have := ok_mark HM2.out.ok; have := HK2.out; omega
          · have HB5 : Kept (Below n0 W3 w5) := ⟨only_up ho (Nat.le_refl _) HSz3.out⟩
            have HC5 := Kept.mk (HC3.out.iff fun n => back_left (k := k2) hm)
            have HIt : Kept (It n0 B n0 lb sb (.slice A n q) ts l s J (ys ++ [a2]) m2 (k2 + 1) m2 (k2 + 1) w5) := ⟨⟨h5, HC5.out, HJ.out _ _ _ HJ3.out (by rw [← HN0.out]; exact HB5.out), (World.cell?_of_block (a := ⟨lb, 0, none⟩) (HB5.out.block lb Hlb.out.1)).trans HP3.out.1, (World.cell?_of_block (a := ⟨sb, 0, none⟩) (HB5.out.block sb Hlb.out.2)).trans HP3.out.2, Nat.le_trans HSz3.out ho.size⟩⟩
            have HM5 : Kept (cellI w5 n0 5 = k2 + 1) := ⟨by unfold cellI; rw [h5.c5]; show (((k2 + 1 : Nat) : Int)).toNat = k2 + 1; omega⟩
            have HK5 : Kept (k2 + 1 ≤ s.size) := ⟨by have := h5.ok.ha; rw [toL_length] at this; exact this⟩
            clear h5 ho
            gi_wp2_with fail
            go_roundw
            case rel => exact ⟨true, rfl, ⟨.go _ _ _ _ _ _ HIt.out⟩⟩
            case measure => show s.size + 2 - cellI w5 n0 5 < s.size + 2 - cellI wr n0 5; rw [HKm.out, HM5.out]; have := HK5.out; have := HK2.out; omega
        · have HX3 := Kept.mk hx3
          have HPt := Kept.mk (HC2.out.next HM2.out.ok HIe.out).part
          clear hx3 hR hy c2 c3 p1
          gi_wp2_with fail
          refine bodyPost_ret (results_none rfl _ _ _) rfl ?_
          exact ⟨⟨_, rfl⟩, .inr ⟨_, HPt.out, HX3.out⟩⟩
      · have hi3 : ((i2 : Int) == (n : Int)) = false := by rw [beq_eq_false_iff_ne]; omega
        have hi4 : ¬ (i2 : Int) = (n : Int) := by omega
        have HC3 := Kept.mk (HC2.out.none HM2.out.ok HS2.out (by rw [List.length_map, ← HN.out]; exact hi2))
        have HM3 := HM2
        have HJ3 := HJ2
        have HP3 := HP
        have HSz3 := HSz2
        clear hi2
        gi_wp2_with fail
        refine ⟨fun _ h => (by cases h), ?_⟩
        gi_wp2_with fail
        refine ⟨trivial, ?_⟩
        gi_at_call 37
        refine (callsIn_wide.2 (backtrack_any w2 B n0 _ ts l s i2 a2 m2 k2 HM3.out)).mono ?_
        rintro e w5 hQ
        rcases hQ with @⟨w5, h5, ho, hno⟩ | @⟨w5, h5, ho, hm⟩
        · have HW5 : Kept (Whole (fns l) (toL s) ys) := ⟨HC3.out.whole fun n => rest_none HM3.out.ok (by rw [toL_length]; exact hno)⟩
          have HJ5 : Kept (J ys w5) := ⟨HJ.out _ _ _ HJ3.out (by rw [← HN0.out]; exact only_up ho (Nat.le_refl _) HSz3.out)⟩
          clear h5 ho hno
          gi_wp2_with fail
          go_roundw
          case rel => exact ⟨false, rfl, ⟨.done _ _ HW5.out HJ5.out⟩⟩
          case measure => show 0 < s.size + 2 - cellI wr n0 5; rw [HKm.out]; have := HM2.out.ok.ha; rw [toL_length] at this; have := ok_mark HM2.out.ok; have := HK2.out; omega
        · have HB5 : Kept (Below n0 w2 w5) := ⟨only_up ho (Nat.le_refl _) HSz3.out⟩
          have HC5 := Kept.mk (HC3.out.iff fun n => back_left (k := k2) hm)
          have HIt : Kept (It n0 B n0 lb sb (.slice A n q) ts l s J ys m2 (k2 + 1) m2 (k2 + 1) w5) := ⟨⟨h5, HC5.out, HJ.out _ _ _ HJ3.out (by rw [← HN0.out]; exact HB5.out), (World.cell?_of_block (a := ⟨lb, 0, none⟩) (HB5.out.block lb Hlb.out.1)).trans HP3.out.1, (World.cell?_of_block (a := ⟨sb, 0, none⟩) (HB5.out.block sb Hlb.out.2)).trans HP3.out.2, Nat.le_trans HSz3.out ho.size⟩⟩
          have HM5 : Kept (cellI w5 n0 5 = k2 + 1) := ⟨by unfold cellI; rw [h5.c5]; show (((k2 + 1 : Nat) : Int)).toNat = k2 + 1; omega⟩
          have HK5 : Kept (k2 + 1 ≤ s.size) := ⟨by have := h5.ok.ha; rw [toL_length] at this; exact this⟩
          clear h5 ho
          gi_wp2_with fail
          go_roundw
          case rel => exact ⟨true, rfl, ⟨.go _ _ _ _ _ _ HIt.out⟩⟩
          case measure => show s.size + 2 - cellI w5 n0 5 < s.size + 2 - cellI wr n0 5; rw [HKm.out, HM5.out]; have := HK5.out; have := HK2.out; omega
end Pm
end Go.Proofs.Ytkifnabkoidhcaa
