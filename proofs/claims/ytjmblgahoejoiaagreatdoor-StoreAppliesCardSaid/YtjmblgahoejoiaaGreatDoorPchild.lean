/-
  The program's store: the iterator over the names right below a place.
-/
import Derived.Test.YtjmblgahoejoiaaGreatDoorPsto
import Derived.RangeFuncNested
import Derived.RangeFuncBound
import Derived.RangeFuncCalls
import Derived.RangeFuncLeaves
import Derived.Shelf.Abstract
import Derived.Shelf.RegionOpen
import Derived.OwnWalkIn
import Derived.TacticsInMore
import Derived.LoopNIn
import Derived.LoopIn
import Derived.Lib.IndexAny
import Derived.Sort.MapsRangeIn
import Derived.Maps.AppendAt
namespace Go.Proofs.YtjmblgahoejoiaaGreatDoor
open Go.RowKit Go.Maps Go.Sort Go.Shelf Tx
attribute [local go_sem] Oper.semAt_some
namespace St

def startS (p : ByteArray) : ByteArray := bs (toL p ++ [47])
def KpC (s : Nat) (A B : World) : Prop := KeepsWalks A B ∧ B.heap[s]? = A.heap[s]?

/-- What the two library calls say of a place. -/
theorem child_cases (p k : List UInt8) : (Lib.hasPrefix k (p ++ [47]) = false ∧ child p k = none) ∨
    (Lib.hasPrefix k (p ++ [47]) = true ∧ decide (0 ≤ Lib.indexByte (Lib.trimPrefix k (p ++ [47])) 47) = true ∧ child p k = none) ∨
    (Lib.hasPrefix k (p ++ [47]) = true ∧ decide (0 ≤ Lib.indexByte (Lib.trimPrefix k (p ++ [47])) 47) = false ∧ child p k = some (Lib.trimPrefix k (p ++ [47]))) := by
  unfold child
  by_cases hf : Lib.hasPrefix k (p ++ [47]) = true
  · have e : Lib.trimPrefix k (p ++ [47]) = k.drop (p.length + 1) := by unfold Lib.trimPrefix; rw [if_pos hf]; simp
    have hp : (p ++ [47]).isPrefixOf k = true := hf
    rw [e, ← Lib.contains_iff_indexByte]
    by_cases hc : (47 : UInt8) ∈ k.drop (p.length + 1)
    · exact .inr (.inl ⟨hf, by simpa using hc, by rw [if_neg (fun h => h.2 hc)]⟩)
    · exact .inr (.inr ⟨hf, by simpa using hc, by rw [if_pos ⟨hp, hc⟩]⟩)
  · have hf' : Lib.hasPrefix k (p ++ [47]) = false := by simpa using hf
    exact .inl ⟨hf', by rw [if_neg (fun h => hf h.1)]⟩

theorem cut_start (x st : List UInt8) (w : World) : Calls Tryz.prog 74 #[.string ⟨x.toArray⟩, .string (bs st)] w fun e w' => e = .returned (.tuple #[.string ⟨(Lib.trimPrefix x st).toArray⟩, .bool (Lib.hasPrefix x st)]) ∧ w' = w :=
  Tryz.strings_CutPrefix ⟨x.toArray⟩ (bs st) w
theorem has_slash (x : List UInt8) (w : World) : Calls Tryz.prog 75 #[.string ⟨x.toArray⟩, .string ⟨#[47]⟩] w fun e w' => e = .returned (.bool (decide (0 ≤ Lib.indexByte x 47))) ∧ w' = w :=
  Tryz.strings_Contains_one ⟨x.toArray⟩ 47 w

structure ChildIn (s : Nat) (w W wr : World) (J : List (List UInt8) → World → Prop) (b n : Nat) (D0 : DataW Unit) (p : ByteArray) (left : Lit → Bool) (cnt : Nat) (ss : List (List UInt8)) : Prop where
  rg : wr.ranges Tryz.prog 9 entR b W.heap.size n D0 left cnt
  few : ss.length + cnt ≤ Maps.size D0
  col : Collected D0 left ss
  j : J (ss.filterMap (child (toL p))) wr
  same : wr.heap[s]? = w.heap[s]?

set_option maxHeartbeats 2000000 in
set_option maxRecDepth 100000 in
theorem child_stops (nn Bm Bs b n : Nat) (D0 : DataW Unit) (p : ByteArray) (w : World) (hnn : 1 ≤ nn) (hBm : Bm < w.heap.size) (hBs : Bs < w.heap.size) (hm : w.cell? ⟨Bm, 0, none⟩ = some (.map (some b)))
    (hst : w.cell? ⟨Bs, 0, none⟩ = some (.string (startS p))) (hown : w.ownsMap Tryz.prog 9 entR b n D0) :
    SeqStopsK Fence.wide nn Tryz.prog 73 #[.pointer (some ⟨Bm, 0, none⟩), .pointer (some ⟨Bs, 0, none⟩)] (fun x : List UInt8 => #[encStr x]) (KpC Bs)
      (fun ss => ss.Perm ((strKeys D0).filterMap (child (toL p)))) (fun _ => True) (Maps.size D0) w := by
  intro l J Jx W hW hJ hJx hY h0
  have hownW : W.ownsMap Tryz.prog 9 entR b n D0 := by
    have hbl := hown.lt
    obtain ⟨es, clock, hb, Ft, hs, hD⟩ := hown
    exact ⟨es, clock, (hW.block b hbl).trans hb, Ft, hs, hD⟩
  have cm : W.cell? ⟨Bm, 0, none⟩ = some (.map (some b)) := (hW.cell (p := ⟨Bm, 0, none⟩) hBm).trans hm
  have HST : Kept (w.cell? ⟨Bs, 0, none⟩ = some (.string (startS p))) := ⟨hst⟩
  have HJ := Kept.mk hJ
  have HY := Kept.mk hY
  clear hst hJx hm hJ hY
  refine callsIn_of_wp Tryz.func73 rfl trivial ?_ rfl
  simp only [Tryz.ntmps73, List.size_toArray, List.length_cons, List.length_nil, Nat.reduceAdd, Nat.reduceSub, Array.replicate_succ, Array.replicate_zero, List.push_toArray, List.append_toArray, List.nil_append, List.cons_append]
  gi_wp2_with (first
    | (gi_at_range; refine wpListIn_range_own _ rfl _ 56 rfl 9 37 strK Tryz.underlying56 _ b n _ rfl hownW ?_; intro w0 hrg0 hg0 hs0)
    | gi_in)
  have hin0 : Kept (ChildIn Bs w W w0 J b n D0 p (Maps.has D0) (Maps.size D0) []) := ⟨⟨hrg0, by simp, Collected.start D0, HJ.out [] W w0 none h0 hg0 (fun r e => by cases e), (hg0.block Bs (Nat.lt_of_lt_of_le hBs hW.size) (by simp)).trans (hW.block Bs hBs)⟩⟩
  clear hs0 hg0 hrg0 h0 cm
  gi_loopw [4] (fun _ wr => ∃ (left : Lit → Bool) (cnt : Nat) (ss : List (List UInt8)), Kept (ChildIn Bs w W wr J b n D0 p left cnt ss)) (fun _ wr => wr.rangeLeft b W.heap.size)
  case atStart => exact ⟨_, _, [], hin0⟩
  case round =>
    obtain ⟨left, cnt, ss, hin⟩ := hrel
    gi_wp2_with (first
      | (gi_at_next; refine wpListIn_next_ranges _ rfl _ rfl 9 strK entR encStr id (fun key kl hk => by obtain ⟨x, hx, _⟩ := Maps.keyOf_str Tryz.underlying9 hk; exact ⟨x, hx⟩) (fun v _ _ => ⟨v, rfl⟩) b W.heap.size n _ _ _ rfl hin.out.rg ?_ ?_)
      | gi_in)
    · intro hc0 hl0
      gi_wp2
      go_end0
      refine ⟨⟨_, rfl⟩, .inl ⟨_, ?_, hin.out.j⟩⟩
      exact (hin.out.col.perm hown strK Tryz.underlying9 hl0).filterMap _
    · intro x c kl yd yp w2 cnt2 hkey hlk hv hat hrg2 hlt hg2 hs2 hen
      obtain ⟨x', ex, rfl, _⟩ := Maps.keyOf_str Tryz.underlying9 hkey
      obtain rfl : x = x' := encStr_inj ex
      have hJ2 : J (ss.filterMap (child (toL p))) w2 := HJ.out _ wr w2 (some W.heap.size) hin.out.j hg2 (fun r e => by cases e; exact ⟨Nat.le_refl _, hin.out.rg.iter_walk⟩)
      have hlB : Bs < wr.heap.size := by
        have e := hin.out.same
        rcases Nat.lt_or_ge Bs wr.heap.size with h | h
        · exact h
        · rw [Array.getElem?_eq_none h, Array.getElem?_eq_getElem hBs] at e; cases e
      have hB2 : Kept (w2.heap[Bs]? = w.heap[Bs]?) := ⟨(hg2.block Bs hlB (fun e => by injection e with e; have := hW.size; omega)).trans hin.out.same⟩
      have hC2 := Kept.mk (hin.out.col.step hlk hat)
      have hmeas : Kept (cnt2 < cnt) := ⟨hlt⟩
      have hfew : Kept (ss.length + cnt ≤ Maps.size D0) := ⟨hin.out.few⟩
      have hleft : Kept (wr.rangeLeft b W.heap.size = cnt) := ⟨hin.out.rg.left_eq⟩
      have cS : w2.cell? ⟨Bs, 0, none⟩ = some (.string (bs (toL p ++ [47]))) := (World.cell?_of_block (a := ⟨Bs, 0, none⟩) hB2.out).trans HST.out
      have hflen : (ss.filterMap (child (toL p))).length ≤ ss.length := List.length_filterMap_le _ _
      have HR2 := Kept.mk hrg2
      have HJ2 := Kept.mk hJ2
      clear hs2 hg2 hrg2 hJ2 hat hlk hlt hin
      rcases child_cases (toL p) x with ⟨hf, hch⟩ | ⟨hf, hc, hch⟩ | ⟨hf, hc, hch⟩
      · have HE : Kept ((ss ++ [x]).filterMap (child (toL p)) = ss.filterMap (child (toL p))) := ⟨by rw [List.filterMap_append]; simp [hch]⟩
        clear hch
        gi_wp2_with (refine ⟨trivial, ?_⟩; gi_at_call 74; refine (callsIn_wide.2 (cut_start x (toL p ++ [47]) w2)).mono ?_; rintro e w3 ⟨rfl, rfl⟩; rw [hf])
        refine ⟨trivial, ?_⟩
        gi_wp2
        refine ⟨fun _ h => (by cases h), ?_⟩
        gi_wp2
        go_roundw
        case rel => exact ⟨_, cnt2, ss ++ [x], ⟨⟨HR2.out, by have := hfew.out; have := hmeas.out; simp; omega, hC2.out, by rw [HE.out]; exact HJ2.out, hB2.out⟩⟩⟩
        case measure => rw [HR2.out.left_eq, hleft.out]; exact hmeas.out
      · have HE : Kept ((ss ++ [x]).filterMap (child (toL p)) = ss.filterMap (child (toL p))) := ⟨by rw [List.filterMap_append]; simp [hch]⟩
        clear hch
        gi_wp2_with (first
          | (refine ⟨trivial, ?_⟩; gi_at_call 74; refine (callsIn_wide.2 (cut_start x (toL p ++ [47]) w2)).mono ?_; rintro e w3 ⟨rfl, rfl⟩; rw [hf])
          | (refine ⟨trivial, ?_⟩; gi_at_call 75; refine (callsIn_wide.2 (has_slash _ _)).mono ?_; rintro e w4 ⟨rfl, rfl⟩; rw [hc]))
        refine ⟨fun _ h => (by cases h), ?_⟩
        gi_wp2
        go_roundw
        case rel => exact ⟨_, cnt2, ss ++ [x], ⟨⟨HR2.out, by have := hfew.out; have := hmeas.out; simp; omega, hC2.out, by rw [HE.out]; exact HJ2.out, hB2.out⟩⟩⟩
        case measure => rw [HR2.out.left_eq, hleft.out]; exact hmeas.out
      · have HE : Kept ((ss ++ [x]).filterMap (child (toL p)) = ss.filterMap (child (toL p)) ++ [Lib.trimPrefix x (toL p ++ [47])]) := ⟨by rw [List.filterMap_append]; simp [hch]⟩
        clear hch
        obtain ⟨fn, tmps, assign, body, hy, hR⟩ := HY.out (ss.filterMap (child (toL p))) (Lib.trimPrefix x (toL p ++ [47])) w2 HJ2.out (by have := hfew.out; have := hmeas.out; omega)
        gi_wp2_with (first
          | (refine ⟨trivial, ?_⟩; gi_at_call 74; refine (callsIn_wide.2 (cut_start x (toL p ++ [47]) w2)).mono ?_; rintro e w3 ⟨rfl, rfl⟩; rw [hf])
          | (refine ⟨trivial, ?_⟩; gi_at_call 75; refine (callsIn_wide.2 (has_slash _ _)).mono ?_; rintro e w4 ⟨rfl, rfl⟩; rw [hc]))
        refine hR.mono ?_
        rintro e W3 (⟨rfl, hJ3, hk3⟩ | ⟨rfl, hJx3⟩)
        · gi_wp2
          have hrg3 := HR2.out.of_walks hk3.1
          go_roundw
          case rel => exact ⟨_, cnt2, ss ++ [x], ⟨⟨hrg3, by have := hfew.out; have := hmeas.out; simp; omega, hC2.out, by rw [HE.out]; exact hJ3, hk3.2.trans hB2.out⟩⟩⟩
          case measure => rw [hrg3.left_eq, hleft.out]; exact hmeas.out
        · gi_wp2
          refine bodyPost_ret (results_none rfl _ _ _) rfl ?_
          exact ⟨⟨_, rfl⟩, .inr ⟨_, trivial, hJx3⟩⟩
end St
end Go.Proofs.YtjmblgahoejoiaaGreatDoor
