/-
  The law of one whole field.
-/
import Derived.Test.YtjnhhkiabdbenaaDoorFl3
namespace Go.Proofs.YtjnhhkiabdbenaaDoor
open Go.RowKit Tx
namespace Fd

def keepS (g : Sg) : Bool := decide (g.kind ≠ 3)
theorem filter_take {l : List Sg} {j : Nat} (h : j < l.length) : (l.take (j + 1)).filter keepS = (l.take j).filter keepS ++ if keepS l[j] then [l[j]] else [] := by
  rw [List.take_succ_eq_append_getElem h, List.filter_append, List.filter_cons, List.filter_nil]
theorem wt_filter : ∀ l : List Sg, wt (l.filter keepS) ≤ wt l
  | [] => Nat.le_refl _
  | g :: l => by
    have h := wt_filter l
    have e2 : wt (g :: l) = (2 * g.text.length + 1) + wt l := by simp [wt]
    rw [List.filter_cons]
    split
    · have e3 : wt (g :: l.filter keepS) = (2 * g.text.length + 1) + wt (l.filter keepS) := by simp [wt]
      omega
    · omega
/-- What the law says of the two answers. -/
theorem whole_says (F : List (List UInt8)) (p : List UInt8) (h : (F = [] ∧ p = []) ∨ F = [p]) : F.length = 0 ∧ F = [] ∧ p = [] ∨ F.length = 1 ∧ F = [p] := by
  rcases h with ⟨rfl, rfl⟩ | rfl
  · exact .inl ⟨rfl, rfl, rfl⟩
  · exact .inr ⟨rfl, rfl⟩
set_option maxHeartbeats 4000000 in
set_option maxRecDepth 100000 in
theorem whole_any (A : Option Addr) (n k : Nat) (w : World) (hK : Kit w) (hl : Bits w A n) (hn : n ≤ 140737488355328) :
    Calls Tryd.prog 4 #[.slice A n k] w fun e w' => e = .returned (.bool true) ∧ Below w.heap.size w w' := by
  have HA := Kept.mk (awake_any w hK)
  have HK := Kept.mk hK
  have HL := Kept.mk hl
  have HN := Kept.mk hn
  clear hK hl hn
  go_enter Tryd.func4, Tryd.ntmps4
  go_wp2_with fail
  go_at_call 8
  refine HA.out.mono ?_
  rintro e w1 ⟨rfl, hb⟩
  have HB1 := Kept.mk hb
  clear hb HA
  go_wp2_with fail
  go_at_call 7
  refine (made_any A n k w1 (HL.out.below HB1.out) HN.out).mono ?_
  rintro e w2 ⟨l, C, q, rfl, hR, hM, hb⟩
  have HB2 := Kept.mk (HB1.out.trans (hb.mono HB1.out.size))
  have HR := hR
  have HM := hM
  obtain ⟨N, hN⟩ : ∃ N, l.length = N := ⟨_, rfl⟩
  have HNl := Kept.mk hN
  rw [hN]
  clear hb hR hM hN
  go_wp2_with fail
  go_loopw [4, 6] (fun v i wr => ∃ j : Nat, j ≤ N ∧ i = .int .i64 (j : Int) ∧ Kept (GO wr w2.heap.size v ((l.take j).filter keepS)) ∧ Kept (Below w2.heap.size w2 wr)) (fun _ i _ => N - (intOf i).toNat)
  case atStart => exact ⟨0, by omega, rfl, ⟨GO.nil _ _⟩, ⟨Below.refl _ _⟩⟩
  case round =>
    obtain ⟨j, hj, rfl, HG, HB⟩ := hrel
    obtain ⟨VA, VK, rfl⟩ := HG.out.slice
    by_cases hlt : j < N
    · have hl2 : (j : Int) < (N : Int) := by omega
      have hj0 : (0 : Int) ≤ (j : Int) := by omega
      have hj5 : (j : Int) ≤ 8 := by have := HM.out.few; have := HNl.out; omega
      have hlj : j < l.length := by rw [HNl.out]; exact hlt
      have HLn : Kept (((l.take j).filter keepS).length ≤ 100000) := ⟨by
        have h1 := List.length_filter_le keepS (l.take j)
        have h2 := HM.out.few
        rw [List.length_take] at h1
        omega⟩
      have HF := Kept.mk (filter_take hlj)
      obtain ⟨g, hA, hg, c0, c1⟩ := (HR.out.below HB.out) j hlj
      subst hA
      generalize l[j] = gg at c0 c1 HF
      generalize (l.take j).filter keepS = x at HG HLn HF
      obtain ⟨kd, tx⟩ := gg
      simp only at c0 c1
      by_cases h3 : kd = 3
      · subst h3
        have HS : Kept ((l.take (j + 1)).filter keepS = x) := ⟨HF.out.trans (by rw [if_neg (by unfold keepS; simp), List.append_nil])⟩
        have hE := HG.out
        rw [← HS.out] at hE
        have HG2 := Kept.mk hE
        clear hE HF
        go_wp2_with fail
        go_roundw
        case rel => exact ⟨j + 1, by omega, by go_num, ⟨by have := HG2.out; rw [HS.out] at this ⊢; exact this⟩, HB⟩
        case measure => simp [intOf]; omega
      · have z3 : ¬ (kd : Int) = 3 := by omega
        have HS : Kept ((l.take (j + 1)).filter keepS = x ++ [⟨kd, tx⟩]) := ⟨HF.out.trans (by rw [if_pos (by unfold keepS; simpa using h3)])⟩
        clear h3 HF
        have HBs : Kept (w2.heap.size ≤ wr.heap.size) := ⟨HB.out.size⟩
        go_wp2_with (at_builtin; refine wpList_append_seg (W := wr) ⟨kd, tx⟩ (kd : Int) (bs tx) rfl rfl wr.heap.size rfl rfl _ _ rfl rfl rfl HG.out HLn.out HBs.out ?_; intro A2 k2 w3 l2 hl2 hg2 hgr; have HG2 := Kept.mk hg2; have HB4 := Kept.mk (HB.out.trans (HG.out.upTo HBs.out hgr)); have HL2 := Kept.mk hl2; clear hg2 hgr hl2)
        go_roundw
        case rel => exact ⟨j + 1, by omega, by go_num, ⟨by rw [HS.out]; exact HG2.out⟩, HB4⟩
        case measure => simp [intOf]; omega
    · obtain rfl : j = N := by omega
      have hT : (l.take j).filter keepS = l.filter keepS := by rw [List.take_of_length_le (by rw [HNl.out]; exact Nat.le_refl _)]
      rw [hT] at HG ⊢
      have HLn : Kept ((l.filter keepS).length ≤ 8) := ⟨by have h1 := List.length_filter_le keepS l; have := HM.out.few; omega⟩
      have HWt : Kept (wt (l.filter keepS) ≤ 456) := ⟨by have h1 := wt_filter l; have := HM.out.wt; omega⟩
      have HKd : Kept (∀ g ∈ l.filter keepS, g.kind ≤ 3 ∧ g.kind < 3) := ⟨fun g hg => by
        obtain ⟨h1, h2⟩ := List.mem_filter.1 hg
        have h3 := (HM.out.each g h1).1
        unfold keepS at h2
        have h4 := of_decide_eq_true h2
        omega⟩
      clear hlt hT
      generalize l.filter keepS = x at HG HLn HWt HKd
      obtain ⟨XA, XK, he, hRx⟩ := HG.out.read
      injection he with e1 e2 e3
      subst e1 e3
      have HRx := Kept.mk hRx
      have HB3 := Kept.mk (HB2.out.trans (HB.out.mono HB2.out.size))
      have HS := Kept.mk (whole_says _ _ (whole x (fun g hg => (HKd.out g hg).2)))
      obtain ⟨F, hF⟩ : ∃ F, F = fieldsOf [] x := ⟨_, rfl⟩
      obtain ⟨p, hp⟩ : ∃ p, p = joined true x := ⟨_, rfl⟩
      rw [← hF, ← hp] at HS
      obtain ⟨N2, hN2⟩ : ∃ N2, x.length = N2 := ⟨_, rfl⟩
      have HN2 := Kept.mk hN2
      have HFF : Kept (fieldsOf (toL ⟨#[]⟩) x = F) := ⟨hF.symm⟩
      have HPP : Kept (joined true x = p) := ⟨hp.symm⟩
      rw [hN2]
      clear hRx e2 hF hp hN2
      go_wp2_with fail
      go_at_call 10
      refine (fields_lit x F VA N2 VK ⟨#[]⟩ wr HFF (HK.out.below HB3.out) HRx.out HN2.out (fun g hg => (HKd.out g hg).1) (by have := HWt.out; omega) (by decide) (by have := HLn.out; rw [HN2.out] at this; omega)).mono ?_
      rintro e w4 ⟨D, dq, rfl, hRd, hb⟩
      have HB4 := Kept.mk (HB3.out.trans (hb.mono HB3.out.size))
      have HRx4 := Kept.mk (HRx.out.below hb)
      have HRd := hRd
      clear hb hRd
      go_wp2_with fail
      go_at_call 12
      refine (joined_any x VA N2 VK true w4 (HK.out.below HB4.out) HRx4.out HN2.out (by have := HWt.out; omega) (by have := HLn.out; rw [HN2.out] at this; omega)).mono ?_
      rintro e w5 ⟨rfl, hb⟩
      rw [HPP.out]
      have HB5 := Kept.mk (HB4.out.trans (hb.mono HB4.out.size))
      have HRd5 := Kept.mk (HRd.out.below hb)
      clear hb
      rcases HS.out with ⟨h0, h1, h2⟩ | ⟨h0, h1⟩
      · subst h1 h2
        have hE : ((bs []).toList == ([] : List UInt8)) = true := by rw [ByteArray.toList_eq]; rfl
        clear HRd5
        go_wp2_with fail
        go_ret
        exact ⟨rfl, HB5.out⟩
      · subst h1
        obtain ⟨g, off, hA, hg, hc⟩ := HRd5.out 0 (by simp)
        simp only [List.map_cons, List.map_nil, List.getElem_cons_zero, Nat.add_zero] at hc
        have hE : ((bs p).toList == (bs p).toList) = true := by simp
        subst hA
        clear HRd5
        go_wp2_with fail
        go_ret
        exact ⟨rfl, HB5.out⟩
end Fd
end Go.Proofs.YtjnhhkiabdbenaaDoor
