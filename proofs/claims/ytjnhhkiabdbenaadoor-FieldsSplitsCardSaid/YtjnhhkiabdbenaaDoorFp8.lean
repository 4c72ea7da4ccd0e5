/-
  A text is written to a builder; the program's Joined.
-/
import Derived.Test.YtjnhhkiabdbenaaDoorFp7
namespace Go.Proofs.YtjnhhkiabdbenaaDoor
open Go.RowKit Tx
namespace Pb

theorem At.more {B b : Nat} {p v v2 : Value} {l m : List UInt8} {w1 w2 : World} (h : At B b p v l w1) (hg : w1.grownBy w2 v.ownBlock) (ho : Row.Is 5 w2 B v2 (l ++ m)) :
    w2.heap[b]? = some (.cells #[p, v] 53 (0, 0)) ∧ At B b p v2 (l ++ m) (w2.setCell ⟨b, 1, none⟩ v2) ∧ Only (fun i => i = b ∨ B ≤ i) w1 (w2.setCell ⟨b, 1, none⟩ v2) := by
  have hlt := h.lt
  have hr : w2.heap[b]? = some (.cells #[p, v] 53 (0, 0)) := (hg.block b hlt (fun e => own_ty h.own h.row e.symm)).trans h.row
  refine ⟨hr, ⟨?_, ?_⟩, ?_⟩
  · have := heap_setCell_same w2 b 1 _ _ v2 hr
    simpa using this
  · exact Pm.own_by ho fun g cs hg2 => Below.heap_setCell _ _ _ g (Pm.type_ne hg2 hr (by decide))
  · have h1 : Only (fun i => i = b ∨ B ≤ i) w1 w2 := ⟨hg.os, hg.tape, hg.output, hg.size, fun i hi hn => hg.block i hi (fun e => hn (Or.inr (Pm.own_row h.own e.symm).1))⟩
    exact h1.setCell ⟨b, 1, none⟩ v2 (fun _ => Or.inl rfl)
set_option maxHeartbeats 2000000 in
set_option maxRecDepth 100000 in
theorem writeString_any (B b : Nat) (p v : Value) (l : List UInt8) (s : ByteArray) (w : World) (h : At B b p v l w) (hp : p = .pointer none ∨ p = .pointer (some ⟨b, 0, none⟩)) (hBw : B ≤ w.heap.size) (hlen : l.length ≤ 100000) (hs : s.size ≤ 100000) :
    Calls Tryd.prog 23 #[.pointer (some ⟨b, 0, none⟩), .string s] w fun e w' => e = .returned (.tuple #[.int .i64 s.size, .nilIface]) ∧ ∃ v', Kept (At B b (.pointer (some ⟨b, 0, none⟩)) v' (l ++ toL s) w') ∧ Kept (Only (fun i => i = b ∨ B ≤ i) w w') := by
  go_enter Tryd.func23, Tryd.ntmps23
  go_wp2_with (go_at_call 31; refine (copyCheck_any B b p v l _ h hp).mono ?_)
  rintro e w1 ⟨rfl, h1, hb1⟩
  have HB1 := Kept.mk hb1
  have H1 := Kept.mk h1
  have c1 := h1.c1
  have HL : Kept (l.length + s.size ≤ 140737488355328) := ⟨by omega⟩
  have HBw : Kept (B ≤ w1.heap.size) := ⟨Nat.le_trans hBw hb1.size⟩
  obtain ⟨A0, q0, rfl⟩ := Pm.own_shape h1.own
  clear h hb1 h1 hp hlen hBw hs
  go_wp2_with (at_builtin; refine Row.wpList_append_str Fd.byteTy rfl _ _ 9 rfl Tryd.underlying9 rfl H1.out.own HBw.out s rfl HL.out ?_; intro v2 w2 ho2 hg2; obtain ⟨A9, q9, rfl⟩ := Fd.Is.slice ho2; have HG2 := Kept.mk (H1.out.more hg2 ho2); have d1 := cell_of_row _ _ 1 _ _ _ HG2.out.1; have f1 := frozen_of_row _ _ 1 _ _ HG2.out.1; clear ho2 hg2)
  go_ret2
  have hE := HG2.out
  rw [List.length_append, show s.data.toList.length = s.size by simp] at hE
  exact ⟨rfl, _, ⟨hE.2.1⟩, ⟨HB1.out.trans hE.2.2 (fun i _ h => h)⟩⟩
end Pb
namespace Pm
theorem BIn.str {w wr : World} {B b : Nat} {l : List UInt8} (h : BIn w wr B b l) (s : ByteArray) (hl : l.length ≤ 100000) (hs : s.size ≤ 100000) :
    Calls Tryd.prog 23 #[.pointer (some ⟨b, 0, none⟩), .string s] wr fun e w' => e = .returned (.tuple #[.int .i64 s.size, .nilIface]) ∧ Kept (BIn w w' B b (l ++ toL s)) := by
  obtain ⟨p, v, ha, hp⟩ := h.at'
  refine (Pb.writeString_any B b p v l s wr ha hp h.hs hl hs).mono ?_
  rintro e w' ⟨rfl, v', ⟨h1⟩, ⟨h2⟩⟩
  refine ⟨rfl, ⟨⟨⟨_, v', h1, .inr rfl⟩, h.bel.trans ?_, h.hb, h.hB, Nat.le_trans h.hs h2.size⟩⟩⟩
  exact h2.toBelow (fun k hk e => by have := h.hb; have := h.hB; have : k = b ∨ B ≤ k := e; omega) h.bel.size
end Pm
namespace Fd
open Pm (BIn)
set_option maxHeartbeats 4000000 in
set_option maxRecDepth 100000 in
theorem joined_any (l : List Sg) (A : Option Addr) (n k : Nat) (t : Bool) (w : World) (hK : Kit w) (hR : Rg w A l) (hn : l.length = n) (hw : wt l ≤ 3000) (hn2 : n ≤ 100000) :
    Calls Tryd.prog 12 #[.slice A n k, .bool t] w fun e w' => e = .returned (.string (bs (joined t l))) ∧ Below w.heap.size w w' := by
  have HR := Kept.mk hR
  have HK := Kept.mk (hK.kb (Nat.le_refl w.heap.size))
  have HN := Kept.mk hn
  have HW := Kept.mk hw
  have HB0 := Kept.mk (BIn.start w)
  obtain ⟨b, hb⟩ : ∃ b, b = w.heap.size := ⟨_, rfl⟩
  have Hb := Kept.mk hb
  replace HB0 : Kept (BIn w (w.alloc (.cells #[.pointer none, .slice none 0 0] 53)) w.heap.size b []) := ⟨by rw [hb]; exact HB0.out⟩
  clear hK hR hn hw hb
  go_enter Tryd.func12, Tryd.ntmps12
  go_wp2_with fail
  rw [← Hb.out]
  generalize World.alloc _ _ = W at *
  go_loopw [10] (fun i wr => ∃ j : Nat, j ≤ n ∧ i = .int .i64 (j : Int) ∧ Kept (BIn w wr w.heap.size b (joined t (l.take j)))) (fun i _ => n - (intOf i).toNat)
  case atStart => exact ⟨0, by omega, rfl, HB0⟩
  case round =>
    clear HB0
    obtain ⟨j, hj, rfl, HM⟩ := hrel
    by_cases hlt : j < n
    · have hl2 : (j : Int) < (n : Int) := by omega
      have hj0 : (0 : Int) ≤ (j : Int) := by omega
      have hlj : j < l.length := by rw [HN.out]; exact hlt
      obtain ⟨g, hA, hg, c0, c1⟩ := (HR.out.below HM.out.bel) j hlj
      subst hA
      have HJ : Kept (∀ x, x = told t l[j] → joined t (l.take j) ++ x = joined t (l.take (j + 1))) := ⟨fun x hx => by rw [hx, joined_take t l j hlj]⟩
      have HT0 : Kept ((joined t (l.take j)).length ≤ 3000 ∧ l[j].text.length ≤ 2000) := ⟨by
        have h1 := joined_length t (l.take j)
        have h2 := wt_take l j
        have h3 := wt_at hlj
        have := HW.out
        omega⟩
      generalize l[j] = gg at c0 c1 HJ HT0
      obtain ⟨kd, tx⟩ := gg
      simp only at c0 c1 HT0
      have hb0 : Below wr.heap.size wr (wr.alloc (.cells #[.int .i64 (kd : Int), .string (bs tx)] 32)) := (Below.refl _ _).alloc (Nat.le_refl _) _
      have HX0 := Kept.mk (HM.out.below hb0)
      have HR0 := Kept.mk (heap_alloc_new wr (.cells #[.int .i64 (kd : Int), .string (bs tx)] 32))
      have HK0 := Kept.mk (HK.out.far HX0.out.bel).kit
      have HTs : Kept ((bs tx).size ≤ 2000) := ⟨by rw [bs_size]; exact HT0.out.2⟩
      clear hb0 HM
      by_cases h3 : kd = 3
      · subst h3
        have HS : Kept (joined t (l.take j) ++ [32] = joined t (l.take (j + 1))) := ⟨HJ.out _ rfl⟩
        go_wp2_with fail
        go_at_call 22
        refine (HX0.out.write 32 (by have := HT0.out.1; omega)).mono ?_
        rintro e w3 ⟨rfl, h3, _⟩
        rw [HS.out] at h3
        go_wp2_with fail
        go_roundw
        case rel => exact ⟨j + 1, by omega, by go_num, h3⟩
        case measure => simp [intOf]; omega
      · have z3 : ¬ (kd : Int) = 3 := by omega
        cases t with
        | false =>
          have HS : Kept (joined false (l.take j) ++ toL (bs tx) = joined false (l.take (j + 1))) := ⟨HJ.out _ (by unfold told; rw [if_neg h3, toL_bs]; rfl)⟩
          clear h3
          go_wp2_with fail
          go_at_call 23
          refine (HX0.out.str (bs tx) (by have := HT0.out.1; omega) (by have := HTs.out; omega)).mono ?_
          rintro e w3 ⟨rfl, h3⟩
          rw [HS.out] at h3
          go_wp2_with fail
          go_roundw
          case rel => exact ⟨j + 1, by omega, by go_num, h3⟩
          case measure => simp [intOf]; omega
        | true =>
          obtain ⟨tt, htt⟩ : ∃ tt, tt = (if kd = 1 then Pm.esc tx else dbl tx) := ⟨_, rfl⟩
          have HS : Kept (joined true (l.take j) ++ toL (bs tt) = joined true (l.take (j + 1))) := ⟨HJ.out _ (by unfold told; rw [if_neg h3, toL_bs, htt]; rfl)⟩
          have HA := Kept.mk (asPattern_any ⟨kd, tx⟩ _ HK0.out HT0.out.2)
          simp only at HA
          rw [← htt] at HA
          have HZ : Kept ((bs tt).size ≤ 100000) := ⟨by
            have h1 := (dbl_length tx).1
            have h2 := esc_len tx
            have := HT0.out.2
            rw [bs_size, htt]
            split <;> omega⟩
          clear h3 htt
          go_wp2_with fail
          go_at_call 24
          refine HA.out.mono ?_
          rintro e w2 ⟨rfl, hb2⟩
          have HX2 := Kept.mk (HX0.out.below hb2)
          clear hb2 HA
          go_wp2_with fail
          go_at_call 23
          refine (HX2.out.str (bs tt) (by have := HT0.out.1; omega) HZ.out).mono ?_
          rintro e w3 ⟨rfl, h3⟩
          rw [HS.out] at h3
          go_wp2_with fail
          go_roundw
          case rel => exact ⟨j + 1, by omega, by go_num, h3⟩
          case measure => simp [intOf]; omega
    · obtain rfl : j = n := by omega
      have HT : Kept (BIn w wr w.heap.size b (joined t l)) := ⟨by
        have := HM.out
        rwa [List.take_of_length_le (by rw [HN.out]; exact Nat.le_refl _)] at this⟩
      clear HM hlt
      go_wp2_with fail
      go_at_call 25
      refine HT.out.text.mono ?_
      rintro e w3 ⟨rfl, hb⟩
      have HBl := Kept.mk hb
      clear hb
      go_wp2_with fail
      go_ret
      exact ⟨rfl, HBl.out⟩
end Fd
end Go.Proofs.YtjnhhkiabdbenaaDoor
