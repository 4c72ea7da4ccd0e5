/-
  The document's side: the sum of a text.
-/
import Derived.Test.YtojncfnlcmacgaaDoorRefB
import Derived.Test.YtojncfnlcmacgaaDoorRefP
import Derived.Test.YtojncfnlcmacgaaDoorHex
import Derived.Test.YtojncfnlcmacgaaDoorAbs
import Derived.Test.YtojncfnlcmacgaaDoorSum
import Derived.Laws.Slices
namespace Go.Proofs.YtojncfnlcmacgaaDoor
open Go.RowKit
namespace Sha

theorem block_kept (st : St) (l : List UInt8) (g c1 gb off cb : Nat) (w : World) (hA : Own.At val w g 0 st.list) (hb : Own.At By.cell w gb off l) (hl : l.length = 64) :
    Calls Tryd.prog 14 #[.slice (some ⟨g, 0, none⟩) 8 c1, .slice (some ⟨gb, off, none⟩) 64 cb] w fun e w' => ∃ h q c, e = .returned (.slice (some ⟨h, 0, none⟩) 8 q) ∧ w.heap.size ≤ h ∧ Own.At val w' h 0 c.list ∧ Below w.heap.size w w' ∧ Kept (compress st l = c) :=
  refBlock_any st l g c1 gb off cb w hA hb hl
theorem size25 (W : World) : (sizeOf 5).run Tryd.prog W = .ok 1 W := by kernel_rfl
theorem elem25 : Tryd.prog.elem 25 = 5 := by kernel_rfl
theorem und25 : Tryd.prog.underlying 25 = some (.slice (Tryd.prog.elem 25)) := by rw [elem25]; exact Tryd.underlying25
theorem cut_head (g off n cc : Nat) (h : 64 ≤ cc) (W : World) :
    (Instr.slice 25 (.slice (some ⟨g, off, none⟩) n cc) none (some (.int .i64 64)) none).run Tryd.prog W = .ok (.slice (some ⟨g, off, none⟩) 64 cc) W := by
  rw [run_slice_h W 25 _ _ _ und25 .i64 64 (by omega) (by omega), elem25, size25]
  simp [Result.andThen, sliced, Addr.add]
theorem cut_tail (g off n cc : Nat) (h : 64 ≤ n) (W : World) :
    (Instr.slice 25 (.slice (some ⟨g, off, none⟩) n cc) (some (.int .i64 64)) none none).run Tryd.prog W = .ok (.slice (some ⟨g, if cc = 64 then off else off + 64, none⟩) (n - 64) (cc - 64)) W := by
  rw [run_slice_l W 25 _ _ _ und25 .i64 64 (by omega) (by omega), elem25, size25]
  by_cases hc : cc = 64
  · simp [Result.andThen, sliced, hc]
  · simp [Result.andThen, sliced, hc, Addr.add]

structure RefIn (w wr : World) (g hg : Nat) (E : List UInt8) (st : St) : Prop where
  below : Below w.heap.size w wr
  bytes : Own.At By.cell wr g 0 E
  cur : Own.At val wr hg 0 st.list
structure RefHex (w wo wr : World) (hg : Nat) (l : List UInt32) (o : Value) (out : List UInt8) : Prop where
  below : Below w.heap.size w wr
  on : wo.heap.size ≤ wr.heap.size
  hl : hg < wo.heap.size
  cur : Own.At val wr hg 0 l
  bs : By.Bs wr wo.heap.size o out
theorem RefHex.step {w wo wr w2 : World} {hg : Nat} {l : List UInt32} {o o2 : Value} {out out2 : List UInt8} (h : RefHex w wo wr hg l o out) (hw : w.heap.size ≤ wo.heap.size) (hb : By.Bs w2 wo.heap.size o2 out2) (hgr : wr.grownBy w2 o.ownBlock) : RefHex w wo w2 hg l o2 out2 :=
  ⟨h.below.grown hgr h.below.size (fun k hk => by have := (h.bs.lt k hk).1; omega), Nat.le_trans h.on hgr.size, h.hl,
   h.cur.grown hgr (fun e => by have h1 := (h.bs.lt _ e).1; have := h.hl; omega), hb⟩

set_option maxRecDepth 100000 in
set_option maxHeartbeats 2000000 in
theorem refSum_aux (s : ByteArray) (E : List UInt8) (M : Nat) (w : World) (hE : E.length = 64 * M)
    (hP : ∀ W : World, Calls Tryd.prog 13 #[.string s] W fun e w' => ∃ g c, e = .returned (.slice (some ⟨g, 0, none⟩) (64 * M) c) ∧ W.heap.size ≤ g ∧ Own.At By.cell w' g 0 E ∧ 64 * M ≤ c ∧ Below W.heap.size W w') :
    Calls Tryd.prog 8 #[.string s] w fun e w' => ∃ t : ByteArray, e = .returned (.string t) ∧ Below w.heap.size w w' ∧ Kept (t = ⟨(inHex (absorb init E M)).toArray⟩) := by
  have HP := Kept.mk hP
  have HE := Kept.mk hE
  clear hP hE
  go_enter Tryd.func8, Tryd.ntmps8
  go_wp2_with (first
    | (go_at_call 12; refine (initial_any _).mono ?_; rintro e w1 ⟨hg, rfl, -, hat, hb1⟩)
    | (go_at_call 13; refine (HP.out _).mono ?_; rintro e w2 ⟨g, c, rfl, -, hae, hc, hb2⟩))
  have hR : RefIn w w2 g hg E (absorb init E 0) := ⟨hb1.trans (hb2.mono hb1.size), hae, hat.below hb2⟩
  have HR := Kept.mk hR
  have HC := Kept.mk hc
  clear hb1 hb2 hat hae hR hc
  go_loopw [3, 4] (fun h b wr => ∃ k hg q off n cc, k ≤ M ∧ (k < M → off = 64 * k) ∧ n + 64 * k = 64 * M ∧ n ≤ cc ∧ h = .slice (some ⟨hg, 0, none⟩) 8 q ∧ b = .slice (some ⟨g, off, none⟩) n cc ∧ RefIn w wr g hg E (absorb init E k)) (fun _ b _ => lenV b)
  case atStart => exact ⟨0, hg, 8, 0, 64 * M, c, by omega, fun _ => rfl, rfl, HC.out, rfl, rfl, HR.out⟩
  case round =>
    clear HR HC
    obtain ⟨k, hg, q, off, n, cc, hk, hoff, hn, hcc, rfl, rfl, hR⟩ := hrel
    by_cases hlt : k < M
    · obtain rfl := hoff hlt
      have hn64 : 64 ≤ n := by omega
      have n0 : (0 : Int) < (n : Int) := by omega
      generalize hst : absorb init E k = st at *
      have HST : Kept (absorb init E (k + 1) = compress st ((E.drop (64 * k)).take 64)) := ⟨by rw [← hst]; rfl⟩
      have HR := Kept.mk hR
      have hh := cut_head g (64 * k) n cc (by omega)
      have ht := cut_tail g (64 * k) n cc hn64
      generalize ho2 : (if cc = 64 then 64 * k else 64 * k + 64) = off2 at *
      have HO := Kept.mk ho2
      have HNN := Kept.mk (And.intro hn (And.intro hcc hk))
      clear hst hR hoff ho2 hn hcc hk
      go_wp2_with (go_at_call 14; refine (block_kept st ((E.drop (64 * k)).take 64) _ _ _ _ _ _ HR.out.cur (by have := (HR.out.bytes.drop (64 * k)).take 64; rw [Nat.zero_add] at this; exact this) (by rw [List.length_take, List.length_drop, HE.out]; omega)).mono ?_; rintro e w3 ⟨h2, q2, c2, rfl, -, hat, hb3, hc2⟩)
      have HR2 : Kept (RefIn w w3 g h2 E c2) := ⟨⟨HR.out.below.trans (hb3.mono HR.out.below.size), HR.out.bytes.below hb3, hat⟩⟩
      clear hb3 hat hh ht
      go_roundw
      case rel =>
        have h1 := HNN.out
        refine ⟨k + 1, h2, q2, off2, n - 64, cc - 64, by omega, fun hh => ?_, by omega, by omega, rfl, rfl, by rw [HST.out, hc2.out]; exact HR2.out⟩
        rw [← HO.out, if_neg (by omega)]
        omega
      case measure => simp only [lenV]; omega
    · have hkM : k = M := by omega
      have hn0 : n = 0 := by omega
      have n0 : ¬ (0 : Int) < (n : Int) := by omega
      have HN0 := Kept.mk hn0
      generalize hst : absorb init E k = st at *
      have HST : Kept (absorb init E M = st) := ⟨by rw [← hst, hkM]⟩
      have HR := Kept.mk hR
      clear hst hR hoff hn hcc hn0
      go_wp2
      clear hlt hk hkM n0
      obtain ⟨wo, rfl⟩ : ∃ wo : World, wo = wr := ⟨_, rfl⟩
      have HWO : Kept (w.heap.size ≤ wo.heap.size) := ⟨HR.out.below.size⟩
      have hl8 : st.list.length = 8 := rfl
      have hH : RefHex w wo wo hg st.list (.slice none 0 0) (hexTo st.list 0 0) := ⟨HR.out.below, Nat.le_refl _, HR.out.cur.1, HR.out.cur, by simpa [hexTo] using By.Bs.nil _ _⟩
      have HH := Kept.mk hH
      generalize hq : st.list = l at *
      have HQ := Kept.mk hq
      have HL := Kept.mk hl8
      clear hq hl8 hH HR
      go_loopw [5, 6] (fun v x wr => ∃ (i : Nat) (A : Option Addr) (m c : Nat), i ≤ 8 ∧ x = .int .i64 (i : Int) ∧ v = .slice A m c ∧ RefHex w wo wr hg l (.slice A m c) (hexTo l i 0)) (fun _ x _ => 8 - (intOf x).toNat)
      case atStart => exact ⟨0, none, 0, 0, by omega, rfl, rfl, HH.out⟩
      case round =>
        clear HH
        obtain ⟨i, A, m, c, hi, rfl, rfl, hM⟩ := hrel
        by_cases hlt : i < 8
        · have HM0 := Kept.mk hM
          clear hM
          go_wp2
          simp only [show decide ((i : Int) < 8) = true from decide_eq_true (by omega)]
          obtain ⟨wi, rfl⟩ : ∃ wi : World, wi = wr := ⟨_, rfl⟩
          go_loopw [5, 7] (fun v x wr => ∃ (j : Nat) (A : Option Addr) (m c : Nat), j ≤ 8 ∧ x = .int .i64 (28 - 4 * (j : Int)) ∧ v = .slice A m c ∧ RefHex w wo wr hg l (.slice A m c) (hexTo l i j)) (fun _ x _ => (intOf x + 4).toNat)
          case atStart => exact ⟨0, _, _, _, by omega, rfl, rfl, HM0.out⟩
          case round =>
            clear HM0
            obtain ⟨j, A2, m2, c2, hj, rfl, rfl, hM⟩ := hrel
            by_cases hlt2 : j < 8
            · have cx := at_val hM.cur i (by rw [HL.out]; exact hlt)
              generalize hX : l.getD i 0 = X at *
              have HX := Kept.mk hX
              clear hX
              have a15 := and15 X j
              have hd : X.toNat / 2 ^ (28 - 4 * j) % 16 < 16 := Nat.mod_lt _ (by omega)
              generalize hD : X.toNat / 2 ^ (28 - 4 * j) % 16 = d at *
              have HD := Kept.mk hD
              clear hD
              have d0 : (0 : Int) ≤ (d : Int) := by omega
              have d1 : (d : Int) < 16 := by omega
              have s0 : (0 : Int) ≤ 28 - 4 * (j : Int) := by omega
              have s1 : 4 * (j : Int) ≤ 28 := by omega
              have s2 : (28 - 4 * (j : Int)).toNat = 28 - 4 * j := by omega
              have i0 : (0 : Int) ≤ (i : Int) := by omega
              have i1 : (i : Int) < 8 := by omega
              have HM := Kept.mk hM
              clear hM
              go_wp2_with (refine By.wpList_append1 byteTy rfl _ _ rfl rfl HM.out.bs HM.out.on (digits.getD d 0) _ (digit_at d _) rfl (hex_room l i j HL.out) ?_; intro v2 w2 hb2 hg2)
              obtain ⟨A', m', c', rfl, -, hb3⟩ := Bs.shape hb2 rfl
              clear hb2
              go_roundw
              case rel =>
                refine ⟨j + 1, A', m', c', by omega, by congr 1; omega, rfl, HM.out.step HWO.out ?_ hg2⟩
                have e : hexTo l i (j + 1) = hexTo l i j ++ [digits.getD d 0] := by
                  unfold hexTo
                  rw [HX.out, hex_next X j hlt2, HD.out, List.append_assoc]
                rw [e]
                exact hb3
              case measure => simp [intOf]; omega
            · have hj8 : j = 8 := by omega
              have HJ := Kept.mk hj8
              have n1 : ¬ (0 : Int) ≤ 28 - 4 * (j : Int) := by omega
              have n2 : (28 : Int) < 4 * (j : Int) := by omega
              have HM := Kept.mk hM
              clear hj8 hM
              go_wp2
              go_roundw
              case rel => exact ⟨i + 1, A2, m2, c2, by omega, by go_num, rfl, by rw [hexTo_next l i (by rw [HL.out]; exact hlt), ← HJ.out]; exact HM.out⟩
              case measure => simp [intOf]; omega
        · have hi8 : i = 8 := by omega
          have HI := Kept.mk hi8
          clear hi8
          go_wp2_with (refine By.wpList_string byteTy rfl 9 _ rfl Tryd.underlying9 rfl hM.bs ?_)
          go_ret
          refine ⟨⟨(hexTo l i 0).toArray⟩, rfl, hM.below, ⟨?_⟩⟩
          rw [HI.out, hexTo_all l HL.out, ← HQ.out, HST.out]
          rfl
theorem absorb_append (s : St) (l r : List UInt8) (q : Nat) (hl : l.length = 64 * q) : ∀ m, absorb s (l ++ r) (q + m) = absorb (absorb s l q) r m
  | 0 => by
    show absorb s (l ++ r) q = absorb s l q
    have : ∀ n, n ≤ q → absorb s (l ++ r) n = absorb s l n := by
      intro n
      induction n with
      | zero => intro _; rfl
      | succ n ih =>
        intro hn
        show compress (absorb s (l ++ r) n) _ = compress (absorb s l n) _
        rw [ih (by omega), List.drop_append_of_le_length (by omega), List.take_append_of_le_length (by rw [List.length_drop]; omega)]
    exact this q (Nat.le_refl _)
  | m + 1 => by
    show compress (absorb s (l ++ r) (q + m)) (((l ++ r).drop (64 * (q + m))).take 64) = compress (absorb (absorb s l q) r m) ((r.drop (64 * m)).take 64)
    rw [absorb_append s l r q hl m, show 64 * (q + m) = l.length + 64 * m by omega, List.drop_append]
    rw [List.drop_eq_nil_of_le (by omega), List.nil_append, show l.length + 64 * m - l.length = 64 * m by omega]
theorem sum_whole (l : List UInt8) : sum l = inHex (absorb init (ending l l.length) ((ending l l.length).length / 64)) := by
  have hq : ∃ q, l.length - l.length % 64 = 64 * q := ⟨l.length / 64, by omega⟩
  obtain ⟨q, hq⟩ := hq
  have ht : (l.take (64 * q)).length = 64 * q := by rw [List.length_take]; omega
  have hd : (l.drop (64 * q)).length = l.length - 64 * q := List.length_drop
  have he : ending l l.length = l.take (64 * q) ++ ending (l.drop (64 * q)) l.length := by
    have hn : noughts (l.drop (64 * q)).length = noughts l.length := by unfold noughts; rw [hd]; omega
    unfold ending
    rw [hn]
    simp only [← List.append_assoc, List.take_append_drop]
  have hm := (ending_length (l.drop (64 * q)) l.length (by omega)).1
  have hlen : (ending l l.length).length / 64 = q + (ending (l.drop (64 * q)) l.length).length / 64 := by rw [he, List.length_append, ht]; omega
  unfold sum
  simp only [hq]
  rw [hlen, he, absorb_append init _ _ q ht, show 64 * q / 64 = q by omega]
theorem refSum_any (s : ByteArray) (w : World) (hs : s.size ≤ 300) :
    Calls Tryd.prog 8 #[.string s] w fun e w' => ∃ t : ByteArray, e = .returned (.string t) ∧ Below w.heap.size w w' ∧ Kept (t = ⟨(sum s.data.toList).toArray⟩) := by
  have hl : s.data.toList.length = s.size := by simp
  obtain ⟨M, hM⟩ : ∃ M, (ending s.data.toList s.size).length = 64 * M := by
    have h : (ending s.data.toList s.size).length = s.size + 1 + noughts s.size + 8 := by
      unfold ending
      simp only [List.length_append, List.length_replicate, tail8_length, List.length_cons, List.length_nil, hl]
    refine ⟨(ending s.data.toList s.size).length / 64, ?_⟩
    rw [h]
    unfold noughts
    omega
  refine (refSum_aux s (ending s.data.toList s.size) M w hM (fun W => (padded_any s W hs).mono fun e w' ⟨g, c, h1, h2, h3, h4, h5⟩ => ⟨g, c, by rw [← hM]; exact h1, h2, h3, by rw [← hM]; exact h4, h5⟩)).mono fun e w' ⟨t, he, hb, ht⟩ => ⟨t, he, hb, ⟨?_⟩⟩
  rw [ht.out, sum_whole s.data.toList, hl, hM, show 64 * M / 64 = M by omega]
end Sha
end Go.Proofs.YtojncfnlcmacgaaDoor
