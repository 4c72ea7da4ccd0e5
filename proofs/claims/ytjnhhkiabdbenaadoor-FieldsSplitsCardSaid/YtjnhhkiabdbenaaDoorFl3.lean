/-
  The law on blanks; the law of one whole field.
-/
import Derived.Test.YtjnhhkiabdbenaaDoorFl2
namespace Go.Proofs.YtjnhhkiabdbenaaDoor
open Go.RowKit Tx
namespace Fd

/-- The program's Fields of one segment. -/
theorem fields_one (k : Int) (kn : Nat) (hk : k = (kn : Int)) (s f : ByteArray) (r : List (List UInt8)) (N : Nat) (w : World) (hr : Kept (fieldsOf (toL f) [⟨kn, toL s⟩] = r)) (hN : r.length = N) (hK : Kit w) (hkn : kn ≤ 3) (hs : s.size ≤ 900) (hf : f.size ≤ 2000) :
    Calls Tryd.prog 10 #[.slice (some ⟨w.heap.size, 0, none⟩) 1 1, .string f] (w.alloc (.cells #[.int .i64 k, .string s] 32)) fun e w' => ∃ C q, e = .returned (.slice C N q) ∧ Kept (Rd w' C (r.map bs)) ∧ Below w.heap.size w w' := by
  subst hk hN
  have hb0 : Below w.heap.size w (w.alloc (.cells (svs [⟨kn, toL s⟩]).toArray 32)) := (Below.refl _ _).alloc (Nat.le_refl _) _
  have c := fields_lit [⟨kn, toL s⟩] r (some ⟨w.heap.size, 0, none⟩) 1 1 f (w.alloc (.cells (svs [⟨kn, toL s⟩]).toArray 32)) hr (hK.below hb0) (Rg.fresh w _ _) rfl (fun g hg => by rw [List.mem_singleton] at hg; subst hg; exact hkn) (by show wt [⟨kn, toL s⟩] ≤ 3000; simp [wt, toL_length]; omega) hf (by decide)
  have e : (svs [⟨kn, toL s⟩]).toArray = #[.int .i64 (kn : Int), .string s] := by
    unfold svs
    simp [bs_toL]
  rw [e] at c hb0
  refine c.mono ?_
  rintro e w' ⟨C, q, h1, h2, h3⟩
  exact ⟨C, q, h1, h2, hb0.trans (h3.mono hb0.size)⟩
theorem ne_nil {x : List UInt8} (h : x ≠ []) : ((bs x).toList == ([] : List UInt8)) = false := by
  rw [ByteArray.toList_eq]
  show (toL (bs x) == []) = false
  rw [toL_bs]
  cases x with
  | nil => exact absurd rfl h
  | cons _ _ => rfl
set_option maxHeartbeats 4000000 in
set_option maxRecDepth 100000 in
theorem blanks_any (s t : ByteArray) (w : World) (hK : Kit w) : Calls Tryd.prog 5 #[.string s, .string t] w fun e w' => e = .returned (.bool true) ∧ Below w.heap.size w w' := by
  have HA := Kept.mk (awake_any w hK)
  have HK := Kept.mk hK
  clear hK
  by_cases hs : s.size ≤ 300
  · by_cases ht : t.size ≤ 300
    · have z1 : ¬ (300 : Int) < (s.size : Int) := by omega
      have z2 : ¬ (300 : Int) < (t.size : Int) := by omega
      have b1 : ¬ 9223372036854775807 < 2 + s.size := by omega
      have b2 : ¬ 9223372036854775807 < 2 + s.size + 2 := by omega
      obtain ⟨ra, hra⟩ : ∃ ra, ra = fieldsOf wsp [⟨2, toL s⟩] := ⟨_, rfl⟩
      have HFa : Kept (fieldsOf (toL ⟨#[32, 9, 10]⟩) [⟨2, toL s⟩] = ra) := ⟨hra.symm⟩
      have HFb : Kept (fieldsOf (toL ⟨#[32, 9, 10]⟩) [⟨2, toL ((⟨#[32, 10]⟩ : ByteArray) ++ s ++ (⟨#[9, 32]⟩ : ByteArray))⟩] = ra) := ⟨by
        rw [Pm.toL_app, Pm.toL_app]
        exact (split_blanks (toL s)).trans hra.symm⟩
      have HFc : Kept (fieldsOf (toL ⟨#[32, 9, 10, 58]⟩) [⟨1, toL t⟩] = [Pm.esc (toL t)]) := ⟨rfl⟩
      have HNe : Kept (∀ o ∈ ra, o ≠ []) := ⟨by rw [hra]; exact split_full (toL s)⟩
      have HLn : Kept (ra.length ≤ 2000) := ⟨by
        have h1 := fields_size wsp [⟨2, toL s⟩]
        have h2 : wt [⟨2, toL s⟩] = 2 * s.size + 1 := by simp [wt, toL_length]
        rw [hra]; omega⟩
      have HSz : Kept (s.size ≤ 300 ∧ t.size ≤ 300) := ⟨hs, ht⟩
      obtain ⟨N, hN⟩ : ∃ N, ra.length = N := ⟨_, rfl⟩
      have HN := Kept.mk hN
      have HZb : Kept (((⟨#[32, 10]⟩ : ByteArray) ++ s ++ (⟨#[9, 32]⟩ : ByteArray)).size ≤ 900) := ⟨by simp only [ByteArray.size_append]; show 2 + s.size + 2 ≤ 900; omega⟩
      clear hs ht hra hN
      go_enter Tryd.func5, Tryd.ntmps5
      go_wp2_with fail
      go_at_call 8
      refine HA.out.mono ?_
      rintro e w1 ⟨rfl, hb⟩
      have HB1 := Kept.mk hb
      clear hb HA
      go_wp2_with fail
      go_at_call 10
      refine (fields_one 2 2 rfl s ⟨#[32, 9, 10]⟩ ra N w1 HFa HN.out (HK.out.below HB1.out) (by decide) (by have := HSz.out.1; omega) (by decide)).mono ?_
      rintro e w2 ⟨Ca, qa, rfl, hRa, hb⟩
      have HB2 := Kept.mk (HB1.out.trans (hb.mono HB1.out.size))
      have HRa := hRa
      clear hb hRa
      go_wp2_with fail
      go_at_call 10
      refine (fields_one 2 2 rfl ((⟨#[32, 10]⟩ : ByteArray) ++ s ++ (⟨#[9, 32]⟩ : ByteArray)) ⟨#[32, 9, 10]⟩ ra N w2 HFb HN.out (HK.out.below HB2.out) (by decide) HZb.out (by decide)).mono ?_
      rintro e w3 ⟨Cb, qb, rfl, hRb, hb⟩
      have HB3 := Kept.mk (HB2.out.trans (hb.mono HB2.out.size))
      have HRa3 := Kept.mk (HRa.out.below hb)
      have HRb3 := hRb
      clear hb hRb HRa
      go_wp2_with fail
      go_loop [8] (fun i => ∃ j : Nat, j ≤ N ∧ i = .int .i64 (j : Int)) (fun i => N - (intOf i).toNat)
      case atStart => exact ⟨0, by omega, rfl⟩
      case round =>
        obtain ⟨j, hj, rfl⟩ := hrel
        by_cases hlt : j < N
        · have hl2 : (j : Int) < (N : Int) := by omega
          have hj0 : (0 : Int) ≤ (j : Int) := by omega
          have hj5 : (j : Int) ≤ 2000 := by have := HLn.out; rw [HN.out] at this; omega
          have hjl : j < ra.length := by rw [HN.out]; exact hlt
          obtain ⟨g, off, hA, hg, hc⟩ := HRa3.out j (by rw [List.length_map]; exact hjl)
          rw [List.getElem_map] at hc
          have hne := ne_nil (HNe.out _ (List.getElem_mem hjl))
          generalize bs ra[j] = x at hc hne
          subst hA
          go_wp2_with fail
          go_round
          case rel => exact ⟨j + 1, by omega, by go_num⟩
          case measure => simp [intOf]; omega
        · obtain rfl : j = N := by omega
          clear hlt
          have HS := Kept.mk (fun W : World => fun h1 h2 => same_any (ra.map bs) (ra.map bs) Ca Cb j qa j qb W h1 h2 (by rw [List.length_map]; exact HN.out) (by rw [List.length_map]; exact HN.out) (by have := HLn.out; rw [HN.out] at this; omega) (by have := HLn.out; rw [HN.out] at this; omega))
          go_wp2_with fail
          go_at_call 10
          refine (fields_one 1 1 rfl t ⟨#[32, 9, 10, 58]⟩ [Pm.esc (toL t)] 1 w3 HFc rfl (HK.out.below HB3.out) (by decide) (by have := HSz.out.2; omega) (by decide)).mono ?_
          rintro e w4 ⟨Cc, qc, rfl, _, hb⟩
          have HB4 := Kept.mk (HB3.out.trans (hb.mono HB3.out.size))
          have hS := HS.out w4 (HRa3.out.below hb) (HRb3.out.below hb)
          clear hb HS
          replace hS := Kept.mk hS
          go_wp2_with fail
          go_at_call 9
          refine hS.out.mono ?_
          rintro e w5 ⟨he, hb⟩
          have he2 : e = .returned (.bool true) := by rw [he]; simp
          subst he2
          have HB5 := Kept.mk (HB4.out.trans (hb.mono HB4.out.size))
          clear hb he hS
          go_wp2_with fail
          go_ret
          exact ⟨rfl, HB5.out⟩
    · have z1 : ¬ (300 : Int) < (s.size : Int) := by omega
      have z2 : (300 : Int) < (t.size : Int) := by omega
      clear hs ht
      go_enter Tryd.func5, Tryd.ntmps5
      go_wp2_with fail
      go_at_call 8
      refine HA.out.mono ?_
      rintro e w1 ⟨rfl, hb⟩
      have HB1 := Kept.mk hb
      clear hb HA
      go_wp2_with fail
      go_ret
      exact ⟨rfl, HB1.out⟩
  · have z1 : (300 : Int) < (s.size : Int) := by omega
    clear hs
    go_enter Tryd.func5, Tryd.ntmps5
    go_wp2_with fail
    go_at_call 8
    refine HA.out.mono ?_
    rintro e w1 ⟨rfl, hb⟩
    have HB1 := Kept.mk hb
    clear hb HA
    go_wp2_with fail
    go_ret
    exact ⟨rfl, HB1.out⟩
end Fd
end Go.Proofs.YtjnhhkiabdbenaaDoor
