/-
  The program's Fields.
-/
import Derived.Test.YtjnhhkiabdbenaaDoorFp6
import Derived.BigRegion
namespace Go.Proofs.YtjnhhkiabdbenaaDoor
open Go.RowKit Tx
namespace Fd

set_option maxHeartbeats 2000000 in
set_option maxRecDepth 100000 in
theorem fields_any (l : List Sg) (A : Option Addr) (n k : Nat) (s : ByteArray) (w : World) (hK : Kit w) (hR : Rg w A l) (hn : l.length = n) (hk : ∀ g ∈ l, g.kind ≤ 3) (hw : wt l ≤ 3000) (hs : s.size ≤ 2000) (hn2 : n ≤ 100000) :
    Calls Tryd.prog 10 #[.slice A n k, .string s] w fun e w' => ∃ C q, e = .returned (.slice C (fieldsOf (toL s) l).length q) ∧ Kept (Rd w' C ((fieldsOf (toL s) l).map bs)) ∧ Below w.heap.size w w' := by
  have HR := Kept.mk hR
  have HK := Kept.mk (hK.kb (Nat.le_refl w.heap.size))
  have HN := Kept.mk hn
  have HQ := Kept.mk hk
  have HW := Kept.mk hw
  have HS := Kept.mk hs
  obtain ⟨b, hb⟩ : ∃ b, b = w.heap.size := ⟨_, rfl⟩
  have Hb := Kept.mk hb
  clear hK hR hn hk hw hs hb
  go_enter Tryd.func10, Tryd.ntmps10
  go_wp2_with fail
  go_at_call 15
  refine (new_any s w HS.out).mono ?_
  rintro e W ⟨rfl, h1, h2⟩
  have HX := h1
  have HB := h2
  clear h1 h2
  rw [← Hb.out] at HX HB HK ⊢
  go_wp2_with fail
  go_loopw [12] (fun i wr => ∃ j : Nat, j ≤ n ∧ i = .int .i64 (j : Int) ∧ Kept (SX b b (toL s) (segs (toL s) St.init (l.take j)) wr) ∧ Kept (Below b w wr)) (fun i _ => n - (intOf i).toNat)
  case atStart => exact ⟨0, by omega, rfl, HX, HB⟩
  case round =>
    clear HX HB
    obtain ⟨j, hj, rfl, HM, HB⟩ := hrel
    by_cases hlt : j < n
    · have hl2 : (j : Int) < (n : Int) := by omega
      have hj0 : (0 : Int) ≤ (j : Int) := by omega
      have hlj : j < l.length := by rw [HN.out]; exact hlt
      obtain ⟨g, hA, hg, c0, c1⟩ := (HR.out.up (by rw [Hb.out]; exact Nat.le_refl _) HB.out) j hlj
      subst hA
      obtain ⟨kd, hkd⟩ : ∃ kd, kd = l[j].kind := ⟨_, rfl⟩
      obtain ⟨tx, htx⟩ : ∃ tx, tx = bs l[j].text := ⟨_, rfl⟩
      have HKd := Kept.mk hkd
      have HTx := Kept.mk htx
      rw [← hkd] at c0
      rw [← htx] at c1
      have HL : Kept (j < l.length) := ⟨hlj⟩
      clear hkd htx
      go_wp2_with fail
      have hb0 : Below wr.heap.size wr (wr.alloc (.cells #[.int .i64 (kd : Int), .string tx] 32)) := (Below.refl _ _).alloc (Nat.le_refl _) _
      have HX0 := Kept.mk (HM.out.below hb0)
      have HB0 := Kept.mk (HB.out.trans (hb0.mono (by have := HB.out.size; have := Hb.out; omega)))
      clear hb0
      have HT0 : Kept (Calls Tryd.prog 16 #[.pointer (some ⟨b, 0, none⟩), .agg #[.int .i64 (kd : Int), .string tx]] (wr.alloc (.cells #[.int .i64 (kd : Int), .string tx] 32)) (Left b b (toL s) (segs (toL s) St.init (l.take (j + 1))) (wr.alloc (.cells #[.int .i64 (kd : Int), .string tx] 32)))) := ⟨by
        have h1 := size_segs (toL s) (l.take j) St.init
        have h2 := wt_take l j
        have h3 := wt_at hlj
        have h4 : St.init.size = 0 := rfl
        have := HW.out
        rw [segs_take _ _ _ _ hlj, HKd.out, HTx.out]
        refine take_any b b (toL s) _ l[j] _ ?_ (HK.out.far ?_) (HQ.out _ (List.getElem_mem hlj)) (by omega) (by omega)
        · have := HX0.out; rwa [HKd.out, HTx.out] at this
        · have := HB0.out; rwa [HKd.out, HTx.out] at this⟩
      go_at_call 16
      refine HT0.out.mono ?_
      rintro e w3 ⟨rfl, h3, hb3⟩
      have HB3 := Kept.mk (HB0.out.trans hb3.out.bel)
      clear hb3
      go_wp2_with fail
      go_roundw
      case rel => exact ⟨j + 1, by omega, by go_num, h3, HB3⟩
      case measure => simp [intOf]; omega
    · obtain rfl : j = n := by omega
      have HT : Kept (SX b b (toL s) (segs (toL s) St.init l) wr) := ⟨by
        have := HM.out
        rwa [List.take_of_length_le (by rw [HN.out]; exact Nat.le_refl _)] at this⟩
      have HZ : Kept ((segs (toL s) St.init l).out.length ≤ 90000) := ⟨by
        have h1 := size_segs (toL s) l St.init
        have h4 : St.init.size = 0 := rfl
        have := HW.out
        unfold St.size at h1 h4
        omega⟩
      clear HM hlt
      go_wp2_with fail
      go_at_call 17
      refine (end_any b b (toL s) _ _ HT.out HZ.out).mono ?_
      rintro e w3 ⟨rfl, ⟨u, v, sp, ⟨h3⟩⟩, ⟨hb3⟩⟩
      have HB3 := Kept.mk (HB.out.trans hb3.bel)
      obtain ⟨C, q, rfl, hRd⟩ := own_rd h3.outs
      have HRd := Kept.mk hRd
      have c6 := h3.c6
      clear h3 hb3 hRd
      go_wp2_with fail
      go_ret
      exact ⟨C, q, rfl, HRd, by have h9 := HB3.out; rw [Hb.out] at h9; exact h9⟩
end Fd
end Go.Proofs.YtjnhhkiabdbenaaDoor
