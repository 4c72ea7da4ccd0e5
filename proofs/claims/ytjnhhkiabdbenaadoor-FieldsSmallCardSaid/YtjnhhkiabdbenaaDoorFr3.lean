/-
  The document's Fields.
-/
import Derived.Test.YtjnhhkiabdbenaaDoorFr2
import Derived.Test.YtjnhhkiabdbenaaDoorFs
import Derived.Test.YtjnhhkiabdbenaaDoorTake2
namespace Go.Proofs.YtjnhhkiabdbenaaDoor
open Go.RowKit Tx
namespace Fd
open Pm (esc)

theorem DM.start (w : World) : DM w.heap.size w.heap.size (.slice none 0 0) [] [] false false (w.alloc (.cells #[.slice none 0 0, .string ⟨#[]⟩, .bool false, .bool false] 48)) :=
  ⟨heap_alloc_new w _, World.ownsRow_nil _ _ _ _, Nat.le_refl _⟩
set_option maxHeartbeats 4000000 in
set_option maxRecDepth 100000 in
theorem refFields_any (l : List Sg) (A : Option Addr) (n k : Nat) (s : ByteArray) (w : World) (hR : Rg w A l) (hn : l.length = n) (hk : ∀ g ∈ l, g.kind ≤ 3) (hw : wt l ≤ 1900) (hs : s.size ≤ 2000) (hn2 : n ≤ 100000) :
    Calls Tryd.prog 11 #[.slice A n k, .string s] w fun e w' => ∃ C q, e = .returned (.slice C (fieldsOf (toL s) l).length q) ∧ Kept (Rd w' C ((fieldsOf (toL s) l).map bs)) ∧ Below w.heap.size w w' := by
  have HR := Kept.mk hR
  have HN := Kept.mk hn
  have HQ := Kept.mk hk
  have HW := Kept.mk hw
  have HS := Kept.mk hs
  obtain ⟨b, hb⟩ : ∃ b, b = w.heap.size := ⟨_, rfl⟩
  have Hb := Kept.mk hb
  have H0 : Kept (DX b b St.init (w.alloc (.cells #[.slice none 0 0, .string ⟨#[]⟩, .bool false, .bool false] 48))) := ⟨by rw [hb]; exact ⟨_, DM.start w⟩⟩
  have HB0 : Kept (Below b w (w.alloc (.cells #[.slice none 0 0, .string ⟨#[]⟩, .bool false, .bool false] 48))) := ⟨by rw [hb]; exact (Below.refl _ _).alloc (Nat.le_refl _) _⟩
  clear hR hn hk hw hs hb
  go_enter Tryd.func11, Tryd.ntmps11
  go_wp2_with fail
  rw [← Hb.out]
  generalize World.alloc _ _ = W at *
  go_loopw [6] (fun i wr => ∃ j : Nat, j ≤ n ∧ i = .int .i64 (j : Int) ∧ Kept (DX b b (segs (toL s) St.init (l.take j)) wr) ∧ Kept (Below b w wr)) (fun i _ => n - (intOf i).toNat)
  case atStart => exact ⟨0, by omega, rfl, H0, HB0⟩
  case round =>
    clear H0 HB0
    obtain ⟨j, hj, rfl, HM, HB⟩ := hrel
    by_cases hlt : j < n
    · have hl2 : (j : Int) < (n : Int) := by omega
      have hj0 : (0 : Int) ≤ (j : Int) := by omega
      have hlj : j < l.length := by rw [HN.out]; exact hlt
      obtain ⟨g, hA, hg, c0, c1⟩ := (HR.out.up (by rw [Hb.out]; exact Nat.le_refl _) HB.out) j hlj
      subst hA
      have HJ : Kept (∀ x, x = seg (toL s) (segs (toL s) St.init (l.take j)) l[j] → x = segs (toL s) St.init (l.take (j + 1))) := ⟨fun x hx => by rw [hx, segs_take _ _ _ _ hlj]⟩
      have HT0 : Kept (l[j].kind ≤ 3 ∧ l[j].text.length ≤ 950 ∧ (segs (toL s) St.init (l.take j)).size ≤ 1900) := ⟨by
        have h1 := size_segs (toL s) (l.take j) St.init
        have h2 := wt_take l j
        have h3 := wt_at hlj
        have h4 : St.init.size = 0 := rfl
        have := HW.out
        exact ⟨HQ.out _ (List.getElem_mem hlj), by omega, by omega⟩⟩
      generalize l[j] = gg at c0 c1 HJ HT0
      generalize segs (toL s) St.init (l.take j) = x at HM HJ HT0
      obtain ⟨kd, tx⟩ := gg
      simp only at c0 c1 HT0
      obtain ⟨T, hT⟩ : ∃ T, T = bs tx := ⟨_, rfl⟩
      have HTx : Kept (toL T = tx ∧ T.size = tx.length) := ⟨by rw [hT, toL_bs, bs_size]; exact ⟨rfl, rfl⟩⟩
      rw [← hT] at c1
      have HTs : Kept (T.size ≤ 950) := ⟨by rw [HTx.out.2]; exact HT0.out.2.1⟩
      obtain ⟨u, hm⟩ := HM.out
      have hk4 : kd = 0 ∨ kd = 1 ∨ kd = 2 ∨ kd = 3 := by have := HT0.out.1; omega
      clear hT
      rcases hk4 with rfl | rfl | rfl | rfl
      · have HA := Kept.mk (fun W : World => active_any T W (by have := HTs.out; omega))
        rw [HTx.out.1] at HA
        obtain ⟨z, hz9⟩ : ∃ z, z = bs (dbl tx) := ⟨_, rfl⟩
        rw [← hz9] at HA
        have HZ : Kept (z.size ≤ 1900) := ⟨by have := (dbl_length tx).1; rw [hz9, bs_size]; have := HT0.out.2.1; omega⟩
        obtain ⟨cu, hcu⟩ : ∃ cu, cu = bs x.cur := ⟨_, rfl⟩
        have HAll := Kept.mk (fun (p q : Bool) => hm.drew.all (x.cur ++ dbl tx) p q)
        have HS2 : Kept (segs (toL s) St.init (l.take (j + 1)) = ⟨x.out, x.cur ++ dbl tx, x.has || !tx.isEmpty, x.gap && tx.isEmpty⟩) := ⟨(HJ.out _ rfl).symm⟩
        have HCu : Kept (bs (x.cur ++ dbl tx) = cu ++ z) := ⟨by rw [hcu, hz9, bs_append]⟩
        rw [HCu.out] at HAll
        have hsum : ¬ 9223372036854775807 < cu.size + z.size := by have := HT0.out.2.2; have := HZ.out; unfold St.size at *; rw [hcu, bs_size]; omega
        have hE : (T.toList == ([] : List UInt8)) = tx.isEmpty := by
          rw [← HTx.out.1, ByteArray.toList_eq]
          unfold toL
          cases T.data.toList <;> rfl
        have hE2 : (T.toList != ([] : List UInt8)) = !tx.isEmpty := by rw [bne, hE]
        have c1 := hm.c1
        have c1d := hm.drew.c1
        rw [← hcu] at c1 c1d
        have c2 := hm.c2
        have c3 := hm.c3
        have c2d := hm.drew.c2
        have c3d := hm.drew.c3
        have f1 := hm.fz 1
        have f2 := hm.fz 2
        have f3 := hm.fz 3
        have f1d := hm.drew.fz 1
        have f2d := hm.drew.fz 2
        have f3d := hm.drew.fz 3
        generalize tx.isEmpty = te at hE hE2 HS2
        clear hm hcu hz9
        cases hh : x.has with
        | false =>
          rw [hh] at c2 c2d
          cases hg : x.gap with
          | false =>
            rw [hg] at c3 c3d
            have HS3 : Kept (segs (toL s) St.init (l.take (j + 1)) = ⟨x.out, x.cur ++ dbl tx, _, _⟩) := ⟨HS2.out.trans (by rw [hh, hg])⟩
            simp only [Bool.false_or, Bool.false_and] at HS3
            clear hh hg
            go_wp2_with fail
            refine Tk.start (T := Tk.At 28 wr.drew) (by kernel_rfl) ?_
            refine Tk.easy (i := 0) (d := some 28) (v := .pointer (some ⟨b, 0, none⟩)) rfl (by decide) (by kernel_rfl) (by kernel_rfl) (by kernel_rfl) (fun _ _ _ h => h) (by rfl) (by
              intro oi hoi w9
              cases hoi
              go_simp) ?_
            simp only [Act.put, List.setIfInBounds_toArray, List.set_cons_zero, List.set_cons_succ]
            refine Tk.easy (i := 1) (d := some 29) (v := .pointer (some ⟨b, 0, none⟩)) rfl (by decide) (by kernel_rfl) (by kernel_rfl) (by kernel_rfl) (fun _ _ _ h => h) (by rfl) (by
              intro oi hoi w9
              cases hoi
              go_simp) ?_
            simp only [Act.put, List.setIfInBounds_toArray, List.set_cons_zero, List.set_cons_succ]
            refine Tk.easy (i := 2) (d := some 30) (v := .pointer (some ⟨b, 0, none⟩)) rfl (by decide) (by kernel_rfl) (by kernel_rfl) (by kernel_rfl) (fun _ _ _ h => h) (by rfl) (by
              intro oi hoi w9
              cases hoi
              go_simp) ?_
            simp only [Act.put, List.setIfInBounds_toArray, List.set_cons_zero, List.set_cons_succ]
            refine Tk.easy (i := 3) (d := some 31) (v := .pointer (some ⟨b, 0, none⟩)) rfl (by decide) (by kernel_rfl) (by kernel_rfl) (by kernel_rfl) (fun _ _ _ h => h) (by rfl) (by
              intro oi hoi w9
              cases hoi
              go_simp) ?_
            simp only [Act.put, List.setIfInBounds_toArray, List.set_cons_zero, List.set_cons_succ]
            refine Tk.easy (i := 4) (d := some 32) (v := .pointer (some ⟨b, 0, none⟩)) rfl (by decide) (by kernel_rfl) (by kernel_rfl) (by kernel_rfl) (fun _ _ _ h => h) (by rfl) (by
              intro oi hoi w9
              cases hoi
              go_simp) ?_
            simp only [Act.put, List.setIfInBounds_toArray, List.set_cons_zero, List.set_cons_succ]
            refine Tk.easy (i := 5) (d := some 33) (v := .pointer (some ⟨b, 1, none⟩)) rfl (by decide) (by kernel_rfl) (by kernel_rfl) (by kernel_rfl) (fun _ _ _ h => h) (by rfl) (by
              intro oi hoi w9
              cases hoi
              go_simp) ?_
            simp only [Act.put, List.setIfInBounds_toArray, List.set_cons_zero, List.set_cons_succ]
            refine Tk.take (i := 6) (d := some 34) (v := .string cu) rfl (by decide) (by kernel_rfl) (by kernel_rfl) (by kernel_rfl) (fun _ _ _ h => h) (by kernel_rfl) (by kernel_rfl) (by rfl) (by
              intro oi hoi
              cases hoi
              go_simp) ?_
            simp only [Act.put, List.setIfInBounds_toArray, List.set_cons_zero, List.set_cons_succ]
            refine Tk.easy (i := 7) (d := some 35) (v := .string T) rfl (by decide) (by kernel_rfl) (by kernel_rfl) (by kernel_rfl) (fun _ _ _ h => h) (by rfl) (by
              intro oi hoi w9
              cases hoi
              go_simp) ?_
            simp only [Act.put, List.setIfInBounds_toArray, List.set_cons_zero, List.set_cons_succ]
            refine Tk.easy (i := 10) (d := some 38) (v := .pointer (some ⟨b, 0, none⟩)) rfl (by decide) (by kernel_rfl) (by kernel_rfl) (by kernel_rfl) (fun _ _ _ h => h) (by rfl) (by
              intro oi hoi w9
              cases hoi
              go_simp) ?_
            simp only [Act.put, List.setIfInBounds_toArray, List.set_cons_zero, List.set_cons_succ]
            refine Tk.easy (i := 11) (d := some 39) (v := .pointer (some ⟨b, 0, none⟩)) rfl (by decide) (by kernel_rfl) (by kernel_rfl) (by kernel_rfl) (fun _ _ _ h => h) (by rfl) (by
              intro oi hoi w9
              cases hoi
              go_simp) ?_
            simp only [Act.put, List.setIfInBounds_toArray, List.set_cons_zero, List.set_cons_succ]
            refine Tk.easy (i := 12) (d := some 40) (v := .pointer (some ⟨b, 2, none⟩)) rfl (by decide) (by kernel_rfl) (by kernel_rfl) (by kernel_rfl) (fun _ _ _ h => h) (by rfl) (by
              intro oi hoi w9
              cases hoi
              go_simp) ?_
            simp only [Act.put, List.setIfInBounds_toArray, List.set_cons_zero, List.set_cons_succ]
            refine Tk.take (i := 13) (d := some 41) (v := .bool false) rfl (by decide) (by kernel_rfl) (by kernel_rfl) (by kernel_rfl) (fun _ _ _ h => h) (by kernel_rfl) (by kernel_rfl) (by rfl) (by
              intro oi hoi
              cases hoi
              go_simp) ?_
            simp only [Act.put, List.setIfInBounds_toArray, List.set_cons_zero, List.set_cons_succ]
            refine Tk.easy (i := 18) (d := some 46) (v := .pointer (some ⟨b, 0, none⟩)) rfl (by decide) (by kernel_rfl) (by kernel_rfl) (by kernel_rfl) (fun _ _ _ h => h) (by rfl) (by
              intro oi hoi w9
              cases hoi
              go_simp) ?_
            simp only [Act.put, List.setIfInBounds_toArray, List.set_cons_zero, List.set_cons_succ]
            refine Tk.easy (i := 19) (d := some 47) (v := .pointer (some ⟨b, 0, none⟩)) rfl (by decide) (by kernel_rfl) (by kernel_rfl) (by kernel_rfl) (fun _ _ _ h => h) (by rfl) (by
              intro oi hoi w9
              cases hoi
              go_simp) ?_
            simp only [Act.put, List.setIfInBounds_toArray, List.set_cons_zero, List.set_cons_succ]
            refine Tk.easy (i := 20) (d := some 48) (v := .pointer (some ⟨b, 3, none⟩)) rfl (by decide) (by kernel_rfl) (by kernel_rfl) (by kernel_rfl) (fun _ _ _ h => h) (by rfl) (by
              intro oi hoi w9
              cases hoi
              go_simp) ?_
            simp only [Act.put, List.setIfInBounds_toArray, List.set_cons_zero, List.set_cons_succ]
            refine Tk.take (i := 21) (d := some 49) (v := .bool false) rfl (by decide) (by kernel_rfl) (by kernel_rfl) (by kernel_rfl) (fun _ _ _ h => h) (by kernel_rfl) (by kernel_rfl) (by rfl) (by
              intro oi hoi
              cases hoi
              go_simp) ?_
            simp only [Act.put, List.setIfInBounds_toArray, List.set_cons_zero, List.set_cons_succ]
            refine Tk.Any.only (i := 8) (by kernel_rfl) rfl (fun K hK => ?_)
            go_simp
            go_at_call 18
            refine (HA.out _).mono ?_
            rintro e w5 ⟨rfl, rfl⟩
            refine hK.out _ _ (fun _ => rfl) ?_
            clear hK
            try simp only [Act.put, List.setIfInBounds_toArray, List.set_cons_zero, List.set_cons_succ]
            refine Tk.easy (i := 9) (d := some 37) (v := .string (cu ++ z)) rfl (by decide) (by kernel_rfl) (by kernel_rfl) (by kernel_rfl) (fun _ _ _ h => h) (by rfl) (by
              intro oi hoi w9
              cases hoi
              go_simp) ?_
            simp only [Act.put, List.setIfInBounds_toArray, List.set_cons_zero, List.set_cons_succ]
            refine Tk.easy (i := 14) (d := some 42) (v := .bool false) rfl (by decide) (by kernel_rfl) (by kernel_rfl) (by kernel_rfl) (fun _ _ _ h => h) (by rfl) (by
              intro oi hoi w9
              cases hoi
              go_simp) ?_
            simp only [Act.put, List.setIfInBounds_toArray, List.set_cons_zero, List.set_cons_succ]
            refine Tk.easy (i := 15) (d := some 43) (v := .string T) rfl (by decide) (by kernel_rfl) (by kernel_rfl) (by kernel_rfl) (fun _ _ _ h => h) (by rfl) (by
              intro oi hoi w9
              cases hoi
              go_simp) ?_
            simp only [Act.put, List.setIfInBounds_toArray, List.set_cons_zero, List.set_cons_succ]
            refine Tk.easy (i := 16) (d := some 44) (v := .bool (!te)) rfl (by decide) (by kernel_rfl) (by kernel_rfl) (by kernel_rfl) (fun _ _ _ h => h) (by rfl) (by
              intro oi hoi w9
              cases hoi
              go_simp) ?_
            simp only [Act.put, List.setIfInBounds_toArray, List.set_cons_zero, List.set_cons_succ]
            refine Tk.easy (i := 17) (d := some 45) (v := .bool (!te)) rfl (by decide) (by kernel_rfl) (by kernel_rfl) (by kernel_rfl) (fun _ _ _ h => h) (by rfl) (by
              intro oi hoi w9
              cases hoi
              go_simp) ?_
            simp only [Act.put, List.setIfInBounds_toArray, List.set_cons_zero, List.set_cons_succ]
            refine Tk.easy (i := 22) (d := some 50) (v := .bool false) rfl (by decide) (by kernel_rfl) (by kernel_rfl) (by kernel_rfl) (fun _ _ _ h => h) (by rfl) (by
              intro oi hoi w9
              cases hoi
              go_simp) ?_
            simp only [Act.put, List.setIfInBounds_toArray, List.set_cons_zero, List.set_cons_succ]
            refine Tk.skip (i := 23) (d := some 51) rfl (by decide) (by kernel_rfl) (by kernel_rfl) (by kernel_rfl) (fun _ _ _ h => h) (by rfl) ?_
            simp only [Act.put, List.setIfInBounds_toArray, List.set_cons_zero, List.set_cons_succ]
            refine Tk.skip (i := 24) (d := some 52) rfl (by decide) (by kernel_rfl) (by kernel_rfl) (by kernel_rfl) (fun _ _ _ h => h) (by rfl) ?_
            simp only [Act.put, List.setIfInBounds_toArray, List.set_cons_zero, List.set_cons_succ]
            refine Tk.easy (i := 25) (d := some 53) (v := .bool false) rfl (by decide) (by kernel_rfl) (by kernel_rfl) (by kernel_rfl) (fun _ _ _ h => h) (by rfl) (by
              intro oi hoi w9
              cases hoi
              go_simp) ?_
            simp only [Act.put, List.setIfInBounds_toArray, List.set_cons_zero, List.set_cons_succ]
            refine Tk.easy (i := 26) (d := some 54) (v := .pointer (some ⟨b, 0, none⟩)) rfl (by decide) (by kernel_rfl) (by kernel_rfl) (by kernel_rfl) (fun _ _ _ h => h) (by rfl) (by
              intro oi hoi w9
              cases hoi
              go_simp) ?_
            simp only [Act.put, List.setIfInBounds_toArray, List.set_cons_zero, List.set_cons_succ]
            refine Tk.easy (i := 27) (d := some 55) (v := .pointer (some ⟨b, 1, none⟩)) rfl (by decide) (by kernel_rfl) (by kernel_rfl) (by kernel_rfl) (fun _ _ _ h => h) (by rfl) (by
              intro oi hoi w9
              cases hoi
              go_simp) ?_
            simp only [Act.put, List.setIfInBounds_toArray, List.set_cons_zero, List.set_cons_succ]
            refine Tk.Any.only (i := 28) (by kernel_rfl) rfl (fun K hK => ?_)
            go_simp
            refine hK.out _ _ (fun h => by cases h) ?_
            clear hK
            try simp only [Act.put, List.setIfInBounds_toArray, List.set_cons_zero, List.set_cons_succ]
            refine Tk.Any.only (i := 29) (by kernel_rfl) rfl (fun K hK => ?_)
            go_simp
            refine hK.out _ _ (fun h => by cases h) ?_
            clear hK
            try simp only [Act.put, List.setIfInBounds_toArray, List.set_cons_zero, List.set_cons_succ]
            refine Tk.Any.only (i := 30) (by kernel_rfl) rfl (fun K hK => ?_)
            go_simp
            refine hK.out _ _ (fun h => by cases h) ?_
            clear hK
            try simp only [Act.put, List.setIfInBounds_toArray, List.set_cons_zero, List.set_cons_succ]
            refine Tk.Any.only (i := 31) (by kernel_rfl) rfl (fun K hK => ?_)
            go_simp
            refine hK.out _ _ (fun h => by cases h) ?_
            clear hK
            try simp only [Act.put, List.setIfInBounds_toArray, List.set_cons_zero, List.set_cons_succ]
            refine Tk.Any.only (i := 32) (by kernel_rfl) rfl (fun K hK => ?_)
            go_simp
            refine hK.out _ _ (fun h => by cases h) ?_
            clear hK
            try simp only [Act.put, List.setIfInBounds_toArray, List.set_cons_zero, List.set_cons_succ]
            refine Tk.Any.only (i := 33) (by kernel_rfl) rfl (fun K hK => ?_)
            go_simp
            refine hK.out _ _ (fun h => by cases h) ?_
            clear hK
            try simp only [Act.put, List.setIfInBounds_toArray, List.set_cons_zero, List.set_cons_succ]
            refine Tk.Any.only (i := 34) (by kernel_rfl) rfl (fun K hK => ?_)
            go_simp
            refine hK.out _ _ (fun h => by cases h) ?_
            clear hK
            try simp only [Act.put, List.setIfInBounds_toArray, List.set_cons_zero, List.set_cons_succ]
            refine Tk.Any.done (by kernel_rfl) ?_ _
            go_wp2_with fail
            go_roundw
            case rel => exact ⟨j + 1, by omega, by go_num, ⟨by rw [HS3.out]; exact ⟨u, (HAll.out _ _).1⟩⟩, ⟨HB.out.drew.trans (HAll.out _ _).2⟩⟩
            case measure => simp [intOf]; omega
          | true =>
            rw [hg] at c3 c3d
            have HS3 : Kept (segs (toL s) St.init (l.take (j + 1)) = ⟨x.out, x.cur ++ dbl tx, _, _⟩) := ⟨HS2.out.trans (by rw [hh, hg])⟩
            simp only [Bool.false_or, Bool.true_and] at HS3
            clear hh hg
            go_wp2_with fail
            refine Tk.start (T := Tk.At 28 wr.drew) (by kernel_rfl) ?_
            refine Tk.easy (i := 0) (d := some 28) (v := .pointer (some ⟨b, 0, none⟩)) rfl (by decide) (by kernel_rfl) (by kernel_rfl) (by kernel_rfl) (fun _ _ _ h => h) (by rfl) (by
              intro oi hoi w9
              cases hoi
              go_simp) ?_
            simp only [Act.put, List.setIfInBounds_toArray, List.set_cons_zero, List.set_cons_succ]
            refine Tk.easy (i := 1) (d := some 29) (v := .pointer (some ⟨b, 0, none⟩)) rfl (by decide) (by kernel_rfl) (by kernel_rfl) (by kernel_rfl) (fun _ _ _ h => h) (by rfl) (by
              intro oi hoi w9
              cases hoi
              go_simp) ?_
            simp only [Act.put, List.setIfInBounds_toArray, List.set_cons_zero, List.set_cons_succ]
            refine Tk.easy (i := 2) (d := some 30) (v := .pointer (some ⟨b, 0, none⟩)) rfl (by decide) (by kernel_rfl) (by kernel_rfl) (by kernel_rfl) (fun _ _ _ h => h) (by rfl) (by
              intro oi hoi w9
              cases hoi
              go_simp) ?_
            simp only [Act.put, List.setIfInBounds_toArray, List.set_cons_zero, List.set_cons_succ]
            refine Tk.easy (i := 3) (d := some 31) (v := .pointer (some ⟨b, 0, none⟩)) rfl (by decide) (by kernel_rfl) (by kernel_rfl) (by kernel_rfl) (fun _ _ _ h => h) (by rfl) (by
              intro oi hoi w9
              cases hoi
              go_simp) ?_
            simp only [Act.put, List.setIfInBounds_toArray, List.set_cons_zero, List.set_cons_succ]
            refine Tk.easy (i := 4) (d := some 32) (v := .pointer (some ⟨b, 0, none⟩)) rfl (by decide) (by kernel_rfl) (by kernel_rfl) (by kernel_rfl) (fun _ _ _ h => h) (by rfl) (by
              intro oi hoi w9
              cases hoi
              go_simp) ?_
            simp only [Act.put, List.setIfInBounds_toArray, List.set_cons_zero, List.set_cons_succ]
            refine Tk.easy (i := 5) (d := some 33) (v := .pointer (some ⟨b, 1, none⟩)) rfl (by decide) (by kernel_rfl) (by kernel_rfl) (by kernel_rfl) (fun _ _ _ h => h) (by rfl) (by
              intro oi hoi w9
              cases hoi
              go_simp) ?_
            simp only [Act.put, List.setIfInBounds_toArray, List.set_cons_zero, List.set_cons_succ]
            refine Tk.take (i := 6) (d := some 34) (v := .string cu) rfl (by decide) (by kernel_rfl) (by kernel_rfl) (by kernel_rfl) (fun _ _ _ h => h) (by kernel_rfl) (by kernel_rfl) (by rfl) (by
              intro oi hoi
              cases hoi
              go_simp) ?_
            simp only [Act.put, List.setIfInBounds_toArray, List.set_cons_zero, List.set_cons_succ]
            refine Tk.easy (i := 7) (d := some 35) (v := .string T) rfl (by decide) (by kernel_rfl) (by kernel_rfl) (by kernel_rfl) (fun _ _ _ h => h) (by rfl) (by
              intro oi hoi w9
              cases hoi
              go_simp) ?_
            simp only [Act.put, List.setIfInBounds_toArray, List.set_cons_zero, List.set_cons_succ]
            refine Tk.easy (i := 10) (d := some 38) (v := .pointer (some ⟨b, 0, none⟩)) rfl (by decide) (by kernel_rfl) (by kernel_rfl) (by kernel_rfl) (fun _ _ _ h => h) (by rfl) (by
              intro oi hoi w9
              cases hoi
              go_simp) ?_
            simp only [Act.put, List.setIfInBounds_toArray, List.set_cons_zero, List.set_cons_succ]
            refine Tk.easy (i := 11) (d := some 39) (v := .pointer (some ⟨b, 0, none⟩)) rfl (by decide) (by kernel_rfl) (by kernel_rfl) (by kernel_rfl) (fun _ _ _ h => h) (by rfl) (by
              intro oi hoi w9
              cases hoi
              go_simp) ?_
            simp only [Act.put, List.setIfInBounds_toArray, List.set_cons_zero, List.set_cons_succ]
            refine Tk.easy (i := 12) (d := some 40) (v := .pointer (some ⟨b, 2, none⟩)) rfl (by decide) (by kernel_rfl) (by kernel_rfl) (by kernel_rfl) (fun _ _ _ h => h) (by rfl) (by
              intro oi hoi w9
              cases hoi
              go_simp) ?_
            simp only [Act.put, List.setIfInBounds_toArray, List.set_cons_zero, List.set_cons_succ]
            refine Tk.take (i := 13) (d := some 41) (v := .bool false) rfl (by decide) (by kernel_rfl) (by kernel_rfl) (by kernel_rfl) (fun _ _ _ h => h) (by kernel_rfl) (by kernel_rfl) (by rfl) (by
              intro oi hoi
              cases hoi
              go_simp) ?_
            simp only [Act.put, List.setIfInBounds_toArray, List.set_cons_zero, List.set_cons_succ]
            refine Tk.easy (i := 18) (d := some 46) (v := .pointer (some ⟨b, 0, none⟩)) rfl (by decide) (by kernel_rfl) (by kernel_rfl) (by kernel_rfl) (fun _ _ _ h => h) (by rfl) (by
              intro oi hoi w9
              cases hoi
              go_simp) ?_
            simp only [Act.put, List.setIfInBounds_toArray, List.set_cons_zero, List.set_cons_succ]
            refine Tk.easy (i := 19) (d := some 47) (v := .pointer (some ⟨b, 0, none⟩)) rfl (by decide) (by kernel_rfl) (by kernel_rfl) (by kernel_rfl) (fun _ _ _ h => h) (by rfl) (by
              intro oi hoi w9
              cases hoi
              go_simp) ?_
            simp only [Act.put, List.setIfInBounds_toArray, List.set_cons_zero, List.set_cons_succ]
            refine Tk.easy (i := 20) (d := some 48) (v := .pointer (some ⟨b, 3, none⟩)) rfl (by decide) (by kernel_rfl) (by kernel_rfl) (by kernel_rfl) (fun _ _ _ h => h) (by rfl) (by
              intro oi hoi w9
              cases hoi
              go_simp) ?_
            simp only [Act.put, List.setIfInBounds_toArray, List.set_cons_zero, List.set_cons_succ]
            refine Tk.take (i := 21) (d := some 49) (v := .bool true) rfl (by decide) (by kernel_rfl) (by kernel_rfl) (by kernel_rfl) (fun _ _ _ h => h) (by kernel_rfl) (by kernel_rfl) (by rfl) (by
              intro oi hoi
              cases hoi
              go_simp) ?_
            simp only [Act.put, List.setIfInBounds_toArray, List.set_cons_zero, List.set_cons_succ]
            refine Tk.Any.only (i := 8) (by kernel_rfl) rfl (fun K hK => ?_)
            go_simp
            go_at_call 18
            refine (HA.out _).mono ?_
            rintro e w5 ⟨rfl, rfl⟩
            refine hK.out _ _ (fun _ => rfl) ?_
            clear hK
            try simp only [Act.put, List.setIfInBounds_toArray, List.set_cons_zero, List.set_cons_succ]
            refine Tk.easy (i := 9) (d := some 37) (v := .string (cu ++ z)) rfl (by decide) (by kernel_rfl) (by kernel_rfl) (by kernel_rfl) (fun _ _ _ h => h) (by rfl) (by
              intro oi hoi w9
              cases hoi
              go_simp) ?_
            simp only [Act.put, List.setIfInBounds_toArray, List.set_cons_zero, List.set_cons_succ]
            refine Tk.easy (i := 14) (d := some 42) (v := .bool false) rfl (by decide) (by kernel_rfl) (by kernel_rfl) (by kernel_rfl) (fun _ _ _ h => h) (by rfl) (by
              intro oi hoi w9
              cases hoi
              go_simp) ?_
            simp only [Act.put, List.setIfInBounds_toArray, List.set_cons_zero, List.set_cons_succ]
            refine Tk.easy (i := 15) (d := some 43) (v := .string T) rfl (by decide) (by kernel_rfl) (by kernel_rfl) (by kernel_rfl) (fun _ _ _ h => h) (by rfl) (by
              intro oi hoi w9
              cases hoi
              go_simp) ?_
            simp only [Act.put, List.setIfInBounds_toArray, List.set_cons_zero, List.set_cons_succ]
            refine Tk.easy (i := 16) (d := some 44) (v := .bool (!te)) rfl (by decide) (by kernel_rfl) (by kernel_rfl) (by kernel_rfl) (fun _ _ _ h => h) (by rfl) (by
              intro oi hoi w9
              cases hoi
              go_simp) ?_
            simp only [Act.put, List.setIfInBounds_toArray, List.set_cons_zero, List.set_cons_succ]
            refine Tk.easy (i := 17) (d := some 45) (v := .bool (!te)) rfl (by decide) (by kernel_rfl) (by kernel_rfl) (by kernel_rfl) (fun _ _ _ h => h) (by rfl) (by
              intro oi hoi w9
              cases hoi
              go_simp) ?_
            simp only [Act.put, List.setIfInBounds_toArray, List.set_cons_zero, List.set_cons_succ]
            refine Tk.easy (i := 22) (d := some 50) (v := .bool true) rfl (by decide) (by kernel_rfl) (by kernel_rfl) (by kernel_rfl) (fun _ _ _ h => h) (by rfl) (by
              intro oi hoi w9
              cases hoi
              go_simp) ?_
            simp only [Act.put, List.setIfInBounds_toArray, List.set_cons_zero, List.set_cons_succ]
            refine Tk.easy (i := 23) (d := some 51) (v := .string T) rfl (by decide) (by kernel_rfl) (by kernel_rfl) (by kernel_rfl) (fun _ _ _ h => h) (by rfl) (by
              intro oi hoi w9
              cases hoi
              go_simp) ?_
            simp only [Act.put, List.setIfInBounds_toArray, List.set_cons_zero, List.set_cons_succ]
            refine Tk.easy (i := 24) (d := some 52) (v := .bool te) rfl (by decide) (by kernel_rfl) (by kernel_rfl) (by kernel_rfl) (fun _ _ _ h => h) (by rfl) (by
              intro oi hoi w9
              cases hoi
              go_simp) ?_
            simp only [Act.put, List.setIfInBounds_toArray, List.set_cons_zero, List.set_cons_succ]
            refine Tk.easy (i := 25) (d := some 53) (v := .bool te) rfl (by decide) (by kernel_rfl) (by kernel_rfl) (by kernel_rfl) (fun _ _ _ h => h) (by rfl) (by
              intro oi hoi w9
              cases hoi
              go_simp) ?_
            simp only [Act.put, List.setIfInBounds_toArray, List.set_cons_zero, List.set_cons_succ]
            refine Tk.easy (i := 26) (d := some 54) (v := .pointer (some ⟨b, 0, none⟩)) rfl (by decide) (by kernel_rfl) (by kernel_rfl) (by kernel_rfl) (fun _ _ _ h => h) (by rfl) (by
              intro oi hoi w9
              cases hoi
              go_simp) ?_
            simp only [Act.put, List.setIfInBounds_toArray, List.set_cons_zero, List.set_cons_succ]
            refine Tk.easy (i := 27) (d := some 55) (v := .pointer (some ⟨b, 1, none⟩)) rfl (by decide) (by kernel_rfl) (by kernel_rfl) (by kernel_rfl) (fun _ _ _ h => h) (by rfl) (by
              intro oi hoi w9
              cases hoi
              go_simp) ?_
            simp only [Act.put, List.setIfInBounds_toArray, List.set_cons_zero, List.set_cons_succ]
            refine Tk.Any.only (i := 28) (by kernel_rfl) rfl (fun K hK => ?_)
            go_simp
            refine hK.out _ _ (fun h => by cases h) ?_
            clear hK
            try simp only [Act.put, List.setIfInBounds_toArray, List.set_cons_zero, List.set_cons_succ]
            refine Tk.Any.only (i := 29) (by kernel_rfl) rfl (fun K hK => ?_)
            go_simp
            refine hK.out _ _ (fun h => by cases h) ?_
            clear hK
            try simp only [Act.put, List.setIfInBounds_toArray, List.set_cons_zero, List.set_cons_succ]
            refine Tk.Any.only (i := 30) (by kernel_rfl) rfl (fun K hK => ?_)
            go_simp
            refine hK.out _ _ (fun h => by cases h) ?_
            clear hK
            try simp only [Act.put, List.setIfInBounds_toArray, List.set_cons_zero, List.set_cons_succ]
            refine Tk.Any.only (i := 31) (by kernel_rfl) rfl (fun K hK => ?_)
            go_simp
            refine hK.out _ _ (fun h => by cases h) ?_
            clear hK
            try simp only [Act.put, List.setIfInBounds_toArray, List.set_cons_zero, List.set_cons_succ]
            refine Tk.Any.only (i := 32) (by kernel_rfl) rfl (fun K hK => ?_)
            go_simp
            refine hK.out _ _ (fun h => by cases h) ?_
            clear hK
            try simp only [Act.put, List.setIfInBounds_toArray, List.set_cons_zero, List.set_cons_succ]
            refine Tk.Any.only (i := 33) (by kernel_rfl) rfl (fun K hK => ?_)
            go_simp
            refine hK.out _ _ (fun h => by cases h) ?_
            clear hK
            try simp only [Act.put, List.setIfInBounds_toArray, List.set_cons_zero, List.set_cons_succ]
            refine Tk.Any.only (i := 34) (by kernel_rfl) rfl (fun K hK => ?_)
            go_simp
            refine hK.out _ _ (fun h => by cases h) ?_
            clear hK
            try simp only [Act.put, List.setIfInBounds_toArray, List.set_cons_zero, List.set_cons_succ]
            refine Tk.Any.done (by kernel_rfl) ?_ _
            go_wp2_with fail
            go_roundw
            case rel => exact ⟨j + 1, by omega, by go_num, ⟨by rw [HS3.out]; exact ⟨u, (HAll.out _ _).1⟩⟩, ⟨HB.out.drew.trans (HAll.out _ _).2⟩⟩
            case measure => simp [intOf]; omega
        | true =>
          rw [hh] at c2 c2d
          cases hg : x.gap with
          | false =>
            rw [hg] at c3 c3d
            have HS3 : Kept (segs (toL s) St.init (l.take (j + 1)) = ⟨x.out, x.cur ++ dbl tx, _, _⟩) := ⟨HS2.out.trans (by rw [hh, hg])⟩
            simp only [Bool.true_or, Bool.false_and] at HS3
            clear hh hg
            go_wp2_with fail
            refine Tk.start (T := Tk.At 28 wr.drew) (by kernel_rfl) ?_
            refine Tk.easy (i := 0) (d := some 28) (v := .pointer (some ⟨b, 0, none⟩)) rfl (by decide) (by kernel_rfl) (by kernel_rfl) (by kernel_rfl) (fun _ _ _ h => h) (by rfl) (by
              intro oi hoi w9
              cases hoi
              go_simp) ?_
            simp only [Act.put, List.setIfInBounds_toArray, List.set_cons_zero, List.set_cons_succ]
            refine Tk.easy (i := 1) (d := some 29) (v := .pointer (some ⟨b, 0, none⟩)) rfl (by decide) (by kernel_rfl) (by kernel_rfl) (by kernel_rfl) (fun _ _ _ h => h) (by rfl) (by
              intro oi hoi w9
              cases hoi
              go_simp) ?_
            simp only [Act.put, List.setIfInBounds_toArray, List.set_cons_zero, List.set_cons_succ]
            refine Tk.easy (i := 2) (d := some 30) (v := .pointer (some ⟨b, 0, none⟩)) rfl (by decide) (by kernel_rfl) (by kernel_rfl) (by kernel_rfl) (fun _ _ _ h => h) (by rfl) (by
              intro oi hoi w9
              cases hoi
              go_simp) ?_
            simp only [Act.put, List.setIfInBounds_toArray, List.set_cons_zero, List.set_cons_succ]
            refine Tk.easy (i := 3) (d := some 31) (v := .pointer (some ⟨b, 0, none⟩)) rfl (by decide) (by kernel_rfl) (by kernel_rfl) (by kernel_rfl) (fun _ _ _ h => h) (by rfl) (by
              intro oi hoi w9
              cases hoi
              go_simp) ?_
            simp only [Act.put, List.setIfInBounds_toArray, List.set_cons_zero, List.set_cons_succ]
            refine Tk.easy (i := 4) (d := some 32) (v := .pointer (some ⟨b, 0, none⟩)) rfl (by decide) (by kernel_rfl) (by kernel_rfl) (by kernel_rfl) (fun _ _ _ h => h) (by rfl) (by
              intro oi hoi w9
              cases hoi
              go_simp) ?_
            simp only [Act.put, List.setIfInBounds_toArray, List.set_cons_zero, List.set_cons_succ]
            refine Tk.easy (i := 5) (d := some 33) (v := .pointer (some ⟨b, 1, none⟩)) rfl (by decide) (by kernel_rfl) (by kernel_rfl) (by kernel_rfl) (fun _ _ _ h => h) (by rfl) (by
              intro oi hoi w9
              cases hoi
              go_simp) ?_
            simp only [Act.put, List.setIfInBounds_toArray, List.set_cons_zero, List.set_cons_succ]
            refine Tk.take (i := 6) (d := some 34) (v := .string cu) rfl (by decide) (by kernel_rfl) (by kernel_rfl) (by kernel_rfl) (fun _ _ _ h => h) (by kernel_rfl) (by kernel_rfl) (by rfl) (by
              intro oi hoi
              cases hoi
              go_simp) ?_
            simp only [Act.put, List.setIfInBounds_toArray, List.set_cons_zero, List.set_cons_succ]
            refine Tk.easy (i := 7) (d := some 35) (v := .string T) rfl (by decide) (by kernel_rfl) (by kernel_rfl) (by kernel_rfl) (fun _ _ _ h => h) (by rfl) (by
              intro oi hoi w9
              cases hoi
              go_simp) ?_
            simp only [Act.put, List.setIfInBounds_toArray, List.set_cons_zero, List.set_cons_succ]
            refine Tk.easy (i := 10) (d := some 38) (v := .pointer (some ⟨b, 0, none⟩)) rfl (by decide) (by kernel_rfl) (by kernel_rfl) (by kernel_rfl) (fun _ _ _ h => h) (by rfl) (by
              intro oi hoi w9
              cases hoi
              go_simp) ?_
            simp only [Act.put, List.setIfInBounds_toArray, List.set_cons_zero, List.set_cons_succ]
            refine Tk.easy (i := 11) (d := some 39) (v := .pointer (some ⟨b, 0, none⟩)) rfl (by decide) (by kernel_rfl) (by kernel_rfl) (by kernel_rfl) (fun _ _ _ h => h) (by rfl) (by
              intro oi hoi w9
              cases hoi
              go_simp) ?_
            simp only [Act.put, List.setIfInBounds_toArray, List.set_cons_zero, List.set_cons_succ]
            refine Tk.easy (i := 12) (d := some 40) (v := .pointer (some ⟨b, 2, none⟩)) rfl (by decide) (by kernel_rfl) (by kernel_rfl) (by kernel_rfl) (fun _ _ _ h => h) (by rfl) (by
              intro oi hoi w9
              cases hoi
              go_simp) ?_
            simp only [Act.put, List.setIfInBounds_toArray, List.set_cons_zero, List.set_cons_succ]
            refine Tk.take (i := 13) (d := some 41) (v := .bool true) rfl (by decide) (by kernel_rfl) (by kernel_rfl) (by kernel_rfl) (fun _ _ _ h => h) (by kernel_rfl) (by kernel_rfl) (by rfl) (by
              intro oi hoi
              cases hoi
              go_simp) ?_
            simp only [Act.put, List.setIfInBounds_toArray, List.set_cons_zero, List.set_cons_succ]
            refine Tk.easy (i := 18) (d := some 46) (v := .pointer (some ⟨b, 0, none⟩)) rfl (by decide) (by kernel_rfl) (by kernel_rfl) (by kernel_rfl) (fun _ _ _ h => h) (by rfl) (by
              intro oi hoi w9
              cases hoi
              go_simp) ?_
            simp only [Act.put, List.setIfInBounds_toArray, List.set_cons_zero, List.set_cons_succ]
            refine Tk.easy (i := 19) (d := some 47) (v := .pointer (some ⟨b, 0, none⟩)) rfl (by decide) (by kernel_rfl) (by kernel_rfl) (by kernel_rfl) (fun _ _ _ h => h) (by rfl) (by
              intro oi hoi w9
              cases hoi
              go_simp) ?_
            simp only [Act.put, List.setIfInBounds_toArray, List.set_cons_zero, List.set_cons_succ]
            refine Tk.easy (i := 20) (d := some 48) (v := .pointer (some ⟨b, 3, none⟩)) rfl (by decide) (by kernel_rfl) (by kernel_rfl) (by kernel_rfl) (fun _ _ _ h => h) (by rfl) (by
              intro oi hoi w9
              cases hoi
              go_simp) ?_
            simp only [Act.put, List.setIfInBounds_toArray, List.set_cons_zero, List.set_cons_succ]
            refine Tk.take (i := 21) (d := some 49) (v := .bool false) rfl (by decide) (by kernel_rfl) (by kernel_rfl) (by kernel_rfl) (fun _ _ _ h => h) (by kernel_rfl) (by kernel_rfl) (by rfl) (by
              intro oi hoi
              cases hoi
              go_simp) ?_
            simp only [Act.put, List.setIfInBounds_toArray, List.set_cons_zero, List.set_cons_succ]
            refine Tk.Any.only (i := 8) (by kernel_rfl) rfl (fun K hK => ?_)
            go_simp
            go_at_call 18
            refine (HA.out _).mono ?_
            rintro e w5 ⟨rfl, rfl⟩
            refine hK.out _ _ (fun _ => rfl) ?_
            clear hK
            try simp only [Act.put, List.setIfInBounds_toArray, List.set_cons_zero, List.set_cons_succ]
            refine Tk.easy (i := 9) (d := some 37) (v := .string (cu ++ z)) rfl (by decide) (by kernel_rfl) (by kernel_rfl) (by kernel_rfl) (fun _ _ _ h => h) (by rfl) (by
              intro oi hoi w9
              cases hoi
              go_simp) ?_
            simp only [Act.put, List.setIfInBounds_toArray, List.set_cons_zero, List.set_cons_succ]
            refine Tk.easy (i := 14) (d := some 42) (v := .bool true) rfl (by decide) (by kernel_rfl) (by kernel_rfl) (by kernel_rfl) (fun _ _ _ h => h) (by rfl) (by
              intro oi hoi w9
              cases hoi
              go_simp) ?_
            simp only [Act.put, List.setIfInBounds_toArray, List.set_cons_zero, List.set_cons_succ]
            refine Tk.skip (i := 15) (d := some 43) rfl (by decide) (by kernel_rfl) (by kernel_rfl) (by kernel_rfl) (fun _ _ _ h => h) (by rfl) ?_
            simp only [Act.put, List.setIfInBounds_toArray, List.set_cons_zero, List.set_cons_succ]
            refine Tk.skip (i := 16) (d := some 44) rfl (by decide) (by kernel_rfl) (by kernel_rfl) (by kernel_rfl) (fun _ _ _ h => h) (by rfl) ?_
            simp only [Act.put, List.setIfInBounds_toArray, List.set_cons_zero, List.set_cons_succ]
            refine Tk.easy (i := 17) (d := some 45) (v := .bool true) rfl (by decide) (by kernel_rfl) (by kernel_rfl) (by kernel_rfl) (fun _ _ _ h => h) (by rfl) (by
              intro oi hoi w9
              cases hoi
              go_simp) ?_
            simp only [Act.put, List.setIfInBounds_toArray, List.set_cons_zero, List.set_cons_succ]
            refine Tk.easy (i := 22) (d := some 50) (v := .bool false) rfl (by decide) (by kernel_rfl) (by kernel_rfl) (by kernel_rfl) (fun _ _ _ h => h) (by rfl) (by
              intro oi hoi w9
              cases hoi
              go_simp) ?_
            simp only [Act.put, List.setIfInBounds_toArray, List.set_cons_zero, List.set_cons_succ]
            refine Tk.skip (i := 23) (d := some 51) rfl (by decide) (by kernel_rfl) (by kernel_rfl) (by kernel_rfl) (fun _ _ _ h => h) (by rfl) ?_
            simp only [Act.put, List.setIfInBounds_toArray, List.set_cons_zero, List.set_cons_succ]
            refine Tk.skip (i := 24) (d := some 52) rfl (by decide) (by kernel_rfl) (by kernel_rfl) (by kernel_rfl) (fun _ _ _ h => h) (by rfl) ?_
            simp only [Act.put, List.setIfInBounds_toArray, List.set_cons_zero, List.set_cons_succ]
            refine Tk.easy (i := 25) (d := some 53) (v := .bool false) rfl (by decide) (by kernel_rfl) (by kernel_rfl) (by kernel_rfl) (fun _ _ _ h => h) (by rfl) (by
              intro oi hoi w9
              cases hoi
              go_simp) ?_
            simp only [Act.put, List.setIfInBounds_toArray, List.set_cons_zero, List.set_cons_succ]
            refine Tk.easy (i := 26) (d := some 54) (v := .pointer (some ⟨b, 0, none⟩)) rfl (by decide) (by kernel_rfl) (by kernel_rfl) (by kernel_rfl) (fun _ _ _ h => h) (by rfl) (by
              intro oi hoi w9
              cases hoi
              go_simp) ?_
            simp only [Act.put, List.setIfInBounds_toArray, List.set_cons_zero, List.set_cons_succ]
            refine Tk.easy (i := 27) (d := some 55) (v := .pointer (some ⟨b, 1, none⟩)) rfl (by decide) (by kernel_rfl) (by kernel_rfl) (by kernel_rfl) (fun _ _ _ h => h) (by rfl) (by
              intro oi hoi w9
              cases hoi
              go_simp) ?_
            simp only [Act.put, List.setIfInBounds_toArray, List.set_cons_zero, List.set_cons_succ]
            refine Tk.Any.only (i := 28) (by kernel_rfl) rfl (fun K hK => ?_)
            go_simp
            refine hK.out _ _ (fun h => by cases h) ?_
            clear hK
            try simp only [Act.put, List.setIfInBounds_toArray, List.set_cons_zero, List.set_cons_succ]
            refine Tk.Any.only (i := 29) (by kernel_rfl) rfl (fun K hK => ?_)
            go_simp
            refine hK.out _ _ (fun h => by cases h) ?_
            clear hK
            try simp only [Act.put, List.setIfInBounds_toArray, List.set_cons_zero, List.set_cons_succ]
            refine Tk.Any.only (i := 30) (by kernel_rfl) rfl (fun K hK => ?_)
            go_simp
            refine hK.out _ _ (fun h => by cases h) ?_
            clear hK
            try simp only [Act.put, List.setIfInBounds_toArray, List.set_cons_zero, List.set_cons_succ]
            refine Tk.Any.only (i := 31) (by kernel_rfl) rfl (fun K hK => ?_)
            go_simp
            refine hK.out _ _ (fun h => by cases h) ?_
            clear hK
            try simp only [Act.put, List.setIfInBounds_toArray, List.set_cons_zero, List.set_cons_succ]
            refine Tk.Any.only (i := 32) (by kernel_rfl) rfl (fun K hK => ?_)
            go_simp
            refine hK.out _ _ (fun h => by cases h) ?_
            clear hK
            try simp only [Act.put, List.setIfInBounds_toArray, List.set_cons_zero, List.set_cons_succ]
            refine Tk.Any.only (i := 33) (by kernel_rfl) rfl (fun K hK => ?_)
            go_simp
            refine hK.out _ _ (fun h => by cases h) ?_
            clear hK
            try simp only [Act.put, List.setIfInBounds_toArray, List.set_cons_zero, List.set_cons_succ]
            refine Tk.Any.only (i := 34) (by kernel_rfl) rfl (fun K hK => ?_)
            go_simp
            refine hK.out _ _ (fun h => by cases h) ?_
            clear hK
            try simp only [Act.put, List.setIfInBounds_toArray, List.set_cons_zero, List.set_cons_succ]
            refine Tk.Any.done (by kernel_rfl) ?_ _
            go_wp2_with fail
            go_roundw
            case rel => exact ⟨j + 1, by omega, by go_num, ⟨by rw [HS3.out]; exact ⟨u, (HAll.out _ _).1⟩⟩, ⟨HB.out.drew.trans (HAll.out _ _).2⟩⟩
            case measure => simp [intOf]; omega
          | true =>
            rw [hg] at c3 c3d
            have HS3 : Kept (segs (toL s) St.init (l.take (j + 1)) = ⟨x.out, x.cur ++ dbl tx, _, _⟩) := ⟨HS2.out.trans (by rw [hh, hg])⟩
            simp only [Bool.true_or, Bool.true_and] at HS3
            clear hh hg
            go_wp2_with fail
            refine Tk.start (T := Tk.At 28 wr.drew) (by kernel_rfl) ?_
            refine Tk.easy (i := 0) (d := some 28) (v := .pointer (some ⟨b, 0, none⟩)) rfl (by decide) (by kernel_rfl) (by kernel_rfl) (by kernel_rfl) (fun _ _ _ h => h) (by rfl) (by
              intro oi hoi w9
              cases hoi
              go_simp) ?_
            simp only [Act.put, List.setIfInBounds_toArray, List.set_cons_zero, List.set_cons_succ]
            refine Tk.easy (i := 1) (d := some 29) (v := .pointer (some ⟨b, 0, none⟩)) rfl (by decide) (by kernel_rfl) (by kernel_rfl) (by kernel_rfl) (fun _ _ _ h => h) (by rfl) (by
              intro oi hoi w9
              cases hoi
              go_simp) ?_
            simp only [Act.put, List.setIfInBounds_toArray, List.set_cons_zero, List.set_cons_succ]
            refine Tk.easy (i := 2) (d := some 30) (v := .pointer (some ⟨b, 0, none⟩)) rfl (by decide) (by kernel_rfl) (by kernel_rfl) (by kernel_rfl) (fun _ _ _ h => h) (by rfl) (by
              intro oi hoi w9
              cases hoi
              go_simp) ?_
            simp only [Act.put, List.setIfInBounds_toArray, List.set_cons_zero, List.set_cons_succ]
            refine Tk.easy (i := 3) (d := some 31) (v := .pointer (some ⟨b, 0, none⟩)) rfl (by decide) (by kernel_rfl) (by kernel_rfl) (by kernel_rfl) (fun _ _ _ h => h) (by rfl) (by
              intro oi hoi w9
              cases hoi
              go_simp) ?_
            simp only [Act.put, List.setIfInBounds_toArray, List.set_cons_zero, List.set_cons_succ]
            refine Tk.easy (i := 4) (d := some 32) (v := .pointer (some ⟨b, 0, none⟩)) rfl (by decide) (by kernel_rfl) (by kernel_rfl) (by kernel_rfl) (fun _ _ _ h => h) (by rfl) (by
              intro oi hoi w9
              cases hoi
              go_simp) ?_
            simp only [Act.put, List.setIfInBounds_toArray, List.set_cons_zero, List.set_cons_succ]
            refine Tk.easy (i := 5) (d := some 33) (v := .pointer (some ⟨b, 1, none⟩)) rfl (by decide) (by kernel_rfl) (by kernel_rfl) (by kernel_rfl) (fun _ _ _ h => h) (by rfl) (by
              intro oi hoi w9
              cases hoi
              go_simp) ?_
            simp only [Act.put, List.setIfInBounds_toArray, List.set_cons_zero, List.set_cons_succ]
            refine Tk.take (i := 6) (d := some 34) (v := .string cu) rfl (by decide) (by kernel_rfl) (by kernel_rfl) (by kernel_rfl) (fun _ _ _ h => h) (by kernel_rfl) (by kernel_rfl) (by rfl) (by
              intro oi hoi
              cases hoi
              go_simp) ?_
            simp only [Act.put, List.setIfInBounds_toArray, List.set_cons_zero, List.set_cons_succ]
            refine Tk.easy (i := 7) (d := some 35) (v := .string T) rfl (by decide) (by kernel_rfl) (by kernel_rfl) (by kernel_rfl) (fun _ _ _ h => h) (by rfl) (by
              intro oi hoi w9
              cases hoi
              go_simp) ?_
            simp only [Act.put, List.setIfInBounds_toArray, List.set_cons_zero, List.set_cons_succ]
            refine Tk.easy (i := 10) (d := some 38) (v := .pointer (some ⟨b, 0, none⟩)) rfl (by decide) (by kernel_rfl) (by kernel_rfl) (by kernel_rfl) (fun _ _ _ h => h) (by rfl) (by
              intro oi hoi w9
              cases hoi
              go_simp) ?_
            simp only [Act.put, List.setIfInBounds_toArray, List.set_cons_zero, List.set_cons_succ]
            refine Tk.easy (i := 11) (d := some 39) (v := .pointer (some ⟨b, 0, none⟩)) rfl (by decide) (by kernel_rfl) (by kernel_rfl) (by kernel_rfl) (fun _ _ _ h => h) (by rfl) (by
              intro oi hoi w9
              cases hoi
              go_simp) ?_
            simp only [Act.put, List.setIfInBounds_toArray, List.set_cons_zero, List.set_cons_succ]
            refine Tk.easy (i := 12) (d := some 40) (v := .pointer (some ⟨b, 2, none⟩)) rfl (by decide) (by kernel_rfl) (by kernel_rfl) (by kernel_rfl) (fun _ _ _ h => h) (by rfl) (by
              intro oi hoi w9
              cases hoi
              go_simp) ?_
            simp only [Act.put, List.setIfInBounds_toArray, List.set_cons_zero, List.set_cons_succ]
            refine Tk.take (i := 13) (d := some 41) (v := .bool true) rfl (by decide) (by kernel_rfl) (by kernel_rfl) (by kernel_rfl) (fun _ _ _ h => h) (by kernel_rfl) (by kernel_rfl) (by rfl) (by
              intro oi hoi
              cases hoi
              go_simp) ?_
            simp only [Act.put, List.setIfInBounds_toArray, List.set_cons_zero, List.set_cons_succ]
            refine Tk.easy (i := 18) (d := some 46) (v := .pointer (some ⟨b, 0, none⟩)) rfl (by decide) (by kernel_rfl) (by kernel_rfl) (by kernel_rfl) (fun _ _ _ h => h) (by rfl) (by
              intro oi hoi w9
              cases hoi
              go_simp) ?_
            simp only [Act.put, List.setIfInBounds_toArray, List.set_cons_zero, List.set_cons_succ]
            refine Tk.easy (i := 19) (d := some 47) (v := .pointer (some ⟨b, 0, none⟩)) rfl (by decide) (by kernel_rfl) (by kernel_rfl) (by kernel_rfl) (fun _ _ _ h => h) (by rfl) (by
              intro oi hoi w9
              cases hoi
              go_simp) ?_
            simp only [Act.put, List.setIfInBounds_toArray, List.set_cons_zero, List.set_cons_succ]
            refine Tk.easy (i := 20) (d := some 48) (v := .pointer (some ⟨b, 3, none⟩)) rfl (by decide) (by kernel_rfl) (by kernel_rfl) (by kernel_rfl) (fun _ _ _ h => h) (by rfl) (by
              intro oi hoi w9
              cases hoi
              go_simp) ?_
            simp only [Act.put, List.setIfInBounds_toArray, List.set_cons_zero, List.set_cons_succ]
            refine Tk.take (i := 21) (d := some 49) (v := .bool true) rfl (by decide) (by kernel_rfl) (by kernel_rfl) (by kernel_rfl) (fun _ _ _ h => h) (by kernel_rfl) (by kernel_rfl) (by rfl) (by
              intro oi hoi
              cases hoi
              go_simp) ?_
            simp only [Act.put, List.setIfInBounds_toArray, List.set_cons_zero, List.set_cons_succ]
            refine Tk.Any.only (i := 8) (by kernel_rfl) rfl (fun K hK => ?_)
            go_simp
            go_at_call 18
            refine (HA.out _).mono ?_
            rintro e w5 ⟨rfl, rfl⟩
            refine hK.out _ _ (fun _ => rfl) ?_
            clear hK
            try simp only [Act.put, List.setIfInBounds_toArray, List.set_cons_zero, List.set_cons_succ]
            refine Tk.easy (i := 9) (d := some 37) (v := .string (cu ++ z)) rfl (by decide) (by kernel_rfl) (by kernel_rfl) (by kernel_rfl) (fun _ _ _ h => h) (by rfl) (by
              intro oi hoi w9
              cases hoi
              go_simp) ?_
            simp only [Act.put, List.setIfInBounds_toArray, List.set_cons_zero, List.set_cons_succ]
            refine Tk.easy (i := 14) (d := some 42) (v := .bool true) rfl (by decide) (by kernel_rfl) (by kernel_rfl) (by kernel_rfl) (fun _ _ _ h => h) (by rfl) (by
              intro oi hoi w9
              cases hoi
              go_simp) ?_
            simp only [Act.put, List.setIfInBounds_toArray, List.set_cons_zero, List.set_cons_succ]
            refine Tk.skip (i := 15) (d := some 43) rfl (by decide) (by kernel_rfl) (by kernel_rfl) (by kernel_rfl) (fun _ _ _ h => h) (by rfl) ?_
            simp only [Act.put, List.setIfInBounds_toArray, List.set_cons_zero, List.set_cons_succ]
            refine Tk.skip (i := 16) (d := some 44) rfl (by decide) (by kernel_rfl) (by kernel_rfl) (by kernel_rfl) (fun _ _ _ h => h) (by rfl) ?_
            simp only [Act.put, List.setIfInBounds_toArray, List.set_cons_zero, List.set_cons_succ]
            refine Tk.easy (i := 17) (d := some 45) (v := .bool true) rfl (by decide) (by kernel_rfl) (by kernel_rfl) (by kernel_rfl) (fun _ _ _ h => h) (by rfl) (by
              intro oi hoi w9
              cases hoi
              go_simp) ?_
            simp only [Act.put, List.setIfInBounds_toArray, List.set_cons_zero, List.set_cons_succ]
            refine Tk.easy (i := 22) (d := some 50) (v := .bool true) rfl (by decide) (by kernel_rfl) (by kernel_rfl) (by kernel_rfl) (fun _ _ _ h => h) (by rfl) (by
              intro oi hoi w9
              cases hoi
              go_simp) ?_
            simp only [Act.put, List.setIfInBounds_toArray, List.set_cons_zero, List.set_cons_succ]
            refine Tk.easy (i := 23) (d := some 51) (v := .string T) rfl (by decide) (by kernel_rfl) (by kernel_rfl) (by kernel_rfl) (fun _ _ _ h => h) (by rfl) (by
              intro oi hoi w9
              cases hoi
              go_simp) ?_
            simp only [Act.put, List.setIfInBounds_toArray, List.set_cons_zero, List.set_cons_succ]
            refine Tk.easy (i := 24) (d := some 52) (v := .bool te) rfl (by decide) (by kernel_rfl) (by kernel_rfl) (by kernel_rfl) (fun _ _ _ h => h) (by rfl) (by
              intro oi hoi w9
              cases hoi
              go_simp) ?_
            simp only [Act.put, List.setIfInBounds_toArray, List.set_cons_zero, List.set_cons_succ]
            refine Tk.easy (i := 25) (d := some 53) (v := .bool te) rfl (by decide) (by kernel_rfl) (by kernel_rfl) (by kernel_rfl) (fun _ _ _ h => h) (by rfl) (by
              intro oi hoi w9
              cases hoi
              go_simp) ?_
            simp only [Act.put, List.setIfInBounds_toArray, List.set_cons_zero, List.set_cons_succ]
            refine Tk.easy (i := 26) (d := some 54) (v := .pointer (some ⟨b, 0, none⟩)) rfl (by decide) (by kernel_rfl) (by kernel_rfl) (by kernel_rfl) (fun _ _ _ h => h) (by rfl) (by
              intro oi hoi w9
              cases hoi
              go_simp) ?_
            simp only [Act.put, List.setIfInBounds_toArray, List.set_cons_zero, List.set_cons_succ]
            refine Tk.easy (i := 27) (d := some 55) (v := .pointer (some ⟨b, 1, none⟩)) rfl (by decide) (by kernel_rfl) (by kernel_rfl) (by kernel_rfl) (fun _ _ _ h => h) (by rfl) (by
              intro oi hoi w9
              cases hoi
              go_simp) ?_
            simp only [Act.put, List.setIfInBounds_toArray, List.set_cons_zero, List.set_cons_succ]
            refine Tk.Any.only (i := 28) (by kernel_rfl) rfl (fun K hK => ?_)
            go_simp
            refine hK.out _ _ (fun h => by cases h) ?_
            clear hK
            try simp only [Act.put, List.setIfInBounds_toArray, List.set_cons_zero, List.set_cons_succ]
            refine Tk.Any.only (i := 29) (by kernel_rfl) rfl (fun K hK => ?_)
            go_simp
            refine hK.out _ _ (fun h => by cases h) ?_
            clear hK
            try simp only [Act.put, List.setIfInBounds_toArray, List.set_cons_zero, List.set_cons_succ]
            refine Tk.Any.only (i := 30) (by kernel_rfl) rfl (fun K hK => ?_)
            go_simp
            refine hK.out _ _ (fun h => by cases h) ?_
            clear hK
            try simp only [Act.put, List.setIfInBounds_toArray, List.set_cons_zero, List.set_cons_succ]
            refine Tk.Any.only (i := 31) (by kernel_rfl) rfl (fun K hK => ?_)
            go_simp
            refine hK.out _ _ (fun h => by cases h) ?_
            clear hK
            try simp only [Act.put, List.setIfInBounds_toArray, List.set_cons_zero, List.set_cons_succ]
            refine Tk.Any.only (i := 32) (by kernel_rfl) rfl (fun K hK => ?_)
            go_simp
            refine hK.out _ _ (fun h => by cases h) ?_
            clear hK
            try simp only [Act.put, List.setIfInBounds_toArray, List.set_cons_zero, List.set_cons_succ]
            refine Tk.Any.only (i := 33) (by kernel_rfl) rfl (fun K hK => ?_)
            go_simp
            refine hK.out _ _ (fun h => by cases h) ?_
            clear hK
            try simp only [Act.put, List.setIfInBounds_toArray, List.set_cons_zero, List.set_cons_succ]
            refine Tk.Any.only (i := 34) (by kernel_rfl) rfl (fun K hK => ?_)
            go_simp
            refine hK.out _ _ (fun h => by cases h) ?_
            clear hK
            try simp only [Act.put, List.setIfInBounds_toArray, List.set_cons_zero, List.set_cons_succ]
            refine Tk.Any.done (by kernel_rfl) ?_ _
            go_wp2_with fail
            go_roundw
            case rel => exact ⟨j + 1, by omega, by go_num, ⟨by rw [HS3.out]; exact ⟨u, (HAll.out _ _).1⟩⟩, ⟨HB.out.drew.trans (HAll.out _ _).2⟩⟩
            case measure => simp [intOf]; omega
      · have HA := Kept.mk (fun W : World => Pm.refEsc_any T W (by have := HTs.out; omega))
        rw [HTx.out.1] at HA
        obtain ⟨z, hz9⟩ : ∃ z, z = bs (esc tx) := ⟨_, rfl⟩
        rw [← hz9] at HA
        have HZ : Kept (z.size ≤ 1900) := ⟨by rw [hz9, bs_size, esc_len]; have := HT0.out.2.1; omega⟩
        obtain ⟨cu, hcu⟩ : ∃ cu, cu = bs x.cur := ⟨_, rfl⟩
        have HAll := Kept.mk (fun (m : List UInt8) (p q : Bool) => hm.drew.all (x.cur ++ m) p q)
        have c1 := hm.c1
        have c1d := hm.drew.c1
        rw [← hcu] at c1 c1d
        have c2 := hm.c2
        have c3 := hm.c3
        have c2d := hm.drew.c2
        have c3d := hm.drew.c3
        have f1 := hm.fz 1
        have f2 := hm.fz 2
        have f3 := hm.fz 3
        have f1d := hm.drew.fz 1
        have f2d := hm.drew.fz 2
        have f3d := hm.drew.fz 3
        have HS2 : Kept (segs (toL s) St.init (l.take (j + 1)) = ⟨x.out, x.cur ++ esc tx, true, false⟩) := ⟨(HJ.out _ rfl).symm⟩
        have HCu : Kept (bs (x.cur ++ esc tx) = cu ++ z) := ⟨by rw [hcu, hz9, bs_append]⟩
        have hsum : ¬ 9223372036854775807 < cu.size + z.size := by have := HT0.out.2.2; have := HZ.out; unfold St.size at *; rw [hcu, bs_size]; omega
        clear hm hcu hz9 c1
        have c1 := c1d
        go_wp2_with fail
        go_region_law (first | (go_simp; go_at_call 19; refine (HA.out _).mono ?_; rintro e w5 ⟨rfl, rfl⟩) | go_simp)
        all_goals
          go_wp2_with fail
          go_roundw
          case rel => exact ⟨j + 1, by omega, by go_num, ⟨by rw [HS2.out]; exact ⟨u, by have := (HAll.out (esc tx) true false).1; rw [HCu.out] at this; exact this⟩⟩, ⟨HB.out.drew.trans (by have := (HAll.out (esc tx) true false).2; rw [HCu.out] at this; exact this)⟩⟩
          case measure => simp [intOf]; omega
      · have HX := Kept.mk (refSplit_any b b T s x wr HM.out (by have := HTs.out; omega) HS.out (by have := HT0.out.2.2; omega))
        rw [HTx.out.1] at HX
        have HS2 : Kept (segs (toL s) St.init (l.take (j + 1)) = bytes (toL s) x tx) := ⟨(HJ.out _ rfl).symm⟩
        clear hm
        go_wp2_with fail
        go_at_call 20
        refine HX.out.mono ?_
        rintro e w3 ⟨rfl, h3, hb3⟩
        rw [← HS2.out] at h3
        have HB3 := Kept.mk (HB.out.trans hb3.out)
        clear hb3
        go_wp2_with fail
        go_roundw
        case rel => exact ⟨j + 1, by omega, by go_num, h3, HB3⟩
        case measure => simp [intOf]; omega
      · have HS2 : Kept (segs (toL s) St.init (l.take (j + 1)) = ⟨x.fin.out, x.fin.cur, x.fin.has, false⟩) := ⟨(HJ.out _ rfl).symm⟩
        have HLo : Kept (x.out.length ≤ 100000) := ⟨by have := HT0.out.2.2; unfold St.size at this; omega⟩
        cases hh : x.has with
        | true =>
          have HF : Kept (x.fin = ⟨x.out ++ [x.cur], [], false, x.gap⟩) := ⟨by unfold St.fin; rw [if_pos hh]⟩
          rw [hh] at hm
          have HD := Kept.mk hm
          have c2 := hm.c2
          clear hm hh
          go_wp2_with fail
          go_at_call 21
          refine (refEnd_any b b u x.out x.cur true x.gap wr HD.out HLo.out).mono ?_
          rintro e w3 ⟨rfl, u2, ⟨h3⟩, ⟨hb3⟩⟩
          have HE := Kept.mk (h3.set3 false)
          have HB3 := Kept.mk (HB.out.trans hb3)
          have d3 := h3.c3
          have g3 := h3.fz 3
          clear h3 hb3
          go_wp2_with fail
          go_roundw
          case rel => exact ⟨j + 1, by omega, by go_num, ⟨by rw [HS2.out, HF.out]; exact ⟨u2, HE.out.1⟩⟩, ⟨HB3.out.trans HE.out.2⟩⟩
          case measure => simp [intOf]; omega
        | false =>
          have HF : Kept (x.fin = x) := ⟨by unfold St.fin; rw [if_neg (by rw [hh]; decide)]⟩
          have HE := Kept.mk (hm.set3 false)
          have c3 := hm.c3
          have f3 := hm.fz 3
          have c2 := hm.c2
          rw [hh] at c2
          clear hm hh
          go_wp2_with fail
          go_roundw
          case rel => exact ⟨j + 1, by omega, by go_num, ⟨by rw [HS2.out, HF.out]; exact ⟨u, HE.out.1⟩⟩, ⟨HB.out.trans HE.out.2⟩⟩
          case measure => simp [intOf]; omega
    · obtain rfl : j = n := by omega
      have HT : Kept (DX b b (segs (toL s) St.init l) wr) := ⟨by
        have := HM.out
        rwa [List.take_of_length_le (by rw [HN.out]; exact Nat.le_refl _)] at this⟩
      have HZ : Kept ((segs (toL s) St.init l).out.length ≤ 90000) := ⟨by
        have h1 := size_segs (toL s) l St.init
        have h4 : St.init.size = 0 := rfl
        have := HW.out
        unfold St.size at h1 h4
        omega⟩
      have HF : Kept (fieldsOf (toL s) l = (segs (toL s) St.init l).fin.out) := ⟨rfl⟩
      clear HM hlt
      generalize segs (toL s) St.init l = x at HT HZ HF
      obtain ⟨u, hm⟩ := HT.out
      cases hh : x.has with
      | true =>
        have HE : Kept (x.fin.out = x.out ++ [x.cur]) := ⟨by unfold St.fin; rw [if_pos hh]⟩
        rw [hh] at hm
        have HD := Kept.mk hm
        have c2 := hm.c2
        clear hm hh
        go_wp2_with fail
        go_at_call 21
        refine (refEnd_any b b u x.out x.cur true x.gap wr HD.out (by have := HZ.out; omega)).mono ?_
        rintro e w3 ⟨rfl, u2, ⟨h3⟩, ⟨hb3⟩⟩
        have HB3 := Kept.mk (HB.out.trans hb3)
        obtain ⟨C, q, rfl, hRd⟩ := own_rd h3.outs
        have HRd := Kept.mk hRd
        have d0 := h3.c0
        clear h3 hb3 hRd
        go_wp2_with fail
        go_ret
        rw [HF.out, HE.out]
        exact ⟨C, q, by rw [List.length_append]; rfl, HRd, by have h9 := HB3.out; rw [Hb.out] at h9; exact h9⟩
      | false =>
        have HE : Kept (x.fin.out = x.out) := ⟨by unfold St.fin; rw [if_neg (by rw [hh]; decide)]⟩
        rw [hh] at hm
        have c2 := hm.c2
        obtain ⟨C, q, rfl, hRd⟩ := own_rd hm.outs
        have HRd := Kept.mk hRd
        have c0 := hm.c0
        clear hm hh hRd
        go_wp2_with fail
        go_ret
        rw [HF.out, HE.out]
        exact ⟨C, q, rfl, HRd, by have h9 := HB.out; rw [Hb.out] at h9; exact h9⟩
end Fd
end Go.Proofs.YtjnhhkiabdbenaaDoor
