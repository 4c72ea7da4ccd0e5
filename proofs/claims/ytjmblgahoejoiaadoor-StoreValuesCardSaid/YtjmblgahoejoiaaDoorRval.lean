/-
  The document's Value and Entry.
-/
import Derived.Test.YtjmblgahoejoiaaDoorPent
import Derived.Test.YtjmblgahoejoiaaDoorDig
import Derived.Test.YtjmblgahoejoiaaDoorRdec
import Derived.Test.YtjmblgahoejoiaaDoorSbox
namespace Go.Proofs.YtjmblgahoejoiaaDoor
open Go.RowKit Tx
namespace St

set_option maxRecDepth 100000 in
theorem refVal_any (k m : Nat) (d : ByteArray) (w : World) (hk : k ≤ 9223372036854775807) (hm : m ≤ 9223372036854775807) (hd : d.size ≤ 1000000) :
    Calls Tryd.prog 11 #[.agg #[.int .i64 k, .int .i64 m, .string d]] w fun e w' => ∃ t : ByteArray, e = .returned (.string t) ∧ Below w.heap.size w w' ∧ Kept (toL t = valL ⟨k, m, d⟩) := by
  by_cases h0 : k = 0
  · subst h0
    go_enter Tryd.func11, Tryd.ntmps11
    go_wp2
    go_ret
    exact ⟨_, rfl, (Below.refl _ _).alloc (Nat.le_refl _) _, ⟨rfl⟩⟩
  · have hk0 : ((k : Int) == 0) = false := by rw [beq_eq_false_iff_ne]; omega
    have HV : Kept (∀ t : ByteArray, t = Tup.bs (Net.enc ([bs (Net.dig k), bs (Net.dig m), d].map Tup.toL)) → toL t = valL ⟨k, m, d⟩) := ⟨fun t ht => by
      unfold valL
      rw [if_neg (by simp only; omega)]
      subst ht
      show toL (bs _) = _
      rw [toL_bs]
      show Net.enc [toL (bs _), toL (bs _), toL d] = _
      rw [toL_bs, toL_bs]
      rfl⟩
    obtain ⟨c0, c1, c2⟩ := three_at w (.int .i64 k) (.int .i64 m) (.string d) 23
    have hB : Below w.heap.size w (w.alloc (.cells #[.int .i64 k, .int .i64 m, .string d] 23)) := (Below.refl _ _).alloc (Nat.le_refl _) _
    have HB := Kept.mk hB
    have hlt : w.heap.size < (w.alloc (.cells #[.int .i64 k, .int .i64 m, .string d] 23)).heap.size := by simp
    have T1 : Kept True := ⟨trivial⟩
    clear h0 hB
    go_enter Tryd.func11, Tryd.ntmps11
    go_wp2
    generalize hW0 : w.alloc (.cells #[.int .i64 k, .int .i64 m, .string d] 23) = w0 at *
    clear hW0
    go_region_held3 (fun w' => w'.cell? ⟨w.heap.size, 0, none⟩ = some (.int .i64 k) ∧ w'.cell? ⟨w.heap.size, 1, none⟩ = some (.int .i64 m) ∧ w'.cell? ⟨w.heap.size, 2, none⟩ = some (.string d))
      (first
        | exact ⟨c0, c1, c2⟩
        | exact ⟨d0, d1, d2⟩
        | exact ⟨e0, e1, e2⟩
        | exact ⟨f0, f1, f2⟩
        | exact ⟨(World.cell?_alloc_lt _ _ _ HL2.out).trans e0, (World.cell?_alloc_lt _ _ _ HL2.out).trans e1, (World.cell?_alloc_lt _ _ _ HL2.out).trans e2⟩)
      (first
        | (go_at_call 31
           have := T1
           refine (Tup.digits_any k _ hk).mono ?_
           rintro e w1 ⟨t1, rfl, hb1, ht1⟩
           clear T1 this
           have d0 := (hb1.cell (p := ⟨w.heap.size, 0, none⟩) hlt).trans c0
           have d1 := (hb1.cell (p := ⟨w.heap.size, 1, none⟩) hlt).trans c1
           have d2 := (hb1.cell (p := ⟨w.heap.size, 2, none⟩) hlt).trans c2
           have hb1' := (HB.out.drew).trans (hb1.mono (Nat.le_of_lt hlt))
           have HB1 := Kept.mk hb1'
           have hlt1 : w.heap.size < w1.heap.size := Nat.lt_of_lt_of_le hlt hb1.size
           clear hb1 hb1')
        | (go_at_call 31
           refine (Tup.digits_any m _ hm).mono ?_
           rintro e w2 ⟨t2, rfl, hb2, ht2⟩
           have e0 := (hb2.cell (p := ⟨w.heap.size, 0, none⟩) hlt1).trans d0
           have e1 := (hb2.cell (p := ⟨w.heap.size, 1, none⟩) hlt1).trans d1
           have e2 := (hb2.cell (p := ⟨w.heap.size, 2, none⟩) hlt1).trans d2
           have HB2 := Kept.mk (HB1.out.trans (hb2.mono (Nat.le_of_lt hlt1)))
           have HL2 : Kept (w.heap.size < w2.heap.size) := ⟨Nat.lt_of_lt_of_le hlt1 hb2.size⟩
           clear hb2)
        | (go_at_call 30
           refine (Tup.refEnc_any [t1, t2, d] (some ⟨w2.heap.size, 0, none⟩) 3 3 _ (Tup.Rd.of_at (Own.At.fresh w2 _ _ [t1, t2, d] rfl)) rfl (by omega) (three_small ht1.out ht2.out hk hm hd)).mono ?_
           rintro e w3 ⟨t3, rfl, hb3, ht3⟩
           have HB3 := Kept.mk ((HB2.out.alloc (Nat.le_of_lt HL2.out) _).trans (hb3.mono (by rw [World.size_alloc]; have := HL2.out; omega)))
           have HT3 : Kept (toL t3 = valL ⟨k, m, d⟩) := ⟨HV.out t3 (by rw [ht3.out, ht1.out, ht2.out]; rfl)⟩
           have f0 := (hb3.cell (p := ⟨w.heap.size, 0, none⟩) (by rw [World.size_alloc]; have := HL2.out; show w.heap.size < _; omega)).trans ((World.cell?_alloc_lt _ _ _ HL2.out).trans e0)
           have f1 := (hb3.cell (p := ⟨w.heap.size, 1, none⟩) (by rw [World.size_alloc]; have := HL2.out; show w.heap.size < _; omega)).trans ((World.cell?_alloc_lt _ _ _ HL2.out).trans e1)
           have f2 := (hb3.cell (p := ⟨w.heap.size, 2, none⟩) (by rw [World.size_alloc]; have := HL2.out; show w.heap.size < _; omega)).trans ((World.cell?_alloc_lt _ _ _ HL2.out).trans e2)
           clear hb3))
    go_wp2
    go_ret
    exact ⟨_, rfl, HB3.out, HT3⟩

/-- The three texts of a list, where they lie. -/
theorem three_rd {w : World} {A : Option Addr} {a b c : ByteArray} (h : Tup.Rd w A [a, b, c]) : ∃ g off, A = some ⟨g, off, none⟩ ∧ g < w.heap.size ∧ w.cell? ⟨g, off, none⟩ = some (.string a) ∧ w.cell? ⟨g, off + 1, none⟩ = some (.string b) ∧ w.cell? ⟨g, off + 2, none⟩ = some (.string c) := by
  obtain ⟨g, off, rfl, hg, h0⟩ := h 0 (by simp)
  obtain ⟨_, _, e1, _, h1⟩ := h 1 (by simp)
  obtain ⟨_, _, e2, _, h2⟩ := h 2 (by simp)
  injection e1 with e1
  injection e1 with e1 e1'
  injection e2 with e2
  injection e2 with e2 e2'
  subst e1 e1' e2 e2'
  exact ⟨g, off, rfl, hg, h0, h1, h2⟩

set_option maxHeartbeats 1000000 in
set_option maxRecDepth 100000 in
theorem refEnt_any (s : ByteArray) (w : World) (hs : s.size ≤ 1000000) :
    Calls Tryd.prog 9 #[.string s] w fun e w' => e = .returned (.tuple #[entV (entRes s).1, .int .i64 (entRes s).2]) ∧ Below w.heap.size w w' := by
  have hE := str_emp' s
  have hB : Below w.heap.size w (w.alloc (.cells #[.int .i64 0, .int .i64 0, .string ⟨#[]⟩] 23)) := (Below.refl _ _).alloc (Nat.le_refl _) _
  by_cases hse : s = emp
  · rw [decide_eq_true hse] at hE
    have HR : Kept (entRes s = (zeroE, 0)) := ⟨by rw [hse]; exact entRes_emp⟩
    clear hse
    go_enter Tryd.func9, Tryd.ntmps9
    go_wp2
    refine bodyPost_ret (res_two rfl _ _ w.heap.size _ _ (0, 0) _ rfl (heap_alloc_new w _) Tryd.underlying23 rfl (by kernel_rfl)) rfl ?_
    exact ⟨by rw [HR.out]; rfl, hB⟩
  · rw [decide_eq_false hse] at hE
    have hne := ne_emp hse
    have hln : (toL s).length < 1000000000 := by rw [toL_length]; omega
    have HX0 : Kept (BoxIn w (w.alloc (.cells #[.int .i64 0, .int .i64 0, .string ⟨#[]⟩] 23)) #[.int .i64 0, .int .i64 0, .string ⟨#[]⟩]) := ⟨⟨heap_alloc_new w _, hB⟩⟩
    clear hB
    rcases hdec : Net.dec (toL s) with _ | l0
    · have hnone := ent_none hne hln (fun a b c h => by rw [hdec] at h; cases h)
      have HR : Kept (entRes s = (zeroE, 20)) := ⟨by unfold entRes; rw [hnone]⟩
      have HDec : Kept (∀ w, Calls Tryd.prog 26 #[.string s] w fun e w' => e = .returned (.tuple #[.slice none 0 0, .int .i64 20]) ∧ Below w.heap.size w w') := ⟨fun w => (Tup.refDec_any s w (by omega)).mono fun e w' ⟨v, k, he, hb, hdd⟩ => by
        rcases hdd.out with ⟨-, rfl, rfl⟩ | ⟨l, hl, -, -⟩
        · exact ⟨he, hb⟩
        · have : Net.dec (toL s) = some (l.map Tup.toL) := hl
          rw [hdec] at this
          cases this⟩
      clear hse hne hln hdec hnone
      go_enter Tryd.func9, Tryd.ntmps9
      go_wp2_with (first
        | (go_at_call 26
           refine (HDec.out _).mono ?_
           rintro e w1 ⟨rfl, hb1⟩
           have HX1 := Kept.mk (HX0.out.on hb1)
           clear hb1)
        | (refine wpList_store_row rfl 23 _ _ rfl _ _ rfl rfl _ _ HX1.out.box (by kernel_rfl) rfl (by simp [Value.oneCell']) ?_))
      have HX3 := HX1.out.set #[.int .i64 0, .int .i64 0, .string ⟨#[]⟩]
      refine bodyPost_ret (res_two rfl _ _ w.heap.size _ _ (0, 0) _ rfl HX3.box Tryd.underlying23 rfl (by kernel_rfl)) rfl ?_
      exact ⟨by rw [HR.out]; rfl, HX3.below⟩
    have HDec : Kept (∀ w, Calls Tryd.prog 26 #[.string s] w fun e w' => ∃ (A : Option Addr) (k : Nat) (l : List ByteArray), e = .returned (.tuple #[.slice A l0.length k, .int .i64 0]) ∧ Below w.heap.size w w' ∧ l.map toL = l0 ∧ Tup.Rd w' A l) := ⟨fun w => (Tup.refDec_any s w (by omega)).mono fun e w' ⟨v, k, he, hb, hdd⟩ => by
      rcases hdd.out with ⟨hn, -, -⟩ | ⟨l, hl, hes, rfl⟩
      · have : Net.dec (toL s) = none := hn
        rw [hdec] at this
        cases this
      · have e0 : Net.dec (toL s) = some (l.map Tup.toL) := hl
        rw [hdec] at e0
        injection e0 with e0
        obtain ⟨A, q, rfl, hr⟩ := Tup.Rd.of_es hes
        exact ⟨A, q, l, by rw [he, e0, List.length_map], hb, e0.symm, hr⟩⟩
    by_cases h3 : l0.length = 3
    · obtain ⟨a, b, c, rfl⟩ : ∃ a b c, l0 = [a, b, c] := by
        match l0, h3 with
        | [a, b, c], _ => exact ⟨a, b, c, rfl⟩
      have ht := ent_three hne hln hdec
      have HDec3 : Kept (∀ w, Calls Tryd.prog 26 #[.string s] w fun e w' => ∃ (g off k : Nat), e = .returned (.tuple #[.slice (some ⟨g, off, none⟩) 3 k, .int .i64 0]) ∧ Below w.heap.size w w' ∧ g < w'.heap.size ∧ w'.cell? ⟨g, off, none⟩ = some (.string (bs a)) ∧ w'.cell? ⟨g, off + 1, none⟩ = some (.string (bs b)) ∧ w'.cell? ⟨g, off + 2, none⟩ = some (.string (bs c))) := ⟨fun w => (HDec.out w).mono fun e w' ⟨A, k, l, he, hb, hl, hr⟩ => by
        obtain rfl : l = [bs a, bs b, bs c] := by
          show l = [a, b, c].map bs
          rw [← hl]
          exact (Tup.map_toL_bs l).symm
        obtain ⟨g, off, rfl, h⟩ := three_rd hr
        exact ⟨g, off, k, he, hb, h⟩⟩
      have hsm := (Net.decF_some _ hdec).2
      have HN1 : Kept (∀ w, Calls Tryd.prog 27 #[.string (bs a)] w fun e w' => e = .returned (.int .i64 (Tup.numI a)) ∧ w' = w) := ⟨fun w => Tup.number_is (bs a) w (by rw [bs_size]; have := hsm a (by simp); omega) a _ (toL_bs a) rfl⟩
      have HN2 : Kept (∀ w, Calls Tryd.prog 27 #[.string (bs b)] w fun e w' => e = .returned (.int .i64 (Tup.numI b)) ∧ w' = w) := ⟨fun w => Tup.number_is (bs b) w (by rw [bs_size]; have := hsm b (by simp); omega) b _ (toL_bs b) rfl⟩
      have hC : ((bs c).toList == ([] : List UInt8)) = decide (c = []) := by rw [str_emp']; exact decide_eq_decide.2 ⟨fun h => by rw [← toL_bs c, h]; rfl, fun h => by rw [h]; rfl⟩
      have hcsz : (bs c).size ≤ 1000000 := by
        have e1 : (Net.enc [a, b, c]).length = (toL s).length := by rw [Net.dec_some hdec]
        have e2 : c.length ≤ (toL s).length := by
          rw [Net.enc_cons, Net.enc_cons, Net.enc_cons] at e1
          unfold Net.one at e1
          simp only [List.length_append, List.length_cons, List.length_nil] at e1
          omega
        rw [bs_size]
        rw [toL_length] at e2
        omega
      generalize Tup.numI a = K at *
      generalize Tup.numI b = M at *
      generalize bs a = sa at *
      generalize bs b = sb at *
      have T1 : Kept True := ⟨trivial⟩
      by_cases q1 : K < 1
      · have HR : Kept (entRes s = (zeroE, 20)) := ⟨by unfold entRes; rw [if_neg (fun h => by omega)] at ht; rw [ht]⟩
        clear ht hse hne hln hdec hsm
        go_enter Tryd.func9, Tryd.ntmps9
        go_wp2_with (go_at_call 26
                     refine (HDec3.out _).mono ?_
                     rintro e w1 ⟨g, off, k, rfl, hb1, hg, c0, c1, c2⟩
                     have HX1 : Kept (BoxIn w w1.drew #[.int .i64 0, .int .i64 0, .string ⟨#[]⟩]) := ⟨⟨(HX0.out.on hb1).box, (HX0.out.on hb1).below.drew⟩⟩
                     clear hb1)
        go_region_held3 (fun w' => w'.cell? ⟨g, off, none⟩ = some (.string sa) ∧ w'.cell? ⟨g, off + 1, none⟩ = some (.string sb) ∧ w'.cell? ⟨g, off + 2, none⟩ = some (.string (bs c)))
          (exact ⟨c0, c1, c2⟩)
          (first
            | (go_at_call 27
               have := T1
               refine (HN1.out _).mono ?_
               rintro e w2 ⟨rfl, hw2⟩
               obtain rfl := hw2
               clear T1 this)
            | (go_at_call 27
               refine (HN2.out _).mono ?_
               rintro e w3 ⟨rfl, hw3⟩
               obtain rfl := hw3))
        go_wp2_with (refine wpList_store_row rfl 23 _ _ rfl _ _ rfl rfl _ _ HX1.out.box (by kernel_rfl) rfl (by simp [Value.oneCell']) ?_)
        have HX3 := HX1.out.set #[.int .i64 0, .int .i64 0, .string ⟨#[]⟩]
        refine bodyPost_ret (res_two rfl _ _ w.heap.size _ _ (0, 0) _ rfl HX3.box Tryd.underlying23 rfl (by kernel_rfl)) rfl ?_
        exact ⟨by rw [HR.out]; rfl, HX3.below⟩
      by_cases q2 : 3 < K
      · have HR : Kept (entRes s = (zeroE, 20)) := ⟨by unfold entRes; rw [if_neg (fun h => by omega)] at ht; rw [ht]⟩
        clear ht hse hne hln hdec hsm
        go_enter Tryd.func9, Tryd.ntmps9
        go_wp2_with (go_at_call 26
                     refine (HDec3.out _).mono ?_
                     rintro e w1 ⟨g, off, k, rfl, hb1, hg, c0, c1, c2⟩
                     have HX1 : Kept (BoxIn w w1.drew #[.int .i64 0, .int .i64 0, .string ⟨#[]⟩]) := ⟨⟨(HX0.out.on hb1).box, (HX0.out.on hb1).below.drew⟩⟩
                     clear hb1)
        go_region_held3 (fun w' => w'.cell? ⟨g, off, none⟩ = some (.string sa) ∧ w'.cell? ⟨g, off + 1, none⟩ = some (.string sb) ∧ w'.cell? ⟨g, off + 2, none⟩ = some (.string (bs c)))
          (exact ⟨c0, c1, c2⟩)
          (first
            | (go_at_call 27
               have := T1
               refine (HN1.out _).mono ?_
               rintro e w2 ⟨rfl, hw2⟩
               obtain rfl := hw2
               clear T1 this)
            | (go_at_call 27
               refine (HN2.out _).mono ?_
               rintro e w3 ⟨rfl, hw3⟩
               obtain rfl := hw3))
        go_wp2_with (refine wpList_store_row rfl 23 _ _ rfl _ _ rfl rfl _ _ HX1.out.box (by kernel_rfl) rfl (by simp [Value.oneCell']) ?_)
        have HX3 := HX1.out.set #[.int .i64 0, .int .i64 0, .string ⟨#[]⟩]
        refine bodyPost_ret (res_two rfl _ _ w.heap.size _ _ (0, 0) _ rfl HX3.box Tryd.underlying23 rfl (by kernel_rfl)) rfl ?_
        exact ⟨by rw [HR.out]; rfl, HX3.below⟩
      by_cases q3 : M < 0
      · have HR : Kept (entRes s = (zeroE, 20)) := ⟨by unfold entRes; rw [if_neg (fun h => by omega)] at ht; rw [ht]⟩
        clear ht hse hne hln hdec hsm
        go_enter Tryd.func9, Tryd.ntmps9
        go_wp2_with (go_at_call 26
                     refine (HDec3.out _).mono ?_
                     rintro e w1 ⟨g, off, k, rfl, hb1, hg, c0, c1, c2⟩
                     have HX1 : Kept (BoxIn w w1.drew #[.int .i64 0, .int .i64 0, .string ⟨#[]⟩]) := ⟨⟨(HX0.out.on hb1).box, (HX0.out.on hb1).below.drew⟩⟩
                     clear hb1)
        go_region_held3 (fun w' => w'.cell? ⟨g, off, none⟩ = some (.string sa) ∧ w'.cell? ⟨g, off + 1, none⟩ = some (.string sb) ∧ w'.cell? ⟨g, off + 2, none⟩ = some (.string (bs c)))
          (exact ⟨c0, c1, c2⟩)
          (first
            | (go_at_call 27
               have := T1
               refine (HN1.out _).mono ?_
               rintro e w2 ⟨rfl, hw2⟩
               obtain rfl := hw2
               clear T1 this)
            | (go_at_call 27
               refine (HN2.out _).mono ?_
               rintro e w3 ⟨rfl, hw3⟩
               obtain rfl := hw3))
        go_wp2_with (refine wpList_store_row rfl 23 _ _ rfl _ _ rfl rfl _ _ HX1.out.box (by kernel_rfl) rfl (by simp [Value.oneCell']) ?_)
        have HX3 := HX1.out.set #[.int .i64 0, .int .i64 0, .string ⟨#[]⟩]
        refine bodyPost_ret (res_two rfl _ _ w.heap.size _ _ (0, 0) _ rfl HX3.box Tryd.underlying23 rfl (by kernel_rfl)) rfl ?_
        exact ⟨by rw [HR.out]; rfl, HX3.below⟩
      by_cases q4 : 7 < M
      · have HR : Kept (entRes s = (zeroE, 20)) := ⟨by unfold entRes; rw [if_neg (fun h => by omega)] at ht; rw [ht]⟩
        clear ht hse hne hln hdec hsm
        go_enter Tryd.func9, Tryd.ntmps9
        go_wp2_with (go_at_call 26
                     refine (HDec3.out _).mono ?_
                     rintro e w1 ⟨g, off, k, rfl, hb1, hg, c0, c1, c2⟩
                     have HX1 : Kept (BoxIn w w1.drew #[.int .i64 0, .int .i64 0, .string ⟨#[]⟩]) := ⟨⟨(HX0.out.on hb1).box, (HX0.out.on hb1).below.drew⟩⟩
                     clear hb1)
        go_region_held3 (fun w' => w'.cell? ⟨g, off, none⟩ = some (.string sa) ∧ w'.cell? ⟨g, off + 1, none⟩ = some (.string sb) ∧ w'.cell? ⟨g, off + 2, none⟩ = some (.string (bs c)))
          (exact ⟨c0, c1, c2⟩)
          (first
            | (go_at_call 27
               have := T1
               refine (HN1.out _).mono ?_
               rintro e w2 ⟨rfl, hw2⟩
               obtain rfl := hw2
               clear T1 this)
            | (go_at_call 27
               refine (HN2.out _).mono ?_
               rintro e w3 ⟨rfl, hw3⟩
               obtain rfl := hw3))
        go_wp2_with (refine wpList_store_row rfl 23 _ _ rfl _ _ rfl rfl _ _ HX1.out.box (by kernel_rfl) rfl (by simp [Value.oneCell']) ?_)
        have HX3 := HX1.out.set #[.int .i64 0, .int .i64 0, .string ⟨#[]⟩]
        refine bodyPost_ret (res_two rfl _ _ w.heap.size _ _ (0, 0) _ rfl HX3.box Tryd.underlying23 rfl (by kernel_rfl)) rfl ?_
        exact ⟨by rw [HR.out]; rfl, HX3.below⟩
      by_cases q5 : K = 2
      · have b2 : (K == 2) = true := by simpa using q5
        by_cases q6 : c = []
        · rw [decide_eq_true q6] at hC
          rw [if_pos ⟨by omega, fun _ => q6⟩] at ht
          subst q5
          clear b2
          obtain ⟨mn, rfl⟩ := Int.eq_ofNat_of_zero_le (show 0 ≤ M by omega)
          have HR : Kept (entRes s = (⟨2, mn, bs c⟩, 0)) := ⟨by unfold entRes; rw [ht.1]⟩
          have HVx : Kept (∀ w, Calls Tryd.prog 11 #[.agg #[.int .i64 2, .int .i64 (mn : Int), .string (bs c)]] w fun e w' => e = .returned (.string s) ∧ Below w.heap.size w w') := ⟨fun w => (refVal_any 2 mn (bs c) w (by omega) (by omega) hcsz).mono fun e w' ⟨t, he, hb, htt⟩ => ⟨by rw [he, toL_inj (htt.out.trans ht.2)], hb⟩⟩
          clear q6
          clear ht hse hne hln hdec hsm
          go_enter Tryd.func9, Tryd.ntmps9
          go_wp2_with (go_at_call 26
                       refine (HDec3.out _).mono ?_
                       rintro e w1 ⟨g, off, k, rfl, hb1, hg, c0, c1, c2⟩
                       have HX1 : Kept (BoxIn w w1.drew #[.int .i64 0, .int .i64 0, .string ⟨#[]⟩]) := ⟨⟨(HX0.out.on hb1).box, (HX0.out.on hb1).below.drew⟩⟩
                       clear hb1)
          go_region_held3 (fun w' => w'.cell? ⟨g, off, none⟩ = some (.string sa) ∧ w'.cell? ⟨g, off + 1, none⟩ = some (.string sb) ∧ w'.cell? ⟨g, off + 2, none⟩ = some (.string (bs c)))
            (exact ⟨c0, c1, c2⟩)
            (first
              | (go_at_call 27
                 have := T1
                 refine (HN1.out _).mono ?_
                 rintro e w2 ⟨rfl, hw2⟩
                 obtain rfl := hw2
                 clear T1 this)
              | (go_at_call 27
                 refine (HN2.out _).mono ?_
                 rintro e w3 ⟨rfl, hw3⟩
                 obtain rfl := hw3))
          go_wp2_with (first
            | (go_at_call 11
               refine (HVx.out _).mono ?_
               rintro e w4 ⟨rfl, hb4⟩
               have HX4 := Kept.mk ((HX1.out.on ((Below.refl _ _).alloc (Nat.le_refl _) (.cells #[.int .i64 2, .int .i64 (mn : Int), .string (bs c)] 23))).on hb4)
               have HY4 : Kept (w4.heap[w1.heap.size]? = some (.cells #[.int .i64 2, .int .i64 (mn : Int), .string (bs c)] 23 (0, 0))) := ⟨(hb4.block _ (by simp)).trans (heap_alloc_new w1 _)⟩
               obtain ⟨y0, y1, y2⟩ := box3 HY4.out
               clear hb4)
            | (refine wpList_store_row rfl 23 _ _ rfl _ _ rfl rfl _ _ HX4.out.box (by kernel_rfl) rfl (by simp [Value.oneCell']) ?_))
          have HX5 := HX4.out.set #[.int .i64 2, .int .i64 (mn : Int), .string (bs c)]
          refine bodyPost_ret (res_two rfl _ _ w.heap.size _ _ (0, 0) _ rfl HX5.box Tryd.underlying23 rfl (by kernel_rfl)) rfl ?_
          exact ⟨by rw [HR.out]; rfl, HX5.below⟩
        · rw [decide_eq_false q6] at hC
          have HR : Kept (entRes s = (zeroE, 20)) := ⟨by unfold entRes; rw [if_neg (fun h => q6 (h.2 q5))] at ht; rw [ht]⟩
          clear ht hse hne hln hdec hsm
          go_enter Tryd.func9, Tryd.ntmps9
          go_wp2_with (go_at_call 26
                       refine (HDec3.out _).mono ?_
                       rintro e w1 ⟨g, off, k, rfl, hb1, hg, c0, c1, c2⟩
                       have HX1 : Kept (BoxIn w w1.drew #[.int .i64 0, .int .i64 0, .string ⟨#[]⟩]) := ⟨⟨(HX0.out.on hb1).box, (HX0.out.on hb1).below.drew⟩⟩
                       clear hb1)
          go_region_held3 (fun w' => w'.cell? ⟨g, off, none⟩ = some (.string sa) ∧ w'.cell? ⟨g, off + 1, none⟩ = some (.string sb) ∧ w'.cell? ⟨g, off + 2, none⟩ = some (.string (bs c)))
            (exact ⟨c0, c1, c2⟩)
            (first
              | (go_at_call 27
                 have := T1
                 refine (HN1.out _).mono ?_
                 rintro e w2 ⟨rfl, hw2⟩
                 obtain rfl := hw2
                 clear T1 this)
              | (go_at_call 27
                 refine (HN2.out _).mono ?_
                 rintro e w3 ⟨rfl, hw3⟩
                 obtain rfl := hw3))
          go_wp2_with (refine wpList_store_row rfl 23 _ _ rfl _ _ rfl rfl _ _ HX1.out.box (by kernel_rfl) rfl (by simp [Value.oneCell']) ?_)
          have HX3 := HX1.out.set #[.int .i64 0, .int .i64 0, .string ⟨#[]⟩]
          refine bodyPost_ret (res_two rfl _ _ w.heap.size _ _ (0, 0) _ rfl HX3.box Tryd.underlying23 rfl (by kernel_rfl)) rfl ?_
          exact ⟨by rw [HR.out]; rfl, HX3.below⟩
      · have b2 : (K == 2) = false := by simpa using q5
        rw [if_pos ⟨by omega, fun h => absurd h q5⟩] at ht
        obtain ⟨kn, rfl⟩ := Int.eq_ofNat_of_zero_le (show 0 ≤ K by omega)
        obtain ⟨mn, rfl⟩ := Int.eq_ofNat_of_zero_le (show 0 ≤ M by omega)
        have HR : Kept (entRes s = (⟨kn, mn, bs c⟩, 0)) := ⟨by unfold entRes; rw [ht.1]⟩
        have HVx : Kept (∀ w, Calls Tryd.prog 11 #[.agg #[.int .i64 (kn : Int), .int .i64 (mn : Int), .string (bs c)]] w fun e w' => e = .returned (.string s) ∧ Below w.heap.size w w') := ⟨fun w => (refVal_any kn mn (bs c) w (by omega) (by omega) hcsz).mono fun e w' ⟨t, he, hb, htt⟩ => ⟨by rw [he, toL_inj (htt.out.trans ht.2)], hb⟩⟩
        clear q5
        clear ht hse hne hln hdec hsm
        go_enter Tryd.func9, Tryd.ntmps9
        go_wp2_with (go_at_call 26
                     refine (HDec3.out _).mono ?_
                     rintro e w1 ⟨g, off, k, rfl, hb1, hg, c0, c1, c2⟩
                     have HX1 : Kept (BoxIn w w1.drew #[.int .i64 0, .int .i64 0, .string ⟨#[]⟩]) := ⟨⟨(HX0.out.on hb1).box, (HX0.out.on hb1).below.drew⟩⟩
                     clear hb1)
        go_region_held3 (fun w' => w'.cell? ⟨g, off, none⟩ = some (.string sa) ∧ w'.cell? ⟨g, off + 1, none⟩ = some (.string sb) ∧ w'.cell? ⟨g, off + 2, none⟩ = some (.string (bs c)))
          (exact ⟨c0, c1, c2⟩)
          (first
            | (go_at_call 27
               have := T1
               refine (HN1.out _).mono ?_
               rintro e w2 ⟨rfl, hw2⟩
               obtain rfl := hw2
               clear T1 this)
            | (go_at_call 27
               refine (HN2.out _).mono ?_
               rintro e w3 ⟨rfl, hw3⟩
               obtain rfl := hw3))
        go_wp2_with (first
          | (go_at_call 11
             refine (HVx.out _).mono ?_
             rintro e w4 ⟨rfl, hb4⟩
             have HX4 := Kept.mk ((HX1.out.on ((Below.refl _ _).alloc (Nat.le_refl _) (.cells #[.int .i64 (kn : Int), .int .i64 (mn : Int), .string (bs c)] 23))).on hb4)
             have HY4 : Kept (w4.heap[w1.heap.size]? = some (.cells #[.int .i64 (kn : Int), .int .i64 (mn : Int), .string (bs c)] 23 (0, 0))) := ⟨(hb4.block _ (by simp)).trans (heap_alloc_new w1 _)⟩
             obtain ⟨y0, y1, y2⟩ := box3 HY4.out
             clear hb4)
          | (refine wpList_store_row rfl 23 _ _ rfl _ _ rfl rfl _ _ HX4.out.box (by kernel_rfl) rfl (by simp [Value.oneCell']) ?_))
        have HX5 := HX4.out.set #[.int .i64 (kn : Int), .int .i64 (mn : Int), .string (bs c)]
        refine bodyPost_ret (res_two rfl _ _ w.heap.size _ _ (0, 0) _ rfl HX5.box Tryd.underlying23 rfl (by kernel_rfl)) rfl ?_
        exact ⟨by rw [HR.out]; rfl, HX5.below⟩
    · have hnone := ent_none hne hln (fun a b c h => by rw [hdec] at h; injection h with h; apply h3; rw [h]; rfl)
      have HR : Kept (entRes s = (zeroE, 20)) := ⟨by unfold entRes; rw [hnone]⟩
      have h3b : ((l0.length : Int) != 3) = true := by rw [bne_iff_ne]; omega
      clear hse hne hln hdec hnone h3
      go_enter Tryd.func9, Tryd.ntmps9
      go_wp2_with (first
        | (go_at_call 26
           refine (HDec.out _).mono ?_
           rintro e w1 ⟨A, k, l, rfl, hb1, -⟩
           have HX1 := Kept.mk (HX0.out.on hb1)
           clear hb1)
        | (refine wpList_store_row rfl 23 _ _ rfl _ _ rfl rfl _ _ HX1.out.box (by kernel_rfl) rfl (by simp [Value.oneCell']) ?_))
      have HX3 := HX1.out.set #[.int .i64 0, .int .i64 0, .string ⟨#[]⟩]
      refine bodyPost_ret (res_two rfl _ _ w.heap.size _ _ (0, 0) _ rfl HX3.box Tryd.underlying23 rfl (by kernel_rfl)) rfl ?_
      exact ⟨by rw [HR.out]; rfl, HX3.below⟩
end St
end Go.Proofs.YtjmblgahoejoiaaDoor
