/-
  A journal's device on which one byte was turned: the law's call, over any journal.
-/
import Derived.Test.YtmkpkmkhnphogaaGreatDoorJdoesaM
import Derived.Deep.RegionLaw
import Derived.Deep.CutBlock
import Derived.Deep.QuietTactic
import Derived.BigQuiet
import Derived.Laws.Closers25b
namespace Go.Proofs.YtmkpkmkhnphogaaGreatDoor
open Go.RowKit Tx Dv
namespace Jr

/-- A byte of a row is written. -/
theorem bs_put {w : World} {B g cap : Nat} {l : List UInt8} (h : By.Bs w B (.slice (some ⟨g, 0, none⟩) l.length cap) l) (q : Nat) (hq : q < l.length) (b : UInt8) : By.Bs (w.setCell ⟨g, q, none⟩ (By.cell b)) B (.slice (some ⟨g, 0, none⟩) l.length cap) (l.set q b) := by
  rcases h with ⟨h, _⟩ | ⟨g', cap', hv, h1, h2, h3, h4, h5, h6⟩
  · injection h with h; cases h
  · injection hv with e1 _ e3
    injection e1 with e1
    injection e1 with e1 _ _
    subst e1 e3
    have hold : ∀ j, j < cap → ∃ u, w.cell? ⟨g, j, none⟩ = some u := fun j hj => Option.isSome_iff_exists.1 (h5 j hj).1
    refine .inr ⟨g, cap, by rw [List.length_set], h1, by simpa [World.setCell] using h2, by rw [List.length_set]; exact h3, h4, fun j hj => ⟨?_, by rw [World.frozen?_setCell]; exact (h5 j hj).2⟩, fun j u hu => ?_⟩
    · by_cases e : j = q
      · subst e
        obtain ⟨u, hu⟩ := hold j hj
        rw [World.cell?_setCell_same _ _ _ hu]; rfl
      · rw [World.cell?_setCell_other _ _ _ _ (by intro e2; injection e2 with _ e3 _; exact e e3.symm)]; exact (h5 j hj).1
    · by_cases e : j = q
      · subst e
        obtain ⟨u0, hu0⟩ := hold j (by omega)
        rw [World.cell?_setCell_same _ _ _ hu0]
        rw [← hu]
        simp [By.cells, hq]
      · rw [World.cell?_setCell_other _ _ _ _ (by intro e2; injection e2 with _ e3 _; exact e e3.symm)]
        apply h6 j u
        rw [← hu]
        simp only [By.cells, List.getElem?_map]
        rw [List.getElem?_set_ne (fun e2 => e e2.symm)]

/-- A row that one watches stands. -/
theorem bs_move {w w' : World} {B g n c : Nat} {l : List UInt8} (h : By.Bs w B (.slice (some ⟨g, 0, none⟩) n c) l) (hb : w'.heap[g]? = w.heap[g]?) (hlt : g < w'.heap.size) : By.Bs w' B (.slice (some ⟨g, 0, none⟩) n c) l := by
  rcases h with ⟨h, _⟩ | ⟨g', cap', hv, h1, h2, h3, h4, h5, h6⟩
  · injection h with h; cases h
  · injection hv with e1 e2 e3
    injection e1 with e1
    injection e1 with e1 _ _
    subst e1 e2 e3
    refine .inr ⟨g, c, rfl, h1, hlt, h3, h4, fun j hj => ?_, fun j u hu => ?_⟩
    · rw [World.cell?_of_block (w := w) (a := ⟨g, j, none⟩) hb, World.frozen?_of_block (w := w) (a := ⟨g, j, none⟩) hb]
      exact h5 j hj
    · rw [World.cell?_of_block (w := w) (a := ⟨g, j, none⟩) hb]
      exact h6 j u hu

/-- The sector as a row: any byte may be put into it, and it is watched. -/
theorem Duo.row {K : World → Prop} {fO fR fA : FuncId} {Dev : World → (Nat → Prop) → Value → Disk → Prop} {Pp : World → (Nat → Prop) → Value → Value → Disk → Jn.Jour → Prop} {n x : Nat} {w0 w1 w w' : World} {Z U V : Nat → Prop} {d p r q cp cq : Value} {D E : Disk} {J I : Jn.Jour}
    (h : Duo Pp n w0 w1 Z w x U V d p r q cp cq D J E I) (M4 : Jour4 K fO fR fA Dev Pp) {v : Value} {m : List UInt8} (hb : By.Bs w' w.heap.size v m) (hg : w.grownBy w' none) (hm : m.length = 64) (y : Nat) (hy : y < 64) :
    ∃ (g cap z : Nat), v = .slice (some ⟨g, 0, none⟩) 64 cap ∧ z < 256 ∧ w'.cell? ⟨g, y, none⟩ = some (.int .u8 (z : Int)) ∧ w'.frozen? ⟨g, y, none⟩ = false ∧ 64 ≤ cap ∧
      Kept (∀ c : Int, 0 ≤ c → c ≤ 255 → ∃ l, By.Bs (w'.setCell ⟨g, y, none⟩ (.int .u8 c)) w.heap.size (.slice (some ⟨g, 0, none⟩) 64 cap) l ∧ l.length = 64 ∧ Duo Pp n w0 (w'.setCell ⟨g, y, none⟩ (.int .u8 c)) (fun k => k = g) (w'.setCell ⟨g, y, none⟩ (.int .u8 c)) x U V d p r q cp cq D J E I) := by
  have hb0 := hb
  rcases hb with ⟨_, h0⟩ | ⟨g, cap, hv, h1, h2, h3, h4, h5, h6⟩
  · rw [h0] at hm; cases hm
  · have hgc := h6 y (By.cell (m[y]'(by omega))) (by simp [By.cells, show y < m.length by omega])
    refine ⟨g, cap, (m[y]'(by omega)).toNat, by rw [hv, hm], UInt8.toNat_lt _, hgc, (h5 y (by omega)).2, by omega, ⟨fun c c0 c1 => ?_⟩⟩
    have hc : By.cell (UInt8.ofNat c.toNat) = .int .u8 c := by
      unfold By.cell
      rw [UInt8.toNat_ofNat_of_lt' (show c.toNat < 256 by omega), Int.toNat_of_nonneg c0]
    have hp := bs_put (by rw [hv] at hb0; exact hb0) y (by omega) (UInt8.ofNat c.toNat)
    rw [hc, hm] at hp
    have hbel : Below w.heap.size w (w'.setCell ⟨g, y, none⟩ (.int .u8 c)) := ((Below.refl _ _).grown hg (Nat.le_refl _) (fun k hk => by cases hk)).setCell h1 _
    have hD := h.byBelow M4 hbel
    refine ⟨m.set y (UInt8.ofNat c.toNat), hp, by rw [List.length_set]; exact hm, hD.watch _ _ ?_⟩
    rintro k rfl
    refine ⟨by simpa [World.setCell] using h2, fun u => ?_, fun u => ?_, fun e => ?_, rfl⟩
    · have := M4.lt h.four.pr k u; omega
    · have := refJour.lt h.four.rp k u; omega
    · have := h.at'.lt; omega

/-- The pair behind an append, on devices of 20 sectors. -/
def Stands20 (Pp : World → (Nat → Prop) → Value → Value → Disk → Jn.Jour → Prop) (w0 w : World) (x : Nat) (d p r q : Value) : Prop :=
  ∃ U V D J, Duo Pp w0.heap.size w0 w0 (fun _ => False) w x U V d p r q p q D J D J ∧ D.S.length = 20

set_option maxHeartbeats 8000000 in
set_option maxRecDepth 100000 in
theorem turned_any {K : World → Prop} {Dev : World → (Nat → Prop) → Value → Disk → Prop} {Pp : World → (Nat → Prop) → Value → Value → Disk → Jn.Jour → Prop} (w : World) (L : Lore (K := K) (Dev := Dev) (Pp := Pp) w)
    (l : List ByteArray) (A : Option Addr) (ln lk : Nat) (aa bb : Nat) (hl : Tup.Rd w A l) (hln : l.length = ln) (hln2 : ln ≤ 140737488351232) (hlz : ∀ t ∈ l, t.size ≤ 9223372036854775807) (haa : aa < 65536) (hbb : bb < 256) :
    Calls Tryz.prog 5 #[.slice A ln lk, .int .u16 aa, .int .u8 bb] w fun e w' => e = .returned (.bool true) ∧ Below w.heap.size w w' := by
  have HAw : Kept (Calls Tryz.prog 9 #[] w fun e w' => e = .returned (.bool true) ∧ Below w.heap.size w w') := ⟨awake_any L.M L.M4 w L.hK⟩
  have HBg : Kept (∀ w1, Below w.heap.size w w1 → Calls Tryz.prog 10 #[.int .i64 20] w1 fun e w' => ∃ x d p r q, e = .returned (.tuple #[.pointer (some ⟨x, 0, none⟩), .bool true]) ∧ Kept (Stands20 Pp w w' x d p r q)) := ⟨fun w1 hb => by
    refine (begun_any L.M L.M4 w w1 L.hK hb 20 (by omega) (by omega)).mono ?_
    rintro e w' ⟨x, U, V, d, p, r, q, rfl, h⟩
    exact ⟨x, d, p, r, q, rfl, ⟨U, V, _, _, h, fresh_length 20⟩⟩⟩
  have hnj := neqJ
  have HL := Kept.mk L
  have HR := Kept.mk hl
  have HLN := Kept.mk hln
  have HLZ := Kept.mk hlz
  clear L hl hln hlz
  go_enter Tryz.func5, Tryz.ntmps5
  go_upto_block 0 with (first
    | (go_at_call 9; refine HAw.out.mono ?_; rintro e w1 ⟨rfl, hb⟩; have HB1 := Kept.mk hb; clear hb)
    | (go_at_call 10; refine (HBg.out _ HB1.out).mono ?_; rintro e w2 ⟨x, d, p, r, q, rfl, H2⟩))
  clear HAw HBg HB1
  go_cut [10] (fun z wx => Kept (Stands20 Pp w wx x d p r q))
  case first =>
    go_wp2_with fail
    go_loopw [10] (fun z wr => ∃ i : Nat, i ≤ 4 ∧ i ≤ ln ∧ z = .int .i64 i ∧ Kept (Stands20 Pp w wr x d p r q)) (fun z _ => 4 - (intOf z).toNat)
    case atStart => exact ⟨0, by omega, by omega, rfl, H2⟩
    case round =>
      clear H2
      obtain ⟨i, hi, hil, rfl, HI⟩ := hrel
      have i0 : (0 : Int) ≤ i := by omega
      have i1 : (i : Int) ≤ 4 := by omega
      by_cases hlt : i < ln
      · have i2 : (i : Int) < ln := by omega
        by_cases h14 : i < 4
        · have i3 : (i : Int) < 4 := by omega
          obtain ⟨U, V, D, J, hD, hDl⟩ := HI.out
          have HD := Kept.mk (hD.byBelow HL.out.M4 (Below.refl _ _).drew)
          have HW := Kept.mk hD.four.below
          have HDl := Kept.mk hDl
          obtain ⟨g, off, rfl, hg, hc⟩ := HR.out i (by rw [HLN.out]; exact hlt)
          have hz := HLZ.out (l[i]'(by rw [HLN.out]; exact hlt)) (List.getElem_mem _)
          generalize l[i]'(by rw [HLN.out]; exact hlt) = t at hc hz
          have HZ := Kept.mk hz
          have HC := Kept.mk (And.intro hc hg)
          have c0 := (World.cell?_of_block (w := w) (a := ⟨g, off + i, none⟩) (HD.out.four.below.block g hg)).trans hc
          have b1 := HD.out.at'.c1
          have b3 := HD.out.at'.c3
          clear hD hz hc hg HI hDl
          by_cases h100 : t.size ≤ 100
          · have z0 : Kept (t.size ≤ 100) := ⟨h100⟩
            obtain ⟨y, hy⟩ : ∃ y, Jn.append D J (toL t) = y := ⟨_, rfl⟩
            obtain ⟨e0, X, I⟩ := y
            have HX := Kept.mk hy
            have hXl : X.S.length = 20 := by
              have := Jn.append_length D J (toL t)
              rw [hy] at this
              exact this.trans HDl.out
            have HXL := Kept.mk hXl
            clear hy hXl h100
            go_wp2
            have z9 : decide ((100 : Int) < t.size) = false := decide_eq_false (by have := z0.out; omega)
            go_region_held3 (fun w' => w'.cell? ⟨x, 1, none⟩ = some p ∧ w'.cell? ⟨x, 3, none⟩ = some q ∧ w'.cell? ⟨g, off + i, none⟩ = some (.string t))
              (first
                | exact ⟨a2.c1, a2.c3, k2⟩
                | exact ⟨a1.c1, a1.c3, k0⟩
                | exact ⟨b1, b3, c0⟩)
              (first
                | (go_at_call 20
                   refine (HD.out.appendP HL.out.M4 HL.out.hK t HZ.out).mono ?_
                   rintro e wA ⟨U7, rfl, h1⟩
                   rw [HX.out] at h1 ⊢
                   have HA := Kept.mk h1
                   have a1 := h1.at'
                   have k0 := (World.cell?_of_block (w := w) (a := ⟨g, off + i, none⟩) (HA.out.four.below.block g HC.out.2)).trans HC.out.1
                   clear h1)
                | (go_at_call 21
                   refine (HA.out.appendR HL.out.M4 t HZ.out).mono ?_
                   rintro e wB ⟨V7, rfl, h1⟩
                   rw [HX.out] at h1 ⊢
                   have HB := Kept.mk h1
                   have a2 := h1.at'
                   have k2 := (World.cell?_of_block (w := w) (a := ⟨g, off + i, none⟩) (HB.out.four.below.block g HC.out.2)).trans HC.out.1
                   clear h1))
            all_goals
              go_wp2
              go_roundw
              case rel => exact ⟨i + 1, by omega, by omega, by go_num, ⟨_, _, _, _, HB.out, HXL.out⟩⟩
              case measure => simp [intOf]; omega
          · have z1 : (100 : Int) < t.size := by omega
            clear h100
            go_wp2
            have c9 : wr.cell? ⟨g, off + i, none⟩ = some (.string t) := c0
            clear c0 b1 b3
            go_quiet (fail)
            go_wp2
            go_ret
            exact ⟨rfl, below_drewN HW.out _⟩
        · have i3 : ¬ (i : Int) < 4 := by omega
          go_wp2
          go_meet
          exact HI
      · have i2 : ¬ (i : Int) < ln := by omega
        go_wp2
        go_meet
        exact HI
  case rest =>
    clear H2 HR HLN HLZ
    obtain ⟨U, V, D, J, hD, hDl⟩ := hcut.out
    have HD := Kept.mk hD
    have b2 := hD.at'.c2
    obtain ⟨k, hk⟩ : ∃ k, aa % 1280 = k := ⟨_, rfl⟩
    obtain ⟨u, hu⟩ : ∃ u, k / 64 = u := ⟨_, rfl⟩
    obtain ⟨y, hy⟩ : ∃ y, k % 64 = y := ⟨_, rfl⟩
    have k0 : (0 : Int) ≤ k := by omega
    have k1 : (k : Int) < 1280 := by omega
    have m0 : (aa : Int).tmod 1280 = k := by rw [Int.tmod_eq_emod_of_nonneg (by omega)]; omega
    have m1 : (k : Int).tdiv 64 = u := by rw [Int.tdiv_eq_ediv_of_nonneg (by omega)]; omega
    have m2 : (k : Int).tmod 64 = y := by rw [Int.tmod_eq_emod_of_nonneg (by omega)]; omega
    have u0 : (0 : Int) ≤ u := by omega
    have u1 : (u : Int) < 20 := by omega
    have y0 : (0 : Int) ≤ y := by omega
    have y1 : (y : Int) < 64 := by omega
    have y2 : y < 64 := by omega
    have HM : Kept (∀ t : ByteArray, t = bs (D.read u).1 → t.size = 64 ∧ t.data.toList.length = 64) := ⟨fun t ht => by
      have hOk : D.Ok := (HL.out.M4.few hD.four.pr).1
      have hh : D.has u := ⟨by omega, by rw [hDl]; omega⟩
      have h64 := hOk.at hh
      unfold Disk.read at ht
      rw [if_pos hh] at ht
      have : t.size = 64 := by rw [ht, bs_size]; exact h64
      exact ⟨this, by simpa using this⟩⟩
    clear hD hDl hcut hk hu hy
    go_wp2_with (first
      | (go_at_call 22
         refine (HD.out.readR HL.out.M4 u (by omega) (by omega)).mono ?_
         rintro e w3 ⟨t, rfl, ht, rfl⟩
         have hts := (HM.out t ht.out).1)
      | (refine By.wpList_bytes byteTy rfl 9 _ rfl Tryz.underlying9 t rfl (by unfold maxLen; omega) ?_
         intro v wv hb hg
         obtain ⟨g, cap, z, rfl, z1, hz, hzf, hcap, HZ⟩ := HD.out.row HL.out.M4 hb hg (HM.out t ht.out).2 y y2
         have z2 : (0 : Int) ≤ z := by omega
         have z3 : (z : Int) ≤ 255 := by omega
         have v0 := bits_lo_u8 .xor z bb
         have v1 := bits_hi_u8 .xor z bb
         clear hb hg))
    obtain ⟨l1, hB, hl1, h4⟩ := HZ.out _ v0 v1
    generalize wv.setCell ⟨g, y, none⟩ _ = w4 at hB h4 ⊢
    have HB := Kept.mk hB
    have HE := Kept.mk (h4.byBelow HL.out.M4 (Below.refl _ _).drew)
    have hstr : (convert 51 9 (.slice (some ⟨g, 0, none⟩) 64 cap)).run Tryz.prog w4.drew = .ok (.string ⟨l1.toArray⟩) w4.drew := By.run_string byteTy 9 Tryz.underlying9 HB.out.drew
    have hTs : (⟨l1.toArray⟩ : ByteArray).size = 64 := by rw [← hl1]; exact bs_size l1
    generalize hT : (⟨l1.toArray⟩ : ByteArray) = T at hstr hTs
    have HTs : Kept (T.size ≤ 9223372036854775807) := ⟨by omega⟩
    have b0 := HE.out.at'.c0
    clear hB h4 hTs hl1
    go_wp2
    refine wp_region_still_tail 8 (by kernel_rfl) (by kernel_rfl) ?_
    simp only [List.take_succ_cons, List.take_zero, List.drop_succ_cons, List.drop_zero]
    repeat still_step
    refine wpStill_nil ?_
    go_wp2_with (go_at_call 16
                 refine (HE.out.writeP HL.out.M HL.out.M4 u T (by omega) (by omega) HTs.out).mono ?_
                 rintro e w5 ⟨U1, rfl, h1⟩
                 have HF := Kept.mk (h1.byBelow HL.out.M4 (Below.refl _ _).drew)
                 have hB5 := bs_move HB.out (h1.side g rfl).2.2.2.2 (h1.side g rfl).1
                 clear h1 b0 hstr)
    have hstr : (convert 51 9 (.slice (some ⟨g, 0, none⟩) 64 cap)).run Tryz.prog w5.drew = .ok (.string T) w5.drew := by rw [← hT]; exact By.run_string byteTy 9 Tryz.underlying9 hB5.drew
    have b2 := HF.out.at'.c2
    clear hB5
    refine wp_region_still_tail 8 (by kernel_rfl) (by kernel_rfl) ?_
    simp only [List.take_succ_cons, List.take_zero, List.drop_succ_cons, List.drop_zero]
    repeat still_step
    refine wpStill_nil ?_
    go_wp2_with (go_at_call 17
                 refine (HF.out.writeR HL.out.M4 u T (by omega) (by omega) HTs.out).mono ?_
                 rintro e w6 ⟨V1, rfl, h1⟩
                 have H2 := Kept.mk h1.blind
                 clear h1 b2 hstr)
    clear HB HE HF HTs hT
    generalize (D.write u (toL T)).2 = D at H2
    have b0 := H2.out.at'.c0
    have b2 := H2.out.at'.c2
    go_wp2
    go_region_held3 (fun w' => w'.cell? ⟨x, 0, none⟩ = some d ∧ w'.cell? ⟨x, 2, none⟩ = some r)
      (first
        | go_keep
        | exact ⟨d0, d2⟩
        | exact ⟨e0, e2⟩
        | exact ⟨(World.cell?_setCell_other _ _ _ _ (by simp)).trans e0, (World.cell?_setCell_other _ _ _ _ (by simp)).trans e2⟩
        | exact ⟨(World.cell?_setCell_other _ _ _ _ (by simp)).trans ((World.cell?_setCell_other _ _ _ _ (by simp)).trans e0), (World.cell?_setCell_other _ _ _ _ (by simp)).trans ((World.cell?_setCell_other _ _ _ _ (by simp)).trans e2)⟩)
      (first
        | (go_at_call 18
           refine ((H2.out.byBelow HL.out.M4 (Below.refl _ _).drew).openP HL.out.M4 HL.out.hK).mono ?_
           rintro e w4 ⟨U2, a, L2, k2, rfl, ho, h1⟩
           have H3 := Kept.mk h1
           have HO := Kept.mk ho
           have d0 := H3.out.at'.c0
           have d2 := H3.out.at'.c2
           clear h1 ho)
        | (go_at_call 19
           refine (H3.out.openR HL.out.M4).mono ?_
           rintro e w5 ⟨V2, a3, L3, k3, rfl, ho, h1⟩
           have H4 := Kept.mk h1
           have HP := Kept.mk ho
           have e0 := H4.out.at'.c0
           have e2 := H4.out.at'.c2
           have g1 := H4.out.at'.c1
           have g3 := H4.out.at'.c3
           have f1 := H4.out.at'.free 1 (by decide)
           have f3 := H4.out.at'.free 3 (by decide)
           clear h1 ho))
    have hf := (HL.out.M4.few H4.out.four.pr).1.few
    obtain ⟨rfl, rfl⟩ := HO.out.unique hf HP.out
    have H5 := Kept.mk (H4.out.put HL.out.M4)
    generalize (w5.setCell ⟨x, 1, none⟩ (.pointer (some a))).setCell ⟨x, 3, none⟩ (.pointer (some a3)) = w6 at H5 ⊢
    clear H2 H3 H4 HO HP b0 b2 d0 d2 e0 e2 g1 g3 f1 f3 hf
    have b1 := H5.out.at'.c1
    have b3 := H5.out.at'.c3
    go_wp2
    go_region_held3 (fun w' => w'.cell? ⟨x, 1, none⟩ = some (.pointer (some a)) ∧ w'.cell? ⟨x, 3, none⟩ = some (.pointer (some a3)))
      (first
        | go_keep
        | exact ⟨a4.c1, a4.c3⟩
        | exact ⟨a5.c1, a5.c3⟩
        | exact ⟨a6.c1, a6.c3⟩)
      (first
        | (go_at_call 13
           refine ((H5.out.byBelow HL.out.M4 (Below.refl _ _).drew).recordsP HL.out.M4).mono ?_
           rintro e w7 ⟨A4, n4, k4, rfl, hn4, hR4, hB4⟩
           have H7 := Kept.mk ((H5.out.byBelow HL.out.M4 (Below.refl _ _).drew).byBelow HL.out.M4 hB4.out)
           have a4 := H7.out.at')
        | (go_at_call 14
           refine (H7.out.recordsR).mono ?_
           rintro e w8 ⟨A5, n5, k5, rfl, hn5, hR5, hB5⟩
           have H8 := Kept.mk (H7.out.byBelow HL.out.M4 hB5.out)
           have a5 := H8.out.at')
        | (go_at_call 12
           refine (Tup.same_any (L2.map bs) (L2.map bs) A4 A5 n4 k4 n5 k5 w8 (hR4.out.below hB5.out) hR5.out (by rw [List.length_map]; exact hn4.out.symm) (by rw [List.length_map]; exact hn5.out.symm) (Duo.short H5.out HL.out.M4 hn4) (Duo.short H5.out HL.out.M4 hn5)).mono ?_
           rintro e w9 ⟨he, hb⟩
           rw [decide_eq_true rfl] at he
           subst he
           have H9 := Kept.mk (H8.out.byBelow HL.out.M4 hb)
           have a6 := H9.out.at'
           clear hb))
    all_goals
      go_wp2
      go_ret
      exact ⟨rfl, H9.out.four.below⟩
end Jr
end Go.Proofs.YtmkpkmkhnphogaaGreatDoor
