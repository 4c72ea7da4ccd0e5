/-
  Opened again a journal has the records ahead of what was appended last, or these and it: the law's call, over any journal.
-/
import Derived.Test.YtmkpkmkhnphogaaGreatDoorJlawM
import Derived.Test.YtmkpkmkhnphogaaGreatDoorGtr
import Derived.Deep.DeepCutAuto
import Derived.Deep.CutBlock
namespace Go.Proofs.YtmkpkmkhnphogaaGreatDoor
open Go.RowKit Tx Dv
namespace Jr

/-- What is there behind the last append and a restart. -/
theorem whole_end {X : Disk} {J : Jn.Jour} {n k : Nat} {pw : Int} {m : Nat} {s : List UInt8} (h : Filled X J n k) {L2 : List (List UInt8)} {a2 : Nat} (ho : Jn.Opened (Jn.append (X.limit pw m) J s).2.1.restart L2 a2) :
    ((Jn.append (X.limit pw m) J s).1 = 0 → L2 = J.L ++ [s]) ∧ ((Jn.append (X.limit pw m) J s).1 ≠ 0 → L2 = J.L ∨ L2 = J.L ++ [s]) := by
  have h0 : Jn.Opened (X.limit pw m) J.L J.pos := h.opened.sameS rfl
  have hb : Jn.Blank (X.limit pw m) J.pos := h.blank.sameS rfl
  have hl : J.L.length < 1000000000 := by have := h.opened.le; have := h.ok.few; omega
  have hlen : (Jn.append (X.limit pw m) J s).2.1.restart.S.length ≤ 4096 := by
    show (Jn.append (X.limit pw m) J s).2.1.S.length ≤ 4096
    rw [Jn.append_length]
    exact h.ok.few
  obtain ⟨L, a⟩ := J
  refine ⟨fun e => ?_, fun e => ?_⟩
  · obtain ⟨_, h2, _⟩ := Jn.append_done h0 hl e
    exact (ho.unique hlen (h2.sameS rfl)).1
  · obtain ⟨_, h2 | h2⟩ := Jn.append_failed h0 hb hl e
    · exact .inl (ho.unique hlen (h2.sameS rfl)).1
    · exact .inr (ho.unique hlen (h2.sameS rfl)).1

/-- A list that is read. -/
theorem es_rd {w : World} {b n k : Nat} {A : Option Addr} {l : List ByteArray} (h : Own.Es Value.string w b (.slice A n k) l) : Tup.Rd w A l ∧ l.length = n ∧ (A = none → n = 0 ∧ k = 0) := by
  rcases h with ⟨h1, h2⟩ | ⟨g, cap, h1, h2, h3, h4, h5, h6, h7⟩
  · injection h1 with e1 e2 e3
    subst e1 e2 e3 h2
    exact ⟨Tup.Rd.nil _ _, rfl, fun _ => ⟨rfl, rfl⟩⟩
  · injection h1 with e1 e2 e3
    subst e1 e2 e3
    refine ⟨fun j hj => ⟨g, 0, rfl, h3, ?_⟩, rfl, fun e => by cases e⟩
    rw [Nat.zero_add]
    exact h7 j _ (by simp [hj])
theorem es_grown {w w' : World} {b c : Nat} {v u : Value} {l m : List ByteArray} (h : Own.Es Value.string w b v l) (hu : Own.Es Value.string w c u m) (hg : w.grownBy w' u.ownBlock) (hlt : ∀ k, v.ownBlock = some k → k < c) : Own.Es Value.string w' b v l :=
  h.keep (fun k hk => hg.block k (h.lt k hk).2 (fun e => by have := hlt k hk; have := (hu.lt k e.symm).1; omega)) hg.size
theorem es_grown0 {w w' : World} {b : Nat} {v : Value} {l : List ByteArray} (h : Own.Es Value.string w b v l) (hg : w.grownBy w' none) : Own.Es Value.string w' b v l :=
  h.keep (fun k hk => hg.block k (h.lt k hk).2 (fun e => by cases e)) hg.size

set_option maxHeartbeats 4000000 in
set_option maxRecDepth 100000 in
theorem whole_any {K : World → Prop} {Dev : World → (Nat → Prop) → Value → Disk → Prop} {Pp : World → (Nat → Prop) → Value → Value → Disk → Jn.Jour → Prop} (M : Means Dev)
    (M4 : Jour4 K 18 13 20 Dev Pp) (w : World) (hK : ∀ w', Below w.heap.size w w' → K w')
    (l : List ByteArray) (A : Option Addr) (ln lk : Nat) (last junk : ByteArray) (pw mk : Nat) (hl : Tup.Rd w A l) (hln : l.length = ln) (hln2 : ln ≤ 140737488351232) (hla : last.size ≤ 9223372036854775807) (hju : junk.size ≤ 9223372036854775807) (hpw : pw < 256) (hmk : mk < 18446744073709551616) :
    Calls Tryz.prog 6 #[.slice A ln lk, .string last, .int .u8 pw, .int .u64 mk, .string junk] w fun e w' => e = .returned (.bool true) ∧ Below w.heap.size w w' := by
  have HAw : Kept (Calls Tryz.prog 9 #[] w fun e w' => e = .returned (.bool true) ∧ Below w.heap.size w w') := ⟨awake_any M M4 w hK⟩
  have HNew : Kept (∀ w1, Below w.heap.size w w1 → Calls Tryz.prog 23 #[.int .i64 40] w1 fun e w' => ∃ B a, e = .returned (.tuple #[.pointer (some a), .int .i64 0]) ∧ DvIn Dev w.heap.size w w' B (.pointer (some a)) (fresh 40)) := ⟨fun w1 hb => (M.newOk 40 w1 (by omega) (by omega)).mono (by
    rintro e w' ⟨B, p, rfl, hd, hB, hb2⟩
    obtain ⟨a, rfl⟩ := M.ptr hd
    exact ⟨B, a, rfl, hd, hb.trans (hb2.mono hb.size), fun k hk => Nat.le_trans hb.size (hB k hk), Nat.le_trans hb.size hb2.size⟩)⟩
  have HWr : Kept (∀ w1 B d X (k : Nat) (s : ByteArray), DvIn Dev w.heap.size w w1 B d X → Ready X 40 → 0 < k → k < 40 → s.size ≤ 64 → Calls Tryz.prog 16 #[d, .int .i64 k, .string s] w1 fun e w' => ∃ E B' X', e = .returned (.int .i64 E) ∧ DvIn Dev w.heap.size w w' B' d X' ∧ Ready X' 40) := ⟨fun w1 B d X k s h hr h0 h1 hs => (M.write h.dev k s (by omega) (by omega) (by omega)).mono (by
    rintro e w' ⟨B', rfl, hd, ho, hB⟩
    exact ⟨_, B', _, rfl, h.byOnly hd ho hB, hr.write h0 h1 (by rw [toL_length]; exact hs)⟩)⟩
  have HOp : Kept (∀ w1 B d X, DvIn Dev w.heap.size w w1 B d X → Ready X 40 → Calls Tryz.prog 18 #[d] w1 fun e w' => ∃ U a, e = .returned (.pointer (some a)) ∧ PrIn Pp w.heap.size w w' U d (.pointer (some a)) X ⟨[], 0⟩) := ⟨fun w1 B d X h hr => (M4.opens (hK w1 h.below) h.dev).mono (by
    rintro e w' ⟨U, p, L, a, rfl, hp, ho, hU, hb2⟩
    obtain ⟨rfl, rfl⟩ := hr.opened ho
    obtain ⟨x, rfl⟩ := M4.ptr hp
    exact ⟨U, x, rfl, h.toPr hp hU hb2⟩)⟩
  have HApp : Kept (∀ w1 U d p X J k (s : ByteArray), PrIn Pp w.heap.size w w1 U d p X J → Filled X J 40 k → k + 5 ≤ 40 → s.size ≤ 200 → Calls Tryz.prog 20 #[p, .string s] w1 fun e w' => ∃ E U' X' J', e = .returned (.int .i64 E) ∧ PrIn Pp w.heap.size w w' U' d p X' J' ∧ Filled X' J' 40 (k + 5)) := ⟨fun w1 U d p X J k s h hf hk hs => (M4.append (h.keeps hK) h.pr s (by omega)).mono (by
    rintro e w' ⟨rfl, U', hp, ho, hU⟩
    have := hf.append (s := toL s) (c := 4) (by rw [toL_length]; omega) (by rw [toL_length]; unfold Jn.count; omega) (by omega)
    exact ⟨_, U', _, _, rfl, h.byOnly hp ho hU, this.2.2⟩)⟩
  have HRec : Kept (∀ w1 U d p X J, PrIn Pp w.heap.size w w1 U d p X J → Calls Tryz.prog 13 #[p] w1 fun e w' => ∃ A n k b, e = .returned (.slice A n k) ∧ PrIn Pp w.heap.size w w' U d p X J ∧ Told w' U b (.slice A n k) (J.L.map bs) ∧ w.heap.size ≤ b ∧ b ≤ w'.heap.size ∧ J.L.length = n ∧ Below w1.heap.size w1 w') := ⟨fun w1 U d p X J h => (M4.records h.pr).mono (by
    rintro e w' ⟨v, rfl, he, hb⟩
    obtain ⟨A, k, rfl⟩ := he.len
    refine ⟨A, _, k, w1.heap.size, rfl, h.byBelow M4 hb, Told.new he (fun k hk => M4.lt h.pr k hk), h.big, hb.size, by rw [List.length_map], hb⟩)⟩
  have HLim : Kept (∀ w1 U d p X J b v lst (q : Int), PrIn Pp w.heap.size w w1 U d p X J → Told w1 U b v lst → 0 ≤ q → q ≤ 9 → Calls Tryz.prog 24 #[d, .int .i64 q, .int .u64 mk] w1 fun e w' => ∃ U', e = .returned (.tuple #[]) ∧ PrIn Pp w.heap.size w w' U' d p (X.limit q mk) J ∧ Told w' U' b v lst) := ⟨fun w1 U d p X J b v lst q h ht h0 h9 => by
    obtain ⟨B, hd, hc⟩ := h.byDev M4
    refine (M.limit hd q mk (by omega) (by omega) hmk).mono ?_
    rintro e w' ⟨B', rfl, hd', ho, hB⟩
    obtain ⟨U', hp, hU, hoU⟩ := hc w' B' _ hd' rfl ho hB
    exact ⟨U', rfl, hp, ht.step hoU hU⟩⟩
  have HApT : Kept (∀ w1 U d p X J b v lst (s : ByteArray), PrIn Pp w.heap.size w w1 U d p X J → Told w1 U b v lst → s.size ≤ 200 → Calls Tryz.prog 20 #[p, .string s] w1 fun e w' => ∃ U', e = .returned (.int .i64 (Jn.append X J (toL s)).1) ∧ PrIn Pp w.heap.size w w' U' d p (Jn.append X J (toL s)).2.1 (Jn.append X J (toL s)).2.2 ∧ Told w' U' b v lst) := ⟨fun w1 U d p X J b v lst s h ht hs => (M4.append (h.keeps hK) h.pr s (by omega)).mono (by
    rintro e w' ⟨rfl, U', hp, ho, hU⟩
    exact ⟨U', rfl, h.byOnly hp ho hU, ht.step ho hU⟩)⟩
  have HRes : Kept (∀ w1 U d p X J b v lst, PrIn Pp w.heap.size w w1 U d p X J → Told w1 U b v lst → Calls Tryz.prog 25 #[d] w1 fun e w' => ∃ U', e = .returned (.tuple #[]) ∧ PrIn Pp w.heap.size w w' U' d p X.restart J ∧ Told w' U' b v lst) := ⟨fun w1 U d p X J b v lst h ht => by
    obtain ⟨B, hd, hc⟩ := h.byDev M4
    refine (M.restart hd).mono ?_
    rintro e w' ⟨B', rfl, hd', ho, hB⟩
    obtain ⟨U', hp, hU, hoU⟩ := hc w' B' _ hd' rfl ho hB
    exact ⟨U', rfl, hp, ht.step hoU hU⟩⟩
  have HOp2 : Kept (∀ w1 U d p X J b v lst, PrIn Pp w.heap.size w w1 U d p X J → Told w1 U b v lst → Calls Tryz.prog 18 #[d] w1 fun e w' => ∃ U' a L2 a2, e = .returned (.pointer (some a)) ∧ PrIn Pp w.heap.size w w' U' d (.pointer (some a)) X ⟨L2, a2⟩ ∧ Told w' U' b v lst ∧ Jn.Opened X L2 a2) := ⟨fun w1 U d p X J b v lst h ht => by
    obtain ⟨B, hBU, hd, -⟩ := M4.dev h.pr
    refine (M4.opens (hK w1 h.below) hd).mono ?_
    rintro e w' ⟨U', q, L, a, rfl, hp, ho, hU, hb⟩
    obtain ⟨x, rfl⟩ := M4.ptr hp
    have hU2 : ∀ i, U' i → U i ∨ w1.heap.size ≤ i := fun i hi => (hU i hi).imp (hBU i) id
    exact ⟨U', x, L, a, rfl, h.again hp hU2 hb, ht.turn hb hU2, ho⟩⟩
  have HL := Kept.mk hl
  have HLN := Kept.mk hln
  clear M M4 hK hl hln
  have hpd := eqD
  have hpj := eqJ
  have hnd := neqD
  have p0 : (0 : Int) ≤ pw := by omega
  have p1 : (pw : Int) < 256 := by omega
  by_cases hz : last.size ≤ 200
  · have hz2 : ¬ (200 : Int) < last.size := by omega
    have HZ := Kept.mk hz
    clear hz
    go_enter Tryz.func6, Tryz.ntmps6
    go_upto_block 0 with (first
      | (go_at_call 9; refine HAw.out.mono ?_; rintro e w1 ⟨rfl, hb⟩; have HB1 := Kept.mk hb; clear hb)
      | (go_at_call 23; refine (HNew.out _ HB1.out).mono ?_; rintro e w2 ⟨B0, a, rfl, h⟩; have K0 := Kept.mk h; clear h))
    clear hz2
    go_cut [14] (fun x wx => ∃ B X, Kept (DvIn Dev w.heap.size w wx B (.pointer (some a)) X ∧ Ready X 40))
    case first =>
      go_wp2_with fail
      go_loopw [14] (fun x wr => ∃ (i : Nat) (B : Nat → Prop) (X : Disk), i ≤ 40 ∧ x = .int .i64 i ∧ Kept (DvIn Dev w.heap.size w wr B (.pointer (some a)) X ∧ Ready X 40)) (fun x _ => 40 - (intOf x).toNat)
      case atStart => exact ⟨0, B0, _, by omega, rfl, ⟨K0.out, Ready.fresh 40 (by decide)⟩⟩
      case round =>
        clear K0
        obtain ⟨i, B, X, hi, rfl, HX⟩ := hrel
        have i0 : (0 : Int) ≤ i := by omega
        have i1 : (i : Int) ≤ 40 := by omega
        by_cases hlt : i < 40
        · by_cases hj : junk.size ≤ 64
          · have hj2 : (junk.size : Int) ≤ 64 := by omega
            by_cases h0 : 0 < i
            · have HI := Kept.mk (And.intro h0 (And.intro hlt hj))
              clear hj
              go_wp2_with (go_at_call 16
                           refine (HWr.out _ _ _ _ i junk HX.out.1 HX.out.2 HI.out.1 HI.out.2.1 HI.out.2.2).mono ?_
                           rintro e w3 ⟨E3, B3, X3, rfl, h3, r3⟩
                           have H3 := Kept.mk (And.intro h3 r3)
                           clear h3 r3)
              go_roundw
              case rel => exact ⟨i + 1, _, _, by omega, by go_num, H3⟩
              case measure => simp [intOf]; omega
            · obtain rfl : i = 0 := by omega
              go_wp2
              go_roundw
              case rel => exact ⟨1, _, _, by omega, rfl, HX⟩
              case measure => simp [intOf]
          · have hj2 : ¬ (junk.size : Int) ≤ 64 := by omega
            clear hj
            go_wp2
            go_meet
            exact ⟨B, X, HX⟩
        · have h40 : ¬ (i : Int) < 40 := by omega
          go_wp2
          go_meet
          exact ⟨B, X, HX⟩
    case rest =>
      clear K0 HB1 HNew HWr HAw
      obtain ⟨B, X, HX⟩ := hcut
      go_upto_block 2 with (go_at_call 18
                            refine (HOp.out _ _ _ _ HX.out.1 HX.out.2).mono ?_
                            rintro e w4 ⟨U4, j4, rfl, h4⟩
                            have H4 := Kept.mk (And.intro h4 HX.out.2.filled)
                            clear h4)
      clear HOp
      go_cut [16] (fun x wx => ∃ U X J k, Kept (PrIn Pp w.heap.size w wx U (.pointer (some a)) (.pointer (some j4)) X J ∧ Filled X J 40 k))
      case first =>
        go_wp2_with fail
        go_loopw [16] (fun x wr => ∃ (i : Nat) (U : Nat → Prop) (X : Disk) (J : Jn.Jour), i ≤ 5 ∧ i ≤ ln ∧ x = .int .i64 i ∧ Kept (PrIn Pp w.heap.size w wr U (.pointer (some a)) (.pointer (some j4)) X J ∧ Filled X J 40 (5 * i))) (fun x _ => 5 - (intOf x).toNat)
        case atStart => exact ⟨0, U4, _, _, by omega, by omega, rfl, H4⟩
        case round =>
          clear H4 HX
          obtain ⟨i, U, X, J, hi, hil, rfl, HX⟩ := hrel
          have i0 : (0 : Int) ≤ i := by omega
          have i1 : (i : Int) ≤ 5 := by omega
          by_cases hlt : i < ln
          · have i2 : (i : Int) < ln := by omega
            by_cases h5 : i < 5
            · have i3 : (i : Int) < 5 := by omega
              obtain ⟨g, off, rfl, hg, hc⟩ := (HL.out.below HX.out.1.below) i (by rw [HLN.out]; exact hlt)
              generalize l[i]'(by rw [HLN.out]; exact hlt) = s at hc
              by_cases hs : s.size ≤ 200
              · have hs2 : ¬ (200 : Int) < s.size := by omega
                have HI := Kept.mk (And.intro h5 hs)
                clear hs hg
                go_wp2_with (go_at_call 20
                             refine (HApp.out _ _ _ _ _ _ (5 * i) s HX.out.1 HX.out.2 (by have := HI.out.1; omega) HI.out.2).mono ?_
                             rintro e w5 ⟨E5, U5, X5, J5, rfl, h5', f5⟩
                             have H5 := Kept.mk (And.intro h5' f5)
                             clear h5' f5)
                go_roundw
                case rel => exact ⟨i + 1, _, _, _, by omega, by omega, by go_num, H5⟩
                case measure => simp [intOf]; omega
              · have hs2 : (200 : Int) < s.size := by omega
                clear hs hg
                go_wp2
                go_ret
                exact ⟨rfl, HX.out.1.below⟩
            · have i3 : ¬ (i : Int) < 5 := by omega
              go_wp2
              go_meet
              exact ⟨_, _, _, _, HX⟩
          · have i2 : ¬ (i : Int) < ln := by omega
            go_wp2
            go_meet
            exact ⟨_, _, _, _, HX⟩
      case rest =>
        clear H4 HX HApp
        obtain ⟨U, X, J, k, HX⟩ := hcut
        have T1 : Kept True := ⟨trivial⟩
        have q0 : (0 : Int) ≤ (pw : Int) % 9 := by omega
        have q9 : (pw : Int) % 9 ≤ 9 := by omega
        have HQ := Kept.mk (And.intro q0 q9)
        clear q0 q9
        have hlen : J.L.length ≤ 4096 := by have h1 := HX.out.2.opened.le; have h2 := HX.out.2.ok.few; omega
        have HLen := Kept.mk hlen
        clear hlen
        go_upto_if 110 with (first
          | (go_at_call 13
             have := T1
             refine (HRec.out _ _ _ _ _ _ HX.out.1).mono ?_
             rintro e w5 ⟨A1, n1, k1, b1, rfl, h5, t5, hb51, hb52, hn1, -⟩
             have H5 := Kept.mk (And.intro h5 t5)
             have HN1 := Kept.mk hn1
             clear h5 t5 hb51 hb52 hn1 T1 this)
          | (go_at_call 24
             refine (HLim.out _ _ _ _ _ _ _ _ _ ((pw : Int) % 9) H5.out.1 H5.out.2 HQ.out.1 HQ.out.2).mono ?_
             rintro e w6 ⟨U6, rfl, h6, t6⟩
             have H6 := Kept.mk (And.intro h6 t6)
             clear h6 t6)
          | (go_at_call 20
             refine (HApT.out _ _ _ _ _ _ _ _ _ last H6.out.1 H6.out.2 HZ.out).mono ?_
             obtain ⟨E, hE⟩ : ∃ E, (Jn.append (X.limit ((pw : Int) % 9) mk) J (toL last)).1 = E := ⟨_, rfl⟩
             rw [hE]
             have HE := Kept.mk hE
             rintro e w7 ⟨U7, rfl, h7, t7⟩
             have H7 := Kept.mk (And.intro h7 t7)
             clear h7 t7 hE)
          | (go_at_call 25
             refine (HRes.out _ _ _ _ _ _ _ _ _ H7.out.1 H7.out.2).mono ?_
             rintro e w8 ⟨U8, rfl, h8, t8⟩
             have H8 := Kept.mk (And.intro h8 t8)
             clear h8 t8)
          | (go_at_call 18
             refine (HOp2.out _ _ _ _ _ _ _ _ _ H8.out.1 H8.out.2).mono ?_
             rintro e w9 ⟨U9, j9, L2, a2, rfl, h9, t9, o9⟩
             have H9 := Kept.mk (And.intro h9 t9)
             have HEnd := Kept.mk (whole_end HX.out.2 o9)
             clear h9 t9 o9)
          | (go_at_call 13
             refine (HRec.out _ _ _ _ _ _ H9.out.1).mono ?_
             rintro e w10 ⟨A2, n2, k2, b2, rfl, h10, t10, hb1, hb2, hn2, hbw⟩
             have H10 := Kept.mk (And.intro h10 (And.intro t10 (H9.out.2.below hbw)))
             have HN2 := Kept.mk hn2
             have HB10 : Kept (Below w.heap.size w w10) := ⟨h10.below⟩
             have HM1 : Kept (([] : List ByteArray).length + n1 ≤ 5000) := ⟨by have := HLen.out; rw [HN1.out] at this; simp only [List.length_nil]; omega⟩
             clear h10 t10 hb1 hb2 hn2 hbw)
          | (refine Tup.wpList_appendRd Tup.strTy rfl _ _ rfl rfl (Own.Es.nil _ _ w10.heap.size) (Nat.le_refl _) rfl (es_rd H10.out.2.2.es).1 (es_rd H10.out.2.2.es).2.1 (es_rd H10.out.2.2.es).2.2 (by have := HM1.out; omega) (by have := HM1.out; unfold maxLen; omega) ?_
             intro v11 w11 he hg
             rw [List.nil_append] at he
             have hg0 : w10.grownBy w11 none := hg
             obtain ⟨A3, n3, k3, rfl⟩ : ∃ A n k, v11 = Value.slice A n k := by
               obtain ⟨A, k, e⟩ := he.len
               exact ⟨A, _, k, e⟩
             have HE3 := Kept.mk he
             have H11 := Kept.mk (And.intro (es_grown0 H10.out.2.1.es hg0) (es_grown0 H10.out.2.2.es hg0))
             have HB11 : Kept (Below w.heap.size w w11) := ⟨HB10.out.grown hg0 HB10.out.size (fun k hk => by cases hk)⟩
             have HS11 : Kept (w10.heap.size ≤ w11.heap.size) := ⟨hg0.size⟩
             have HM3 : Kept ((J.L.map bs).length + 1 ≤ 5000) := ⟨by have := HLen.out; rw [List.length_map]; omega⟩
             clear he hg hg0)
          | (refine Own.wpList_append1 Tup.strTy Tup.str_one rfl _ _ rfl rfl HE3.out HS11.out last _ rfl rfl (by have := HM3.out; omega) (by have := HM3.out; unfold maxLen; omega) ?_
             intro v12 w12 he hg _
             obtain ⟨A4, n4, k4, rfl⟩ : ∃ A n k, v12 = Value.slice A n k := by
               obtain ⟨A, k, e⟩ := he.len
               exact ⟨A, _, k, e⟩
             have H12 := Kept.mk (And.intro (es_rd (es_grown H11.out.1 HE3.out hg (fun k hk => (H10.out.2.1.es.lt k hk).2))) (And.intro (es_rd (es_grown H11.out.2 HE3.out hg (fun k hk => (H10.out.2.2.es.lt k hk).2))) (es_rd he)))
             have HB12 : Kept (Below w.heap.size w w12) := ⟨HB11.out.grown hg HB11.out.size (fun k hk => by have := (HE3.out.lt k hk).1; have := HB10.out.size; omega)⟩
             clear he hg))
        have HM4 : Kept (n1 ≤ 5000 ∧ n4 ≤ 5001 ∧ L2.length = n2 ∧ n2 ≤ 5001) := ⟨by
          have h1 := H12.out.1.2.1
          have h2 := H12.out.2.1.2.1
          have h3 := H12.out.2.2.2.1
          have h4 := HLen.out
          rw [List.length_map] at h1 h2
          simp only [List.length_append, List.length_map, List.length_cons, List.length_nil] at h3
          have h5 : L2.length ≤ J.L.length + 1 := by
            by_cases h0 : E = 0
            · rw [HEnd.out.1 (by rw [HE.out]; exact h0)]; simp
            · rcases HEnd.out.2 (by rw [HE.out]; exact h0) with h | h
              · rw [h]; omega
              · rw [h]; simp
          omega⟩
        by_cases h0 : E = 0
        · have q0 : (E == 0) = true := by simpa using h0
          have HEq : Kept (decide (L2.map bs = J.L.map bs ++ [last]) = true) := ⟨decide_eq_true (by rw [HEnd.out.1 (by rw [HE.out]; exact h0), List.map_append, List.map_cons, List.map_nil, bs_toL])⟩
          clear h0
          go_wp2_with (go_at_call 12
                       refine (Tup.same_any (L2.map bs) (J.L.map bs ++ [last]) _ _ n2 _ n4 _ _ H12.out.1.1 H12.out.2.2.1 H12.out.1.2.1 H12.out.2.2.2.1 (by have := HM4.out; omega) (by have := HM4.out; omega)).mono ?_
                       rw [HEq.out]
                       rintro e w13 ⟨rfl, hb⟩
                       have HB13 := Kept.mk (HB12.out.trans (hb.mono HB12.out.size))
                       clear hb)
          go_ret
          exact ⟨rfl, HB13.out⟩
        · have q0 : (E == 0) = false := by simpa using h0
          have hor : L2 = J.L ∨ L2 = J.L ++ [toL last] := HEnd.out.2 (by rw [HE.out]; exact h0)
          clear h0
          rcases hor with h2 | h2
          · have HEq : Kept (decide (L2.map bs = J.L.map bs) = true) := ⟨decide_eq_true (by rw [h2])⟩
            clear h2
            go_wp2_with (go_at_call 12
                         refine (Tup.same_any (L2.map bs) (J.L.map bs) _ _ n2 _ n1 _ _ H12.out.1.1 H12.out.2.1.1 H12.out.1.2.1 H12.out.2.1.2.1 (by have := HM4.out; omega) (by have := HM4.out; omega)).mono ?_
                         rw [HEq.out]
                         rintro e w13 ⟨rfl, hb⟩
                         have HB13 := Kept.mk (HB12.out.trans (hb.mono HB12.out.size))
                         clear hb)
            go_ret
            exact ⟨rfl, HB13.out⟩
          · have HEq : Kept (decide (L2.map bs = J.L.map bs) = false) := ⟨decide_eq_false (fun e => by
              have := congrArg List.length e
              rw [h2] at this
              simp at this)⟩
            have HEq2 : Kept (decide (L2.map bs = J.L.map bs ++ [last]) = true) := ⟨decide_eq_true (by rw [h2, List.map_append, List.map_cons, List.map_nil, bs_toL])⟩
            have T2 : Kept True := ⟨trivial⟩
            clear h2
            go_wp2_with (first
              | (go_at_call 12
                 have := T2
                 refine (Tup.same_any (L2.map bs) (J.L.map bs) _ _ n2 _ n1 _ _ H12.out.1.1 H12.out.2.1.1 H12.out.1.2.1 H12.out.2.1.2.1 (by have := HM4.out; omega) (by have := HM4.out; omega)).mono ?_
                 rw [HEq.out]
                 rintro e w13 ⟨rfl, hb⟩
                 have H13 := Kept.mk (And.intro (H12.out.1.1.below hb) (H12.out.2.2.1.below hb))
                 have HB13 := Kept.mk (HB12.out.trans (hb.mono HB12.out.size))
                 clear hb T2 this)
              | (go_at_call 12
                 refine (Tup.same_any (L2.map bs) (J.L.map bs ++ [last]) _ _ n2 _ n4 _ _ H13.out.1 H13.out.2 H12.out.1.2.1 H12.out.2.2.2.1 (by have := HM4.out; omega) (by have := HM4.out; omega)).mono ?_
                 rw [HEq2.out]
                 rintro e w14 ⟨rfl, hb⟩
                 have HB14 := Kept.mk (HB13.out.trans (hb.mono HB13.out.size))
                 clear hb))
            go_ret
            exact ⟨rfl, HB14.out⟩
  · have hz2 : (200 : Int) < last.size := by omega
    clear hz
    go_enter Tryz.func6, Tryz.ntmps6
    go_wp2_with (first
      | (go_at_call 9; refine HAw.out.mono ?_; rintro e w1 ⟨rfl, hb⟩; have HB1 := Kept.mk hb; clear hb)
      | (go_at_call 23; refine (HNew.out _ HB1.out).mono ?_; rintro e w2 ⟨B0, a, rfl, h⟩; have K0 := Kept.mk h; clear h))
    go_ret
    exact ⟨rfl, K0.out.below⟩
end Jr
end Go.Proofs.YtmkpkmkhnphogaaGreatDoor
