/-
  Opened again a journal has the records that it had; a torn append, and another one behind it, leave those ahead of it, and the other one: the law's call, over any journal.
-/
import Derived.Test.YtmkpkmkhnphogaaGreatDoorWholeM
namespace Go.Proofs.YtmkpkmkhnphogaaGreatDoor
open Go.RowKit Tx Dv
namespace Jr

/-- Where the next record goes behind an append that power may have failed, and a restart. -/
theorem again_pos {X : Disk} {J : Jn.Jour} {n k : Nat} {pw : Int} {m : Nat} {s : List UInt8} (h : Filled X J n k) {L2 : List (List UInt8)} {a2 : Nat} (ho : Jn.Opened (Jn.append (X.limit pw m) J s).2.1.restart L2 a2) : a2 ≤ k + 1 + Jn.count s.length := by
  have h0 : Jn.Opened (X.limit pw m) J.L J.pos := h.opened.sameS rfl
  have hb : Jn.Blank (X.limit pw m) J.pos := h.blank.sameS rfl
  have hl : J.L.length < 1000000000 := by have := h.opened.le; have := h.ok.few; omega
  have hlen : (Jn.append (X.limit pw m) J s).2.1.restart.S.length ≤ 4096 := by
    show (Jn.append (X.limit pw m) J s).2.1.S.length ≤ 4096
    rw [Jn.append_length]
    exact h.ok.few
  have hp := h.pos
  obtain ⟨L, a⟩ := J
  simp only at hp
  by_cases e : (Jn.append (X.limit pw m) ⟨L, a⟩ s).1 = 0
  · obtain ⟨_, h2, _⟩ := Jn.append_done h0 hl e
    have h7 : a2 = a + 1 + Jn.count s.length := (ho.unique hlen (h2.sameS rfl)).2
    omega
  · obtain ⟨_, h2 | h2⟩ := Jn.append_failed h0 hb hl e
    · have h7 : a2 = a := (ho.unique hlen (h2.sameS rfl)).2
      omega
    · have h7 : a2 = a + 1 + Jn.count s.length := (ho.unique hlen (h2.sameS rfl)).2
      omega
/-- A device with endless power that opens to L, and has room. -/
structure Open60 (X : Disk) (L : List (List UInt8)) (a : Nat) : Prop where
  ok : X.Ok
  len : X.S.length = 60
  power : X.power = -1
  opened : Jn.Opened X L a
  pos : a ≤ 20
theorem Open60.append {X : Disk} {L : List (List UInt8)} {a : Nat} {s : List UInt8} (h : Open60 X L a) (hs : s.length ≤ 200) :
    (Jn.append X ⟨L, a⟩ s).1 = 0 ∧ (Jn.append X ⟨L, a⟩ s).2.2.L = L ++ [s] ∧ (∃ b, Jn.Opened (Jn.append X ⟨L, a⟩ s).2.1 (L ++ [s]) b) ∧ (Jn.append X ⟨L, a⟩ s).2.1.S.length ≤ 4096 := by
  have hl : L.length < 1000000000 := by have := h.opened.le; have := h.ok.few; omega
  have hp := h.pos
  obtain ⟨h1, h2⟩ := Jn.append_power (D := X) (J := ⟨L, a⟩) (s := s) h.power hl (by omega) (by rw [h.len]; show a + 1 + _ ≤ 60; unfold Jn.count; omega)
  obtain ⟨h3, h4, h5⟩ := Jn.append_done h.opened hl h1
  exact ⟨h1, by rw [h3], ⟨_, h4⟩, by rw [Jn.append_length]; exact h.ok.few⟩

theorem again_state {X : Disk} {J : Jn.Jour} {k : Nat} {pw : Int} {m : Nat} {s : List UInt8} (h : Filled X J 60 k) (hk : k ≤ 12) (hs : s.length ≤ 200) (hp : pw ≤ 9) (hm : m < 18446744073709551616) {L2 : List (List UInt8)} {a2 : Nat} (ho : Jn.Opened (Jn.append (X.limit pw m) J s).2.1.restart L2 a2) : Open60 (Jn.append (X.limit pw m) J s).2.1.restart L2 a2 :=
  ⟨(Jn.append_ok (h.ok.limit (by omega) hm) J s).restart, by
    show (Jn.append (X.limit pw m) J s).2.1.S.length = 60
    rw [Jn.append_length]
    exact h.len, rfl, ho, by
    have h1 := again_pos h ho
    have h2 : Jn.count s.length ≤ 4 := by unfold Jn.count; omega
    omega⟩
theorem told_nil (w : World) (U : Nat → Prop) : Told w U 0 (.slice none 0 0) [] := ⟨Own.Es.nil _ _ _, fun k hk => by cases hk⟩

set_option maxHeartbeats 4000000 in
set_option maxRecDepth 100000 in
theorem again_any {K : World → Prop} {Dev : World → (Nat → Prop) → Value → Disk → Prop} {Pp : World → (Nat → Prop) → Value → Value → Disk → Jn.Jour → Prop} (M : Means Dev)
    (M4 : Jour4 K 18 13 20 Dev Pp) (w : World) (hK : ∀ w', Below w.heap.size w w' → K w')
    (l : List ByteArray) (A : Option Addr) (ln lk : Nat) (tornS last : ByteArray) (pw mk : Nat) (hl : Tup.Rd w A l) (hln : l.length = ln) (hln2 : ln ≤ 140737488351232) (hto : tornS.size ≤ 9223372036854775807) (hla : last.size ≤ 9223372036854775807) (hpw : pw < 256) (hmk : mk < 18446744073709551616) :
    Calls Tryz.prog 7 #[.slice A ln lk, .string tornS, .int .u8 pw, .int .u64 mk, .string last] w fun e w' => e = .returned (.bool true) ∧ Below w.heap.size w w' := by
  have HAw : Kept (Calls Tryz.prog 9 #[] w fun e w' => e = .returned (.bool true) ∧ Below w.heap.size w w') := ⟨awake_any M M4 w hK⟩
  have HNew : Kept (∀ w1, Below w.heap.size w w1 → Calls Tryz.prog 23 #[.int .i64 60] w1 fun e w' => ∃ B a, e = .returned (.tuple #[.pointer (some a), .int .i64 0]) ∧ DvIn Dev w.heap.size w w' B (.pointer (some a)) (fresh 60)) := ⟨fun w1 hb => (M.newOk 60 w1 (by omega) (by omega)).mono (by
    rintro e w' ⟨B, p, rfl, hd, hB, hb2⟩
    obtain ⟨a, rfl⟩ := M.ptr hd
    exact ⟨B, a, rfl, hd, hb.trans (hb2.mono hb.size), fun k hk => Nat.le_trans hb.size (hB k hk), Nat.le_trans hb.size hb2.size⟩)⟩
  have HOp : Kept (∀ w1 B d X, DvIn Dev w.heap.size w w1 B d X → Ready X 60 → Calls Tryz.prog 18 #[d] w1 fun e w' => ∃ U a, e = .returned (.pointer (some a)) ∧ PrIn Pp w.heap.size w w' U d (.pointer (some a)) X ⟨[], 0⟩) := ⟨fun w1 B d X h hr => (M4.opens (hK w1 h.below) h.dev).mono (by
    rintro e w' ⟨U, p, L, a, rfl, hp, ho, hU, hb2⟩
    obtain ⟨rfl, rfl⟩ := hr.opened ho
    obtain ⟨x, rfl⟩ := M4.ptr hp
    exact ⟨U, x, rfl, h.toPr hp hU hb2⟩)⟩
  have HApp : Kept (∀ w1 U d p X J k (s : ByteArray), PrIn Pp w.heap.size w w1 U d p X J → Filled X J 60 k → k + 3 ≤ 60 → s.size ≤ 100 → Calls Tryz.prog 20 #[p, .string s] w1 fun e w' => ∃ E U' X' J', e = .returned (.int .i64 E) ∧ PrIn Pp w.heap.size w w' U' d p X' J' ∧ Filled X' J' 60 (k + 3)) := ⟨fun w1 U d p X J k s h hf hk hs => (M4.append (h.keeps hK) h.pr s (by omega)).mono (by
    rintro e w' ⟨rfl, U', hp, ho, hU⟩
    have := hf.append (s := toL s) (c := 2) (by rw [toL_length]; omega) (by rw [toL_length]; unfold Jn.count; omega) (by omega)
    exact ⟨_, U', _, _, rfl, h.byOnly hp ho hU, this.2.2⟩)⟩
  have HRec : Kept (∀ w1 U d p X J, PrIn Pp w.heap.size w w1 U d p X J → Calls Tryz.prog 13 #[p] w1 fun e w' => ∃ A n k b, e = .returned (.slice A n k) ∧ PrIn Pp w.heap.size w w' U d p X J ∧ Told w' U b (.slice A n k) (J.L.map bs) ∧ w.heap.size ≤ b ∧ b ≤ w'.heap.size ∧ J.L.length = n ∧ Below w1.heap.size w1 w') := ⟨fun w1 U d p X J h => (M4.records h.pr).mono (by
    rintro e w' ⟨v, rfl, he, hb⟩
    obtain ⟨A, k, rfl⟩ := he.len
    refine ⟨A, _, k, w1.heap.size, rfl, h.byBelow M4 hb, Told.new he (fun k hk => M4.lt h.pr k hk), h.big, hb.size, by rw [List.length_map], hb⟩)⟩
  have HLim : Kept (∀ w1 U d p X J b v lst (q : Int), PrIn Pp w.heap.size w w1 U d p X J → Told w1 U b v lst → 0 ≤ q → q ≤ 9 → Calls Tryz.prog 24 #[d, .int .i64 q, .int .u64 mk] w1 fun e w' => ∃ U', e = .returned (.tuple #[]) ∧ PrIn Pp w.heap.size w w' U' d p (X.limit q mk) J ∧ Told w' U' b v lst) := ⟨fun w1 U d p X J b v lst q h ht h0 h9 => by
    obtain ⟨B, hd, hc⟩ := h.byDev M4
    refine (M.limit hd q mk (by omega) (by omega) hmk).mono ?_
    rintro e w' ⟨B', rfl, hd', ho, hB⟩
    obtain ⟨U', hp, hU, hoU⟩ := hc w' B' _ hd' rfl ho hB
    exact ⟨U', rfl, hp, ht.step hoU hU⟩⟩
  have HApT : Kept (∀ w1 U d p X J b v lst (s : ByteArray), PrIn Pp w.heap.size w w1 U d p X J → Told w1 U b v lst → s.size ≤ 200 → Calls Tryz.prog 20 #[p, .string s] w1 fun e w' => ∃ U', e = .returned (.int .i64 (Jn.append X J (toL s)).1) ∧ PrIn Pp w.heap.size w w' U' d p (Jn.append X J (toL s)).2.1 (Jn.append X J (toL s)).2.2 ∧ Told w' U' b v lst) := ⟨fun w1 U d p X J b v lst s h ht hs => (M4.append (h.keeps hK) h.pr s (by omega)).mono (by
    rintro e w' ⟨rfl, U', hp, ho, hU⟩
    exact ⟨U', rfl, h.byOnly hp ho hU, ht.step ho hU⟩)⟩
  have HRes : Kept (∀ w1 U d p X J b v lst, PrIn Pp w.heap.size w w1 U d p X J → Told w1 U b v lst → Calls Tryz.prog 25 #[d] w1 fun e w' => ∃ U', e = .returned (.tuple #[]) ∧ PrIn Pp w.heap.size w w' U' d p X.restart J ∧ Told w' U' b v lst) := ⟨fun w1 U d p X J b v lst h ht => by
    obtain ⟨B, hd, hc⟩ := h.byDev M4
    refine (M.restart hd).mono ?_
    rintro e w' ⟨B', rfl, hd', ho, hB⟩
    obtain ⟨U', hp, hU, hoU⟩ := hc w' B' _ hd' rfl ho hB
    exact ⟨U', rfl, hp, ht.step hoU hU⟩⟩
  have HOp2 : Kept (∀ w1 U d p X J b v lst, PrIn Pp w.heap.size w w1 U d p X J → Told w1 U b v lst → Calls Tryz.prog 18 #[d] w1 fun e w' => ∃ U' a L2 a2, e = .returned (.pointer (some a)) ∧ PrIn Pp w.heap.size w w' U' d (.pointer (some a)) X ⟨L2, a2⟩ ∧ Told w' U' b v lst ∧ Jn.Opened X L2 a2) := ⟨fun w1 U d p X J b v lst h ht => by
    obtain ⟨B, hBU, hd, -⟩ := M4.dev h.pr
    refine (M4.opens (hK w1 h.below) hd).mono ?_
    rintro e w' ⟨U', q, L, a, rfl, hp, ho, hU, hb⟩
    obtain ⟨x, rfl⟩ := M4.ptr hp
    have hU2 : ∀ i, U' i → U i ∨ w1.heap.size ≤ i := fun i hi => (hU i hi).imp (hBU i) id
    exact ⟨U', x, L, a, rfl, h.again hp hU2 hb, ht.turn hb hU2, ho⟩⟩
  have HAp2 : Kept (∀ w1 U d p X L2 a2 b v lst (s : ByteArray), PrIn Pp w.heap.size w w1 U d p X ⟨L2, a2⟩ → Told w1 U b v lst → Open60 X L2 a2 → s.size ≤ 200 → Calls Tryz.prog 20 #[p, .string s] w1 fun e w' => ∃ U' X' J', e = .returned (.int .i64 0) ∧ PrIn Pp w.heap.size w w' U' d p X' J' ∧ Told w' U' b v lst ∧ J'.L = L2 ++ [toL s] ∧ (∃ b, Jn.Opened X' (L2 ++ [toL s]) b) ∧ X'.S.length ≤ 4096 ∧ w1.heap.size ≤ w'.heap.size) := ⟨fun w1 U d p X L2 a2 b v lst s h ht h6 hs => (M4.append (h.keeps hK) h.pr s (by omega)).mono (by
    rintro e w' ⟨rfl, U', hp, ho, hU⟩
    have := h6.append (s := toL s) (by rw [toL_length]; exact hs)
    exact ⟨U', _, _, by rw [this.1], h.byOnly hp ho hU, ht.step ho hU, this.2.1, this.2.2.1, this.2.2.2, ho.size⟩)⟩
  have HOp3 : Kept (∀ w1 U d p X J b v lst, PrIn Pp w.heap.size w w1 U d p X J → Told w1 U b v lst → Calls Tryz.prog 18 #[d] w1 fun e w' => ∃ U' a L2 a2, e = .returned (.pointer (some a)) ∧ PrIn Pp w.heap.size w w' U' d (.pointer (some a)) X ⟨L2, a2⟩ ∧ PrIn Pp w.heap.size w w' U d p X J ∧ Told w' U' b v lst ∧ Told w' U b v lst ∧ Jn.Opened X L2 a2 ∧ w1.heap.size ≤ w'.heap.size) := ⟨fun w1 U d p X J b v lst h ht => by
    obtain ⟨B, hBU, hd, -⟩ := M4.dev h.pr
    refine (M4.opens (hK w1 h.below) hd).mono ?_
    rintro e w' ⟨U', q, L, a, rfl, hp, ho, hU, hb⟩
    obtain ⟨x, rfl⟩ := M4.ptr hp
    have hU2 : ∀ i, U' i → U i ∨ w1.heap.size ≤ i := fun i hi => (hU i hi).imp (hBU i) id
    exact ⟨U', x, L, a, rfl, h.again hp hU2 hb, h.byBelow M4 hb, ht.turn hb hU2, ht.below hb, ho, hb.size⟩⟩
  have HGr : Kept (∀ w1 w' U d p X J b v lst, PrIn Pp w.heap.size w w1 U d p X J → Told w1 U b v lst → w.heap.size ≤ b → w1.grownBy w' v.ownBlock → PrIn Pp w.heap.size w w' U d p X J) := ⟨fun w1 w' U d p X J b v lst h ht hb hg =>
    ⟨M4.keep h.pr (fun k hk => hg.block k (M4.lt h.pr k hk) (fun e => ht.away k e.symm hk)) hg.size, h.below.grown hg h.big (fun k hk => Nat.le_trans hb (ht.es.lt k hk).1), h.high, Nat.le_trans h.big hg.size⟩⟩
  have HKp : Kept (∀ w1 w' U d p X J, PrIn Pp w.heap.size w w1 U d p X J → Below w1.heap.size w1 w' → PrIn Pp w.heap.size w w' U d p X J) := ⟨fun w1 w' U d p X J h hb => h.byBelow M4 hb⟩
  have HL := Kept.mk hl
  have HLN := Kept.mk hln
  clear M M4 hK hl hln
  have hpd := eqD
  have hpj := eqJ
  have hnd := neqD
  have hnj := neqJ
  have p0 : (0 : Int) ≤ pw := by omega
  have p1 : (pw : Int) < 256 := by omega
  by_cases hz : tornS.size ≤ 200 ∧ last.size ≤ 200
  · obtain ⟨hz1, hz2⟩ := hz
    have hz3 : ¬ (200 : Int) < tornS.size := by omega
    have hz4 : ¬ (200 : Int) < last.size := by omega
    have HZ := Kept.mk (And.intro hz1 hz2)
    clear hz1 hz2
    go_enter Tryz.func7, Tryz.ntmps7
    go_upto_block 0 with (first
      | (go_at_call 9; refine HAw.out.mono ?_; rintro e w1 ⟨rfl, hb⟩; have HB1 := Kept.mk hb; clear hb)
      | (go_at_call 23; refine (HNew.out _ HB1.out).mono ?_; rintro e w2 ⟨B0, a, rfl, h⟩; have K0 := Kept.mk h; clear h)
      | (go_at_call 18
         refine (HOp.out _ _ _ _ K0.out (Ready.fresh 60 (by decide))).mono ?_
         rintro e w4 ⟨U4, j4, rfl, h4⟩
         have H4 := Kept.mk (And.intro h4 (Ready.fresh 60 (by decide)).filled)
         clear h4))
    clear hz3 hz4 HAw HNew HOp HB1 K0
    go_cut [15] (fun x wx => ∃ U X J k, Kept (PrIn Pp w.heap.size w wx U (.pointer (some a)) (.pointer (some j4)) X J ∧ Filled X J 60 k ∧ k ≤ 12))
    case first =>
      go_wp2_with fail
      go_loopw [15] (fun x wr => ∃ (i : Nat) (U : Nat → Prop) (X : Disk) (J : Jn.Jour), i ≤ 4 ∧ i ≤ ln ∧ x = .int .i64 i ∧ Kept (PrIn Pp w.heap.size w wr U (.pointer (some a)) (.pointer (some j4)) X J ∧ Filled X J 60 (3 * i))) (fun x _ => 4 - (intOf x).toNat)
      case atStart => exact ⟨0, U4, _, _, by omega, by omega, rfl, H4⟩
      case round =>
        clear H4
        obtain ⟨i, U, X, J, hi, hil, rfl, HX⟩ := hrel
        have i0 : (0 : Int) ≤ i := by omega
        have i1 : (i : Int) ≤ 4 := by omega
        by_cases hlt : i < ln
        · have i2 : (i : Int) < ln := by omega
          by_cases h5 : i < 4
          · have i3 : (i : Int) < 4 := by omega
            obtain ⟨g, off, rfl, hg, hc⟩ := (HL.out.below HX.out.1.below) i (by rw [HLN.out]; exact hlt)
            generalize l[i]'(by rw [HLN.out]; exact hlt) = s at hc
            by_cases hs : s.size ≤ 100
            · have hs2 : ¬ (100 : Int) < s.size := by omega
              have HI := Kept.mk (And.intro h5 hs)
              clear hs hg
              go_wp2_with (go_at_call 20
                           refine (HApp.out _ _ _ _ _ _ (3 * i) s HX.out.1 HX.out.2 (by have := HI.out.1; omega) HI.out.2).mono ?_
                           rintro e w5 ⟨E5, U5, X5, J5, rfl, h5', f5⟩
                           have H5 := Kept.mk (And.intro h5' f5)
                           clear h5' f5)
              go_roundw
              case rel => exact ⟨i + 1, _, _, _, by omega, by omega, by go_num, H5⟩
              case measure => simp [intOf]; omega
            · have hs2 : (100 : Int) < s.size := by omega
              clear hs hg
              go_wp2
              go_ret
              exact ⟨rfl, HX.out.1.below⟩
          · have i3 : ¬ (i : Int) < 4 := by omega
            go_wp2
            go_meet
            exact ⟨_, _, _, 3 * i, ⟨HX.out.1, HX.out.2, by omega⟩⟩
        · have i2 : ¬ (i : Int) < ln := by omega
          go_wp2
          go_meet
          exact ⟨_, _, _, 3 * i, ⟨HX.out.1, HX.out.2, by omega⟩⟩
    case rest =>
      clear H4 HApp
      obtain ⟨U, X, J, k, HX⟩ := hcut
      have T1 : Kept True := ⟨trivial⟩
      have T2 : Kept True := ⟨trivial⟩
      have T3 : Kept True := ⟨trivial⟩
      have T4 : Kept True := ⟨trivial⟩
      have T5 : Kept True := ⟨trivial⟩
      have q0 : (0 : Int) ≤ (pw : Int) % 9 := by omega
      have q9 : (pw : Int) % 9 ≤ 9 := by omega
      have HQ := Kept.mk (And.intro q0 q9)
      have HMK := Kept.mk hmk
      clear q0 q9 hmk
      go_wp2_with (first
        | (go_at_call 24
           refine (HLim.out _ _ _ _ _ _ _ _ _ ((pw : Int) % 9) HX.out.1 (told_nil _ _) HQ.out.1 HQ.out.2).mono ?_
           rintro e w6 ⟨U6, rfl, h6, t6⟩
           have H6 := Kept.mk (And.intro h6 t6)
           clear h6 t6)
        | (go_at_call 20
           have := T1
           refine (HApT.out _ _ _ _ _ _ _ _ _ tornS H6.out.1 H6.out.2 HZ.out.1).mono ?_
           rintro e w7 ⟨U7, rfl, h7, t7⟩
           have H7 := Kept.mk (And.intro h7 t7)
           clear h7 t7 T1 this)
        | (go_at_call 25
           refine (HRes.out _ _ _ _ _ _ _ _ _ H7.out.1 H7.out.2).mono ?_
           rintro e w8 ⟨U8, rfl, h8, t8⟩
           have H8 := Kept.mk (And.intro h8 t8)
           clear h8 t8)
        | (go_at_call 18
           have := T2
           refine (HOp2.out _ _ _ _ _ _ _ _ _ H8.out.1 H8.out.2).mono ?_
           rintro e w9 ⟨U9, j9, L2, a2, rfl, h9, t9, o9⟩
           have H9 := Kept.mk (And.intro h9 (again_state HX.out.2.1 HX.out.2.2 (by rw [toL_length]; exact HZ.out.1) HQ.out.2 HMK.out o9))
           clear h9 t9 o9 T2 this)
        | (go_at_call 13
           have := T3
           refine (HRec.out _ _ _ _ _ _ H9.out.1).mono ?_
           rintro e w10 ⟨A2, n2, k2, b2, rfl, h10, t10, hb1, hb2, hn2, hbw⟩
           have H10 := Kept.mk (And.intro h10 (And.intro t10 (And.intro hb1 hb2)))
           have HN2 := Kept.mk hn2
           clear h10 t10 hb1 hb2 hn2 hbw T3 this)
        | (go_at_call 20
           refine (HAp2.out _ _ _ _ _ _ _ _ _ _ last H10.out.1 H10.out.2.1 H9.out.2 HZ.out.2).mono ?_
           rintro e w11 ⟨U11, X11, J11, rfl, h11, t11, hj11, ho11, hs11, hz11⟩
           have H11 := Kept.mk (And.intro h11 (And.intro t11 (And.intro hj11 (And.intro ho11 hs11))))
           have HZ11 := Kept.mk hz11
           clear h11 t11 hj11 ho11 hs11 hz11)
        | (go_at_call 18
           refine (HOp3.out _ _ _ _ _ _ _ _ _ H11.out.1 H11.out.2.1).mono ?_
           rintro e w12 ⟨U12, j12, L3, a3, rfl, hm12, hk12, tm12, tk12, o12, hz12⟩
           have H12 := Kept.mk (And.intro hm12 (And.intro hk12 (And.intro tm12 tk12)))
           have HL3 : Kept (L3 = L2 ++ [toL last]) := ⟨by
             obtain ⟨b, ho⟩ := H11.out.2.2.2.1
             exact (o12.unique H11.out.2.2.2.2 ho).1⟩
           have HBs : Kept (b2 ≤ w12.heap.size) := ⟨by
             have h1 := H10.out.2.2.2
             have h2 := HZ11.out
             omega⟩
           have HM12 : Kept ((L2.map bs).length + 1 ≤ 5000) := ⟨by
             have h1 := H9.out.2.opened.le
             have h2 := H9.out.2.ok.few
             rw [List.length_map]
             omega⟩
           clear hm12 hk12 tm12 tk12 o12 hz12)
        | (refine Own.wpList_append1 Tup.strTy Tup.str_one rfl _ _ rfl rfl H12.out.2.2.1.es HBs.out last _ rfl rfl (by have := HM12.out; omega) (by have := HM12.out; unfold maxLen; omega) ?_
           intro v13 w13 he hg _
           obtain ⟨A4, n4, k4, rfl⟩ : ∃ A n k, v13 = Value.slice A n k := by
             obtain ⟨A, k, e⟩ := he.len
             exact ⟨A, _, k, e⟩
           have H13 := Kept.mk (And.intro (HGr.out _ _ _ _ _ _ _ _ _ _ H12.out.1 H12.out.2.2.1 H10.out.2.2.1 hg) (And.intro (HGr.out _ _ _ _ _ _ _ _ _ _ H12.out.2.1 H12.out.2.2.2 H10.out.2.2.1 hg) (es_rd he)))
           have HN4 : Kept (n4 = L2.length + 1 ∧ n4 ≤ 5000) := ⟨by
             have h1 := (es_rd he).2.1
             have h2 := HM12.out
             simp only [List.length_append, List.length_map, List.length_cons, List.length_nil] at h1 h2
             omega⟩
           clear he hg)
        | (go_at_call 13
           have := T4
           refine (HRec.out _ _ _ _ _ _ H13.out.2.1).mono ?_
           rintro e w14 ⟨A5, n5, k5, b5, rfl, h14, t14, -, -, hn5, hbw⟩
           have H14 := Kept.mk (And.intro (HKp.out _ _ _ _ _ _ _ H13.out.1 hbw) (And.intro (es_rd t14.es) (H13.out.2.2.1.below hbw)))
           have HB14 := Kept.mk h14.below
           have HN5 := Kept.mk hn5
           clear h14 t14 hn5 hbw T4 this)
        | (go_at_call 12
           have := T5
           refine (Tup.same_any (J11.L.map bs) (L2.map bs ++ [last]) _ _ n5 _ n4 _ _ H14.out.2.1.1 H14.out.2.2 H14.out.2.1.2.1 H13.out.2.2.2.1 (by have h1 := HN5.out; have h2 := HN4.out; rw [H11.out.2.2.1] at h1; simp only [List.length_append, List.length_cons, List.length_nil] at h1; omega) (by have := HN4.out; omega)).mono ?_
           rw [decide_eq_true (by rw [H11.out.2.2.1, List.map_append, List.map_cons, List.map_nil, bs_toL])]
           rintro e w15 ⟨rfl, hb⟩
           have H15 := Kept.mk (And.intro (HKp.out _ _ _ _ _ _ _ H14.out.1 hb) (H14.out.2.2.below hb))
           clear hb T5 this)
        | (go_at_call 13
           refine (HRec.out _ _ _ _ _ _ H15.out.1).mono ?_
           rintro e w16 ⟨A6, n6, k6, b6, rfl, h16, t16, -, -, hn6, hbw⟩
           have H16 := Kept.mk (And.intro h16.below (And.intro (es_rd t16.es) (H15.out.2.below hbw)))
           have HBig : Kept (w.heap.size ≤ w16.heap.size) := ⟨h16.big⟩
           have HN6 := Kept.mk hn6
           clear h16 t16 hn6 hbw)
        | (go_at_call 12
           refine (Tup.same_any (L3.map bs) (L2.map bs ++ [last]) _ _ n6 _ n4 _ _ H16.out.2.1.1 H16.out.2.2 H16.out.2.1.2.1 H13.out.2.2.2.1 (by have h1 := HN6.out; have h2 := HN4.out; rw [HL3.out] at h1; simp only [List.length_append, List.length_cons, List.length_nil] at h1; omega) (by have := HN4.out; omega)).mono ?_
           rw [decide_eq_true (by rw [HL3.out, List.map_append, List.map_cons, List.map_nil, bs_toL])]
           rintro e w17 ⟨rfl, hb⟩
           have H17 : Kept (Below w.heap.size w w17) := ⟨H16.out.1.trans (hb.mono HBig.out)⟩
           clear hb))
      go_ret
      exact ⟨rfl, H17.out⟩
  · have hcase : (∃ h : (200 : Int) < tornS.size, True) ∨ (¬ (200 : Int) < tornS.size ∧ (200 : Int) < last.size) := by
      by_cases h : (200 : Int) < tornS.size
      · exact .inl ⟨h, trivial⟩
      · exact .inr ⟨h, by omega⟩
    clear hz
    rcases hcase with ⟨hz3, -⟩ | ⟨hz3, hz4⟩
    all_goals
      go_enter Tryz.func7, Tryz.ntmps7
      go_wp2_with (first
        | (go_at_call 9; refine HAw.out.mono ?_; rintro e w1 ⟨rfl, hb⟩; have HB1 := Kept.mk hb; clear hb)
        | (go_at_call 23; refine (HNew.out _ HB1.out).mono ?_; rintro e w2 ⟨B0, a, rfl, h⟩; have K0 := Kept.mk h; clear h))
      go_ret
      exact ⟨rfl, K0.out.below⟩
end Jr
end Go.Proofs.YtmkpkmkhnphogaaGreatDoor
