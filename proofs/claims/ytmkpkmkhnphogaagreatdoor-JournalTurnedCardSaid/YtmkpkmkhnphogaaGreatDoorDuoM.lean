/-
  What is done with both journals, side by side.
-/
import Derived.Test.YtmkpkmkhnphogaaGreatDoorBegunM
namespace Go.Proofs.YtmkpkmkhnphogaaGreatDoor
open Go.RowKit Tx Dv
namespace Jr
section
variable {K : World → Prop} {fO fR fA fC : FuncId} {Dev : World → (Nat → Prop) → Value → Disk → Prop} {Pp : World → (Nat → Prop) → Value → Value → Disk → Jn.Jour → Prop} {x : Nat} {w0 w1 w w' : World} {Z U V : Nat → Prop} {d p r q cp cq : Value} {D E : Disk} {J I : Jn.Jour}
theorem only_of_below {B : Nat → Prop} (h : Below w.heap.size w w') : Only B w w' := ⟨h.os, h.tape, h.output, h.size, fun k hk _ => h.block k hk⟩
theorem Duo.limitP (h : Duo Pp w0.heap.size w0 w1 Z w x U V d p r q cp cq D J E I) (M : Means Dev) (M4 : Jour4 K fO fR fA Dev Pp) (n : Int) (m : Nat) (h0 : -9223372036854775808 ≤ n) (h1 : n ≤ 9223372036854775807) (hm : m < 18446744073709551616) :
    Calls Tryz.prog 24 #[d, .int .i64 n, .int .u64 m] w fun e w' => ∃ U', e = .returned (.tuple #[]) ∧ Duo Pp w0.heap.size w0 w1 Z w' x U' V d p r q cp cq (D.limit n m) J E I := by
  obtain ⟨B, hd, hc⟩ := h.devP M4
  refine (M.limit hd n m h0 h1 hm).mono ?_
  rintro e w' ⟨B', rfl, hd', ho, hB⟩
  obtain ⟨U', hu⟩ := hc w' B' _ hd' rfl ho hB
  exact ⟨U', rfl, hu⟩
theorem Duo.limitR (h : Duo Pp w0.heap.size w0 w1 Z w x U V d p r q cp cq D J E I) (M4 : Jour4 K fO fR fA Dev Pp) (n : Int) (m : Nat) (h1 : n ≤ 9223372036854775807) (hm : m < 18446744073709551616) :
    Calls Tryz.prog 30 #[r, .int .i64 n, .int .u64 m] w fun e w' => ∃ V', e = .returned (.tuple #[]) ∧ Duo Pp w0.heap.size w0 w1 Z w' x U V' d p r q cp cq D J (E.limit n m) I := by
  obtain ⟨B, hd, hc⟩ := h.devR M4
  refine (hd.limit n m h1 hm).mono ?_
  rintro e w' ⟨rfl, hd', ho⟩
  obtain ⟨V', hu⟩ := hc w' B _ hd' rfl ho (fun i hi => .inl hi)
  exact ⟨V', rfl, hu⟩
theorem Duo.restartP (h : Duo Pp w0.heap.size w0 w1 Z w x U V d p r q cp cq D J E I) (M : Means Dev) (M4 : Jour4 K fO fR fA Dev Pp) :
    Calls Tryz.prog 25 #[d] w fun e w' => ∃ U', e = .returned (.tuple #[]) ∧ Duo Pp w0.heap.size w0 w1 Z w' x U' V d p r q cp cq D.restart J E I := by
  obtain ⟨B, hd, hc⟩ := h.devP M4
  refine (M.restart hd).mono ?_
  rintro e w' ⟨B', rfl, hd', ho, hB⟩
  obtain ⟨U', hu⟩ := hc w' B' _ hd' rfl ho hB
  exact ⟨U', rfl, hu⟩
theorem Duo.restartR (h : Duo Pp w0.heap.size w0 w1 Z w x U V d p r q cp cq D J E I) (M4 : Jour4 K fO fR fA Dev Pp) :
    Calls Tryz.prog 31 #[r] w fun e w' => ∃ V', e = .returned (.tuple #[]) ∧ Duo Pp w0.heap.size w0 w1 Z w' x U V' d p r q cp cq D J E.restart I := by
  obtain ⟨B, hd, hc⟩ := h.devR M4
  refine (hd.restart).mono ?_
  rintro e w' ⟨rfl, hd', ho⟩
  obtain ⟨V', hu⟩ := hc w' B _ hd' rfl ho (fun i hi => .inl hi)
  exact ⟨V', rfl, hu⟩
theorem Duo.writeP (h : Duo Pp w0.heap.size w0 w1 Z w x U V d p r q cp cq D J E I) (M : Means Dev) (M4 : Jour4 K fO fR fA Dev Pp) (k : Int) (s : ByteArray) (h0 : -9223372036854775808 ≤ k) (h1 : k ≤ 9223372036854775807) (hs : s.size ≤ 9223372036854775807) :
    Calls Tryz.prog 16 #[d, .int .i64 k, .string s] w fun e w' => ∃ U', e = .returned (.int .i64 (D.write k (toL s)).1) ∧ Duo Pp w0.heap.size w0 w1 Z w' x U' V d p r q cp cq (D.write k (toL s)).2 J E I := by
  obtain ⟨B, hd, hc⟩ := h.devP M4
  refine (M.write hd k s h0 h1 hs).mono ?_
  rintro e w' ⟨B', rfl, hd', ho, hB⟩
  obtain ⟨U', hu⟩ := hc w' B' _ hd' (write_length _ _) ho hB
  exact ⟨U', rfl, hu⟩
theorem Duo.writeR (h : Duo Pp w0.heap.size w0 w1 Z w x U V d p r q cp cq D J E I) (M4 : Jour4 K fO fR fA Dev Pp) (k : Int) (s : ByteArray) (h0 : -9223372036854775808 ≤ k) (h1 : k ≤ 9223372036854775807) (hs : s.size ≤ 9223372036854775807) :
    Calls Tryz.prog 17 #[r, .int .i64 k, .string s] w fun e w' => ∃ V', e = .returned (.int .i64 (E.write k (toL s)).1) ∧ Duo Pp w0.heap.size w0 w1 Z w' x U V' d p r q cp cq D J (E.write k (toL s)).2 I := by
  obtain ⟨B, hd, hc⟩ := h.devR M4
  refine (hd.write k s h0 h1 hs).mono ?_
  rintro e w' ⟨rfl, hd', ho⟩
  obtain ⟨V', hu⟩ := hc w' B _ hd' (write_length _ _) ho (fun i hi => .inl hi)
  exact ⟨V', rfl, hu⟩
theorem Duo.readR (h : Duo Pp w0.heap.size w0 w1 Z w x U V d p r q cp cq D J E I) (M4 : Jour4 K fO fR fA Dev Pp) (k : Int) (h0 : -9223372036854775808 ≤ k) (h1 : k ≤ 9223372036854775807) :
    Calls Tryz.prog 22 #[r, .int .i64 k] w fun e w' => ∃ t : ByteArray, e = .returned (.tuple #[.string t, .int .i64 (E.read k).2]) ∧ Kept (t = bs (E.read k).1) ∧ w' = w := by
  obtain ⟨B, hd, hc⟩ := h.devR M4
  exact hd.read k h0 h1
theorem Duo.openP (h : Duo Pp w0.heap.size w0 w1 Z w x U V d p r q cp cq D J E I) (M4 : Jour4 K fO fR fA Dev Pp) (hK : ∀ w', Below w0.heap.size w0 w' → K w') :
    Calls Tryz.prog fO #[d] w fun e w' => ∃ U' a L k, e = .returned (.pointer (some a)) ∧ Jn.Opened D L k ∧ Duo Pp w0.heap.size w0 w1 Z w' x U' V d (.pointer (some a)) r q cp cq D ⟨L, k⟩ E I := by
  obtain ⟨B, hBU, hd, -⟩ := M4.dev h.four.pr
  refine (M4.opens (hK w h.four.below) hd).mono ?_
  rintro e w' ⟨U', p', L, k, rfl, hp, ho, hU, hb⟩
  obtain ⟨a, rfl⟩ := M4.ptr hp
  exact ⟨U', a, L, k, rfl, ho, h.byP hp (only_of_below hb) (fun i hi => (hU i hi).imp (hBU i) id)⟩
theorem Duo.openR (h : Duo Pp w0.heap.size w0 w1 Z w x U V d p r q cp cq D J E I) (M4 : Jour4 K fO fR fA Dev Pp) :
    Calls Tryz.prog 19 #[r] w fun e w' => ∃ V' a L k, e = .returned (.pointer (some a)) ∧ Jn.Opened E L k ∧ Duo Pp w0.heap.size w0 w1 Z w' x U V' d p r (.pointer (some a)) cp cq D J E ⟨L, k⟩ := by
  obtain ⟨B, hBV, hd, -⟩ := refJour.dev h.four.rp
  refine (refJour.opens trivial hd).mono ?_
  rintro e w' ⟨V', q', L, k, rfl, hp, ho, hV, hb⟩
  obtain ⟨a, rfl⟩ := refJour.ptr hp
  exact ⟨V', a, L, k, rfl, ho, h.byR M4 hp (only_of_below hb) (fun i hi => (hV i hi).imp (hBV i) id)⟩
theorem Duo.appendP (h : Duo Pp w0.heap.size w0 w1 Z w x U V d p r q cp cq D J E I) (M4 : Jour4 K fO fR fA Dev Pp) (hK : ∀ w', Below w0.heap.size w0 w' → K w') (s : ByteArray) (hs : s.size ≤ 9223372036854775807) :
    Calls Tryz.prog fA #[p, .string s] w fun e w' => ∃ U', e = .returned (.int .i64 (Jn.append D J (toL s)).1) ∧ Duo Pp w0.heap.size w0 w1 Z w' x U' V d p r q cp cq (Jn.append D J (toL s)).2.1 (Jn.append D J (toL s)).2.2 E I := by
  refine (M4.append (fun W ho => hK W (h.four.below.trans (ho.toBelow (fun k hk b => by have := h.four.high k (.inl b); omega) h.four.big))) h.four.pr s hs).mono ?_
  rintro e w' ⟨rfl, U', hp, ho, hU⟩
  exact ⟨U', rfl, h.byP hp ho hU⟩
theorem Duo.appendR (h : Duo Pp w0.heap.size w0 w1 Z w x U V d p r q cp cq D J E I) (M4 : Jour4 K fO fR fA Dev Pp) (s : ByteArray) (hs : s.size ≤ 9223372036854775807) :
    Calls Tryz.prog 21 #[q, .string s] w fun e w' => ∃ V', e = .returned (.int .i64 (Jn.append E I (toL s)).1) ∧ Duo Pp w0.heap.size w0 w1 Z w' x U V' d p r q cp cq D J (Jn.append E I (toL s)).2.1 (Jn.append E I (toL s)).2.2 := by
  refine (refJour.append (fun _ _ => trivial) h.four.rp s hs).mono ?_
  rintro e w' ⟨rfl, V', hp, ho, hV⟩
  exact ⟨V', rfl, h.byR M4 hp ho hV⟩
theorem Duo.clearP (h : Duo Pp w0.heap.size w0 w1 Z w x U V d p r q cp cq D J E I) (MC : JourC fC Pp) :
    Calls Tryz.prog fC #[p] w fun e w' => ∃ U', e = .returned (.int .i64 (Jn.clear D J).1) ∧ Duo Pp w0.heap.size w0 w1 Z w' x U' V d p r q cp cq (Jn.clear D J).2.1 (Jn.clear D J).2.2 E I := by
  refine (MC.clear h.four.pr).mono ?_
  rintro e w' ⟨rfl, U', hp, ho, hU⟩
  exact ⟨U', rfl, h.byP hp ho hU⟩
theorem Duo.clearR (h : Duo Pp w0.heap.size w0 w1 Z w x U V d p r q cp cq D J E I) (M4 : Jour4 K fO fR fA Dev Pp) :
    Calls Tryz.prog 27 #[q] w fun e w' => ∃ V', e = .returned (.int .i64 (Jn.clear E I).1) ∧ Duo Pp w0.heap.size w0 w1 Z w' x U V' d p r q cp cq D J (Jn.clear E I).2.1 (Jn.clear E I).2.2 := by
  refine (refClear.clear h.four.rp).mono ?_
  rintro e w' ⟨rfl, V', hp, ho, hV⟩
  exact ⟨V', rfl, h.byR M4 hp ho hV⟩
/-- What was told is a list that is read. -/
theorem Duo.recordsP (h : Duo Pp w0.heap.size w0 w1 Z w x U V d p r q cp cq D J E I) (M4 : Jour4 K fO fR fA Dev Pp) :
    Calls Tryz.prog fR #[p] w fun e w' => ∃ A n k, e = .returned (.slice A n k) ∧ Kept (n = J.L.length) ∧ Kept (Tup.Rd w' A (J.L.map bs)) ∧ Kept (Below w.heap.size w w') := by
  refine (M4.records h.four.pr).mono ?_
  rintro e w' ⟨v, rfl, he, hb⟩
  obtain ⟨A, k, rfl, hr⟩ := Tup.Rd.of_es he
  exact ⟨A, _, k, rfl, ⟨by rw [List.length_map]⟩, ⟨hr⟩, ⟨hb⟩⟩
theorem Duo.recordsR (h : Duo Pp w0.heap.size w0 w1 Z w x U V d p r q cp cq D J E I) :
    Calls Tryz.prog 14 #[q] w fun e w' => ∃ A n k, e = .returned (.slice A n k) ∧ Kept (n = I.L.length) ∧ Kept (Tup.Rd w' A (I.L.map bs)) ∧ Kept (Below w.heap.size w w') := by
  refine (refJour.records h.four.rp).mono ?_
  rintro e w' ⟨v, rfl, he, hb⟩
  obtain ⟨A, k, rfl, hr⟩ := Tup.Rd.of_es he
  exact ⟨A, _, k, rfl, ⟨by rw [List.length_map]⟩, ⟨hr⟩, ⟨hb⟩⟩
/-- The pair is told what was opened. -/
theorem PairAt.put (h : PairAt w x d cp r cq) (p q : Value) : PairAt ((w.setCell ⟨x, 1, none⟩ p).setCell ⟨x, 3, none⟩ q) x d p r q :=
  ⟨by simpa [World.setCell] using h.lt, (World.cell?_setCell_other _ _ _ _ (by simp)).trans ((World.cell?_setCell_other _ _ _ _ (by simp)).trans h.c0), (World.cell?_setCell_other _ _ _ _ (by simp)).trans (World.cell?_setCell_same _ _ _ h.c1), (World.cell?_setCell_other _ _ _ _ (by simp)).trans ((World.cell?_setCell_other _ _ _ _ (by simp)).trans h.c2),
    World.cell?_setCell_same _ _ _ ((World.cell?_setCell_other _ _ _ _ (by simp)).trans h.c3), fun j hj => by rw [World.frozen?_setCell, World.frozen?_setCell]; exact h.free j hj⟩
theorem Duo.put (h : Duo Pp w0.heap.size w0 w1 Z w x U V d p r q cp cq D J E I) (M4 : Jour4 K fO fR fA Dev Pp) : Duo Pp w0.heap.size w0 w1 Z ((w.setCell ⟨x, 1, none⟩ p).setCell ⟨x, 3, none⟩ q) x U V d p r q p q D J E I := by
  have hs : ((w.setCell ⟨x, 1, none⟩ p).setCell ⟨x, 3, none⟩ q).heap.size = w.heap.size := by simp [World.setCell]
  have hk : ∀ k, k ≠ x → ((w.setCell ⟨x, 1, none⟩ p).setCell ⟨x, 3, none⟩ q).heap[k]? = w.heap[k]? := fun k hk => by rw [heap_setCell_other _ _ _ _ hk, heap_setCell_other _ _ _ _ hk]
  have ho : Only (fun k => k = x) w ((w.setCell ⟨x, 1, none⟩ p).setCell ⟨x, 3, none⟩ q) := Only.setCell (Only.setCell (Only.refl (fun k => k = x) w) _ _ (fun _ => rfl)) _ _ (fun _ => rfl)
  refine ⟨⟨M4.keep h.four.pr (fun k hu => hk k (fun e => h.offU (e ▸ hu))) (Nat.le_of_eq hs.symm), refJour.keep h.four.rp (fun k hv => hk k (fun e => h.offV (e ▸ hv))) (Nat.le_of_eq hs.symm), h.four.apart, h.four.high, h.four.below.trans (ho.toBelow (fun k hk e => ?_) h.four.big), by rw [hs]; exact h.four.big⟩, h.at'.put p q, h.offU, h.offV, h.lo, fun g hg => by obtain ⟨a1, a2, a3, a4, a5⟩ := h.side g hg; exact ⟨by rw [hs]; exact a1, a2, a3, a4, (hk g a4).trans a5⟩⟩
  have := h.lo
  omega
end
theorem Duo.short {K : World → Prop} {fO fR fA : FuncId} {Dev : World → (Nat → Prop) → Value → Disk → Prop} {Pp : World → (Nat → Prop) → Value → Value → Disk → Jn.Jour → Prop} {w0 w1 w : World} {Z U V : Nat → Prop} {x n : Nat} {d p r q cp cq : Value} {D E : Disk} {J I : Jn.Jour} (h : Duo Pp w0.heap.size w0 w1 Z w x U V d p r q cp cq D J E I) (M4 : Jour4 K fO fR fA Dev Pp) (hn : Kept (n = J.L.length)) : n ≤ 140737488351232 := by
  have := M4.few h.four.pr
  have h1 := this.1.few
  have h2 := hn.out
  omega
/-- The pair behind an act. -/
def Stands (Pp : World → (Nat → Prop) → Value → Value → Disk → Jn.Jour → Prop) (w0 w : World) (x : Nat) (d p r q : Value) : Prop :=
  ∃ U V D J, Duo Pp w0.heap.size w0 w0 (fun _ => False) w x U V d p r q p q D J D J
end Jr
end Go.Proofs.YtmkpkmkhnphogaaGreatDoor
