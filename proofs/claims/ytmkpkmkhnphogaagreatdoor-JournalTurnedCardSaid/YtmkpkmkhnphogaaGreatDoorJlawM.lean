/-
  What the journal's laws carry through a call: the program's device alone, a journal on it, a list that was told.
-/
import Derived.Test.YtmkpkmkhnphogaaGreatDoorJawakeM
namespace Go.Proofs.YtmkpkmkhnphogaaGreatDoor
open Go.RowKit Tx Dv
namespace Jr

/-- The program's device alone, in blocks from n on. -/
structure DvIn (Dev : World → (Nat → Prop) → Value → Disk → Prop) (n : Nat) (w0 w : World) (B : Nat → Prop) (d : Value) (D : Disk) : Prop where
  dev : Dev w B d D
  below : Below n w0 w
  high : ∀ k, B k → n ≤ k
  big : n ≤ w.heap.size
/-- A list that was told, in blocks that are none of U's. -/
structure Told (w : World) (U : Nat → Prop) (b : Nat) (v : Value) (l : List ByteArray) : Prop where
  es : Own.Es Value.string w b v l
  away : ∀ k, v.ownBlock = some k → ¬ U k
section
variable {K : World → Prop} {fO fR fA : FuncId} {Dev : World → (Nat → Prop) → Value → Disk → Prop} {Pp : World → (Nat → Prop) → Value → Value → Disk → Jn.Jour → Prop} {n b : Nat} {w0 w w' : World} {U U' B B' : Nat → Prop} {d p v : Value} {D E : Disk} {J I : Jn.Jour} {l : List ByteArray}
theorem DvIn.byOnly (h : DvIn Dev n w0 w B d D) (hp : Dev w' B' d E) (ho : Only B w w') (hB : ∀ i, B' i → B i ∨ w.heap.size ≤ i) : DvIn Dev n w0 w' B' d E :=
  ⟨hp, h.below.trans (ho.toBelow (fun k hk b => by have := h.high k b; omega) h.big), fun k hk => by
    rcases hB k hk with h1 | h1
    · exact h.high k h1
    · have := h.big; omega, Nat.le_trans h.big ho.size⟩
/-- What is done with a journal's device. -/
theorem PrIn.byDev (h : PrIn Pp n w0 w U d p D J) (M4 : Jour4 K fO fR fA Dev Pp) : ∃ B, Dev w B d D ∧ ∀ w' B' E, Dev w' B' d E → E.S.length = D.S.length → Only B w w' → (∀ i, B' i → B i ∨ w.heap.size ≤ i) → ∃ U', PrIn Pp n w0 w' U' d p E J ∧ (∀ i, U' i → U i ∨ w.heap.size ≤ i) ∧ Only U w w' := by
  obtain ⟨B, hBU, hd, hc⟩ := M4.dev h.pr
  refine ⟨B, hd, fun w' B' E hd' hl ho hB => ?_⟩
  obtain ⟨U', hp, hU⟩ := hc w' B' E hd' hl ho hB
  have ho2 : Only U w w' := ho.mono fun i _ hi => hBU i hi
  exact ⟨U', h.byOnly hp ho2 hU, hU, ho2⟩
theorem DvIn.toPr (h : DvIn Dev n w0 w B d D) (hp : Pp w' U d p D J) (hU : ∀ i, U i → B i ∨ w.heap.size ≤ i) (hb : Below w.heap.size w w') : PrIn Pp n w0 w' U d p D J :=
  ⟨hp, h.below.trans (hb.mono h.big), fun k hk => by
    rcases hU k hk with h1 | h1
    · exact h.high k h1
    · have := h.big; omega, Nat.le_trans h.big hb.size⟩
/-- The journal, opened again: the elder one is let go. -/
theorem PrIn.again (h : PrIn Pp n w0 w U d p D J) {q : Value} (hp : Pp w' U' d q D I) (hU : ∀ i, U' i → U i ∨ w.heap.size ≤ i) (hb : Below w.heap.size w w') : PrIn Pp n w0 w' U' d q D I :=
  ⟨hp, h.below.trans (hb.mono h.big), fun k hk => by
    rcases hU k hk with h1 | h1
    · exact h.high k h1
    · have := h.big; omega, Nat.le_trans h.big hb.size⟩
theorem Told.below (h : Told w U b v l) (hb : Below w.heap.size w w') : Told w' U b v l := ⟨h.es.below hb, h.away⟩
theorem Told.step (h : Told w U b v l) (ho : Only U w w') (hU : ∀ i, U' i → U i ∨ w.heap.size ≤ i) : Told w' U' b v l :=
  ⟨h.es.keep (fun k hk => ho.block k (h.es.lt k hk).2 (h.away k hk)) ho.size, fun k hk hu => by
    rcases hU k hu with h1 | h1
    · exact h.away k hk h1
    · have := (h.es.lt k hk).2; omega⟩
/-- .. where nothing was written that was there. -/
theorem Told.turn (h : Told w U b v l) (hb : Below w.heap.size w w') (hU : ∀ i, U' i → U i ∨ w.heap.size ≤ i) : Told w' U' b v l :=
  ⟨h.es.below hb, fun k hk hu => by
    rcases hU k hu with h1 | h1
    · exact h.away k hk h1
    · have := (h.es.lt k hk).2; omega⟩
theorem Told.new (he : Own.Es Value.string w' w.heap.size v l) (hU : ∀ k, U k → k < w.heap.size) : Told w' U w.heap.size v l := ⟨he, fun k hk hu => by have := (he.lt k hk).1; have := hU k hu; omega⟩
end

/-- A device whose first sector is blank, with endless power. -/
structure Ready (D : Disk) (n : Nat) : Prop where
  ok : D.Ok
  len : D.S.length = n
  power : D.power = -1
  first : Jn.Blank D 0
theorem Ready.fresh (n : Nat) (h : n ≤ 4096) : Ready (fresh n) n :=
  ⟨fresh_ok n h, fresh_length n, rfl, fun hlt => by rw [sec_fresh n (by rw [fresh_length] at hlt; exact hlt)]; decide⟩
theorem Ready.write {D : Disk} {n k : Nat} {s : List UInt8} (h : Ready D n) (hk : 0 < k) (hkn : k < n) (hs : s.length ≤ 64) : Ready (D.write k s).2 n :=
  ⟨h.ok.write _ _, by rw [write_length, h.len], (Jn.write_power (by rw [h.len]; exact hkn) hs h.power).2, fun hlt => by
    rw [write_length] at hlt
    rw [Jn.write_far _ _ _ _ (by omega)]
    exact h.first hlt⟩
theorem Ready.opened {D : Disk} {n : Nat} (h : Ready D n) {L : List (List UInt8)} {a : Nat} (ho : Jn.Opened D L a) : L = [] ∧ a = 0 :=
  ho.unique h.ok.few ⟨rfl, h.first.stop⟩
/-- A journal that was filled with endless power. -/
structure Filled (D : Disk) (J : Jn.Jour) (n k : Nat) : Prop where
  ok : D.Ok
  len : D.S.length = n
  power : D.power = -1
  opened : Jn.Opened D J.L J.pos
  blank : Jn.Blank D J.pos
  pos : J.pos ≤ k
theorem Ready.filled {D : Disk} {n : Nat} (h : Ready D n) : Filled D ⟨[], 0⟩ n 0 := ⟨h.ok, h.len, h.power, ⟨rfl, h.first.stop⟩, h.first, Nat.le_refl _⟩
theorem Filled.append {D : Disk} {J : Jn.Jour} {n k c : Nat} {s : List UInt8} (h : Filled D J n k) (hs : s.length ≤ 100000) (hc : Jn.count s.length ≤ c) (hr : k + 1 + c ≤ n) :
    (Jn.append D J s).1 = 0 ∧ (Jn.append D J s).2.2 = ⟨J.L ++ [s], J.pos + 1 + Jn.count s.length⟩ ∧ Filled (Jn.append D J s).2.1 (Jn.append D J s).2.2 n (k + 1 + c) := by
  have hl : J.L.length < 1000000000 := by have := h.opened.le; have := h.ok.few; omega
  have hp := h.pos
  obtain ⟨h1, h2⟩ := Jn.append_power (J := J) h.power hl hs (by rw [h.len]; omega)
  obtain ⟨L, a⟩ := J
  obtain ⟨h3, h4, h5⟩ := Jn.append_done h.opened hl h1
  refine ⟨h1, h3, ⟨Jn.append_ok h.ok _ _, by rw [Jn.append_length, h.len], h2, ?_, ?_, ?_⟩⟩
  · rw [h3]; exact h4
  · rw [h3]; exact h5
  · rw [h3]; simp only at hp ⊢; omega
end Jr
end Go.Proofs.YtmkpkmkhnphogaaGreatDoor
