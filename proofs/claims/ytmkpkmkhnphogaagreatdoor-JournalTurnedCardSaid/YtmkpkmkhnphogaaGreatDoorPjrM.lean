/-
  The program's journal: what holds while a record is written.
-/
import Derived.Test.YtmkpkmkhnphogaaGreatDoorGjw
namespace Go.Proofs.YtmkpkmkhnphogaaGreatDoor
open Go.RowKit Go.Shelf Tx Dv
namespace Pj

/-- While a record is written: w the world at the call's start, w1 where the loop begins, rb the result's block, U the blocks that may be written. -/
structure RIn (Dev : World → (Nat → Prop) → Value → Disk → Prop) (U : Nat → Prop) (w w1 : World) (rb b g : Nat) (d v : Value) (J : Jn.Jour) (X : Disk) (W : World) : Prop where
  at' : Jr.JAt W b g d v J
  dev : ∃ B, Dev W B d X ∧ (∀ k, B k → ¬ blocks g v k) ∧ ∀ k, B k → U k ∨ w1.heap.size ≤ k
  only : Only U w W
  big : w1.heap.size ≤ W.heap.size
  same : ∀ k, w.heap.size ≤ k → k < w1.heap.size → k ≠ rb → W.heap[k]? = w1.heap[k]?
/-- What does not turn. -/
structure RUp (U : Nat → Prop) (w w1 : World) (rb g : Nat) (v : Value) : Prop where
  ult : ∀ k, U k → k < w.heap.size
  own : ∀ k, blocks g v k → U k
  rb0 : w.heap.size ≤ rb
  rb1 : rb < w1.heap.size
  le : w.heap.size ≤ w1.heap.size
section
variable {Dev : World → (Nat → Prop) → Value → Disk → Prop} {U : Nat → Prop} {w w1 W W' : World} {rb b g : Nat} {d v : Value} {J : Jn.Jour} {X : Disk}
theorem RIn.grown (h : RIn Dev U w w1 rb b g d v J X W) (u : RUp U w w1 rb g v) (M : Means Dev) (MC : InCells Dev) {row : Option Nat} (hg : W.grownBy W' row) (hr : ∀ r, row = some r → w1.heap.size ≤ r ∧ ∃ o : Obj, W.heap[r]? = some o ∧ o.isCells = false) : RIn Dev U w w1 rb b g d v J X W' := by
  have hs := Same.grown hg (fun r e => (hr r e).2)
  obtain ⟨B, hd, ha, hB⟩ := h.dev
  exact ⟨hs.jat h.at', ⟨B, hs.dev M MC hd, ha, hB⟩, h.only.grown hg (fun k hk hlt => by have := (hr k hk).1; have := u.le; omega), Nat.le_trans h.big hg.size,
    fun k h0 h1 hne => (hg.block k (by have := h.big; omega) (fun e => by have := (hr k e.symm).1; omega)).trans (h.same k h0 h1 hne)⟩
theorem RIn.below (h : RIn Dev U w w1 rb b g d v J X W) (u : RUp U w w1 rb g v) (M : Means Dev) (MC : InCells Dev) (hb : Below W.heap.size W W') : RIn Dev U w w1 rb b g d v J X W' :=
  h.grown u M MC (grown_of_below hb) (fun r e => by cases e)
/-- The result's cell is written. -/
theorem RIn.setRes (h : RIn Dev U w w1 rb b g d v J X W) (u : RUp U w w1 rb g v) (M : Means Dev) (x : Value) : RIn Dev U w w1 rb b g d v J X (W.setCell ⟨rb, 0, none⟩ x) := by
  obtain ⟨B, hd, ha, hB⟩ := h.dev
  have hne : ∀ k, U k → k ≠ rb := fun k hk e => by have := u.ult k hk; have := u.rb0; omega
  have hz : (W.setCell ⟨rb, 0, none⟩ x).heap.size = W.heap.size := by simp only [World.setCell, Array.size_modify]
  have hk : ∀ k, k ≠ rb → (W.setCell ⟨rb, 0, none⟩ x).heap[k]? = W.heap[k]? := fun k hk => heap_setCell_other _ _ _ _ hk
  refine ⟨h.at'.keep (hk g (hne g (u.own g (.inl rfl)))) (fun k e => hk k (hne k (u.own k (.inr e)))) (by rw [hz]; exact Nat.le_refl _),
    ⟨B, M.keep hd (fun k hk2 => hk k (fun e => ?_)) (by rw [hz]; exact Nat.le_refl _), ha, hB⟩, h.only.setCell _ _ (fun hlt => ?_), by rw [hz]; exact h.big, fun k h0 h1 hn => (hk k hn).trans (h.same k h0 h1 hn)⟩
  · rcases hB k hk2 with h1 | h1
    · exact hne k h1 e
    · have := u.rb1; omega
  · have : rb < w.heap.size := hlt
    have := u.rb0
    omega
/-- A write. -/
theorem RIn.write (h : RIn Dev U w w1 rb b g d v J X W) (u : RUp U w w1 rb g v) (M : Means Dev) (MC : InCells Dev) (k : Nat) (s : ByteArray) (hk : k ≤ 1000000) (hs : s.size ≤ 1000000) :
    Calls Tryz.prog 16 #[d, .int .i64 k, .string s] W fun e w' => e = .returned (.int .i64 (X.write k (toL s)).1) ∧ RIn Dev U w w1 rb b g d v J (X.write k (toL s)).2 w' ∧ KeepsFrom w1.heap.size W w' ∧ w'.cell? ⟨rb, 0, none⟩ = W.cell? ⟨rb, 0, none⟩ ∧ w'.frozen? ⟨rb, 0, none⟩ = W.frozen? ⟨rb, 0, none⟩ := by
  obtain ⟨B, hd, ha, hB⟩ := h.dev
  refine (M.write hd k s (by omega) (by omega) (by omega)).mono ?_
  rintro e w' ⟨B', rfl, hd', ho, hB'⟩
  have hrb : ¬ B rb := fun hb => by
    rcases hB rb hb with h1 | h1
    · have := u.ult rb h1; have := u.rb0; omega
    · have := u.rb1; omega
  have hrl : rb < W.heap.size := Nat.lt_of_lt_of_le u.rb1 h.big
  refine ⟨rfl, ⟨h.at'.keep (ho.block g h.at'.lt (fun k => ha g k (.inl rfl))) (fun k hk => ho.block k (h.at'.es.lt k hk).2 (fun e => ha k e (.inr hk))) ho.size,
    ⟨B', hd', fun k hk hb => ?_, fun k hk => ?_⟩, h.only.trans ho (fun i hi hb => ?_), Nat.le_trans h.big ho.size, fun k h0 h1 hn => (ho.block k (by have := h.big; omega) (fun hb => ?_)).trans (h.same k h0 h1 hn)⟩, ⟨ho.size, fun k o h0 hko hc => ?_⟩, World.cell?_of_block (ho.block rb hrl hrb), World.frozen?_of_block (ho.block rb hrl hrb)⟩
  · rcases hB' k hk with h1 | h1
    · exact ha k h1 hb
    · have h2 := u.ult k (u.own k hb)
      have := u.le
      have := h.big
      omega
  · rcases hB' k hk with h1 | h1
    · exact hB k h1
    · have := h.big
      exact .inr (by omega)
  · rcases hB i hb with h1 | h1
    · exact h1
    · have := u.le; omega
  · rcases hB k hb with h2 | h2
    · have := u.ult k h2; omega
    · omega
  · refine (ho.block k (Array.getElem?_eq_some_iff.1 hko).1 (fun hb => ?_)).trans hko
    obtain ⟨o2, ho2, hc2⟩ := MC hd k hb
    rw [hko] at ho2
    injection ho2 with ho2
    subst ho2
    rw [hc] at hc2
    cases hc2
/-- What the iterator reads. -/
theorem RIn.ki (h : RIn Dev U w w1 rb b g d v J X W) (u : RUp U w w1 rb g v) (hK : ∀ W, Only U w W → JK W) {jb sb Z : Nat} {s : ByteArray} (hZ : X.S.length = Z) (hj0 : w.heap.size ≤ jb) (hj1 : jb < w1.heap.size) (hj2 : jb ≠ rb) (hs0 : w.heap.size ≤ sb) (hs1 : sb < w1.heap.size) (hs2 : sb ≠ rb)
    (hc1 : w1.cell? ⟨jb, 0, none⟩ = some (.pointer (some ⟨g, 0, none⟩))) (hc2 : w1.cell? ⟨sb, 0, none⟩ = some (.string s)) : KI Dev b g jb sb d v J Z s W := by
  obtain ⟨B, hd, _, _⟩ := h.dev
  exact ⟨h.at', ⟨B, X, hd, hZ⟩, (World.cell?_of_block (w := w1) (a := ⟨jb, 0, none⟩) (h.same jb hj0 hj1 hj2)).trans hc1, (World.cell?_of_block (w := w1) (a := ⟨sb, 0, none⟩) (h.same sb hs0 hs1 hs2)).trans hc2, hK W h.only⟩
end

set_option maxRecDepth 100000 in
theorem writes_any (w : World) (g : Nat) (s : ByteArray) :
    Calls Tryz.prog 43 #[.pointer (some ⟨g, 0, none⟩), .string s] w fun e w' => e = .returned (.func (.func 52) #[] #[.pointer (some ⟨w.heap.size, 0, none⟩), .pointer (some ⟨w.heap.size + 1, 0, none⟩)]) ∧ w' = (w.alloc (.cells #[.pointer (some ⟨g, 0, none⟩)] 34)).alloc (.cells #[.string s] 9) := by
  go_enter Tryz.func43, Tryz.ntmps43
  go_wp2
  go_ret
  exact ⟨rfl, rfl⟩

/-- The result, in a cell. -/
theorem res_cell (tmps : Array Value) (W : World) (a : Addr) (v : Value) (ht : tmps[4]?.getD undef = .pointer (some a)) (hc : W.cell? a = some v) : (results Tryz.f20 tmps).run Tryz.prog W = .ok v W := by
  simp [results, Tryz.f20, go_sem, ht, hc]

set_option maxRecDepth 100000 in
theorem append_long (w : World) (a : Addr) (s : ByteArray) (hs : ¬ s.size ≤ 100000) :
    Calls Tryz.prog 20 #[.pointer (some a), .string s] w fun e w' => e = .returned (.int .i64 2) ∧ Below w.heap.size w w' := by
  have z : (100000 : Int) < s.size := by omega
  go_enter Tryz.func20, Tryz.ntmps20
  go_wp2
  refine bodyPost_ret (res_cell _ _ ⟨w.heap.size + 1, 0, none⟩ (.int .i64 2) rfl (by simp)) rfl ?_
  exact ⟨rfl, ((Below.refl _ _).alloc (Nat.le_refl _) _).alloc (by simp) _⟩
end Pj
end Go.Proofs.YtmkpkmkhnphogaaGreatDoor
