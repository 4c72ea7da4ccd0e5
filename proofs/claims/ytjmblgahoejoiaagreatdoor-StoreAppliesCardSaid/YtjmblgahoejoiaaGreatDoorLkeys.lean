/-
  What was read: the keys of the map, gathered.
-/
import Derived.Test.YtjmblgahoejoiaaGreatDoorLrd
import Derived.Test.YtjmblgahoejoiaaGreatDoorPnames
namespace Go.Proofs.YtjmblgahoejoiaaGreatDoor
open Go.RowKit Go.Maps Go.Sort Go.Shelf Tx
attribute [local go_sem] Oper.semAt_some
namespace St

/-- What has come: no key twice; a key has come just where the map has it and it is no longer to come. -/
structure Coll (D0 : DataW Unit) (left : Lit → Bool) (xs : List Rd) : Prop where
  nodup : xs.Nodup
  size : ∀ x ∈ xs, x.path.size ≤ maxLen
  mem : ∀ x : Rd, x.path.size ≤ maxLen → (x ∈ xs ↔ (Maps.has D0 (rk x) = true ∧ left (rk x) = false))
theorem Coll.start (D0 : DataW Unit) : Coll D0 (Maps.has D0) [] := ⟨List.nodup_nil, fun x h => by simp at h, fun x _ => by cases Maps.has D0 (rk x) <;> simp⟩
theorem rk_same {x y : Rd} (hx : x.path.size ≤ maxLen) (hy : y.path.size ≤ maxLen) : (rk x).sameKey (rk y) = decide (x = y) := by
  show (keyBytes _ == keyBytes _) = _
  by_cases h : x = y
  · subst h; simp
  · rw [decide_eq_false h, beq_eq_false_iff_ne]
    exact fun e => h (rk_inj hx hy (by unfold rk; rw [e]))
theorem Coll.step {D0 : DataW Unit} {left : Lit → Bool} {xs : List Rd} (h : Coll D0 left xs) {x : Rd} (hx : x.path.size ≤ maxLen) {y : DataW Unit} (hlk : left (rk x) = true) (hat : ∀ zd, D0.atKey (rk x) zd = y) : Coll D0 (fun z => left z && !z.sameKey (rk x)) (xs ++ [x]) := by
  have hhas : Maps.has D0 (rk x) = true := has_true_of_atKey hat
  have hnew : x ∉ xs := fun hm => by have := ((h.mem x hx).1 hm).2; rw [hlk] at this; cases this
  refine ⟨List.nodup_append.2 ⟨h.nodup, by simp, fun a ha b hb => by simp at hb; subst hb; exact fun e => hnew (e ▸ ha)⟩, fun z hz => ?_, fun z hz => ?_⟩
  · rcases List.mem_append.1 hz with hz | hz
    · exact h.size z hz
    · rw [List.mem_singleton.1 hz]; exact hx
  · rw [List.mem_append, List.mem_singleton, h.mem z hz, rk_same hz hx]
    by_cases e : z = x
    · subst e; simp [hhas]
    · simp [e]
/-- All keys of the map. -/
structure AllRd (D0 : DataW Unit) (xs : List Rd) : Prop where
  nodup : xs.Nodup
  size : ∀ x ∈ xs, x.path.size ≤ maxLen
  mem : ∀ x : Rd, x.path.size ≤ maxLen → (x ∈ xs ↔ Maps.has D0 (rk x) = true)
theorem Coll.all {D0 : DataW Unit} {left : Lit → Bool} {xs : List Rd} (h : Coll D0 left xs) (hl : ∀ kl, left kl = false) : AllRd D0 xs := ⟨h.nodup, h.size, fun x hx => by rw [h.mem x hx, hl]; simp⟩

structure KeysIn (W wr : World) (J : List Rd → World → Prop) (b n : Nat) (D0 : DataW Unit) (left : Lit → Bool) (cnt : Nat) (xs : List Rd) : Prop where
  rg : wr.ranges Tryz.prog 72 unR b W.heap.size n D0 left cnt
  few : xs.length + cnt ≤ Maps.size D0
  col : Coll D0 left xs
  j : J xs wr

set_option maxHeartbeats 2000000 in
set_option maxRecDepth 100000 in
theorem rdKeys_stops (nn Bm b n : Nat) (D0 : DataW Unit) (w : World) (hnn : 1 ≤ nn) (hBm : Bm < w.heap.size) (hm : w.cell? ⟨Bm, 0, none⟩ = some (.map (some b)))
    (hown : w.ownsMap Tryz.prog 72 unR b n D0) :
    SeqStopsK Fence.wide nn Tryz.prog 59 #[.pointer (some ⟨Bm, 0, none⟩)] (fun x : Rd => #[encRd x]) KeepsWalks
      (fun xs => AllRd D0 xs ∧ xs.length ≤ Maps.size D0) (fun _ => True) (Maps.size D0) w := by
  intro l J Jx W hW hJ hJx hY h0
  have hownW : W.ownsMap Tryz.prog 72 unR b n D0 := by
    have hbl := hown.lt
    obtain ⟨es, clock, hb, Ft, hs, hD⟩ := hown
    exact ⟨es, clock, (hW.block b hbl).trans hb, Ft, hs, hD⟩
  have cm : W.cell? ⟨Bm, 0, none⟩ = some (.map (some b)) := (hW.cell (p := ⟨Bm, 0, none⟩) hBm).trans hm
  have HJ := Kept.mk hJ
  have HY := Kept.mk hY
  clear hm hJ hJx hY
  refine callsIn_of_wp Tryz.func59 rfl trivial ?_ rfl
  simp only [Tryz.ntmps59, List.size_toArray, List.length_cons, List.length_nil, Nat.reduceAdd, Nat.reduceSub, Array.replicate_succ, Array.replicate_zero, List.push_toArray, List.append_toArray, List.nil_append, List.cons_append]
  gi_wp2_with (first
    | (gi_at_range; refine wpListIn_range_own _ rfl _ 66 rfl 72 65 rdK Tryz.underlying66 _ b n _ rfl hownW ?_; intro w0 hrg0 hg0 hs0)
    | gi_in)
  have hin0 : Kept (KeysIn W w0 J b n D0 (Maps.has D0) (Maps.size D0) []) := ⟨⟨hrg0, by simp, Coll.start D0, HJ.out [] W w0 none h0 hg0 (fun r e => by cases e)⟩⟩
  clear hs0 hg0 hrg0 h0 cm
  gi_loopw [3] (fun _ wr => ∃ (left : Lit → Bool) (cnt : Nat) (xs : List Rd), Kept (KeysIn W wr J b n D0 left cnt xs)) (fun _ wr => wr.rangeLeft b W.heap.size)
  case atStart => exact ⟨_, _, [], hin0⟩
  case round =>
    obtain ⟨left, cnt, xs, hin⟩ := hrel
    gi_wp2_with (first
      | (gi_at_next; refine wpListIn_next_ranges _ rfl _ rfl 72 rdK unR encRd id (fun key kl hk => by obtain ⟨x, hx, _⟩ := keyRd_inv hk; exact ⟨x, hx⟩) (fun v _ _ => ⟨v, rfl⟩) b W.heap.size n _ _ _ rfl hin.out.rg ?_ ?_)
      | gi_in)
    · intro hc0 hl0
      gi_wp2
      go_end0
      exact ⟨⟨_, rfl⟩, .inl ⟨xs, ⟨hin.out.col.all hl0, by have := hin.out.few; omega⟩, hin.out.j⟩⟩
    · intro x c kl yd yp w2 cnt2 hkey hlk hv hat hrg2 hlt hg2 hs2 hen
      obtain ⟨x', ex, rfl, hx⟩ := keyRd_inv hkey
      obtain rfl : x = x' := encRd_inj ex
      have hJ2 : J xs w2 := HJ.out _ wr w2 (some W.heap.size) hin.out.j hg2 (fun r e => by cases e; exact ⟨Nat.le_refl _, hin.out.rg.iter_walk⟩)
      have hC2 := Kept.mk (hin.out.col.step hx hlk hat)
      have hmeas : Kept (cnt2 < cnt) := ⟨hlt⟩
      have hfew : Kept (xs.length + cnt ≤ Maps.size D0) := ⟨hin.out.few⟩
      have hleft : Kept (wr.rangeLeft b W.heap.size = cnt) := ⟨hin.out.rg.left_eq⟩
      have hJ3 : J xs (w2.alloc (.cells #[.string x.path, .bool x.names] 72)) := HJ.out _ w2 _ none hJ2 (World.grownBy_alloc _ _ _) (fun r e => by cases e)
      have hR3 := hrg2.alloc (.cells #[.string x.path, .bool x.names] 72)
      obtain ⟨fn, tmps, assign, body, hy, hR⟩ := HY.out xs x _ hJ3 (by have := hfew.out; have := hmeas.out; omega)
      have HR3 := Kept.mk hR3
      clear hs2 hg2 hrg2 hJ2 hJ3 hat hlk hlt hin hR3
      unfold encRd at hen hy
      gi_wp2
      refine hR.mono ?_
      rintro e W3 (⟨rfl, hJ4, hk3⟩ | ⟨rfl, hJx3⟩)
      · gi_wp2
        have hrg3 := HR3.out.of_walks hk3
        go_roundw
        case rel => exact ⟨_, cnt2, xs ++ [x], ⟨⟨hrg3, by have := hfew.out; have := hmeas.out; simp; omega, hC2.out, hJ4⟩⟩⟩
        case measure => rw [hrg3.left_eq, hleft.out]; exact hmeas.out
      · gi_wp2
        refine bodyPost_ret (results_none rfl _ _ _) rfl ?_
        exact ⟨⟨_, rfl⟩, .inr ⟨_, trivial, hJx3⟩⟩
end St
end Go.Proofs.YtjmblgahoejoiaaGreatDoor
