/-
  What is read at a place of some entries: valueIn.
-/
import Derived.Test.YtjmblgahoejoiaaGreatDoorLsort
import Derived.Test.YtjmblgahoejoiaaGreatDoorPnames
import Derived.Test.YtjmblgahoejoiaaGreatDoorPent
import Derived.Test.YtjmblgahoejoiaaGreatDoorEnc
namespace Go.Proofs.YtjmblgahoejoiaaGreatDoor
open Go.RowKit Go.Maps Tx
namespace St

/-- Trees as the laws make them. -/
structure Small (t : Tree) : Prop where
  good : Good t
  ent : ∀ q ∈ t, valid q.2 ∧ q.1.size ≤ 10 ∧ q.2.data.size ≤ 10
theorem small_nil : Small [] := ⟨good_nil, fun _ h => by simp at h⟩
theorem find_mem {t : Tree} {k : ByteArray} {e : Ent} (h : find t k = some e) : (k, e) ∈ t := by
  unfold find at h
  obtain ⟨q, hq, rfl⟩ := Option.map_eq_some_iff.1 h
  have h1 := List.mem_of_find?_eq_some hq
  have h2 := List.find?_some hq
  simp at h2
  rw [← h2]
  exact h1
theorem rootE_valid : valid rootE := ⟨.inr (.inr ⟨rfl, rfl⟩), by decide, by decide⟩
theorem valid_nums {e : Ent} (h : valid e) (hd : e.data.size ≤ 10) : ∃ (k m : Nat) (d : ByteArray), e = ⟨k, m, d⟩ ∧ k ≠ 0 ∧ k ≤ 3 ∧ m ≤ 7 ∧ d.size ≤ 10 ∧ valid ⟨k, m, d⟩ := by
  obtain ⟨k, m, d⟩ := e
  have hk := valid_kind h
  have hm := h.2
  simp only at hk hm hd
  obtain ⟨kn, rfl⟩ := Int.eq_ofNat_of_zero_le (show 0 ≤ k by omega)
  obtain ⟨mn, rfl⟩ := Int.eq_ofNat_of_zero_le hm.1
  exact ⟨kn, mn, d, rfl, by omega, by omega, by omega, hd, h⟩
/-- What stands at a place. -/
theorem Small.get {t : Tree} (h : Small t) (p : ByteArray) : ∃ (k m : Nat) (d : ByteArray), St.get t p = ⟨k, m, d⟩ ∧ k ≤ 3 ∧ m ≤ 7 ∧ d.size ≤ 10 ∧ (k = 0 → St.get t p = zeroE) ∧ (k ≠ 0 → valid ⟨k, m, d⟩) := by
  by_cases hp : p = emp
  · obtain ⟨k, m, d, e, h0, hk, hm, hd, hv⟩ := valid_nums rootE_valid (by decide)
    exact ⟨k, m, d, by unfold St.get; rw [if_pos hp, e], hk, hm, hd, fun h => absurd h h0, fun _ => hv⟩
  · cases hf : find t p with
    | none => exact ⟨0, 0, emp, by unfold St.get; rw [if_neg hp, hf]; rfl, by omega, by omega, by decide, fun _ => by unfold St.get; rw [if_neg hp, hf]; rfl, fun h => absurd rfl h⟩
    | some e =>
      have hm := h.ent _ (find_mem hf)
      obtain ⟨k, m, d, he, h0, hk, hm, hd, hv⟩ := valid_nums hm.1 hm.2.2
      exact ⟨k, m, d, by unfold St.get; rw [if_neg hp, hf]; exact he, hk, hm, hd, fun h => absurd h h0, fun _ => hv⟩
theorem child_size {p k n : List UInt8} (h : child p k = some n) : n.length ≤ k.length := by
  have := (child_some h).1
  rw [this]
  simp
  omega
theorem Small.names {t : Tree} (h : Small t) (p : ByteArray) : ∀ n ∈ St.names t p, n.size ≤ 10 := by
  intro n hn
  unfold St.names at hn
  obtain ⟨q, hq, hx⟩ := List.mem_filterMap.1 hn
  obtain ⟨x, hy, rfl⟩ := Option.map_eq_some_iff.1 hx
  have := child_size hy
  have h2 := (h.ent q hq).2.1
  rw [toL_length] at this
  rw [bs_size]
  omega

/-- What is read: the names, or the entry. -/
def valR (t : Tree) (x : Rd) : ByteArray := if x.names = true then bs (Net.enc ((names t x.path).map toL)) else bs (valL (get t x.path))

theorem own_look {w : World} {b n : Nat} {t : Tree} (h : w.ownsMap Tryz.prog 9 entR b n (dat (all t))) (s : ByteArray) (hs : s.size ≤ maxLen) : (Instr.lookup 56 (.map (some b)) (.string s) false).run Tryz.prog w = .ok (entV (get t s)) w := by
  obtain ⟨v, ps, hr, hv⟩ := h.lookup strK Tryz.underlying56 (zeroEnt w) (entR_V zeroE) (keyStr s hs)
  rw [atKey_dat, get_all] at hv
  rw [hr, entR_inv hv]
theorem own_below {w w' : World} {k : TypeId} {R : Value → Option (DataW Unit × List MemPlace)} {b n : Nat} {D : DataW Unit} (h : w.ownsMap Tryz.prog k R b n D) (hb : w'.heap[b]? = w.heap[b]?) : w'.ownsMap Tryz.prog k R b n D := by
  obtain ⟨es, clock, hb0, F, hs, hD⟩ := h
  exact ⟨es, clock, hb.trans hb0, F, hs, hD⟩

set_option maxRecDepth 100000 in
theorem valueIn_any (b n : Nat) (t : Tree) (x : Rd) (w : World) (h : w.ownsMap Tryz.prog 9 entR b n (dat (all t))) (hS : Small t) (ht : t.length ≤ 1000) (hx : x.path.size ≤ 1000000) (hK : Tup.Kit w) :
    Calls Tryz.prog 39 #[.map (some b), .agg #[.string x.path, .bool x.names]] w fun e w' => e = .returned (.string (valR t x)) ∧ Below w.heap.size w w' := by
  have hB : Below w.heap.size w (w.alloc (.cells #[.string x.path, .bool x.names] 72)) := (Below.refl _ _).alloc (Nat.le_refl _) _
  have hB2 : Below w.heap.size w (w.alloc (.cells #[.string x.path, .bool x.names] 72)) := (Below.refl _ _).alloc (Nat.le_refl _) _
  have HO := Kept.mk (own_below h (hB.block b h.lt))
  have HK := Kept.mk (hK.below hB)
  have HB := Kept.mk hB
  have HS := Kept.mk hS
  have HR : Kept (valR t x = if x.names = true then bs (Net.enc ((names t x.path).map toL)) else bs (valL (get t x.path))) := ⟨rfl⟩
  generalize valR t x = r at HR ⊢
  obtain ⟨p, nm⟩ := x
  simp only at hx HR HO HK HB ⊢
  clear h hS hK hB hB2
  cases nm
  · obtain ⟨k, m, d, he, hk, hm, hd, -, -⟩ := HS.out.get p
    have hlk := own_look HO.out p (by unfold maxLen; omega)
    rw [he] at hlk
    unfold entV at hlk
    have HE : Kept (r = bs (valL ⟨k, m, d⟩)) := ⟨by rw [HR.out, if_neg (by simp), he]⟩
    clear he HR
    go_enter Tryz.func39, Tryz.ntmps39
    go_wp2_with (go_at_call 23; refine (value_any k m d _ (by omega) (by omega) (by omega) HK.out).mono ?_; rintro e w2 ⟨s, rfl, hb2, hs⟩)
    go_ret
    exact ⟨by rw [HE.out, ← hs.out, bs_toL]; rfl, HB.out.trans (hb2.mono HB.out.size)⟩
  · have HN : Kept (∀ s ∈ names t p, s.size ≤ 1000000) := ⟨fun s hs => by have := HS.out.names p s hs; omega⟩
    have hl : (names t p).length ≤ t.length := List.length_filterMap_le _ _
    have HE : Kept (r = bs (Net.enc ((names t p).map toL))) := ⟨by rw [HR.out, if_pos rfl]⟩
    clear HR
    go_enter Tryz.func39, Tryz.ntmps39
    go_wp2_with (first
      | (go_at_call 35
         refine (namesIn_any b n t p _ HO.out HS.out.good (by omega) (by omega)).mono ?_
         rintro e w2 ⟨v, rfl, hv, hb2⟩
         obtain ⟨A, kk, rfl, hr⟩ := Tup.Rd.of_es hv.out
         have HR2 := Kept.mk hr
         have HB2 := Kept.mk hb2
         have HK2 := Kept.mk (HK.out.below hb2)
         clear hr hb2 hv)
      | (go_at_call 45
         refine (Tup.encode_any (names t p) A _ kk w2 HK2.out HR2.out rfl (by omega) HN.out).mono ?_
         rintro e w3 ⟨s, rfl, hb3, hs⟩))
    go_ret
    have e2 : s = bs (Net.enc ((names t p).map toL)) := hs.out
    exact ⟨by rw [HE.out, ← e2]; rfl, HB.out.trans ((HB2.out.trans (hb3.mono HB2.out.size)).mono HB.out.size)⟩
end St
end Go.Proofs.YtjmblgahoejoiaaGreatDoor
