/-
  Touches, as cells; the keys of what was put, sorted.
-/
import Derived.Test.YtjmblgahoejoiaaGreatDoorLput
import Derived.Test.YtjmblgahoejoiaaGreatDoorPlist
namespace Go.Proofs.YtjmblgahoejoiaaGreatDoor
open Go.RowKit Go.Maps Go.Sort Go.Shelf Tx
namespace St

structure Tch where
  rd : Rd
  val : ByteArray
def tv (x : Tch) : List Value := [.string x.rd.path, .bool x.rd.names, .string x.val]
def tvs (l : List Tch) : List Value := l.flatMap tv
theorem tvs_cons (p : Tch) (t : List Tch) : tvs (p :: t) = tv p ++ tvs t := rfl
theorem tvs_snoc (l : List Tch) (x : Tch) : tvs (l ++ [x]) = tvs l ++ tv x := by simp [tvs]
theorem tvs_length (t : List Tch) : (tvs t).length = t.length * 3 := by
  induction t with
  | nil => rfl
  | cons p t ih => rw [tvs_cons, List.length_append, ih]; simp [tv]; omega
theorem tvs_drop (t : List Tch) (k : Nat) : (tvs t).drop (k * 3) = tvs (t.drop k) := by
  induction k generalizing t with
  | zero => simp
  | succ k ih =>
    cases t with
    | nil => simp [tvs]
    | cons p t =>
      rw [tvs_cons, List.drop_succ_cons, ← ih t, List.drop_append]
      have : (tv p).length = 3 := rfl
      rw [List.drop_eq_nil_of_le (by rw [this]; omega), this, List.nil_append]
      congr 1
      omega
theorem tvs_at {t : List Tch} {j : Nat} (hj : j < t.length) {i : Nat} {u : Value} (h : (tv t[j])[i]? = some u) : (tvs t)[j * 3 + i]? = some u := by
  rw [← List.getElem?_drop, tvs_drop, List.drop_eq_getElem_cons hj, tvs_cons, List.getElem?_append_left]
  · exact h
  · exact (List.getElem?_eq_some_iff.1 h).1
theorem tv_new (w : World) (x : Tch) (ty : TypeId) : ∀ j u, (tv x)[j]? = some u → (w.alloc (.cells (tv x).toArray ty)).cell? ((⟨w.heap.size, 0, none⟩ : Addr).add j) = some u := by
  intro j u hu
  rw [Addr.add_lit, Nat.zero_add, cell_of_row _ _ j _ _ (0, 0) (heap_alloc_new w _)]
  simpa using hu
theorem tv_one (x : Tch) : ∀ u ∈ tv x, u.oneCell' = true := by
  intro u hp
  simp only [tv, List.mem_cons, List.not_mem_nil, or_false] at hp
  rcases hp with rfl | rfl | rfl <;> rfl
theorem tchInfo : (Tryz.prog.info? 82).map (fun i => (i.zero, i.size, i.bytes)) = some (some (.agg #[.string ⟨#[]⟩, .bool false, .string ⟨#[]⟩]), 3, 40) := by kernel_rfl
/-- The slice v holds the touches l. -/
def TL (w : World) (v : Value) (l : List Tch) : Prop := (v = .slice none 0 0 ∧ l = []) ∨ ∃ q cap, v = .slice (some ⟨q, 0, none⟩) l.length cap ∧ q < w.heap.size ∧ ∀ j (hj : j < l.length), w.cell? ⟨q, j * 3, none⟩ = some (.string l[j].rd.path) ∧ w.cell? ⟨q, j * 3 + 1, none⟩ = some (.bool l[j].rd.names) ∧ w.cell? ⟨q, j * 3 + 2, none⟩ = some (.string l[j].val)
theorem TL.keep {w w' : World} {v : Value} {l : List Tch} (h : TL w v l) (hb : ∀ k, v.ownBlock = some k → w'.heap[k]? = w.heap[k]?) (hs : w.heap.size ≤ w'.heap.size) : TL w' v l := by
  rcases h with h | ⟨q, cap, rfl, hq, h⟩
  · exact .inl h
  · have hc : ∀ i, w'.cell? ⟨q, i, none⟩ = w.cell? ⟨q, i, none⟩ := fun i => World.cell?_of_block (a := ⟨q, i, none⟩) (hb q rfl)
    exact .inr ⟨q, cap, rfl, Nat.lt_of_lt_of_le hq hs, fun j hj => by rw [hc, hc, hc]; exact h j hj⟩
theorem TL.lt {w : World} {v : Value} {l : List Tch} (h : TL w v l) : ∀ k, v.ownBlock = some k → k < w.heap.size := by
  intro k hk
  rcases h with ⟨rfl, _⟩ | ⟨q, cap, rfl, hq, _⟩
  · cases hk
  · injection hk with hk
    subst hk
    exact hq
theorem TL.below {w w' : World} {v : Value} {l : List Tch} (h : TL w v l) (hb : Below w.heap.size w w') : TL w' v l := h.keep (fun k hk => hb.block k (h.lt k hk)) hb.size
theorem TL.only {B : Nat → Prop} {w w' : World} {v : Value} {l : List Tch} (h : TL w v l) (ho : Only B w w') (hv : ∀ k, v.ownBlock = some k → ¬ B k) : TL w' v l := h.keep (fun k hk => ho.block k (h.lt k hk) (hv k hk)) ho.size
theorem TL.of_own {w : World} {B n : Nat} {e : TypeId} {v : Value} {l : List Tch} (h : w.ownsRow B e 3 v n (tvs l)) : TL w v l := by
  have hn : n = l.length := by have := h.1; rw [tvs_length] at this; omega
  subst hn
  rcases h.2 with ⟨rfl, h0⟩ | ⟨g, cap, cur, rfl, hB, hg, hnc, hcm, hcs, htake⟩
  · exact .inl ⟨rfl, List.eq_nil_of_length_eq_zero h0⟩
  · have hc : ∀ i u, (tvs l)[i]? = some u → w.cell? ⟨g, i, none⟩ = some u := fun i u hu => by
      rw [← htake, List.getElem?_take] at hu
      rw [cell_of_row w g i cur e (0, 0) hg]
      split at hu
      · simpa using hu
      · cases hu
    exact .inr ⟨g, cap, rfl, (Array.getElem?_eq_some_iff.1 hg).1, fun j hj => ⟨hc _ _ (tvs_at hj (i := 0) rfl), hc _ _ (tvs_at hj (i := 1) rfl), hc _ _ (tvs_at hj (i := 2) rfl)⟩⟩

/-! ### What was put -/
theorem mem_strKeys {w : World} {b n : Nat} {D : DataW Unit} (h : w.ownsMap Tryz.prog 9 unR b n D) (x : List UInt8) : x ∈ strKeys D ↔ Maps.has D (.string x) = true := by
  obtain ⟨es, rfl, hk⟩ := h.keysOf
  have hk2 : ∀ p ∈ es, ∃ a, p.1 = .string a := fun p hp => by
    obtain ⟨v, hv⟩ := hk p hp
    obtain ⟨y, _, hy, _⟩ := Maps.keyOf_str Tryz.underlying9 hv
    exact ⟨y, hy⟩
  rw [Maps.has_eq, List.any_eq_true]
  show x ∈ es.map (fun p => strOf p.1) ↔ _
  rw [List.mem_map]
  constructor
  · rintro ⟨p, hp, rfl⟩
    obtain ⟨a, ha⟩ := hk2 p hp
    exact ⟨p, hp, by rw [ha]; simp [Lit.sameKey, strOf]⟩
  · rintro ⟨p, hp, hs⟩
    obtain ⟨a, ha⟩ := hk2 p hp
    exact ⟨p, hp, by rw [ha]; rw [ha] at hs; simpa [Lit.sameKey, strOf] using hs⟩
theorem putKeys_any (b : Option Nat) (w : World) : Calls Tryz.prog 41 #[.map b] w fun e w' => e = .returned (.func (.func 62) #[] #[.pointer (some ⟨w.heap.size, 0, none⟩)]) ∧ w' = w.alloc (.cells #[.map b] 67) :=
  (callsIn_wide (n := 5)).1 (AnyZ.keys_in Tryz.keys41 Fence.wide 5 trivial rfl b w)
set_option maxRecDepth 100000 in
theorem putSorted_any (b n : Nat) (D : DataW Unit) (w : World) (hown : w.ownsMap Tryz.prog 9 unR b n D) (hsz : Maps.size D ≤ 1000000) :
    Calls Tryz.prog 40 #[.func (.func 62) #[] #[.pointer (some ⟨w.heap.size, 0, none⟩)]] (w.alloc (.cells #[.map (some b)] 67)) fun e w' =>
      ∃ v l, e = .returned v ∧ Kept (Own.Es Value.string w' w.heap.size v l) ∧ l.length ≤ Maps.size D ∧ (∀ s, s ∈ l ↔ Maps.has D (key s) = true) ∧ Below w.heap.size w w' := by
  have hbl := hown.lt
  have hmem := fun x => mem_strKeys hown x
  refine (callsIn_wide (n := 5)).1 ?_
  have sorts : ∀ m, AnyZ.SortsIn Tryz.prog Tryz.sorted40_ren Fence.wide m := fun m =>
    ⟨fun blk off cap ss W hH hblk hsz => callsIn_wide.2 (AnyM.slices_Sort_string Tryz.sort56 blk off cap ss W hH hblk hsz),
     fun p cap W => callsIn_wide.2 (AnyM.slices_Sort_string_none Tryz.sort56 p cap W)⟩
  have hseq : SeqGives Fence.wide 2 Tryz.prog 62 #[.pointer (some ⟨w.heap.size, 0, none⟩)] encStr (fun ss => ss.Perm (strKeys D)) (Maps.size D) (w.alloc (.cells #[.map (some b)] 67)) :=
    AnyZ.keys_gives (ρ := Tryz.keys41_ren) { Tryz.keys41 with } Fence.wide _ trivial rfl (by omega) w.heap.size b n D _ (by simp) (by simp) (by
      obtain ⟨es, clock, hb, Ft, hs, hD⟩ := hown
      exact ⟨es, clock, (Below.heap_alloc _ _ b hbl).trans hb, Ft, hs, hD⟩)
  refine (AnyZ.sorted_in Tryz.sorted40 Fence.wide 5 trivial trivial trivial trivial rfl (by omega) (sorts _) (enters_of Tryz.func56 (by kernel_rfl) rfl) 62 #[.pointer (some ⟨w.heap.size, 0, none⟩)] trivial (enters_of Tryz.func62 (by kernel_rfl) rfl) _ _ (by unfold maxLen; omega) (by omega) _ hseq).mono ?_
  rintro e w' ⟨v, ss, rfl, hS, hrow, -, hb⟩
  have hb1 : Below w.heap.size w w' := ((Below.refl _ _).alloc (Nat.le_refl _) _).trans (hb.mono (by simp))
  have hlen : (strKeys D).length = Maps.size D := by
    cases D <;> simp [strKeys, Maps.size]
  refine ⟨v, (ss.mergeSort leL).map bs, rfl, ⟨?_⟩, by rw [List.length_map, List.length_mergeSort, hS.length_eq, hlen]; exact Nat.le_refl _, fun s => ?_, hb1⟩
  · have e2 : ((ss.mergeSort leL).map bs).map Value.string = (ss.mergeSort fun x y => decide (x ≤ y)).map encStr := by
      rw [List.map_map]
      rfl
    rw [← e2] at hrow
    exact (Own.Es.of_own (by simpa using hrow)).more (by simp)
  · show _ ↔ Maps.has D (.string (toL s)) = true
    rw [← hmem (toL s), ← hS.mem_iff, List.mem_map]
    constructor
    · rintro ⟨x, hx, rfl⟩
      rw [toL_bs]
      exact (List.mergeSort_perm ss leL).mem_iff.1 hx
    · intro h
      exact ⟨toL s, (List.mergeSort_perm ss leL).mem_iff.2 h, bs_toL s⟩
end St
end Go.Proofs.YtjmblgahoejoiaaGreatDoor
