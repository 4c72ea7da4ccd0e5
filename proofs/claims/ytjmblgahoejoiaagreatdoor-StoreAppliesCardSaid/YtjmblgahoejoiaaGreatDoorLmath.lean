/-
  StoreApplies, in plain words: what was written, put into what was there, is what is there.
-/
import Derived.Test.YtjmblgahoejoiaaGreatDoorLapp
import Derived.Test.YtjmblgahoejoiaaGreatDoorSacts
namespace Go.Proofs.YtjmblgahoejoiaaGreatDoor
open Go.RowKit Go.Maps Tx
namespace St

theorem Small.put {t : Tree} (h : Small t) {p : ByteArray} {k m : Nat} {d : ByteArray} (hp : p.size ≤ 10) (hd : d.size ≤ 10) (hv : k ≠ 0 → valid ⟨k, m, d⟩) : Small (St.put t p ⟨k, m, d⟩) := by
  refine ⟨h.good.put _ _, fun q hq => ?_⟩
  unfold St.put at hq
  split at hq
  · exact h.ent q hq
  · split at hq
    · exact h.ent q (List.mem_filter.1 hq).1
    · rename_i hk
      rcases mem_ins hq with rfl | hq
      · exact ⟨hv (fun e => hk (by simp [e])), hp, hd⟩
      · exact h.ent q hq
theorem find_emp {t : Tree} (h : Good t) : find t emp = none := find_none (fun p hp => h.noRoot p hp)
theorem find_put_get {t u : Tree} (ht : Good t) (hu : Small u) (p k : ByteArray) : find (put t p (get u p)) k = if p = k ∧ p ≠ emp then find u k else find t k := by
  unfold put
  by_cases hp : p = emp
  · rw [if_pos hp, if_neg (fun h => h.2 hp)]
  · rw [if_neg hp]
    have hg : get u p = (find u p).getD zeroE := by unfold get; rw [if_neg hp]
    cases hf : find u p with
    | none =>
      rw [hg, hf]
      rw [if_pos (show (Option.getD none zeroE).kind = 0 from rfl), find_del]
      by_cases hk : p = k
      · rw [if_pos hk, if_pos ⟨hk, hp⟩, ← hk, hf]
      · rw [if_neg hk, if_neg (fun h => hk h.1)]
    | some e =>
      have hv := (hu.ent _ (find_mem hf)).1
      have hk0 : e.kind ≠ 0 := by have := valid_kind hv; simp only at this; omega
      rw [hg, hf]
      rw [if_neg (show ¬ (Option.getD (some e) zeroE).kind = 0 from hk0), find_ins _ _ _ _ ht.sorted]
      by_cases hk : p = k
      · rw [if_pos hk, if_pos ⟨hk, hp⟩, ← hk, hf]
        rfl
      · rw [if_neg hk, if_neg (fun h => hk h.1)]
theorem puts_good (u : Tree) : ∀ (l : List Tch) (t : Tree), Good t → Good (puts u t l)
  | [], t, h => h
  | q :: l, t, h => puts_good u l _ (h.put _ _)
theorem puts_find {u : Tree} (hu : Small u) : ∀ (l : List Tch) (t : Tree), Good t → (∀ k, (∀ q ∈ l, q.rd.path ≠ k) → find t k = find u k) → ∀ k, find (puts u t l) k = find u k
  | [], t, _, h, k => h k (fun _ hq => by simp at hq)
  | q :: l, t, ht, h, k => by
    show find (puts u (put t q.rd.path (get u q.rd.path)) l) k = _
    refine puts_find hu l _ (ht.put _ _) (fun j hj => ?_) k
    rw [find_put_get ht hu]
    by_cases e : q.rd.path = j
    · by_cases h0 : q.rd.path = emp
      · rw [if_neg (fun h => h.2 h0), ← e, h0, find_emp ht, find_emp hu.good]
      · rw [if_pos ⟨e, h0⟩]
    · rw [if_neg (fun h => e h.1)]
      refine h j (fun q' hq' => ?_)
      rcases List.mem_cons.1 hq' with rfl | hq'
      · exact e
      · exact hj q' hq'
theorem puts_all {u t : Tree} (hu : Small u) (ht : Good t) (l : List Tch) (h : ∀ k, (∀ q ∈ l, q.rd.path ≠ k) → find t k = find u k) : puts u t l = u :=
  tree_ext (puts_good u l t ht) hu.good (puts_find hu l t ht h)

/-! ### What was recorded -/
theorem key_inj {a b : ByteArray} (h : key a = key b) : a = b := by
  unfold key at h
  injection h with h
  exact toL_inj h
structure Rec (t t0 : Tree) (DR DP : DataW Unit) : Prop where
  mapR : IsMap DR
  mapP : IsMap DP
  shortR : ∀ x : Rd, x.path.size ≤ maxLen → Maps.has DR (rk x) = true → x.path.size ≤ 10
  shortP : ∀ s, Maps.has DP (key s) = true → s.size ≤ 10
  same : ∀ k, Maps.has DP (key k) = false → find t0 k = find t k
theorem has_nil (k : Lit) : Maps.has (DataW.map [] : DataW Unit) k = false := rfl
theorem Rec.start (t : Tree) (h : IsMap (DataW.map [] : DataW Unit)) : Rec t t (.map []) (.map []) := ⟨h, h, fun x _ h => (by rw [has_nil] at h; cases h), fun s h => (by rw [has_nil] at h; cases h), fun _ _ => rfl⟩
theorem Rec.read {t t0 : Tree} {DR DP : DataW Unit} (h : Rec t t0 DR DP) (x : Rd) (hx : x.path.size ≤ 10) (hm : IsMap (DR.put (rk x) unD)) : Rec t t0 (DR.put (rk x) unD) DP := by
  refine ⟨hm, h.mapP, fun y hy hh => ?_, h.shortP, h.same⟩
  by_cases e : y = x
  · rw [e]; exact hx
  · rw [has_put_other (fun e2 => e (rk_inj hy (by unfold maxLen; omega) e2))] at hh
    exact h.shortR y hy hh
theorem Rec.put {t t0 : Tree} {DR DP : DataW Unit} (h : Rec t t0 DR DP) (ht : Good t) (p : ByteArray) (e : Ent) (hp : p.size ≤ 10) (hk : WideAt.IsKeyLit (key p)) (hm : IsMap (DP.put (key p) unD)) : Rec (St.put t p e) t0 DR (if p = emp then DP else DP.put (key p) unD) := by
  by_cases h0 : p = emp
  · rw [if_pos h0]
    have : St.put t p e = t := by unfold St.put; rw [if_pos h0]
    rw [this]
    exact h
  · rw [if_neg h0]
    refine ⟨h.mapR, hm, h.shortR, fun s hs => ?_, fun k hkk => ?_⟩
    · by_cases e2 : s = p
      · rw [e2]; exact hp
      · rw [has_put_other (fun e3 => e2 (key_inj e3))] at hs
        exact h.shortP s hs
    · by_cases e2 : k = p
      · rw [e2, has_put_same h.mapP hk] at hkk
        cases hkk
      · rw [has_put_other (fun e3 => e2 (key_inj e3))] at hkk
        rw [h.same k hkk]
        unfold St.put
        rw [if_neg h0]
        split
        · rw [find_del, if_neg (fun e3 => e2 e3.symm)]
        · rw [find_ins _ _ _ _ ht.sorted, if_neg (fun e3 => e2 e3.symm)]
end St
end Go.Proofs.YtjmblgahoejoiaaGreatDoor
