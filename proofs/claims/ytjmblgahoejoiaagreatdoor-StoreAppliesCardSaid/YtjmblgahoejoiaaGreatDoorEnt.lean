/-
  An entry's text, and the entry of a text, in plain words. Nothing of the program stands here.
-/
import Derived.Test.YtjmblgahoejoiaaGreatDoorSto
import Derived.Test.YtjmblgahoejoiaaGreatDoorNetLib
import Derived.Lib.Strings
import Derived.Test.YtjmblgahoejoiaaGreatDoorNum
namespace Go.Proofs.YtjmblgahoejoiaaGreatDoor
open Go.RowKit Tx
namespace St

/-- The entries of a tree. -/
def valid (e : Ent) : Prop := (e.kind = 1 ∨ e.kind = 3 ∨ e.kind = 2 ∧ e.data = emp) ∧ 0 ≤ e.mode ∧ e.mode ≤ 7
instance (e : Ent) : Decidable (valid e) := by unfold valid; infer_instance
def valL (e : Ent) : List UInt8 := if e.kind = 0 then [] else Net.enc [Net.dig e.kind.toNat, Net.dig e.mode.toNat, toL e.data]
def likelyE (s : List UInt8) : Ent :=
  if s.length < 8 then zeroE else ⟨((s[2]?.getD 0).toNat : Int) - 48, ((s[6]?.getD 0).toNat : Int) - 48, bs (Lib.trimSuffix (Lib.cut (s.drop 8) [58]).2.1 [44])⟩
def entOf (s : List UInt8) : Option Ent := if s = [] then some zeroE else if valid (likelyE s) ∧ valL (likelyE s) = s then some (likelyE s) else none

theorem dig_one {d : Nat} (h : d < 10) : Net.dig d = [UInt8.ofNat (48 + d)] := by rw [Net.dig, if_pos h]
theorem one_byte (x : UInt8) : Net.one [x] = [49, 58, x, 44] := by
  unfold Net.one
  rw [show [x].length = 1 from rfl, dig_one (by omega)]
  rfl
theorem val_shape {k m : Nat} (hk : k < 10) (hm : m < 10) (d : List UInt8) :
    Net.enc [Net.dig k, Net.dig m, d] = 49 :: 58 :: UInt8.ofNat (48 + k) :: 44 :: 49 :: 58 :: UInt8.ofNat (48 + m) :: 44 :: (Net.dig d.length ++ 58 :: (d ++ [44])) := by
  rw [Net.enc_cons, Net.enc_cons, Net.enc_cons, dig_one hk, dig_one hm, one_byte, one_byte]
  unfold Net.one Net.enc
  simp
theorem cut_text (d : List UInt8) : (Lib.cut (Net.dig d.length ++ 58 :: (d ++ [44])) [58]).2.1 = d ++ [44] := by
  rw [Net.cut_colon, Net.colon_dig _ _ (Net.dig_all _), if_pos (by simp)]
  show List.drop _ _ = _
  rw [show Net.dig d.length ++ 58 :: (d ++ [44]) = (Net.dig d.length ++ [58]) ++ (d ++ [44]) by simp, show (Net.dig d.length).length + 1 = (Net.dig d.length ++ [58]).length by simp]
  exact List.drop_left ..
theorem trim_text (d : List UInt8) : Lib.trimSuffix (d ++ [44]) [44] = d := by
  unfold Lib.trimSuffix Lib.hasSuffix
  have h : [44].isSuffixOf (d ++ [44]) = true := List.isSuffixOf_iff_suffix.2 (List.suffix_append _ _)
  rw [if_pos h]
  simp
theorem valid_kind {e : Ent} (h : valid e) : 1 ≤ e.kind ∧ e.kind ≤ 3 := by
  rcases h.1 with h | h | ⟨h, _⟩ <;> omega
theorem likely_val {e : Ent} (h : valid e) : likelyE (valL e) = e := by
  obtain ⟨h1, h2⟩ := valid_kind h
  have h3 := h.2
  unfold valL
  rw [if_neg (by omega), val_shape (by omega) (by omega)]
  unfold likelyE
  rw [if_neg (by simp)]
  simp only [List.getElem?_cons_succ, List.getElem?_cons_zero, Option.getD_some, List.drop_succ_cons, List.drop_zero]
  rw [cut_text, trim_text, bs_toL, Net.toNat_dig _ (by omega), Net.toNat_dig _ (by omega)]
  obtain ⟨k, m, d⟩ := e
  simp only at h1 h2 h3 ⊢
  congr 1 <;> omega
theorem valL_ne {e : Ent} (h : valid e) : valL e ≠ [] := by
  have := valid_kind h
  unfold valL
  rw [if_neg (by omega), val_shape (by omega) (by have := h.2; omega)]
  simp
theorem entOf_some {s : List UInt8} {e : Ent} (hs : s ≠ []) : entOf s = some e ↔ valid e ∧ valL e = s := by
  unfold entOf
  rw [if_neg hs]
  constructor
  · intro h
    split at h
    · rename_i hv
      injection h with h
      rw [← h]
      exact hv
    · cases h
  · rintro ⟨hv, rfl⟩
    rw [likely_val hv, if_pos ⟨hv, rfl⟩]
theorem entOf_val {e : Ent} (h : valid e) : entOf (valL e) = some e := (entOf_some (valL_ne h)).2 ⟨h, rfl⟩
theorem entOf_nil : entOf [] = some zeroE := by unfold entOf; rw [if_pos rfl]

/-! ### As the document reads it: by the list of three texts -/
theorem numI_dig {k : Nat} (h : k < 1000000000) : Tup.numI (Net.dig k) = k := by
  unfold Tup.numI
  rw [Net.num_dig k h]
theorem dec_val {e : Ent} (h : valid e) (hd : (toL e.data).length < 1000000000) : Net.dec (valL e) = some [Net.dig e.kind.toNat, Net.dig e.mode.toNat, toL e.data] := by
  have := valid_kind h
  have h3 := h.2
  unfold valL
  rw [if_neg (by omega)]
  refine Net.dec_enc _ fun x hx => ?_
  simp only [List.mem_cons, List.not_mem_nil, or_false] at hx
  rcases hx with rfl | rfl | rfl
  · rw [dig_one (by omega)]; simp
  · rw [dig_one (by omega)]; simp
  · exact hd
theorem data_short {e : Ent} (h : valid e) : (toL e.data).length ≤ (valL e).length := by
  have := valid_kind h
  have h3 := h.2
  unfold valL
  rw [if_neg (by omega), val_shape (by omega) (by omega)]
  simp
  omega
theorem ent_none {s : List UInt8} (hs : s ≠ []) (hl : s.length < 1000000000) (h : ∀ a b c, Net.dec s ≠ some [a, b, c]) : entOf s = none := by
  cases he : entOf s with
  | none => rfl
  | some e =>
    obtain ⟨hv, rfl⟩ := (entOf_some hs).1 he
    exact absurd (dec_val hv (by have := data_short hv; omega)) (h _ _ _)
theorem ent_three {s a b c : List UInt8} (hs : s ≠ []) (hl : s.length < 1000000000) (h : Net.dec s = some [a, b, c]) :
    if (1 ≤ Tup.numI a ∧ Tup.numI a ≤ 3 ∧ 0 ≤ Tup.numI b ∧ Tup.numI b ≤ 7) ∧ (Tup.numI a = 2 → c = []) then entOf s = some ⟨Tup.numI a, Tup.numI b, bs c⟩ ∧ valL ⟨Tup.numI a, Tup.numI b, bs c⟩ = s else entOf s = none := by
  split
  · rename_i hc
    obtain ⟨⟨h1, h2, h3, h4⟩, h5⟩ := hc
    have get : ∀ x, 0 ≤ Tup.numI x → ∃ n : Nat, Tup.numI x = n ∧ Net.dig n = x := by
      intro x hx
      unfold Tup.numI at hx ⊢
      cases hn : Net.num x with
      | none => rw [hn] at hx; simp at hx
      | some n => exact ⟨n, rfl, (Net.num_some hn).1⟩
    obtain ⟨k, hk, rfl⟩ := get a (by omega)
    obtain ⟨m, hm, rfl⟩ := get b h3
    rw [hk] at h1 h2 h5 ⊢
    rw [hm] at h3 h4 ⊢
    have hv : valid ⟨k, m, bs c⟩ := by
      refine ⟨?_, h3, h4⟩
      have : (k : Int) = 1 ∨ (k : Int) = 2 ∨ (k : Int) = 3 := by omega
      rcases this with h | h | h
      · exact .inl h
      · exact .inr (.inr ⟨h, by rw [h5 h]; rfl⟩)
      · exact .inr (.inl h)
    have e : valL ⟨k, m, bs c⟩ = s := by
      unfold valL
      rw [if_neg (by simp only; omega)]
      simp only [Int.toNat_natCast, toL_bs]
      exact Net.dec_some h
    exact ⟨(entOf_some hs).2 ⟨hv, e⟩, e⟩
  · rename_i hc
    cases he : entOf s with
    | none => rfl
    | some e =>
      exfalso
      obtain ⟨hv, hvs⟩ := (entOf_some hs).1 he
      subst hvs
      have hd := dec_val hv (by have := data_short hv; omega)
      rw [hd] at h
      injection h with h
      simp only [List.cons.injEq, and_true] at h
      obtain ⟨rfl, rfl, rfl⟩ := h
      have hk := valid_kind hv
      have hm := hv.2
      rw [numI_dig (by omega), numI_dig (by omega)] at hc
      apply hc
      refine ⟨⟨by omega, by omega, by omega, by omega⟩, fun h2 => ?_⟩
      rcases hv.1 with h | h | ⟨_, h⟩
      · omega
      · omega
      · rw [h]; rfl
end St
end Go.Proofs.YtjmblgahoejoiaaGreatDoor
