/-
  Journals on disks, as plain data: what a record is, what a device opens to, what an append writes; and what is true of these whatever power there was. Nothing of the program stands here.
-/
import Derived.Test.YtmkpkmkhnphogaaGreatDoorGdk
import Derived.Test.YtmkpkmkhnphogaaGreatDoorGtup
import Derived.Test.YtmkpkmkhnphogaaGreatDoorGsha
namespace Go.Proofs.YtmkpkmkhnphogaaGreatDoor
open Dv
namespace Jn

def count (n : Nat) : Nat := (n + 63) / 64
def sum16 (s : List UInt8) : List UInt8 := (Sha.sum s).take 16
def head (m : UInt8) (n : Nat) (s : List UInt8) : List UInt8 := m :: Net.enc [Net.dig n, Net.dig s.length, sum16 s]
def sec (D : Disk) (k : Nat) : List UInt8 := D.S.getD k []
/-- The bytes of so many sectors. -/
def bytes (D : Disk) (a k : Nat) : List UInt8 := (List.range k).flatMap fun i => sec D (a + i)
structure IsRec (D : Disk) (a n : Nat) (s : List UInt8) : Prop where
  few : s.length ≤ 100000
  room : a + 1 + count s.length ≤ D.S.length
  hd : sec D a = pad (head 49 n s)
  body : (bytes D (a + 1) (count s.length)).take s.length = s
/-- Records one behind the other, from sector a on, with the numbers from n on, to sector e. -/
def Recs (D : Disk) : Nat → Nat → List (List UInt8) → Nat → Prop
  | a, _, [], e => a = e
  | a, n, s :: L, e => IsRec D a n s ∧ Recs D (a + 1 + count s.length) (n + 1) L e
structure Opened (D : Disk) (L : List (List UInt8)) (e : Nat) : Prop where
  recs : Recs D 0 0 L e
  stop : ∀ s, ¬ IsRec D e L.length s

/-! ### Heads -/
theorem sum16_length (s : List UInt8) : (sum16 s).length = 16 := by
  unfold sum16
  have : (Sha.sum s).length = 64 := by unfold Sha.sum Sha.inHex; simp [Sha.St.list, Sha.hex8]
  rw [List.length_take, this]
  rfl
theorem dig_le (n k : Nat) (h : n < 10 ^ (k + 1)) : (Net.dig n).length ≤ k + 1 := Net.dig_length n k h
theorem head_length (m : UInt8) (n : Nat) (s : List UInt8) (hn : n < 1000000000) (hs : s.length ≤ 100000) : (head m n s).length ≤ 64 := by
  have h1 := dig_le n 8 (by omega)
  have h2 := dig_le s.length 5 (by omega)
  have h3 := sum16_length s
  have h4 := dig_le (Net.dig n).length 1 (by omega)
  have h5 := dig_le (Net.dig s.length).length 1 (by omega)
  have h6 := dig_le (sum16 s).length 1 (by omega)
  unfold head
  simp only [Net.enc, Net.one, List.length_cons, List.flatMap_cons, List.flatMap_nil, List.length_append, List.append_nil, List.length_nil]
  omega
theorem head_cons (m : UInt8) (n : Nat) (s : List UInt8) : ∃ r, head m n s = m :: (r ++ [44]) := by
  unfold head
  exact ⟨Net.one (Net.dig n) ++ (Net.one (Net.dig s.length) ++ (Net.dig (sum16 s).length ++ ([58] ++ sum16 s))), by simp [Net.enc, Net.one]⟩
def strip (l : List UInt8) : List UInt8 := (l.reverse.dropWhile (· == 0)).reverse
theorem strip_zeros (l : List UInt8) (k : Nat) (b : UInt8) (hb : b ≠ 0) : strip (l ++ [b] ++ List.replicate k 0) = l ++ [b] := by
  unfold strip
  rw [List.reverse_append, List.reverse_replicate]
  have h : ∀ (k : Nat) (r : List UInt8), (List.replicate k 0 ++ r).dropWhile (· == 0) = r.dropWhile (· == 0) := by
    intro k r
    induction k with
    | zero => rfl
    | succ k ih => rw [List.replicate_succ, List.cons_append, List.dropWhile_cons, if_pos (by rfl), ih]
  rw [h, List.reverse_append]
  simp [List.dropWhile_cons, hb]
theorem strip_head (m : UInt8) (n : Nat) (s : List UInt8) : strip (pad (head m n s)) = head m n s := by
  obtain ⟨r, hr⟩ := head_cons m n s
  unfold pad
  rw [hr]
  exact strip_zeros (m :: r) _ 44 (by decide)
theorem pad_head_inj {m m' : UInt8} {n n' : Nat} {s s' : List UInt8} (h : pad (head m n s) = pad (head m' n' s')) (hn : n < 1000000000) (hn' : n' < 1000000000) (hs : s.length ≤ 100000) (hs' : s'.length ≤ 100000) : m = m' ∧ n = n' ∧ s.length = s'.length := by
  have e : head m n s = head m' n' s' := by rw [← strip_head m n s, h, strip_head]
  unfold head at e
  injection e with e1 e2
  have b : ∀ (n : Nat) (s : List UInt8), n < 1000000000 → s.length ≤ 100000 → ∀ x ∈ [Net.dig n, Net.dig s.length, sum16 s], x.length < 1000000000 := by
    intro n s hn hs x hx
    have h1 := dig_le n 8 (by omega)
    have h2 := dig_le s.length 5 (by omega)
    have h3 := sum16_length s
    simp only [List.mem_cons, List.not_mem_nil, or_false] at hx
    rcases hx with rfl | rfl | rfl <;> omega
  have d := Net.dec_enc _ (b n s hn hs)
  rw [e2, Net.dec_enc _ (b n' s' hn' hs')] at d
  injection d with d
  injection d with d1 d
  injection d with d2 d
  exact ⟨e1, by rw [← Net.worth_dig n, ← d1, Net.worth_dig], by rw [← Net.worth_dig s.length, ← d2, Net.worth_dig]⟩
theorem pad_head_first (m : UInt8) (n : Nat) (s : List UInt8) : (pad (head m n s)).head? = some m := by
  unfold pad head
  rfl

/-! ### Records -/
theorem IsRec.unique {D : Disk} {a n : Nat} {s t : List UInt8} (h : IsRec D a n s) (k : IsRec D a n t) (hn : n < 1000000000) : s = t := by
  have e := h.hd.symm.trans k.hd
  obtain ⟨_, _, hl⟩ := pad_head_inj e hn hn h.few k.few
  have h1 := h.body
  rw [hl] at h1
  exact h1.symm.trans k.body
theorem bytes_same {D E : Disk} {a k : Nat} (h : ∀ i, a ≤ i → i < a + k → sec D i = sec E i) : bytes D a k = bytes E a k := by
  unfold bytes
  have : ∀ i ∈ List.range k, sec D (a + i) = sec E (a + i) := fun i hi => h _ (by omega) (by have := List.mem_range.1 hi; omega)
  induction k with
  | zero => rfl
  | succ k ih =>
    rw [List.range_succ, List.flatMap_append, List.flatMap_append, ih (fun i h1 h2 => h i h1 (by omega)) (fun i hi => this i (by rw [List.range_succ]; simp [List.mem_range.1 hi]))]
    simp [h (a + k) (by omega) (by omega)]
theorem IsRec.same {D E : Disk} {a n : Nat} {s : List UInt8} (h : IsRec D a n s) (hl : D.S.length = E.S.length) (hs : ∀ i, a ≤ i → i < a + 1 + count s.length → sec D i = sec E i) : IsRec E a n s :=
  ⟨h.few, by rw [← hl]; exact h.room, by rw [← hs a (by omega) (by omega)]; exact h.hd, by rw [← bytes_same (D := D) (E := E) (fun i h1 h2 => hs i (by omega) (by omega))]; exact h.body⟩
theorem IsRec.first {D : Disk} {a n : Nat} {s : List UInt8} (h : IsRec D a n s) : (sec D a).head? = some 49 := by rw [h.hd]; exact pad_head_first _ _ _
theorem Recs.le {D : Disk} : ∀ {L : List (List UInt8)} {a n e : Nat}, Recs D a n L e → a ≤ D.S.length → a + L.length ≤ e ∧ e ≤ D.S.length
  | [], a, n, e, h, ha => by have : a = e := h; subst this; exact ⟨Nat.le_refl _, ha⟩
  | s :: L, a, n, e, h, ha => by
    obtain ⟨h1, h2⟩ := h
    have := h2.le h1.room
    simp only [List.length_cons]
    omega
theorem Recs.snoc {D : Disk} {s : List UInt8} : ∀ {L : List (List UInt8)} {a n e : Nat}, Recs D a n L e → IsRec D e (n + L.length) s → Recs D a n (L ++ [s]) (e + 1 + count s.length)
  | [], a, n, e, h, k => by have : a = e := h; subst this; exact ⟨k, rfl⟩
  | t :: L, a, n, e, h, k => by
    obtain ⟨h1, h2⟩ := h
    refine ⟨h1, Recs.snoc h2 ?_⟩
    rw [List.length_cons] at k
    rw [show n + 1 + L.length = n + (L.length + 1) by omega]
    exact k
theorem Recs.same {D E : Disk} (hl : D.S.length = E.S.length) : ∀ {L : List (List UInt8)} {a n e : Nat}, Recs D a n L e → a ≤ D.S.length → (∀ i, i < e → sec D i = sec E i) → Recs E a n L e
  | [], _, _, _, h, _, _ => h
  | s :: L, a, n, e, h, ha, hs => by
    obtain ⟨h1, h2⟩ := h
    have := h2.le h1.room
    exact ⟨h1.same hl (fun i _ h4 => hs i (by omega)), Recs.same hl h2 h1.room hs⟩
theorem recs_unique {D : Disk} (hD : D.S.length ≤ 4096) : ∀ {L M : List (List UInt8)} {a n e f : Nat}, n ≤ a → a ≤ D.S.length → Recs D a n L e → (∀ s, ¬ IsRec D e (n + L.length) s) → Recs D a n M f → (∀ s, ¬ IsRec D f (n + M.length) s) → L = M ∧ e = f
  | [], [], a, n, e, f, _, _, h, _, k, _ => by have h1 : a = e := h; have k1 : a = f := k; exact ⟨rfl, h1.symm.trans k1⟩
  | [], t :: M, a, n, e, f, _, _, h, hs, k, _ => by have h1 : a = e := h; subst h1; exact absurd k.1 (hs t)
  | s :: L, [], a, n, e, f, _, _, h, _, k, ks => by have k1 : a = f := k; subst k1; exact absurd h.1 (ks s)
  | s :: L, t :: M, a, n, e, f, hna, ha, h, hs, k, ks => by
    have e1 : s = t := h.1.unique k.1 (by have := h.1.room; omega)
    subst e1
    have := recs_unique hD (L := L) (M := M) (a := a + 1 + count s.length) (n := n + 1) (by omega) h.1.room h.2 (fun x hx => hs x (by rw [List.length_cons, show n + (L.length + 1) = n + 1 + L.length by omega]; exact hx)) k.2 (fun x hx => ks x (by rw [List.length_cons, show n + (M.length + 1) = n + 1 + M.length by omega]; exact hx))
    exact ⟨by rw [this.1], this.2⟩
/-- A device opens to one list alone. -/
theorem Opened.unique {D : Disk} (hD : D.S.length ≤ 4096) {L M : List (List UInt8)} {e f : Nat} (h : Opened D L e) (k : Opened D M f) : L = M ∧ e = f :=
  recs_unique hD (Nat.le_refl _) (Nat.zero_le _) h.recs (by simpa using h.stop) k.recs (by simpa using k.stop)
theorem Opened.le {D : Disk} {L : List (List UInt8)} {e : Nat} (h : Opened D L e) : L.length ≤ e ∧ e ≤ D.S.length := by
  have := h.recs.le (Nat.zero_le _)
  omega

/-! ### Writes one behind the other, till one fails -/
def wr (D : Disk) : List (Nat × List UInt8) → Int × Disk
  | [] => (0, D)
  | (k, t) :: r => if (D.write k t).1 = 0 then wr (D.write k t).2 r else D.write k t
theorem wr_append (D : Disk) (a b : List (Nat × List UInt8)) : wr D (a ++ b) = if (wr D a).1 = 0 then wr (wr D a).2 b else wr D a := by
  induction a generalizing D with
  | nil => simp [wr]
  | cons x a ih =>
    obtain ⟨k, t⟩ := x
    rw [List.cons_append, wr, wr]
    by_cases h : (D.write k t).1 = 0
    · rw [if_pos h, if_pos h, ih]
    · rw [if_neg h, if_neg h, if_neg h]
theorem wr_length (D : Disk) (l : List (Nat × List UInt8)) : (wr D l).2.S.length = D.S.length := by
  induction l generalizing D with
  | nil => rfl
  | cons x l ih =>
    obtain ⟨k, t⟩ := x
    rw [wr]
    split
    · rw [ih, write_length]
    · rw [write_length]
theorem wr_ok {D : Disk} (h : D.Ok) (l : List (Nat × List UInt8)) : (wr D l).2.Ok := by
  induction l generalizing D with
  | nil => exact h
  | cons x l ih =>
    obtain ⟨k, t⟩ := x
    rw [wr]
    split
    · exact ih (h.write _ _)
    · exact h.write _ _
theorem sec_put (D : Disk) (k : Nat) (x : List UInt8) (p : Int) (m : Nat) (i : Nat) : sec ⟨D.put k x, p, m⟩ i = if i = k ∧ k < D.S.length then x else sec D i := by
  unfold sec Disk.put
  simp only [Int.toNat_natCast, List.getD_eq_getElem?_getD]
  by_cases h : i = k
  · subst h
    by_cases hl : i < D.S.length
    · rw [if_pos ⟨rfl, hl⟩]
      simp [hl]
    · rw [if_neg (fun h => hl h.2)]
      simp [hl]
  · rw [if_neg (fun e => h e.1), List.getElem?_set_ne (fun e => h e.symm)]
theorem write_far (D : Disk) (k : Nat) (t : List UInt8) (i : Nat) (h : i ≠ k) : sec (D.write k t).2 i = sec D i := by
  unfold Disk.write
  split
  · split
    · rw [sec_put, if_neg (fun e => h e.1)]
    · rw [sec_put, if_neg (fun e => h e.1)]
  · rfl
theorem wr_far (D : Disk) (l : List (Nat × List UInt8)) (i : Nat) (h : ∀ x ∈ l, x.1 ≠ i) : sec (wr D l).2 i = sec D i := by
  induction l generalizing D with
  | nil => rfl
  | cons x l ih =>
    obtain ⟨k, t⟩ := x
    rw [wr]
    have hk : i ≠ k := fun e => h (k, t) (by simp) e.symm
    split
    · rw [ih _ (fun y hy => h y (by simp [hy])), write_far D k t i hk]
    · exact write_far D k t i hk
theorem write_sec_ok {D : Disk} {k : Nat} {t : List UInt8} (h : (D.write k t).1 = 0) : sec (D.write k t).2 k = pad t ∧ k < D.S.length ∧ t.length ≤ 64 := by
  unfold Disk.write at *
  split at h
  · rename_i hc
    rw [if_pos hc]
    split at h
    · simp at h
    · rename_i hp
      rw [if_neg hp]
      have hk : k < D.S.length := by have := hc.1.2; omega
      exact ⟨by rw [sec_put, if_pos ⟨rfl, hk⟩], hk, hc.2⟩
  · simp at h
theorem write_power {D : Disk} {k : Nat} {t : List UInt8} (hk : k < D.S.length) (ht : t.length ≤ 64) (hp : D.power = -1) : (D.write k t).1 = 0 ∧ (D.write k t).2.power = -1 := by
  unfold Disk.write
  have hh : D.has k := ⟨by omega, by omega⟩
  rw [if_pos ⟨hh, ht⟩, if_neg (by rw [hp]; decide)]
  exact ⟨rfl, by simp only [hp]; decide⟩
theorem wr_power {D : Disk} {l : List (Nat × List UInt8)} (hl : ∀ x ∈ l, x.1 < D.S.length ∧ x.2.length ≤ 64) (hp : D.power = -1) : (wr D l).1 = 0 ∧ (wr D l).2.power = -1 := by
  induction l generalizing D with
  | nil => exact ⟨rfl, hp⟩
  | cons x l ih =>
    obtain ⟨k, t⟩ := x
    have h1 := hl (k, t) (by simp)
    obtain ⟨h2, h3⟩ := write_power h1.1 h1.2 hp
    rw [wr, if_pos h2]
    exact ih (fun y hy => by have := hl y (by simp [hy]); rw [write_length]; exact this) h3
/-- A write that fails for want of power: the sector is torn. -/
theorem write_sec_torn {D : Disk} {k : Nat} {t : List UInt8} (hk : k < D.S.length) (ht : t.length ≤ 64) (h : (D.write k t).1 ≠ 0) : ∃ m, sec (D.write k t).2 k = torn m (pad t) (sec D k) := by
  unfold Disk.write at *
  have hh : D.has k := ⟨by omega, by omega⟩
  rw [if_pos ⟨hh, ht⟩] at h ⊢
  split at h
  · rename_i hp
    rw [if_pos hp]
    refine ⟨D.mask, ?_⟩
    rw [sec_put, if_pos ⟨rfl, hk⟩]
    unfold Disk.at sec
    simp
  · simp at h

/-! ### A record's writes -/
def piece (s : List UInt8) (i : Nat) : List UInt8 := (s.drop (i * 64)).take 64
def body (a : Nat) (s : List UInt8) : List (Nat × List UInt8) := (List.range (count s.length)).map fun i => (a + 1 + i, piece s i)
def behind (D : Disk) (a : Nat) (s : List UInt8) : List (Nat × List UInt8) := if a + 1 + count s.length < D.S.length then [(a + 1 + count s.length, [])] else []
def plan (D : Disk) (n a : Nat) (s : List UInt8) : List (Nat × List UInt8) := behind D a s ++ ((a, head 48 n s) :: (body a s ++ [(a, head 49 n s)]))
theorem piece_length (s : List UInt8) (i : Nat) : (piece s i).length ≤ 64 := by unfold piece; rw [List.length_take]; omega
theorem piece_pad (s : List UInt8) (i : Nat) (h : i < count s.length) : (pad (piece s i)).length = 64 := pad_length _ (piece_length s i)
theorem pieces (s : List UInt8) : ∀ j, j ≤ count s.length → ((List.range j).flatMap fun i => pad (piece s i)).length = 64 * j ∧ ((List.range j).flatMap fun i => pad (piece s i)).take s.length = s.take (64 * j)
  | 0, _ => by simp
  | j + 1, hj => by
    obtain ⟨h1, h2⟩ := pieces s j (by omega)
    have h3 := piece_pad s j (by omega)
    have hle : 64 * j ≤ s.length := by unfold count at hj; omega
    rw [List.range_succ, List.flatMap_append]
    have e : (List.flatMap (fun i => pad (piece s i)) [j]) = pad (piece s j) := by simp
    rw [e]
    refine ⟨by rw [List.length_append, h1, h3]; omega, ?_⟩
    rw [List.take_append, h2, h1]
    have e2 : (pad (piece s j)).take (s.length - 64 * j) = piece s j := by
      have hp : (piece s j).length = min 64 (s.length - 64 * j) := by unfold piece; rw [List.length_take, List.length_drop]; omega
      unfold pad
      rw [List.take_append, List.take_of_length_le (by omega)]
      by_cases h64 : 64 ≤ s.length - 64 * j
      · rw [show 64 - (piece s j).length = 0 by omega]
        simp
      · rw [show s.length - 64 * j - (piece s j).length = 0 by omega]
        simp
    rw [e2]
    unfold piece
    rw [show j * 64 = 64 * j by omega, show 64 * (j + 1) = 64 * j + 64 by omega, List.take_add]
theorem pieces_all (s : List UInt8) : ((List.range (count s.length)).flatMap fun i => pad (piece s i)).take s.length = s := by
  rw [(pieces s _ (Nat.le_refl _)).2, List.take_of_length_le (by unfold count; omega)]
end Jn
end Go.Proofs.YtmkpkmkhnphogaaGreatDoor

/-
  Journals on disks: what an append leaves, whatever power there was (the stage's theorem, as plain data). Nothing of the program stands here.
-/
namespace Go.Proofs.YtmkpkmkhnphogaaGreatDoor
open Dv
namespace Jn

/-- A journal: its records, and where the next one goes. -/
structure Jour where
  L : List (List UInt8)
  pos : Nat
def append (D : Disk) (J : Jour) (s : List UInt8) : Int × Disk × Jour :=
  if 100000 < s.length then (2, D, J) else
  if D.S.length < J.pos + 1 + count s.length then (12, D, J) else
  if (wr D (plan D J.L.length J.pos s)).1 = 0 then (0, (wr D (plan D J.L.length J.pos s)).2, ⟨J.L ++ [s], J.pos + 1 + count s.length⟩)
  else ((wr D (plan D J.L.length J.pos s)).1, (wr D (plan D J.L.length J.pos s)).2, J)
def clear (D : Disk) (J : Jour) : Int × Disk × Jour :=
  if (D.write (0 : Nat) []).1 = 0 then (0, (D.write (0 : Nat) []).2, ⟨[], 0⟩) else ((D.write (0 : Nat) []).1, (D.write (0 : Nat) []).2, J)

theorem append_length (D : Disk) (J : Jour) (s : List UInt8) : (append D J s).2.1.S.length = D.S.length := by
  unfold append
  split
  · rfl
  · split
    · rfl
    · split <;> exact wr_length _ _
theorem append_ok {D : Disk} (h : D.Ok) (J : Jour) (s : List UInt8) : (append D J s).2.1.Ok := by
  unfold append
  split
  · exact h
  · split
    · exact h
    · split <;> exact wr_ok h _

/-- The sector at which the next record goes is none that a record begins with. -/
def Blank (D : Disk) (a : Nat) : Prop := a < D.S.length → (sec D a).head? ≠ some 49
theorem Blank.stop {D : Disk} {a n : Nat} (h : Blank D a) (s : List UInt8) : ¬ IsRec D a n s := fun k => h (by have := k.room; omega) k.first

theorem body_keys {a : Nat} {s : List UInt8} {x : Nat × List UInt8} (h : x ∈ body a s) : a + 1 ≤ x.1 ∧ x.1 < a + 1 + count s.length ∧ x.2.length ≤ 64 := by
  unfold body at h
  obtain ⟨i, hi, rfl⟩ := List.mem_map.1 h
  have := List.mem_range.1 hi
  exact ⟨by simp only; omega, by simp only; omega, piece_length s i⟩
theorem behind_keys {D : Disk} {a : Nat} {s : List UInt8} {x : Nat × List UInt8} (h : x ∈ behind D a s) : x.1 = a + 1 + count s.length ∧ x.1 < D.S.length ∧ x.2 = [] := by
  unfold behind at h
  split at h
  · simp only [List.mem_singleton] at h
    subst h
    exact ⟨rfl, by assumption, rfl⟩
  · simp at h
/-- No sector ahead of the record is written. -/
theorem plan_keys {D : Disk} {n a : Nat} {s : List UInt8} {x : Nat × List UInt8} (h : x ∈ plan D n a s) : a ≤ x.1 := by
  unfold plan at h
  simp only [List.mem_append, List.mem_cons, List.not_mem_nil, or_false] at h
  rcases h with h | rfl | h | rfl
  · have := behind_keys h; omega
  · exact Nat.le_refl _
  · have := body_keys h; omega
  · exact Nat.le_refl _
theorem plan_fits {D : Disk} {n a : Nat} {s : List UInt8} (hn : n < 1000000000) (hs : s.length ≤ 100000) (hr : a + 1 + count s.length ≤ D.S.length) {x : Nat × List UInt8} (h : x ∈ plan D n a s) : x.1 < D.S.length ∧ x.2.length ≤ 64 := by
  unfold plan at h
  simp only [List.mem_append, List.mem_cons, List.not_mem_nil, or_false] at h
  rcases h with h | rfl | h | rfl
  · obtain ⟨h1, h2, h3⟩ := behind_keys h
    rw [h3]
    exact ⟨h2, by simp⟩
  · exact ⟨by simp only; omega, head_length _ _ _ hn hs⟩
  · obtain ⟨h1, h2, h3⟩ := body_keys h
    exact ⟨by omega, h3⟩
  · exact ⟨by simp only; omega, head_length _ _ _ hn hs⟩

/-- Sectors that are written once each hold what was written, if no write failed. -/
theorem wr_all {D : Disk} {l : List (Nat × List UInt8)} (h : (wr D l).1 = 0) (hk : (l.map (·.1)).Nodup) : ∀ x ∈ l, sec (wr D l).2 x.1 = pad x.2 := by
  induction l generalizing D with
  | nil => intro x hx; simp at hx
  | cons y l ih =>
    obtain ⟨k, t⟩ := y
    rw [wr] at h ⊢
    split at h
    · rename_i h0
      rw [if_pos h0]
      simp only [List.map_cons, List.nodup_cons] at hk
      intro x hx
      rcases List.mem_cons.1 hx with rfl | hx
      · rw [wr_far _ _ _ (fun z hz e => hk.1 (List.mem_map.2 ⟨z, hz, e⟩))]
        exact (write_sec_ok h0).1
      · exact ih h hk.2 x hx
    · rename_i h0
      exact absurd h h0
theorem body_nodup (a : Nat) (s : List UInt8) : ((body a s).map (·.1)).Nodup := by
  unfold body
  rw [List.map_map]
  have : ((fun x : Nat × List UInt8 => x.1) ∘ fun i => (a + 1 + i, piece s i)) = fun i => a + 1 + i := rfl
  rw [this]
  exact List.Pairwise.map _ (fun i j h e => h (by omega)) List.nodup_range
theorem body_bytes {D : Disk} {a : Nat} {s : List UInt8} (h : ∀ x ∈ body a s, sec D x.1 = pad x.2) : (bytes D (a + 1) (count s.length)).take s.length = s := by
  have : bytes D (a + 1) (count s.length) = (List.range (count s.length)).flatMap fun i => pad (piece s i) := by
    unfold bytes
    have h1 : ∀ i ∈ List.range (count s.length), sec D (a + 1 + i) = pad (piece s i) := fun i hi => h (a + 1 + i, piece s i) (List.mem_map.2 ⟨i, hi, rfl⟩)
    revert h1
    generalize List.range (count s.length) = r
    intro h1
    induction r with
    | nil => rfl
    | cons i r ih =>
      rw [List.flatMap_cons, List.flatMap_cons, h1 i (by simp), ih (fun j hj => h1 j (by simp [hj]))]
  rw [this, pieces_all]

theorem pad_nil_first : (pad []).head? = some 0 := rfl
/-- Behind an append that told no error. -/
theorem append_done {D : Disk} {L : List (List UInt8)} {a : Nat} {s : List UInt8} (ho : Opened D L a) (hn : L.length < 1000000000) (h : (append D ⟨L, a⟩ s).1 = 0) :
    (append D ⟨L, a⟩ s).2.2 = ⟨L ++ [s], a + 1 + count s.length⟩ ∧ Opened (append D ⟨L, a⟩ s).2.1 (L ++ [s]) (a + 1 + count s.length) ∧ Blank (append D ⟨L, a⟩ s).2.1 (a + 1 + count s.length) := by
  unfold append at *
  split at h
  · simp at h
  · rename_i h1
    rw [if_neg h1]
    split at h
    · simp at h
    · rename_i h2
      rw [if_neg h2]
      simp only at *
      split at h
      · rename_i h3
        rw [if_pos h3]
        have hl := wr_length D (plan D L.length a s)
        have hfar : ∀ i, i < a → sec D i = sec (wr D (plan D L.length a s)).2 i := fun i hi => (wr_far D _ i (fun x hx => by have := plan_keys hx; omega)).symm
        have hR : Recs (wr D (plan D L.length a s)).2 0 0 L a := ho.recs.same hl.symm (Nat.zero_le _) hfar
        -- the writes, one part behind the other
        have hw := h3
        unfold plan at hw
        rw [wr_append] at hw
        have hb : (wr D (behind D a s)).1 = 0 := by
          by_cases hx : (wr D (behind D a s)).1 = 0
          · exact hx
          · rw [if_neg hx] at hw; exact absurd hw hx
        rw [if_pos hb] at hw
        have e1 : wr D (plan D L.length a s) = wr (wr D (behind D a s)).2 ((a, head 48 L.length s) :: (body a s ++ [(a, head 49 L.length s)])) := by unfold plan; rw [wr_append, if_pos hb]
        generalize hD1 : (wr D (behind D a s)).2 = D1 at *
        rw [wr] at hw
        have hh : (D1.write a (head 48 L.length s)).1 = 0 := by
          by_cases hx : (D1.write a (head 48 L.length s)).1 = 0
          · exact hx
          · rw [if_neg hx] at hw; exact absurd hw hx
        rw [if_pos hh] at hw
        rw [wr, if_pos hh] at e1
        generalize hD2 : (D1.write a (head 48 L.length s)).2 = D2 at *
        rw [wr_append] at hw e1
        have hc : (wr D2 (body a s)).1 = 0 := by
          by_cases hx : (wr D2 (body a s)).1 = 0
          · exact hx
          · rw [if_neg hx] at hw; exact absurd hw hx
        rw [if_pos hc] at hw e1
        have hall := wr_all hc (body_nodup a s)
        generalize hD3 : (wr D2 (body a s)).2 = D3 at *
        rw [wr] at hw e1
        have hd : (D3.write a (head 49 L.length s)).1 = 0 := by
          by_cases hx : (D3.write a (head 49 L.length s)).1 = 0
          · exact hx
          · rw [if_neg hx] at hw; exact absurd hw hx
        rw [if_pos hd] at e1
        rw [e1]
        have e2 : (wr (D3.write a (head 49 L.length s)).2 []).2 = (D3.write a (head 49 L.length s)).2 := rfl
        rw [e2]
        have hlen : (D3.write a (head 49 L.length s)).2.S.length = D.S.length := by rw [← hl, e1]; rfl
        have hrec : IsRec (D3.write a (head 49 L.length s)).2 a L.length s := by
          refine ⟨by omega, by rw [hlen]; omega, (write_sec_ok hd).1, body_bytes fun x hx => ?_⟩
          have := body_keys hx
          rw [write_far _ _ _ _ (by omega)]
          exact hall x hx
        have hblank : Blank (D3.write a (head 49 L.length s)).2 (a + 1 + count s.length) := by
          intro hlt
          rw [hlen] at hlt
          have e3 : behind D a s = [(a + 1 + count s.length, [])] := by unfold behind; rw [if_pos hlt]
          rw [write_far _ _ _ _ (by omega), ← hD3, wr_far D2 _ _ (fun x hx => by have := body_keys hx; omega), ← hD2, write_far _ _ _ _ (by omega), ← hD1, e3]
          have h4 : (D.write (a + 1 + count s.length : Nat) []).1 = 0 := by
            rw [e3, wr] at hb
            by_cases hx : (D.write (a + 1 + count s.length : Nat) []).1 = 0
            · exact hx
            · rw [if_neg hx] at hb; exact absurd hb hx
          rw [wr, if_pos h4, wr, (write_sec_ok h4).1]
          simp [pad_nil_first]
        rw [e1] at hR
        refine ⟨rfl, ⟨Recs.snoc hR (by rw [Nat.zero_add]; exact hrec), hblank.stop⟩, hblank⟩
      · rename_i h3
        exact absurd h h3
/-- With endless power an append that has room tells no error. -/
theorem append_power {D : Disk} {J : Jour} {s : List UInt8} (hp : D.power = -1) (hn : J.L.length < 1000000000) (hs : s.length ≤ 100000) (hr : J.pos + 1 + count s.length ≤ D.S.length) : (append D J s).1 = 0 ∧ (append D J s).2.1.power = -1 := by
  obtain ⟨h1, h2⟩ := wr_power (D := D) (l := plan D J.L.length J.pos s) (fun x hx => plan_fits hn hs hr hx) hp
  unfold append
  rw [if_neg (by omega), if_neg (by omega), if_pos h1]
  exact ⟨rfl, h2⟩
/-! ### An append that power failed -/
/-- All but the last write have come through. -/
structure Mid (D E : Disk) (n a : Nat) (s : List UInt8) : Prop where
  len : E.S.length = D.S.length
  low : ∀ i, i < a → sec D i = sec E i
  hd : sec E a = pad (head 48 n s)
  body : ∀ x ∈ body a s, sec E x.1 = pad x.2
  next : Blank E (a + 1 + count s.length)
theorem torn_first (m : Nat) (t old : List UInt8) : (torn m t old).head? = some (if m / 2 ^ 0 % 2 = 1 then t.getD 0 0 else old.getD 0 0) := by
  rw [← torn_at m t old 0 (by decide)]
  rw [List.head?_eq_getElem?, List.getD_eq_getElem?_getD, List.getElem?_eq_getElem (by rw [torn_length]; decide)]
  rfl
theorem getD_first {l : List UInt8} (h : l.head? ≠ some 49) : l.getD 0 0 ≠ 49 := by
  cases l with
  | nil => decide
  | cons b l => intro e; exact h (by simpa using e)
theorem pad_head_getD (m : UInt8) (n : Nat) (s : List UInt8) : (pad (head m n s)).getD 0 0 = m := rfl
theorem plan_cases {D : Disk} {n a : Nat} {s : List UInt8} (hn : n < 1000000000) (hs : s.length ≤ 100000) (hr : a + 1 + count s.length ≤ D.S.length) (hb : (sec D a).head? ≠ some 49) :
    ((wr D (plan D n a s)).1 ≠ 0 ∧ (sec (wr D (plan D n a s)).2 a).head? ≠ some 49) ∨ ∃ E, Mid D E n a s ∧ wr D (plan D n a s) = wr E [(a, head 49 n s)] := by
  have hfar : ∀ x ∈ behind D a s, x.1 ≠ a := fun x hx => by have := behind_keys hx; omega
  unfold plan
  rw [wr_append]
  by_cases h1 : (wr D (behind D a s)).1 = 0
  · rw [if_pos h1]
    have l1 := wr_length D (behind D a s)
    have f1 : ∀ i, i ≤ a → sec (wr D (behind D a s)).2 i = sec D i := fun i hi => wr_far D _ i (fun x hx => by have := behind_keys hx; omega)
    have n1 : Blank (wr D (behind D a s)).2 (a + 1 + count s.length) := by
      intro hlt
      rw [l1] at hlt
      have e3 : behind D a s = [(a + 1 + count s.length, [])] := by unfold behind; rw [if_pos hlt]
      rw [e3] at h1 ⊢
      have h4 : (D.write (a + 1 + count s.length : Nat) []).1 = 0 := by
        rw [wr] at h1
        by_cases hx : (D.write (a + 1 + count s.length : Nat) []).1 = 0
        · exact hx
        · rw [if_neg hx] at h1; exact absurd h1 hx
      rw [wr, if_pos h4, wr, (write_sec_ok h4).1]
      simp [pad_nil_first]
    generalize hD1 : (wr D (behind D a s)).2 = D1 at *
    have a1 : a < D1.S.length := by omega
    rw [wr]
    by_cases h2 : (D1.write a (head 48 n s)).1 = 0
    · rw [if_pos h2]
      have l2 : (D1.write a (head 48 n s)).2.S.length = D.S.length := by rw [write_length, l1]
      have f2 : ∀ i, i < a → sec (D1.write a (head 48 n s)).2 i = sec D i := fun i hi => (write_far _ _ _ _ (by omega)).trans (f1 i (by omega))
      have s2 := (write_sec_ok h2).1
      have n2 : Blank (D1.write a (head 48 n s)).2 (a + 1 + count s.length) := fun hlt => by
        rw [write_length] at hlt
        rw [write_far _ _ _ _ (by omega)]
        exact n1 hlt
      generalize hD2 : (D1.write a (head 48 n s)).2 = D2 at *
      rw [wr_append]
      have hk : ∀ x ∈ body a s, x.1 ≠ a := fun x hx => by have := body_keys hx; omega
      have s3 : sec (wr D2 (body a s)).2 a = pad (head 48 n s) := by rw [wr_far D2 _ a hk, s2]
      by_cases h3 : (wr D2 (body a s)).1 = 0
      · rw [if_pos h3]
        refine .inr ⟨(wr D2 (body a s)).2, ⟨by rw [wr_length, l2], fun i hi => ?_, s3, wr_all h3 (body_nodup a s), fun hlt => ?_⟩, rfl⟩
        · rw [wr_far D2 _ i (fun x hx => by have := body_keys hx; omega), f2 i hi]
        · rw [wr_length] at hlt
          rw [wr_far D2 _ _ (fun x hx => by have := body_keys hx; omega)]
          exact n2 hlt
      · rw [if_neg h3]
        exact .inl ⟨h3, by rw [s3, pad_head_first]; decide⟩
    · rw [if_neg h2]
      refine .inl ⟨h2, ?_⟩
      obtain ⟨m, hm⟩ := write_sec_torn a1 (head_length 48 n s hn hs) h2
      rw [hm, torn_first, f1 a (Nat.le_refl _)]
      have hg := getD_first hb
      split
      · rw [pad_head_getD]; decide
      · intro e; injection e with e; exact hg e
  · rw [if_neg h1]
    refine .inl ⟨h1, ?_⟩
    rw [wr_far D _ a hfar]
    exact hb
/-- A torn last write: the mark is one byte. -/
theorem mark_torn (m n : Nat) (s : List UInt8) (hn : n < 1000000000) (hs : s.length ≤ 100000) : torn m (pad (head 49 n s)) (pad (head 48 n s)) = pad (head 49 n s) ∨ torn m (pad (head 49 n s)) (pad (head 48 n s)) = pad (head 48 n s) := by
  have l1 := pad_length _ (head_length 49 n s hn hs)
  have l0 := pad_length _ (head_length 48 n s hn hs)
  have hsame : ∀ i, 0 < i → (pad (head 49 n s)).getD i 0 = (pad (head 48 n s)).getD i 0 := by
    intro i hi
    obtain ⟨j, rfl⟩ : ∃ j, i = j + 1 := ⟨i - 1, by omega⟩
    rfl
  have ext : ∀ l : List UInt8, l.length = 64 → (∀ i, i < 64 → (torn m (pad (head 49 n s)) (pad (head 48 n s))).getD i 0 = l.getD i 0) → torn m (pad (head 49 n s)) (pad (head 48 n s)) = l := by
    intro l hl h
    apply List.ext_getElem (by rw [torn_length, hl])
    intro i h1 h2
    have := h i (by omega)
    rw [List.getD_eq_getElem?_getD, List.getD_eq_getElem?_getD, List.getElem?_eq_getElem h1, List.getElem?_eq_getElem h2] at this
    exact this
  by_cases h0 : m / 2 ^ 0 % 2 = 1
  · refine .inl (ext _ l1 fun i hi => ?_)
    rw [torn_at m _ _ i hi]
    by_cases hi0 : i = 0
    · subst hi0; rw [if_pos h0]
    · split
      · rfl
      · exact (hsame i (by omega)).symm
  · refine .inr (ext _ l0 fun i hi => ?_)
    rw [torn_at m _ _ i hi]
    by_cases hi0 : i = 0
    · subst hi0; rw [if_neg h0]
    · split
      · exact hsame i (by omega)
      · rfl
/-- Behind an append that told an error: what was there, or that and the record. -/
theorem append_failed {D : Disk} {L : List (List UInt8)} {a : Nat} {s : List UInt8} (ho : Opened D L a) (hb : Blank D a) (hn : L.length < 1000000000) (h : (append D ⟨L, a⟩ s).1 ≠ 0) :
    (append D ⟨L, a⟩ s).2.2 = ⟨L, a⟩ ∧ (Opened (append D ⟨L, a⟩ s).2.1 L a ∨ Opened (append D ⟨L, a⟩ s).2.1 (L ++ [s]) (a + 1 + count s.length)) := by
  unfold append at *
  split
  · exact ⟨rfl, .inl ho⟩
  · rename_i h1
    rw [if_neg h1] at h
    split
    · exact ⟨rfl, .inl ho⟩
    · rename_i h2
      rw [if_neg h2] at h
      simp only at *
      split
      · rename_i h3
        rw [if_pos h3] at h
        exact absurd rfl h
      · rename_i h3
        refine ⟨rfl, ?_⟩
        simp only
        have hl := wr_length D (plan D L.length a s)
        have hfar : ∀ i, i < a → sec D i = sec (wr D (plan D L.length a s)).2 i := fun i hi => (wr_far D _ i (fun x hx => by have := plan_keys hx; omega)).symm
        have hR : Recs (wr D (plan D L.length a s)).2 0 0 L a := ho.recs.same hl.symm (Nat.zero_le _) hfar
        rcases plan_cases (D := D) (n := L.length) (a := a) (s := s) hn (by omega) (by omega) (hb (by omega)) with ⟨_, hx⟩ | ⟨E, hE, hw⟩
        · exact .inl ⟨hR, Blank.stop (fun _ => hx)⟩
        · rw [hw] at h3 hR ⊢
          rw [wr] at h3 hR ⊢
          have h4 : (E.write a (head 49 L.length s)).1 ≠ 0 := by
            intro e
            rw [if_pos e] at h3
            exact h3 rfl
          rw [if_neg h4] at hR ⊢
          have hEl := hE.len
          have hnext : Blank (E.write a (head 49 L.length s)).2 (a + 1 + count s.length) := fun hlt => by
            rw [write_length] at hlt
            rw [write_far _ _ _ _ (by omega)]
            exact hE.next hlt
          obtain ⟨m, hm⟩ := write_sec_torn (by omega) (head_length 49 L.length s hn (by omega)) h4
          rw [hE.hd] at hm
          rcases mark_torn m L.length s hn (by omega) with ht | ht
          · refine .inr ⟨Recs.snoc hR ?_, hnext.stop⟩
            rw [Nat.zero_add]
            refine ⟨by omega, by rw [write_length, hEl]; omega, hm.trans ht, body_bytes fun x hx => ?_⟩
            have := body_keys hx
            rw [write_far _ _ _ _ (by omega)]
            exact hE.body x hx
          · exact .inl ⟨hR, Blank.stop (fun _ => by rw [hm, ht, pad_head_first]; decide)⟩
/-- Power is nothing that a record hangs on. -/
theorem Opened.sameS {D E : Disk} {L : List (List UInt8)} {a : Nat} (h : Opened D L a) (e : E.S = D.S) : Opened E L a := by
  have hs : ∀ i, sec D i = sec E i := fun i => by unfold sec; rw [e]
  exact ⟨h.recs.same (by rw [e]) (Nat.zero_le _) (fun i _ => hs i), fun s k => h.stop s (k.same (by rw [e]) (fun i _ _ => (hs i).symm))⟩
theorem Blank.sameS {D E : Disk} {a : Nat} (h : Blank D a) (e : E.S = D.S) : Blank E a := by
  unfold Blank sec at *
  rw [e]
  exact h
end Jn
end Go.Proofs.YtmkpkmkhnphogaaGreatDoor

/-
  Journals on disks: how a record is read back, as plain data. Nothing of the program stands here.
-/
namespace Go.Proofs.YtmkpkmkhnphogaaGreatDoor
open Dv
namespace Jn

/-- What reading a record tells. -/
def ReadIs (D : Disk) (a n : Nat) (x : List UInt8) (b : Bool) : Prop := (b = true ∧ IsRec D a n x) ∨ (b = false ∧ ∀ s, ¬ IsRec D a n s)

theorem strip_le (l : List UInt8) : (strip l).length ≤ l.length := by
  unfold strip
  rw [List.length_reverse]
  have := (List.dropWhile_suffix (· == (0 : UInt8)) (l := l.reverse)).length_le
  rw [List.length_reverse] at this
  exact this
theorem strip_split (l : List UInt8) : l = strip l ++ List.replicate (l.length - (strip l).length) 0 := by
  have h : ∀ r : List UInt8, r = List.replicate (r.length - (r.dropWhile (· == 0)).length) 0 ++ r.dropWhile (· == 0) := by
    intro r
    induction r with
    | nil => rfl
    | cons b r ih =>
      rw [List.dropWhile_cons]
      split
      · rename_i hb
        have hb0 : b = 0 := by simpa using hb
        subst hb0
        have hle := (List.dropWhile_suffix (· == (0 : UInt8)) (l := r)).length_le
        rw [List.length_cons, show r.length + 1 - (r.dropWhile (· == 0)).length = (r.length - (r.dropWhile (· == 0)).length) + 1 by omega, List.replicate_succ, List.cons_append, ← ih]
      · simp
  have := congrArg List.reverse (h l.reverse)
  rw [List.reverse_reverse, List.reverse_append, List.reverse_replicate, List.length_reverse] at this
  unfold strip
  rw [List.length_reverse]
  exact this
theorem strip_take (l : List UInt8) : strip l = l.take (strip l).length := by
  have h := congrArg (List.take (strip l).length) (strip_split l)
  rw [List.take_left] at h
  exact h.symm
theorem strip_zero (l : List UInt8) (i : Nat) (h : (strip l).length ≤ i) : l.getD i 0 = 0 := by
  have e : l.getD i 0 = (strip l ++ List.replicate (l.length - (strip l).length) 0).getD i 0 := congrArg (fun r : List UInt8 => r.getD i 0) (strip_split l)
  rw [e, List.getD_eq_getElem?_getD, List.getElem?_append_right h, List.getElem?_replicate]
  split <;> rfl
theorem strip_last (l : List UInt8) (h : 0 < (strip l).length) : l.getD ((strip l).length - 1) 0 ≠ 0 := by
  have e : l.getD ((strip l).length - 1) 0 = (strip l).getD ((strip l).length - 1) 0 := by
    have e2 : l.getD ((strip l).length - 1) 0 = (strip l ++ List.replicate (l.length - (strip l).length) 0).getD ((strip l).length - 1) 0 := congrArg (fun r : List UInt8 => r.getD ((strip l).length - 1) 0) (strip_split l)
    rw [e2, List.getD_eq_getElem?_getD, List.getElem?_append_left (by omega), List.getD_eq_getElem?_getD]
  rw [e]
  unfold strip at *
  rw [List.length_reverse] at h ⊢
  have h2 : (l.reverse.dropWhile (· == 0)) ≠ [] := by
    intro e2
    rw [e2] at h
    simp at h
  rw [List.getD_eq_getElem?_getD, List.getElem?_reverse (by omega), show (l.reverse.dropWhile (· == 0)).length - 1 - ((l.reverse.dropWhile (· == 0)).length - 1) = 0 by omega]
  have h3 := List.head_dropWhile_not (p := (· == (0 : UInt8))) (l := l.reverse) h2
  rw [← List.head?_eq_getElem?, List.head?_eq_some_head h2, Option.getD_some]
  intro h4
  rw [h4] at h3
  simp at h3
theorem strip_pos (l : List UInt8) (h : l.getD 0 0 ≠ 0) : 0 < (strip l).length := by
  rcases Nat.eq_zero_or_pos (strip l).length with h0 | h0
  · exact absurd (strip_zero l 0 (by omega)) h
  · exact h0

/-- What a record's first sector says of itself. -/
theorem IsRec.told {D : Disk} {a n : Nat} {s : List UInt8} (h : IsRec D a n s) (hn : n < 1000000000) : Net.dec ((strip (sec D a)).drop 1) = some [Net.dig n, Net.dig s.length, sum16 s] := by
  rw [h.hd, strip_head]
  have h1 := dig_le n 8 (by omega)
  have h2 := dig_le s.length 5 (by have := h.few; omega)
  have h3 := sum16_length s
  exact Net.dec_enc _ (fun x hx => by
    simp only [List.mem_cons, List.not_mem_nil, or_false] at hx
    rcases hx with rfl | rfl | rfl <;> omega)
theorem none_out {D : Disk} {a n : Nat} (h : D.S.length ≤ a) : ∀ s, ¬ IsRec D a n s := fun s k => by have := k.room; omega
theorem none_first {D : Disk} {a n : Nat} (h : (sec D a).head? ≠ some 49) : ∀ s, ¬ IsRec D a n s := fun s k => h k.first
theorem none_dec {D : Disk} {a n : Nat} (hn : n < 1000000000) (h : Net.dec ((strip (sec D a)).drop 1) = none) : ∀ s, ¬ IsRec D a n s := fun s k => by
  rw [k.told hn] at h; cases h
theorem none_three {D : Disk} {a n : Nat} (hn : n < 1000000000) {l : List (List UInt8)} (h : Net.dec ((strip (sec D a)).drop 1) = some l) (h3 : l.length ≠ 3) : ∀ s, ¬ IsRec D a n s := fun s k => by
  rw [k.told hn] at h
  injection h with h
  subst h
  exact h3 rfl
theorem IsRec.num {D : Disk} {a n : Nat} {s : List UInt8} (k : IsRec D a n s) (hn : n < 1000000000) {x y z : List UInt8} (h : Net.dec ((strip (sec D a)).drop 1) = some [x, y, z]) : Net.num y = some s.length := by
  rw [k.told hn] at h
  injection h with h
  injection h with _ h
  injection h with h _
  subst h
  exact Net.num_dig _ (by have := k.few; omega)
theorem none_num {D : Disk} {a n : Nat} (hn : n < 1000000000) {x y z : List UInt8} (h : Net.dec ((strip (sec D a)).drop 1) = some [x, y, z]) (hy : Net.num y = none) : ∀ s, ¬ IsRec D a n s := fun s k => by
  rw [k.num hn h] at hy; cases hy
theorem none_size {D : Disk} {a n m : Nat} (hn : n < 1000000000) {x y z : List UInt8} (h : Net.dec ((strip (sec D a)).drop 1) = some [x, y, z]) (hy : Net.num y = some m) (hm : 100000 < m ∨ D.S.length < a + 1 + count m) : ∀ s, ¬ IsRec D a n s := fun s k => by
  rw [k.num hn h] at hy
  injection hy with hy
  subst hy
  have h1 := k.few
  have h2 := k.room
  omega
theorem bytes_length {D : Disk} (ho : D.Ok) (a k : Nat) (h : a + k ≤ D.S.length) : (bytes D a k).length = 64 * k := by
  unfold bytes
  induction k with
  | zero => rfl
  | succ k ih =>
    rw [List.range_succ, List.flatMap_append, List.length_append, ih (by omega)]
    have : (sec D (a + k)).length = 64 := by
      unfold sec
      rw [List.getD_eq_getElem?_getD, List.getElem?_eq_getElem (by omega)]
      exact ho.each _ (List.getElem_mem _)
    simp [this]
    omega
theorem bytes_succ (D : Disk) (a k : Nat) : bytes D a (k + 1) = bytes D a k ++ sec D (a + k) := by
  unfold bytes
  rw [List.range_succ, List.flatMap_append]
  simp
theorem read_yes {D : Disk} {a n m : Nat} (ho : D.Ok) (hm : m ≤ 100000) (hr : a + 1 + count m ≤ D.S.length) (h : pad (head 49 n ((bytes D (a + 1) (count m)).take m)) = sec D a) : IsRec D a n ((bytes D (a + 1) (count m)).take m) := by
  have hl : ((bytes D (a + 1) (count m)).take m).length = m := by
    rw [List.length_take, bytes_length ho _ _ (by omega)]
    unfold count
    omega
  exact ⟨by rw [hl]; exact hm, by rw [hl]; exact hr, h.symm, by rw [hl]⟩
theorem read_no {D : Disk} {a n m : Nat} (hn : n < 1000000000) {x y z : List UInt8} (h : Net.dec ((strip (sec D a)).drop 1) = some [x, y, z]) (hy : Net.num y = some m) (hne : pad (head 49 n ((bytes D (a + 1) (count m)).take m)) ≠ sec D a) : ∀ s, ¬ IsRec D a n s := fun s k => by
  rw [k.num hn h] at hy
  injection hy with hy
  subst hy
  rw [k.body] at hne
  exact hne k.hd.symm
end Jn
namespace Jr
theorem read_has {D : Disk} {a : Nat} (h : a < D.S.length) : D.read (a : Int) = (Jn.sec D a, 0) := by
  unfold Disk.read
  rw [if_pos ⟨by omega, by omega⟩]
  rfl
theorem read_out {D : Disk} {a : Nat} (h : ¬ a < D.S.length) : D.read (a : Int) = ([], 1) := by
  unfold Disk.read
  rw [if_neg (fun e => h (by have := e.2; omega))]
theorem sec_length {D : Disk} (ho : D.Ok) {a : Nat} (h : a < D.S.length) : (Jn.sec D a).length = 64 := ho.at (k := a) ⟨by omega, by omega⟩
end Jr
end Go.Proofs.YtmkpkmkhnphogaaGreatDoor
