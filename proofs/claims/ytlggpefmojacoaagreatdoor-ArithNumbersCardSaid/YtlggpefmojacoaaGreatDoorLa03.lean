/-
  Parts of the proof, merged.
-/
namespace Go.Proofs.YtlggpefmojacoaaGreatDoor
section
namespace Ar
abbrev Tok := List UInt8
def isBlank (c : UInt8) : Bool := c == 32 || c == 9 || c == 10
def alpha (c : UInt8) : Bool := c == 95 || (decide (65 ≤ c) && decide (c ≤ 90)) || (decide (97 ≤ c) && decide (c ≤ 122))
def dig (c : UInt8) : Bool := decide (48 ≤ c) && decide (c ≤ 57)
def wordB (c : UInt8) : Bool := alpha c || dig c
def trim (s : List UInt8) : List UInt8 := s.dropWhile isBlank
def runL (s : List UInt8) : Nat := (s.takeWhile wordB).length
def assigns (t : Tok) : Bool := [[61], [43, 61], [45, 61], [42, 61], [47, 61], [37, 61]].contains t
def longs (t : Tok) : Bool := [[60, 60], [62, 62], [60, 61], [62, 61], [61, 61], [33, 61], [38, 38], [124, 124]].contains t
def isLong (t : Tok) : Bool := longs t || (t != [61] && assigns t)
def isPre (t : Tok) : Bool := [[45], [43], [126], [33]].contains t
def isNm (t : Tok) : Bool := match t with | [] => false | c :: _ => alpha c
def tokL (s : List UInt8) : Nat := if 0 < runL s then runL s else if 2 ≤ s.length ∧ isLong (s.take 2) = true then 2 else min s.length 1
def cutT (s : List UInt8) : Tok := (trim s).take (tokL (trim s))
def cutR (s : List UInt8) : List UInt8 := (trim s).drop (tokL (trim s))
def toksF : Nat → List UInt8 → List Tok
 | 0, _ => []
 | n + 1, s => if cutT s = [] then [] else cutT s :: toksF n (cutR s)
def toks (s : List UInt8) : List Tok := toksF (s.length + 1) s
def levelOf (t : Tok) : Nat :=
 if t = [124, 124] then 1 else if t = [38, 38] then 2 else if t = [124] then 3 else if t = [94] then 4 else if t = [38] then 5
 else if t = [61, 61] ∨ t = [33, 61] then 6 else if t = [60] ∨ t = [60, 61] ∨ t = [62] ∨ t = [62, 61] then 7
 else if t = [60, 60] ∨ t = [62, 62] then 8 else if t = [43] ∨ t = [45] then 9 else if t = [42] ∨ t = [47] ∨ t = [37] then 10 else 0
def digV (c : UInt8) : Nat := if 48 ≤ c ∧ c ≤ 57 then c.toNat - 48 else if 97 ≤ c ∧ c ≤ 102 then c.toNat - 87 else if 65 ≤ c ∧ c ≤ 70 then c.toNat - 55 else 99
def numF (b : Nat) : List UInt8 → Nat → Option Nat
 | [], n => some n
 | c :: r, n => if digV c < b ∧ n * b + digV c ≤ 9223372036854775807 then numF b r (n * b + digV c) else none
def num (b : Nat) (s : List UInt8) : Option Nat := if s = [] then none else numF b s 0
def litV (s : List UInt8) : Option Nat :=
 match s with
 | 48 :: c :: r => if c = 120 ∨ c = 88 then num 16 r else num 8 (c :: r)
 | s => num 10 s
def valV (s : List UInt8) : Option Int :=
 match s with
 | [] => some 0
 | 45 :: r => (litV r).map fun n => -(n : Int)
 | s => (litV s).map fun n => (n : Int)
inductive Ex
 | lit (n : Nat)
 | var (x : Tok)
 | asg (x op : Tok) (e : Ex)
 | pre (op : Tok) (e : Ex)
 | bin (op : Tok) (a b : Ex)
 | cho (c a b : Ex)
abbrev R := Except Int (Ex × List Tok)
abbrev P := List Tok → R
def lp (f : P) (k : Nat) : Nat → Ex → P
 | 0, e, ts => .ok (e, ts)
 | _ + 1, e, [] => .ok (e, [])
 | m + 1, e, t :: r => if levelOf t = k then (match f r with | .error c => .error c | .ok (b, r') => lp f k m (.bin t e b) r') else .ok (e, t :: r)
def lev (f : P) : Nat → P
 | 0, ts => f ts
 | j + 1, ts => match lev f j ts with | .error c => .error c | .ok (e, r) => lp (lev f j) (10 - j) r.length e r
def operF (ex op : P) : P
 | [] => .error 130
 | t :: r =>
   if isPre t = true then (match op r with | .error c => .error c | .ok (e, r') => .ok (.pre t e, r'))
   else if t = [40] then (match ex r with | .error c => .error c | .ok (e, [41] :: r') => .ok (e, r') | .ok _ => .error 130)
   else if isNm t = true then .ok (.var t, r)
   else match litV t with | some n => .ok (.lit n, r) | none => .error 130
def condF (op ex cd : P) : P := fun ts =>
 match lev op 10 ts with
 | .error c => .error c
 | .ok (c, [63] :: r) => (match ex r with
   | .error e => .error e
   | .ok (a, [58] :: r') => (match cd r' with | .error e => .error e | .ok (b, r2) => .ok (.cho c a b, r2))
   | .ok _ => .error 130)
 | .ok (c, r) => .ok (c, r)
def exprF (cd ex : P) : P
 | x :: o :: r => if isNm x = true ∧ assigns o = true then (match ex r with | .error c => .error c | .ok (e, r') => .ok (.asg x o e, r')) else cd (x :: o :: r)
 | ts => cd ts
structure Ps where
 ex : P
 cd : P
 op : P
def ps : Nat → Ps
 | 0 => ⟨fun _ => .error 2, fun _ => .error 2, fun _ => .error 2⟩
 | n + 1 => ⟨exprF (condF (operF (ps n).ex (ps n).op) (ps n).ex (ps n).cd) (ps n).ex, condF (operF (ps n).ex (ps n).op) (ps n).ex (ps n).cd, operF (ps n).ex (ps n).op⟩
def whole (ts : List Tok) : Except Int Ex := match (ps 30).ex ts with | .error c => .error c | .ok (e, []) => .ok e | .ok _ => .error 130
theorem trim_le (s : List UInt8) : (trim s).length ≤ s.length := (List.dropWhile_sublist _).length_le
theorem tokL_pos {s : List UInt8} (h : s ≠ []) : 0 < tokL s := by
 have : 0 < s.length := List.length_pos_iff.2 h
 unfold tokL
 split
 · assumption
 · split <;> omega
theorem tokL_le (s : List UInt8) : tokL s ≤ s.length := by
 unfold tokL
 split
 · exact (List.takeWhile_sublist _).length_le
 · split
   · rename_i h; exact h.1
   · exact Nat.min_le_left _ _
theorem cutT_nil {s : List UInt8} : cutT s = [] ↔ trim s = [] := by
 unfold cutT
 constructor
 · intro h
   by_cases ht : trim s = []
   · exact ht
   · have h1 := tokL_pos ht
     have h2 := congrArg List.length h
     have h3 : 0 < (trim s).length := List.length_pos_iff.2 ht
     rw [List.length_take, List.length_nil] at h2
     omega
 · intro h; rw [h]; rfl
theorem cutR_lt {s : List UInt8} (h : cutT s ≠ []) : (cutR s).length < s.length := by
 have h1 : trim s ≠ [] := fun e => h (cutT_nil.2 e)
 have h2 := tokL_pos h1
 have h3 := trim_le s
 have h4 : 0 < (trim s).length := List.length_pos_iff.2 h1
 unfold cutR
 rw [List.length_drop]
 omega
theorem cutR_le (s : List UInt8) : (cutR s).length ≤ s.length := by
 have h3 := trim_le s
 unfold cutR
 rw [List.length_drop]
 omega
theorem toksF_more : ∀ (n : Nat) (s : List UInt8) (m : Nat), s.length < n → n ≤ m → toksF m s = toksF n s
 | 0, _, _, h, _ => absurd h (Nat.not_lt_zero _)
 | n + 1, s, 0, _, h => absurd h (Nat.not_succ_le_zero _)
 | n + 1, s, m + 1, h, hm => by
   rw [toksF, toksF]
   split
   · rfl
   · rename_i hc
     rw [toksF_more n (cutR s) m (by have := cutR_lt hc; omega) (by omega)]
theorem toks_nil {s : List UInt8} (h : cutT s = []) : toks s = [] := by rw [toks, toksF, if_pos h]
theorem toks_cons {s : List UInt8} (h : cutT s ≠ []) : toks s = cutT s :: toks (cutR s) := by
 rw [toks, toksF, if_neg h, toks]
 exact congrArg _ (toksF_more _ _ _ (Nat.lt_succ_self _) (by have := cutR_lt h; omega))
theorem toks_trim (s : List UInt8) : toks (trim s) = toks s := by
 have h1 : trim (trim s) = trim s := by
   unfold trim
   induction s with
   | nil => rfl
   | cons c r ih =>
     by_cases hc : isBlank c = true
     · rw [List.dropWhile_cons, if_pos hc]; exact ih
     · rw [List.dropWhile_cons, if_neg hc, List.dropWhile_cons, if_neg hc]
 have h2 : cutT (trim s) = cutT s := by unfold cutT; rw [h1]
 have h3 : cutR (trim s) = cutR s := by unfold cutR; rw [h1]
 by_cases hc : cutT s = []
 · rw [toks_nil hc, toks_nil (h2.trans hc)]
 · rw [toks_cons hc, toks_cons (by rw [h2]; exact hc), h2, h3]
theorem toks_blank {c : UInt8} (h : isBlank c = true) (s : List UInt8) : toks (c :: s) = toks s := by
 rw [← toks_trim (c :: s), ← toks_trim s]
 unfold trim
 rw [List.dropWhile_cons, if_pos h]
theorem lp_suf {f : P} (hf : ∀ ts e r, f ts = .ok (e, r) → r <:+ ts) (k : Nat) : ∀ (m : Nat) (e : Ex) (ts : List Tok) (e' : Ex) (r : List Tok), lp f k m e ts = .ok (e', r) → r <:+ ts
 | 0, e, ts, e', r, h => by cases h; exact List.suffix_refl _
 | m + 1, e, [], e', r, h => by cases h; exact List.suffix_refl _
 | m + 1, e, t :: r0, e', r, h => by
   rw [lp] at h
   split at h
   · cases hb : f r0 with
     | error c => rw [hb] at h; cases h
     | ok z =>
       obtain ⟨b, r1⟩ := z
       rw [hb] at h
       exact ((lp_suf hf k m _ _ _ _ h).trans (hf _ _ _ hb)).trans (List.suffix_cons _ _)
   · cases h; exact List.suffix_refl _
theorem lev_suf {f : P} (hf : ∀ ts e r, f ts = .ok (e, r) → r <:+ ts) : ∀ (j : Nat) (ts : List Tok) (e : Ex) (r : List Tok), lev f j ts = .ok (e, r) → r <:+ ts
 | 0, ts, e, r, h => hf _ _ _ h
 | j + 1, ts, e, r, h => by
   rw [lev] at h
   cases hb : lev f j ts with
   | error c => rw [hb] at h; cases h
   | ok z =>
     obtain ⟨b, r1⟩ := z
     rw [hb] at h
     exact (lp_suf (lev_suf hf j) _ _ _ _ _ _ h).trans (lev_suf hf j _ _ _ hb)
theorem oper_suf {ex op : P} (h1 : ∀ ts e r, ex ts = .ok (e, r) → r <:+ ts) (h2 : ∀ ts e r, op ts = .ok (e, r) → r <:+ ts) : ∀ (ts : List Tok) (e : Ex) (r : List Tok), operF ex op ts = .ok (e, r) → r <:+ ts
 | [], e, r, h => by cases h
 | t :: r0, e, r, h => by
   rw [operF] at h
   split at h
   · cases hb : op r0 with
     | error c => rw [hb] at h; cases h
     | ok z => rw [hb] at h; cases h; exact (h2 _ _ _ hb).trans (List.suffix_cons _ _)
   · split at h
     · split at h
       · cases h
       · rename_i hb; cases h; exact ((List.suffix_cons _ _).trans (h1 _ _ _ hb)).trans (List.suffix_cons _ _)
       · cases h
     · split at h
       · cases h; exact List.suffix_cons _ _
       · split at h
         · cases h; exact List.suffix_cons _ _
         · cases h
theorem cond_suf {op ex cd : P} (h0 : ∀ ts e r, op ts = .ok (e, r) → r <:+ ts) (h1 : ∀ ts e r, ex ts = .ok (e, r) → r <:+ ts) (h2 : ∀ ts e r, cd ts = .ok (e, r) → r <:+ ts) (ts : List Tok) (e : Ex) (r : List Tok) (h : condF op ex cd ts = .ok (e, r)) : r <:+ ts := by
 unfold condF at h
 split at h
 · cases h
 · rename_i c r1 hl
   split at h
   · cases h
   · rename_i a r2 hx
     split at h
     · cases h
     · rename_i b r3 hc
       cases h
       exact ((((h2 _ _ _ hc).trans (List.suffix_cons _ _)).trans (h1 _ _ _ hx)).trans (List.suffix_cons _ _)).trans (lev_suf h0 _ _ _ _ hl)
   · cases h
 · rename_i hl
   cases h
   exact lev_suf h0 _ _ _ _ hl
theorem expr_suf {cd ex : P} (h1 : ∀ ts e r, cd ts = .ok (e, r) → r <:+ ts) (h2 : ∀ ts e r, ex ts = .ok (e, r) → r <:+ ts) (ts : List Tok) (e : Ex) (r : List Tok) (h : exprF cd ex ts = .ok (e, r)) : r <:+ ts := by
 unfold exprF at h
 split at h
 · split at h
   · split at h
     · cases h
     · rename_i hb; cases h; exact ((h2 _ _ _ hb).trans (List.suffix_cons _ _)).trans (List.suffix_cons _ _)
   · exact h1 _ _ _ h
 · exact h1 _ _ _ h
structure Suf (p : Ps) : Prop where
 ex : ∀ ts e r, p.ex ts = .ok (e, r) → r <:+ ts
 cd : ∀ ts e r, p.cd ts = .ok (e, r) → r <:+ ts
 op : ∀ ts e r, p.op ts = .ok (e, r) → r <:+ ts
theorem ps_suf : ∀ n, Suf (ps n)
 | 0 => ⟨fun _ _ _ h => (nomatch h), fun _ _ _ h => (nomatch h), fun _ _ _ h => (nomatch h)⟩
 | n + 1 =>
   have I := ps_suf n
   have o := oper_suf I.ex I.op
   have c := cond_suf o I.ex I.cd
   ⟨expr_suf c I.ex, c, o⟩
def stops (k : Nat) : List Tok → Prop
 | [] => True
 | t :: _ => levelOf t < k ∨ levelOf t = 0
theorem lp_stop {f : P} (k : Nat) (m : Nat) (e : Ex) (ts : List Tok) (h : ∀ t r, ts = t :: r → levelOf t ≠ k) : lp f k m e ts = .ok (e, ts) := by
 cases m with
 | zero => rfl
 | succ m =>
   cases ts with
   | nil => rfl
   | cons t r => rw [lp, if_neg (h t r rfl)]
end Ar
end
end Go.Proofs.YtlggpefmojacoaaGreatDoor
