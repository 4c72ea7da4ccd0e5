/-
  PROVED: blanks and parentheses round an expression change nothing; an expression of blanks alone is refused (the law ArithBlanks answers true, and leaves its arguments as they were).
  Conditions: the tables that it reads lie at the start as the program's text lays them (the card ties this).
-/
import Derived.BigCall
import Derived.Carry
import Derived.ChangeMaps5
import Derived.ChangeOld
import Derived.ChangeSame
import Derived.ChangeShapes
import Derived.Deep.DeepCutAuto
import Derived.Deep.DeepHandedRow
import Derived.Deep.Slices
import Derived.LaidLaws
import Derived.Laws.Concat
import Derived.Laws.DeepStrings4
import Derived.Laws.Strings
import Derived.Lib.LaidTab
import Derived.LoopTactic
import Derived.OpenShut
import Derived.ProofKit
import Derived.SizedLaws
import Derived.SliceStrings
import Derived.Stop.LaidErr
import Derived.Test.YtlggpefmojacoaaGreatDoorCards
import Derived.Test.YtlggpefmojacoaaGreatDoorLa54
import Derived.Test.YtlggpefmojacoaaGreatDoorTie
import Derived.WalkKit
section
section
namespace Go.Proofs.YtlggpefmojacoaaGreatDoor
namespace Ar

/-! ### A blank ends a token -/
theorem wordB_blank {c : UInt8} (h : isBlank c = true) : wordB c = false := by
  simp only [isBlank, Bool.or_eq_true, beq_iff_eq] at h
  rcases h with (rfl | rfl) | rfl <;> decide
theorem long_blank {x c : UInt8} (h : isBlank c = true) : isLong [x, c] = false := by
  simp only [isBlank, Bool.or_eq_true, beq_iff_eq] at h
  rcases h with (rfl | rfl) | rfl <;> simp [isLong, longs, assigns]
theorem takeWhile_stop {p : UInt8 → Bool} {c : UInt8} (h : p c = false) (t : List UInt8) : ∀ s : List UInt8, (s ++ c :: t).takeWhile p = s.takeWhile p
  | [] => by rw [List.nil_append, List.takeWhile_cons, h]; rfl
  | x :: s => by
    rw [List.cons_append, List.takeWhile_cons, List.takeWhile_cons, takeWhile_stop h t s]
theorem tokL_stop {c : UInt8} (h : isBlank c = true) (t : List UInt8) {s : List UInt8} (hs : s ≠ []) : tokL (s ++ c :: t) = tokL s := by
  have hr : runL (s ++ c :: t) = runL s := by unfold runL; rw [takeWhile_stop (wordB_blank h)]
  unfold tokL
  rw [hr]
  by_cases h0 : 0 < runL s
  · rw [if_pos h0, if_pos h0]
  · rw [if_neg h0, if_neg h0]
    match s, hs with
    | [x], _ =>
      rw [if_neg (show ¬ (2 ≤ ([x] ++ c :: t).length ∧ isLong (([x] ++ c :: t).take 2) = true) from fun e => by
        have h2 := e.2
        rw [show ([x] ++ c :: t).take 2 = [x, c] from rfl, long_blank h] at h2
        cases h2), if_neg (show ¬ (2 ≤ [x].length ∧ isLong ([x].take 2) = true) from fun e => absurd e.1 (by simp))]
      simp
    | x :: y :: s', _ =>
      rw [show (x :: y :: s' ++ c :: t).take 2 = [x, y] from rfl, show (x :: y :: s').take 2 = [x, y] from rfl]
      have e1 : 2 ≤ (x :: y :: s' ++ c :: t).length := by simp
      have e2 : 2 ≤ (x :: y :: s').length := by simp
      by_cases hl : isLong [x, y] = true
      · rw [if_pos ⟨e1, hl⟩, if_pos ⟨e2, hl⟩]
      · rw [if_neg (fun e => hl e.2), if_neg (fun e => hl e.2)]
        simp
theorem trim_stop {c : UInt8} (h : isBlank c = true) (t : List UInt8) : ∀ s : List UInt8, trim (s ++ c :: t) = if trim s = [] then trim t else trim s ++ c :: t
  | [] => by
    rw [if_pos (show trim [] = [] from rfl)]
    unfold trim
    rw [List.nil_append, List.dropWhile_cons, if_pos h]
  | x :: s => by
    by_cases hx : isBlank x = true
    · have e1 : trim (x :: s) = trim s := by unfold trim; rw [List.dropWhile_cons, if_pos hx]
      have e2 : trim (x :: s ++ c :: t) = trim (s ++ c :: t) := by unfold trim; rw [List.cons_append, List.dropWhile_cons, if_pos hx]
      rw [e1, e2, trim_stop h t s]
    · have e1 : trim (x :: s) = x :: s := by unfold trim; rw [List.dropWhile_cons, if_neg hx]
      have e2 : trim (x :: s ++ c :: t) = x :: s ++ c :: t := by unfold trim; rw [List.cons_append, List.dropWhile_cons, if_neg hx]
      rw [e1, e2, if_neg (by simp)]
theorem toks_stop {c : UInt8} (h : isBlank c = true) (t : List UInt8) : ∀ (n : Nat) (s : List UInt8), s.length ≤ n → toks (s ++ c :: t) = toks s ++ toks t
  | n, s, hn => by
    have h1 := trim_stop h t s
    by_cases ht : trim s = []
    · rw [if_pos ht] at h1
      rw [toks_nil (cutT_nil.2 ht), List.nil_append, ← toks_trim (s ++ c :: t), h1, toks_trim]
    · rw [if_neg ht] at h1
      have h2 := tokL_stop h t ht
      have h3 := tokL_le (trim s)
      have e1 : cutT (s ++ c :: t) = cutT s := by unfold cutT; rw [h1, h2, List.take_append_of_le_length h3]
      have e2 : cutR (s ++ c :: t) = cutR s ++ c :: t := by unfold cutR; rw [h1, h2, List.drop_append_of_le_length h3]
      have hc : cutT s ≠ [] := fun e => ht (cutT_nil.1 e)
      have hlt := cutR_lt hc
      match n with
      | 0 => exact absurd hn (by omega)
      | n + 1 =>
        rw [toks_cons (s := s ++ c :: t) (by rw [e1]; exact hc), toks_cons hc, e1, e2, toks_stop h t n (cutR s) (by omega)]
        rfl
theorem toks_around (s : List UInt8) : toks ([32, 10, 40, 32] ++ s ++ [32, 41, 9]) = [40] :: toks s ++ [[41]] := by
  have h1 : toks (s ++ [32, 41, 9]) = toks s ++ [[41]] := toks_stop (c := 32) (by decide) [41, 9] _ s (Nat.le_refl _)
  rw [List.append_assoc]
  show toks (32 :: 10 :: (([40] : List UInt8) ++ 32 :: (s ++ [32, 41, 9]))) = _
  rw [toks_blank (by decide), toks_blank (by decide), toks_stop (c := 32) (by decide) _ _ _ (Nat.le_refl _), h1]
  rfl

/-! ### What a closing bracket behind it changes -/
theorem lp_cl {f : P} (hf : Cl f) (hs : ∀ ts e r, f ts = .ok (e, r) → r <:+ ts) {k : Nat} (hk : 1 ≤ k) : ∀ (m : Nat) (e : Ex) (ts : List Tok) (e' : Ex) (r : List Tok), ts.length ≤ m → lp f k m e ts = .ok (e', r) → lp f k (m + 1) e (ts ++ [cl]) = .ok (e', r ++ [cl])
  | 0, e, ts, e', r, hl, h => by
    obtain rfl : ts = [] := List.eq_nil_of_length_eq_zero (by omega)
    cases h
    exact lp_stop _ _ _ _ fun t r he => by cases he; show (0 : Nat) ≠ k; omega
  | m + 1, e, [], e', r, hl, h => by
    cases h
    exact lp_stop _ _ _ _ fun t r he => by cases he; show (0 : Nat) ≠ k; omega
  | m + 1, e, t :: r0, e', r, hl, h => by
    rw [lp] at h
    rw [List.cons_append, lp]
    split at h
    · rename_i hk2
      rw [if_pos hk2]
      cases hb : f r0 with
      | error c => rw [hb] at h; cases h
      | ok z =>
        obtain ⟨b, r1⟩ := z
        rw [hb] at h
        rw [hf _ _ _ hb]
        exact lp_cl hf hs hk m _ _ _ _ (by have := (hs _ _ _ hb).length_le; simp only [List.length_cons] at hl; omega) h
    · rename_i hk2
      cases h
      rw [if_neg hk2]
      rfl
theorem lev_cl {f : P} (hf : Cl f) (hs : ∀ ts e r, f ts = .ok (e, r) → r <:+ ts) : ∀ (j : Nat), j ≤ 10 → Cl (lev f j)
  | 0, _ => hf
  | j + 1, hj => fun ts e r h => by
    rw [lev] at h ⊢
    cases hb : lev f j ts with
    | error c => rw [hb] at h; cases h
    | ok z =>
      obtain ⟨b, r1⟩ := z
      rw [hb] at h
      rw [lev_cl hf hs j (by omega) _ _ _ hb]
      dsimp only at h ⊢
      rw [List.length_append]
      exact lp_cl (lev_cl hf hs j (by omega)) (lev_suf hs j) (by omega) _ _ _ _ _ (Nat.le_refl _) h
theorem oper_cl {ex op : P} (h1 : Cl ex) (h2 : Cl op) : Cl (operF ex op)
  | [], e, r, h => by cases h
  | t :: r0, e, r, h => by
    rw [operF] at h
    rw [List.cons_append, operF]
    split at h
    · rename_i hp
      rw [if_pos hp]
      cases hb : op r0 with
      | error c => rw [hb] at h; cases h
      | ok z => rw [hb] at h; cases h; rw [h2 _ _ _ hb]
    · rename_i hp
      rw [if_neg hp]
      split at h
      · rename_i hp
        rw [if_pos hp]
        split at h
        · cases h
        · rename_i hb; cases h; rw [h1 _ _ _ hb]; rfl
        · cases h
      · rename_i hp
        rw [if_neg hp]
        split at h
        · rename_i hp; rw [if_pos hp]; cases h; rfl
        · rename_i hp
          rw [if_neg hp]
          split at h
          · cases h; rfl
          · cases h
theorem cond_cl {op ex cd : P} (h0 : Cl op) (hs : ∀ ts e r, op ts = .ok (e, r) → r <:+ ts) (h1 : Cl ex) (h2 : Cl cd) : Cl (condF op ex cd) := fun ts e r h => by
  have hl := lev_cl h0 hs 10 (by omega)
  unfold condF at h ⊢
  split at h
  · cases h
  · rename_i c r1 hb
    rw [hl _ _ _ hb]
    split at h
    · cases h
    · rename_i a r2 hx
      split at h
      · cases h
      · rename_i b r3 hc
        cases h
        have e1 := h1 _ _ _ hx
        have e2 := h2 _ _ _ hc
        simp only [List.cons_append, e1, e2]
    · cases h
  · rename_i c r1 hn hb
    cases h
    rw [hl _ _ _ hb]
    cases r with
    | nil => rfl
    | cons t r =>
      have hne : t ≠ [63] := fun h63 => hn r (by rw [h63])
      simp only [List.cons_append]
      split
      · rename_i h; cases h
      · rename_i h; cases h; exact absurd rfl hne
      · rename_i h; cases h; rfl
theorem expr_cl {cd ex : P} (h1 : Cl cd) (h2 : Cl ex) : Cl (exprF cd ex) := fun ts e r h => by
  match ts, h with
  | [], h =>
    exact h1 [] e r h
  | [x], h =>
    have h' : cd [x] = .ok (e, r) := h
    show exprF cd ex [x, cl] = _
    unfold exprF
    dsimp only
    rw [if_neg (fun e => absurd e.2 (by decide))]
    exact h1 _ _ _ h'
  | x :: o :: r0, h =>
    have h : (if isNm x = true ∧ assigns o = true then (match ex r0 with | .error c => (Except.error c : R) | .ok (e, r') => .ok (.asg x o e, r')) else cd (x :: o :: r0)) = .ok (e, r) := h
    show (if isNm x = true ∧ assigns o = true then (match ex (r0 ++ [cl]) with | .error c => (Except.error c : R) | .ok (e, r') => .ok (.asg x o e, r')) else cd (x :: o :: (r0 ++ [cl]))) = _
    by_cases hp : isNm x = true ∧ assigns o = true
    · rw [if_pos hp] at h ⊢
      cases hb : ex r0 with
      | error c => rw [hb] at h; cases h
      | ok z => rw [hb] at h; cases h; rw [h2 _ _ _ hb]
    · rw [if_neg hp] at h ⊢
      exact h1 _ _ _ h
theorem ps_cl : ∀ n, ClP (ps n)
  | 0 => ⟨fun _ _ _ h => (nomatch h), fun _ _ _ h => (nomatch h), fun _ _ _ h => (nomatch h)⟩
  | n + 1 =>
    have I := ps_cl n
    have o := oper_cl I.ex I.op
    have c := cond_cl o (oper_suf (ps_suf n).ex (ps_suf n).op) I.ex I.cd
    ⟨expr_cl c I.ex, c, o⟩

/-! ### How deep an expression can be: bytes that are no letters or digits -/
def cost (ts : List Tok) : Nat := (ts.map nb).sum
theorem nb_app (a b : List UInt8) : nb (a ++ b) = nb a + nb b := by simp [nb]
theorem cost_cons (t : Tok) (r : List Tok) : cost (t :: r) = nb t + cost r := by simp [cost]
theorem cost_suf {r ts : List Tok} (h : r <:+ ts) : cost r ≤ cost ts := by
  obtain ⟨a, rfl⟩ := h
  simp [cost]
theorem nb_pre {t : Tok} (h : isPre t = true) : 1 ≤ nb t := by
  simp only [isPre, List.contains_cons, Bool.or_eq_true, beq_iff_eq, List.contains_nil, Bool.or_false] at h
  rcases h with rfl | rfl | rfl | rfl <;> decide
theorem nb_asg {t : Tok} (h : assigns t = true) : 1 ≤ nb t := by
  simp only [assigns, List.contains_cons, Bool.or_eq_true, beq_iff_eq, List.contains_nil, Bool.or_false] at h
  rcases h with rfl | rfl | rfl | rfl | rfl | rfl <;> decide
def Eqc (c : Nat) (f g : P) : Prop := ∀ ts, cost ts < c → f ts = g ts
theorem lp_eq {c : Nat} {f g : P} (h : Eqc c f g) (hs : ∀ ts e r, f ts = .ok (e, r) → r <:+ ts) (k : Nat) : ∀ (m : Nat) (e : Ex) (ts : List Tok), cost ts < c → lp f k m e ts = lp g k m e ts
  | 0, _, _, _ => rfl
  | m + 1, e, [], _ => rfl
  | m + 1, e, t :: r, hc => by
    rw [cost_cons] at hc
    rw [lp, lp, ← h r (by omega)]
    split
    · split
      · rfl
      · rename_i hb
        exact lp_eq h hs k m _ _ (by have := cost_suf (hs _ _ _ hb); omega)
    · rfl
theorem lev_eq {c : Nat} {f g : P} (h : Eqc c f g) (hs : ∀ ts e r, f ts = .ok (e, r) → r <:+ ts) : ∀ (j : Nat), Eqc c (lev f j) (lev g j)
  | 0 => h
  | j + 1 => fun ts hc => by
    rw [lev, lev, ← lev_eq h hs j ts hc]
    split
    · rfl
    · rename_i hb
      exact lp_eq (lev_eq h hs j) (lev_suf hs j) _ _ _ _ (by have := cost_suf (lev_suf hs j _ _ _ hb); omega)
theorem oper_eq {c : Nat} {ex op ex' op' : P} (h1 : Eqc c ex ex') (h2 : Eqc c op op') : Eqc (c + 1) (operF ex op) (operF ex' op')
  | [], _ => rfl
  | t :: r, hc => by
    rw [cost_cons] at hc
    rw [operF, operF]
    by_cases hp : isPre t = true
    · rw [if_pos hp, if_pos hp, h2 r (by have := nb_pre hp; omega)]
    · rw [if_neg hp, if_neg hp]
      by_cases ht : t = [40]
      · have hq : nb t = 1 := by rw [ht]; decide
        rw [if_pos ht, if_pos ht, h1 r (by omega)]
      · rw [if_neg ht, if_neg ht]
theorem cond_eq {c : Nat} {op ex cd op' ex' cd' : P} (h0 : Eqc (c + 1) op op') (h1 : Eqc c ex ex') (h2 : Eqc c cd cd') (hs : ∀ ts e r, op ts = .ok (e, r) → r <:+ ts) (hx : ∀ ts e r, ex ts = .ok (e, r) → r <:+ ts) : Eqc (c + 1) (condF op ex cd) (condF op' ex' cd') := fun ts hc => by
  unfold condF
  rw [← lev_eq h0 hs 10 ts hc]
  split
  · rfl
  · rename_i c1 r1 hb
    have hc1 := cost_suf (lev_suf hs 10 _ _ _ hb)
    rw [cost_cons] at hc1
    have hq : nb [63] = 1 := by decide
    rw [← h1 r1 (by omega)]
    split
    · rfl
    · rename_i a r2 hxr
      have hc2 := cost_suf (hx _ _ _ hxr)
      rw [cost_cons] at hc2
      rw [← h2 r2 (by omega)]
    · rfl
  · rfl
theorem expr_eq {c : Nat} {cd ex cd' ex' : P} (h1 : Eqc (c + 1) cd cd') (h2 : Eqc c ex ex') : Eqc (c + 1) (exprF cd ex) (exprF cd' ex') := fun ts hc => by
  unfold exprF
  split
  · rename_i x o r
    by_cases hp : isNm x = true ∧ assigns o = true
    · rw [if_pos hp, if_pos hp, ← h2 r (by rw [cost_cons, cost_cons] at hc; have := nb_asg hp.2; omega)]
    · rw [if_neg hp, if_neg hp]
      exact h1 _ hc
  · exact h1 _ hc
theorem ps_eq : ∀ (m n : Nat), m ≤ n → Eqc m (ps m).ex (ps n).ex ∧ Eqc m (ps m).cd (ps n).cd ∧ Eqc m (ps m).op (ps n).op
  | 0, _, _ => ⟨fun _ h => absurd h (Nat.not_lt_zero _), fun _ h => absurd h (Nat.not_lt_zero _), fun _ h => absurd h (Nat.not_lt_zero _)⟩
  | _ + 1, 0, h => absurd h (Nat.not_succ_le_zero _)
  | m + 1, n + 1, h =>
    have I := ps_eq m n (Nat.le_of_succ_le_succ h)
    have o := oper_eq I.1 I.2.2
    have c := cond_eq o I.1 I.2.1 (oper_suf (ps_suf m).ex (ps_suf m).op) (ps_suf m).ex
    ⟨expr_eq c I.1, c, o⟩
theorem cut_split (s : List UInt8) : ∃ a, s = a ++ cutT s ++ cutR s := by
  refine ⟨s.takeWhile isBlank, ?_⟩
  rw [List.append_assoc]
  unfold cutT cutR
  rw [List.take_append_drop]
  exact (List.takeWhile_append_dropWhile).symm
theorem toks_cost : ∀ (n : Nat) (s : List UInt8), s.length ≤ n → cost (toks s) ≤ nb s
  | n, s, hn => by
    by_cases hc : cutT s = []
    · rw [toks_nil hc]; exact Nat.zero_le _
    · have hlt := cutR_lt hc
      match n with
      | 0 => exact absurd hn (by omega)
      | n + 1 =>
        rw [toks_cons hc, cost_cons]
        obtain ⟨a, ha⟩ := cut_split s
        have h1 := toks_cost n (cutR s) (by omega)
        have h2 : nb s = nb a + nb (cutT s) + nb (cutR s) := by rw [← nb_app, ← nb_app, ← ha]
        omega

/-! ### The theorem -/
theorem around {ts : List Tok} {e : Ex} (h : whole ts = .ok e) (hc : cost ts ≤ 28) : whole ([40] :: ts ++ [[41]]) = .ok e := by
  rw [whole_ok] at h ⊢
  have h1 : (ps 29).ex ts = .ok (e, []) := by rw [(ps_eq 29 30 (by omega)).1 ts (by omega)]; exact h
  have h2 := (ps_cl 29).ex _ _ _ h1
  have h3 : (ps 30).op ([40] :: ts ++ [[41]]) = .ok (e, []) := by
    show operF (ps 29).ex (ps 29).op ([40] :: (ts ++ [[41]])) = _
    rw [operF, if_neg (by decide), if_pos rfl, h2]
    rfl
  have h4 : ∀ j, lev (ps 30).op j ([40] :: ts ++ [[41]]) = .ok (e, []) := by
    intro j
    induction j with
    | zero => exact h3
    | succ j ih => rw [lev, ih]; rfl
  have h5 : (ps 30).cd ([40] :: ts ++ [[41]]) = .ok (e, []) := by
    show condF (ps 30).op _ _ _ = _
    unfold condF
    rw [h4 10]
  have h6 : ∀ o r, (ps 30).ex ([40] :: o :: r) = (ps 30).cd ([40] :: o :: r) := fun o r => by
    show exprF (ps 30).cd (ps 29).ex ([40] :: o :: r) = _
    unfold exprF
    dsimp only
    rw [if_neg (fun e => absurd e.1 (by decide))]
  cases ts with
  | nil => exact (h6 _ _).trans h5
  | cons t r => exact (h6 _ _).trans h5
end Ar
end Go.Proofs.YtlggpefmojacoaaGreatDoor
end
section
namespace Go.Proofs.YtlggpefmojacoaaGreatDoor
open Go.RowKit Tx
namespace Pc

/-- A list of bytes that came in. -/
def By8 (w : World) (A : Option Addr) (n : Nat) : Prop := ∀ j, j < n → ∃ g off z, A = some ⟨g, off, none⟩ ∧ g < w.heap.size ∧ w.cell? ⟨g, off + j, none⟩ = some (.int .u8 z) ∧ 0 ≤ z ∧ z ≤ 255
theorem By8.below {w w' : World} {A : Option Addr} {n : Nat} (h : By8 w A n) (hb : Below w.heap.size w w') : By8 w' A n := by
  intro j hj
  obtain ⟨g, off, z, e, hg, hc, h1, h2⟩ := h j hj
  exact ⟨g, off, z, e, Nat.lt_of_lt_of_le hg hb.size, (hb.cell (p := ⟨g, off + j, none⟩) hg).trans hc, h1, h2⟩
/-- A row of few short texts. -/
def Few (M : Nat) (w : World) (g n : Nat) : Prop := ∀ j, j < n → ∃ x : ByteArray, w.cell? ⟨g, j, none⟩ = some (.string x) ∧ x.size ≤ M
theorem Few.below {M : Nat} {w w' : World} {g n : Nat} (h : Few M w g n) (hg : g < w.heap.size) (hb : Below w.heap.size w w') : Few M w' g n := fun j hj => by
  obtain ⟨x, hc, hs⟩ := h j hj
  exact ⟨x, (hb.cell (p := ⟨g, j, none⟩) hg).trans hc, hs⟩
/-- A value that is a text of few bytes. -/
def short (M : Nat) : Value → Bool
  | .string x => decide (x.size ≤ M)
  | _ => false
theorem few_of {M : Nat} {w : World} {g : Nat} {cs : Array Value} {t : TypeId} (h : w.heap[g]? = some (.cells cs t (0, 0))) (hs : cs.all (short M) = true) : Few M w g cs.size := fun j hj => by
  have h1 := cell_of_row w g j cs t (0, 0) h
  have h2 : short M cs[j] = true := Array.all_eq_true.1 hs j hj
  rw [Array.getElem?_eq_getElem hj] at h1
  cases hc : cs[j] with
  | string x => rw [hc] at h1 h2; exact ⟨x, h1, of_decide_eq_true h2⟩
  | _ => rw [hc] at h2; cases h2
set_option maxHeartbeats 1000000 in
set_option maxRecDepth 100000 in
theorem pieces_any (M : Nat) (hM : M ≤ 100) (A : Option Addr) (n k g m q : Nat) (w : World) (hl : By8 w A n) (hn : n ≤ 9223372036854775807) (hp : Few M w g m) (hm : 0 < m) (hm2 : m ≤ 100) :
    Calls Tryz.prog 14 #[.slice A n k, .slice (some ⟨g, 0, none⟩) m q] w fun e w' => ∃ x : ByteArray, e = .returned (.string x) ∧ x.size ≤ M * 14 ∧ w = w' := by
  have HL := Kept.mk hl
  have HP := Kept.mk hp
  clear hl hp
  go_enter Tryz.func14, Tryz.ntmps14
  go_wp2_with fail
  go_loop [5, 6] (fun v i => ∃ (j : Nat) (x : ByteArray), j ≤ n ∧ j ≤ 14 ∧ i = .int .i64 (j : Int) ∧ v = .string x ∧ x.size ≤ M * j) (fun _ i => n - (intOf i).toNat)
  case atStart => exact ⟨0, ⟨#[]⟩, by omega, by omega, rfl, rfl, Nat.zero_le _⟩
  case round =>
    obtain ⟨j, x, hj, hj14, rfl, rfl, hx⟩ := hrel
    have hMj : M * j ≤ M * 14 := Nat.mul_le_mul_left M hj14
    have j0 : (0 : Int) ≤ j := by omega
    by_cases hlt : j < n
    · have j1 : (j : Int) < (n : Int) := by omega
      by_cases h14 : j < 14
      · have j2 : (j : Int) < 14 := by omega
        obtain ⟨ga, off, z, e, hg, hc, hz0, hz1⟩ := HL.out j hlt
        subst e
        have hm1 : (0 : Int) < (m : Int) := by omega
        have e1 : z.tmod (m : Int) = z % (m : Int) := Int.tmod_eq_emod_of_nonneg hz0
        have r0 : 0 ≤ z % (m : Int) := Int.emod_nonneg _ (by omega)
        have r1 : z % (m : Int) < (m : Int) := Int.emod_lt_of_pos _ hm1
        obtain ⟨y, hy, hys⟩ := HP.out (z % (m : Int)).toNat (by omega)
        have hsum : ¬ 9223372036854775807 < x.size + y.size := by omega
        have HC : Kept (x.size + y.size ≤ M * (j + 1)) := ⟨by rw [Nat.mul_add, Nat.mul_one]; omega⟩
        clear hMj
        go_wp2_with fail
        go_round
        case rel => exact ⟨j + 1, x ++ y, by omega, by omega, by go_num, rfl, by rw [ByteArray.size_append]; exact HC.out⟩
        case measure => simp [intOf]; omega
      · have j2 : ¬ (j : Int) < 14 := by omega
        clear h14
        go_wp2_with fail
        go_ret
        exact ⟨x, rfl, by omega, rfl⟩
    · have j1 : ¬ (j : Int) < (n : Int) := by omega
      have j1b : decide ((j : Int) < (n : Int)) = false := decide_eq_false j1
      clear hlt
      go_wp2_with fail
      go_ret
      exact ⟨x, rfl, by omega, rfl⟩
end Pc
end Go.Proofs.YtlggpefmojacoaaGreatDoor
end
section
namespace Go.Proofs.YtlggpefmojacoaaGreatDoor
open Go.RowKit Tx
namespace Pc

set_option maxHeartbeats 1000000 in
set_option maxRecDepth 100000 in
theorem pieces_prop (ps : List ByteArray) (R : Nat → List UInt8 → Prop) (M : Nat) (hM : M ≤ 100) (hps : ∀ y ∈ ps, y.size ≤ M) (h0 : R 0 []) (hR : ∀ j x y, R j x → y ∈ ps → R (j + 1) (x ++ toL y))
    (A : Option Addr) (n k g m q : Nat) (w : World) (hl : By8 w A n) (hn : n ≤ 9223372036854775807) (hp : Own.At Value.string w g 0 ps) (hml : ps.length = m) (hm : 0 < m) (hm2 : m ≤ 100) :
    Calls Tryz.prog 14 #[.slice A n k, .slice (some ⟨g, 0, none⟩) m q] w fun e w' => ∃ x : ByteArray, e = .returned (.string x) ∧ x.size ≤ M * 14 ∧ (∃ j, j ≤ 14 ∧ R j (toL x)) ∧ w = w' := by
  have HL := Kept.mk hl
  have HP := Kept.mk hp
  have HML := Kept.mk hml
  have HPs := Kept.mk hps
  have HRs := Kept.mk hR
  have H0 := Kept.mk h0
  clear hl hp hml hps hR h0
  go_enter Tryz.func14, Tryz.ntmps14
  go_wp2_with fail
  go_loop [5, 6] (fun v i => ∃ (j : Nat) (x : ByteArray), j ≤ n ∧ j ≤ 14 ∧ i = .int .i64 (j : Int) ∧ v = .string x ∧ x.size ≤ M * j ∧ Kept (R j (toL x))) (fun _ i => n - (intOf i).toNat)
  case atStart => exact ⟨0, ⟨#[]⟩, by omega, by omega, rfl, rfl, Nat.zero_le _, H0⟩
  case round =>
    obtain ⟨j, x, hj, hj14, rfl, rfl, hx, HRx⟩ := hrel
    have hMj : M * j ≤ M * 14 := Nat.mul_le_mul_left M hj14
    have j0 : (0 : Int) ≤ j := by omega
    have HE : Kept (∃ j, j ≤ 14 ∧ R j (toL x)) := ⟨j, hj14, HRx.out⟩
    by_cases hlt : j < n
    · have j1 : (j : Int) < (n : Int) := by omega
      by_cases h14 : j < 14
      · have j2 : (j : Int) < 14 := by omega
        obtain ⟨ga, off, z, e, hg, hc, hz0, hz1⟩ := HL.out j hlt
        subst e
        have hm1 : (0 : Int) < (m : Int) := by omega
        have e1 : z.tmod (m : Int) = z % (m : Int) := Int.tmod_eq_emod_of_nonneg hz0
        have r0 : 0 ≤ z % (m : Int) := Int.emod_nonneg _ (by omega)
        have r1 : z % (m : Int) < (m : Int) := Int.emod_lt_of_pos _ hm1
        have hjl : (z % (m : Int)).toNat < ps.length := by rw [HML.out]; omega
        have hy := HP.out.cell (z % (m : Int)).toNat hjl
        rw [Nat.zero_add] at hy
        have HRy := Kept.mk (HRs.out _ _ _ HRx.out (List.getElem_mem hjl))
        have hys := HPs.out _ (List.getElem_mem hjl)
        generalize ps[(z % (m : Int)).toNat] = y at hy HRy hys
        have hsum : ¬ 9223372036854775807 < x.size + y.size := by omega
        have HC : Kept (x.size + y.size ≤ M * (j + 1)) := ⟨by rw [Nat.mul_add, Nat.mul_one]; omega⟩
        have HR2 : Kept (R (j + 1) (toL (x ++ y))) := ⟨by
          have e : toL (x ++ y) = toL x ++ toL y := by unfold toL; rw [ByteArray.data_append, Array.toList_append]
          rw [e]; exact HRy.out⟩
        clear hMj hjl HRy
        go_wp2_with fail
        go_round
        case rel => exact ⟨j + 1, x ++ y, by omega, by omega, by go_num, rfl, by rw [ByteArray.size_append]; exact HC.out, HR2⟩
        case measure => simp [intOf]; omega
      · have j2 : ¬ (j : Int) < 14 := by omega
        clear h14
        go_wp2_with fail
        go_ret
        exact ⟨x, rfl, by omega, HE.out, rfl⟩
    · have j1 : ¬ (j : Int) < (n : Int) := by omega
      have j1b : decide ((j : Int) < (n : Int)) = false := decide_eq_false j1
      clear hlt
      go_wp2_with fail
      go_ret
      exact ⟨x, rfl, by omega, HE.out, rfl⟩
end Pc
end Go.Proofs.YtlggpefmojacoaaGreatDoor
end
section
namespace Go.Proofs.YtlggpefmojacoaaGreatDoor
open Go.RowKit Tx
namespace Ar
open Va (Vr VS VO getD Sorted)
def vA (d : ByteArray) : Vr := ⟨⟨#[97]⟩, d, false, false⟩
theorem two_err {o : Tok} {a b c : Int} (e : two o a b = .error c) : c = 131 := by
  unfold two at e
  by_cases h1 : o = [43]
  · rw [if_pos h1] at e; cases e
  rw [if_neg h1] at e
  by_cases h2 : o = [45]
  · rw [if_pos h2] at e; cases e
  rw [if_neg h2] at e
  by_cases h3 : o = [42]
  · rw [if_pos h3] at e; cases e
  rw [if_neg h3] at e
  by_cases h4 : o = [47]
  · rw [if_pos h4] at e
    split at e
    · cases e; rfl
    · cases e
  rw [if_neg h4] at e
  by_cases h5 : o = [37]
  · rw [if_pos h5] at e
    split at e
    · cases e; rfl
    · cases e
  rw [if_neg h5] at e
  exfalso
  by_cases h6 : o = [60, 60]
  · rw [if_pos h6] at e; cases e
  rw [if_neg h6] at e
  by_cases h7 : o = [62, 62]
  · rw [if_pos h7] at e; cases e
  rw [if_neg h7] at e
  by_cases h8 : o = [38]
  · rw [if_pos h8] at e; cases e
  rw [if_neg h8] at e
  by_cases h9 : o = [124]
  · rw [if_pos h9] at e; cases e
  rw [if_neg h9] at e
  by_cases h10 : o = [94]
  · rw [if_pos h10] at e; cases e
  rw [if_neg h10] at e
  repeat' split at e
  all_goals cases e
theorem vs_new (w : World) (l : List Vr) (n : Nat) (cs : Array Value) (t : TypeId) (h : cs = (Va.pvl l).toArray) (hn : n = l.length) : VS (w.alloc (.cells cs t)) (some ⟨w.heap.size, 0, none⟩) n l := by
  subst h hn
  refine ⟨Nat.le_refl _, fun e => (by cases e), fun _ => ⟨w.heap.size, 0, rfl, by simp, fun j u hu => ?_⟩⟩
  rw [Nat.zero_add, cell_of_row _ _ j _ _ _ (heap_alloc_new w _)]
  simpa using hu
theorem ok_one {da : ByteArray} (h1 : da.size ≤ 21) : Ok [vA da] := ⟨List.pairwise_singleton _ _, fun v hv => by rw [List.mem_singleton.1 hv]; exact Nat.le_trans h1 (by decide)⟩
end Ar
end Go.Proofs.YtlggpefmojacoaaGreatDoor
end
section
namespace Go.Proofs.YtlggpefmojacoaaGreatDoor
open Go.RowKit Tx
namespace Ar
open Va (Vr VS VO getD Sorted)
open Pc (By8 pieces_prop)

def signsL : List ByteArray := [⟨#[49]⟩, ⟨#[50]⟩, ⟨#[48]⟩, ⟨#[97]⟩, ⟨#[98]⟩, ⟨#[120]⟩, ⟨#[43]⟩, ⟨#[45]⟩, ⟨#[42]⟩, ⟨#[47]⟩, ⟨#[37]⟩, ⟨#[40]⟩, ⟨#[41]⟩, ⟨#[32]⟩, ⟨#[60, 60]⟩, ⟨#[62, 62]⟩, ⟨#[60]⟩, ⟨#[62]⟩, ⟨#[61]⟩, ⟨#[61, 61]⟩, ⟨#[33, 61]⟩, ⟨#[33]⟩, ⟨#[126]⟩, ⟨#[38]⟩, ⟨#[124]⟩, ⟨#[94]⟩, ⟨#[38, 38]⟩, ⟨#[124, 124]⟩, ⟨#[63]⟩, ⟨#[58]⟩, ⟨#[48, 120, 49, 102]⟩, ⟨#[48, 49, 55]⟩, ⟨#[57, 50, 50, 51, 51, 55, 50, 48, 51, 54, 56, 53, 52, 55, 55, 53, 56, 48, 55]⟩, ⟨#[97, 61]⟩, ⟨#[98, 43, 61]⟩]
/-- What is said of a text of so many pieces. -/
def PR (j : Nat) (x : List UInt8) : Prop := nb x ≤ 2 * j ∧ ∀ c ∈ x, c ≠ 9 ∧ c ≠ 10
theorem pr_piece : ∀ y ∈ signsL, nb (toL y) ≤ 2 ∧ ∀ c ∈ toL y, c ≠ 9 ∧ c ≠ 10 := by decide +kernel
theorem pr_small : ∀ y ∈ signsL, y.size ≤ 20 := by decide +kernel
theorem pr_step (j : Nat) (x : List UInt8) (y : ByteArray) (h : PR j x) (hy : y ∈ signsL) : PR (j + 1) (x ++ toL y) := by
  obtain ⟨h1, h2⟩ := pr_piece y hy
  refine ⟨by rw [nb_app]; have := h.1; omega, fun c hc => ?_⟩
  rcases List.mem_append.1 hc with hc | hc
  · exact h.2 c hc
  · exact h2 c hc
set_option maxRecDepth 100000 in
theorem signs_any (w : World) : Calls Tryz.prog 15 #[] w fun e w' => ∃ g, e = .returned (.slice (some ⟨g, 0, none⟩) 35 35) ∧ Own.At Value.string w' g 0 signsL ∧ Below w.heap.size w w' := by
  have HB : Kept (∀ o : Obj, Below w.heap.size w (w.alloc o)) := ⟨fun o => (Below.refl _ _).alloc (Nat.le_refl _) o⟩
  have HA := Kept.mk (Own.At.fresh (c := Value.string) w _ 9 signsL rfl)
  go_enter Tryz.func15, Tryz.ntmps15
  go_wp2_with fail
  go_ret
  exact ⟨_, rfl, HA.out, HB.out _⟩
/-- Is there nothing but blanks? -/
def bl (x : List UInt8) : Bool := x.all fun c => c == 32
theorem bl_take {s : ByteArray} {j : Nat} (h : j < s.size) : bl ((toL s).take (j + 1)) = (bl ((toL s).take j) && (s[j]'h == 32)) := by
  rw [List.take_succ_eq_append_getElem (by rw [toL_length]; exact h)]
  unfold bl
  rw [List.all_append]
  simp only [List.all_cons, List.all_nil, Bool.and_true]
  rfl
set_option maxHeartbeats 1000000 in
set_option maxRecDepth 100000 in
theorem blank_run (s : ByteArray) (w : World) (hs : s.size ≤ 100000) (t : Bool) (ht : Kept (t = bl (toL s))) : Calls Tryz.prog 20 #[.string s] w fun e w' => e = .returned (.bool t) ∧ w = w' := by
  go_enter Tryz.func20, Tryz.ntmps20
  go_wp2_with fail
  go_loop [3] (fun i => ∃ j : Nat, j ≤ s.size ∧ i = .int .i64 (j : Int) ∧ Kept (bl ((toL s).take j) = true)) (fun i => s.size - (intOf i).toNat)
  case atStart => exact ⟨0, by omega, rfl, ⟨rfl⟩⟩
  case round =>
    obtain ⟨j, hj, rfl, HX⟩ := hrel
    by_cases hlt : j < s.size
    · have hl2 : (j : Int) < (s.size : Int) := by omega
      have hj5 : (j : Int) ≤ 100000 := by omega
      have hj0 : (0 : Int) ≤ (j : Int) := by omega
      have hbt := bl_take hlt
      rw [HX.out, Bool.true_and] at hbt
      by_cases hc : s[j]'hlt = 32
      · have hz : ((s[j]'hlt).toNat : Int) = 32 := by rw [hc]; rfl
        have HX2 : Kept (bl ((toL s).take (j + 1)) = true) := ⟨by rw [hbt, hc]; rfl⟩
        clear hc HX hbt
        go_wp2_with fail
        go_round
        case rel => exact ⟨j + 1, by omega, by go_num, HX2⟩
        case measure => simp [intOf]; omega
      · have hz : ¬ ((s[j]'hlt).toNat : Int) = 32 := fun e => hc (UInt8.toNat_inj.1 (by rw [show (32 : UInt8).toNat = 32 from rfl]; omega))
        have HF : Kept (t = false) := ⟨by
          rw [ht.out]
          have h2 : bl ((toL s).take (j + 1)) = false := by rw [hbt]; simpa using hc
          have e : toL s = (toL s).take (j + 1) ++ (toL s).drop (j + 1) := (List.take_append_drop _ _).symm
          rw [e]
          unfold bl at h2 ⊢
          rw [List.all_append, h2]
          rfl⟩
        clear hc HX hbt
        go_wp2_with fail
        go_ret
        exact ⟨by rw [HF.out]; rfl, rfl⟩
    · obtain rfl : j = s.size := by omega
      have HT : Kept (t = true) := ⟨by
        rw [ht.out]
        have := HX.out
        rwa [List.take_of_length_le (by rw [toL_length]; exact Nat.le_refl _)] at this⟩
      clear HX hlt
      go_wp2_with fail
      go_ret
      exact ⟨by rw [HT.out]; rfl, rfl⟩
theorem toks_none {s : List UInt8} (h : toks s = []) : trim s = [] := by
  by_cases hc : cutT s = []
  · exact cutT_nil.1 hc
  · rw [toks_cons hc] at h; cases h
theorem dropWhile_none {p : UInt8 → Bool} : ∀ {s : List UInt8}, s.dropWhile p = [] → ∀ c ∈ s, p c = true
  | [], _, _, h => by cases h
  | a :: s, h, c, hc => by
    cases hp : p a with
    | false => rw [List.dropWhile_cons, hp] at h; cases h
    | true =>
      rw [List.dropWhile_cons, hp] at h
      rcases List.mem_cons.1 hc with rfl | hc
      · exact hp
      · exact dropWhile_none h c hc
/-- Where there is more than blanks there is a token. -/
theorem not_blank {s : List UInt8} (hb : bl s = false) (hn : ∀ c ∈ s, c ≠ 9 ∧ c ≠ 10) : toks s ≠ [] := by
  intro h
  have h1 := toks_none h
  unfold trim at h1
  have : bl s = true := by
    unfold bl
    rw [List.all_eq_true]
    intro c hc
    have h2 := dropWhile_none h1 c hc
    have h3 := hn c hc
    simp only [isBlank, Bool.or_eq_true, beq_iff_eq] at h2
    rcases h2 with (h2 | h2) | h2
    · simpa using h2
    · exact absurd h2 h3.1
    · exact absurd h2 h3.2
  rw [this] at hb
  cases hb
/-- In brackets, with blanks about it. -/
theorem eval_around {s : List UInt8} {l : List Vr} {r : Int × List Vr} (h0 : toks s ≠ []) (hc : nb s ≤ 28) (h : eval s l = .ok r) : eval ([32, 10, 40, 32] ++ s ++ [32, 41, 9]) l = .ok r := by
  have ht := toks_around s
  rw [eval, if_neg h0] at h
  cases hw : whole (toks s) with
  | error c => rw [hw] at h; cases h
  | ok e =>
    rw [hw] at h
    have h2 := around hw (Nat.le_trans (toks_cost _ s (Nat.le_refl _)) hc)
    rw [eval, if_neg (by rw [ht]; simp), ht, h2]
    exact h
end Ar
end Go.Proofs.YtlggpefmojacoaaGreatDoor
end
end
section
namespace Go.Proofs.YtlggpefmojacoaaGreatDoor
open Go.RowKit Tx
namespace Ar
open Va (Vr VS VO getD Sorted)
open Pc (By8 pieces_prop)

def NZ (f : P) : Prop := ∀ ts c, f ts = .error c → c ≠ 0
theorem lp_nz {f : P} (hf : NZ f) (k : Nat) : ∀ (m : Nat) (e : Ex) (ts : List Tok) (c : Int), lp f k m e ts = .error c → c ≠ 0
  | 0, _, _, _, h => by cases h
  | _ + 1, _, [], _, h => by cases h
  | m + 1, e, t :: r, c, h => by
    rw [lp] at h
    split at h
    · cases hb : f r with
      | error d => rw [hb] at h; cases h; exact hf _ _ hb
      | ok z => rw [hb] at h; exact lp_nz hf k m _ _ _ h
    · cases h
theorem lev_nz {f : P} (hf : NZ f) : ∀ (j : Nat), NZ (lev f j)
  | 0 => hf
  | j + 1 => fun ts c h => by
    rw [lev] at h
    cases hb : lev f j ts with
    | error d => rw [hb] at h; cases h; exact lev_nz hf j _ _ hb
    | ok z => rw [hb] at h; exact lp_nz (lev_nz hf j) _ _ _ _ _ h
theorem oper_nz {ex op : P} (h1 : NZ ex) (h2 : NZ op) : NZ (operF ex op)
  | [], c, h => by cases h; decide
  | t :: r, c, h => by
    rw [operF] at h
    split at h
    · cases hb : op r with
      | error d => rw [hb] at h; cases h; exact h2 _ _ hb
      | ok z => rw [hb] at h; cases h
    · split at h
      · split at h
        · rename_i hb; cases h; exact h1 _ _ hb
        · cases h
        · cases h; decide
      · split at h
        · cases h
        · split at h
          · cases h
          · cases h; decide
theorem cond_nz {op ex cd : P} (h0 : NZ op) (h1 : NZ ex) (h2 : NZ cd) : NZ (condF op ex cd) := fun ts c h => by
  unfold condF at h
  split at h
  · rename_i hb; cases h; exact lev_nz h0 10 _ _ hb
  · split at h
    · rename_i hb; cases h; exact h1 _ _ hb
    · split at h
      · rename_i hb; cases h; exact h2 _ _ hb
      · cases h
    · cases h; decide
  · cases h
theorem expr_nz {cd ex : P} (h1 : NZ cd) (h2 : NZ ex) : NZ (exprF cd ex) := fun ts c h => by
  unfold exprF at h
  split at h
  · split at h
    · split at h
      · rename_i hb; cases h; exact h2 _ _ hb
      · cases h
    · exact h1 _ _ h
  · exact h1 _ _ h
structure NzP (p : Ps) : Prop where
  ex : NZ p.ex
  cd : NZ p.cd
  op : NZ p.op
theorem ps_nz : ∀ n, NzP (ps n)
  | 0 => ⟨fun _ _ h => by cases h; decide, fun _ _ h => by cases h; decide, fun _ _ h => by cases h; decide⟩
  | n + 1 => by
    have h := ps_nz n
    have ho := oper_nz h.ex h.op
    have hc := cond_nz ho h.ex h.cd
    exact ⟨expr_nz hc h.ex, hc, ho⟩
theorem whole_nz {ts : List Tok} {c : Int} (h : whole ts = .error c) : c ≠ 0 := by
  unfold whole at h
  split at h
  · rename_i hb; cases h; exact (ps_nz 30).ex _ _ hb
  · cases h
  · cases h; decide
theorem two_nz {o : Tok} {a b c : Int} (e : two o a b = .error c) : c ≠ 0 := by rw [two_err e]; decide
theorem snd_nz {o : Tok} {n c : Int} {f : List Vr → V} {l : List Vr} (hf : ∀ l c, f l = .error c → c ≠ 0) (h : snd o n f l = .error c) : c ≠ 0 := by
  unfold snd at h
  split at h
  · split at h
    · split at h
      · rename_i hb; cases h; exact hf _ _ hb
      · cases h
    · cases h
  · split at h
    · split at h
      · cases h
      · split at h
        · rename_i hb; cases h; exact hf _ _ hb
        · cases h
    · split at h
      · rename_i hb; cases h; exact hf _ _ hb
      · split at h
        · rename_i hb; cases h; exact two_nz hb
        · cases h
theorem asg_nz {x o : Tok} {n c : Int} {l : List Vr} (h : asgV x o n l = .error c) : c ≠ 0 := by
  unfold asgV at h
  split at h
  · cases h
  · split at h
    · cases h; decide
    · exact two_nz h
theorem put_nz {x : Tok} {m c : Int} {l : List Vr} (h : putV x m l = .error c) : c ≠ 0 := by
  unfold putV at h
  split at h
  · rename_i hb; cases h; exact set_err hb
  · cases h
theorem ev_nz : ∀ (e : Ex) (l : List Vr) (c : Int), ev e l = .error c → c ≠ 0
  | .lit n, l, c, h => by cases h
  | .var x, l, c, h => by
    rw [ev] at h
    split at h
    · cases h
    · cases h; decide
  | .asg x o e, l, c, h => by
    rw [ev] at h
    cases hb : ev e l with
    | error d => rw [hb] at h; cases h; exact ev_nz e _ _ hb
    | ok z =>
      obtain ⟨n, l1⟩ := z
      rw [hb] at h
      dsimp only at h
      cases ha : asgV x o n l1 with
      | error d => rw [ha] at h; cases h; exact asg_nz ha
      | ok m => rw [ha] at h; exact put_nz h
  | .pre o e, l, c, h => by
    rw [ev] at h
    cases hb : ev e l with
    | error d => rw [hb] at h; cases h; exact ev_nz e _ _ hb
    | ok z => rw [hb] at h; cases h
  | .bin o a b, l, c, h => by
    rw [ev] at h
    cases hb : ev a l with
    | error d => rw [hb] at h; cases h; exact ev_nz a _ _ hb
    | ok z => rw [hb] at h; exact snd_nz (ev_nz b) h
  | .cho q a b, l, c, h => by
    rw [ev] at h
    cases hb : ev q l with
    | error d => rw [hb] at h; cases h; exact ev_nz q _ _ hb
    | ok z =>
      rw [hb] at h
      dsimp only at h
      split at h
      · exact ev_nz b _ _ h
      · exact ev_nz a _ _ h
theorem eval_nz {s : List UInt8} {l : List Vr} {c : Int} (h : eval s l = .error c) : c ≠ 0 := by
  unfold eval at h
  split at h
  · cases h
  · split at h
    · rename_i hb; cases h; exact whole_nz hb
    · exact ev_nz _ _ _ h
theorem eval_len {s : List UInt8} {l m : List Vr} {n : Int} (h : eval s l = .ok (n, m)) (hl : Ok l) (hs : s.length ≤ 1000000) : m.length ≤ l.length + s.length := by
  unfold eval at h
  split at h
  · cases h; omega
  · split at h
    · cases h
    · rename_i e he
      obtain ⟨h1, h2⟩ := whole_fine (fun t ht => by have := (toksF_len _ s).1 t ht; omega) he
      have h3 := (ev_ok h1 hl h).2.2
      have h4 := toks_count s
      omega
def valsL : List ByteArray := [⟨#[]⟩, ⟨#[53]⟩, ⟨#[45, 51]⟩]
theorem vals_small (j : Nat) (h : j < valsL.length) : valsL[j].size ≤ 21 := by
  have h2 : ∀ x ∈ valsL, x.size ≤ 21 := by decide +kernel
  exact h2 _ (List.getElem_mem h)
theorem toL_around (s : ByteArray) : toL ((⟨#[32, 10, 40, 32]⟩ : ByteArray) ++ s ++ (⟨#[32, 41, 9]⟩ : ByteArray)) = [32, 10, 40, 32] ++ toL s ++ [32, 41, 9] := by
  have e : ∀ x y : ByteArray, toL (x ++ y) = toL x ++ toL y := fun x y => by unfold toL; rw [ByteArray.data_append, Array.toList_append]
  rw [e, e]
  rfl
set_option maxHeartbeats 8000000 in
set_option maxRecDepth 100000 in
theorem blanks_any (A : Option Addr) (n k : Nat) (m : Nat) (w : World) (hK : KT w) (hl : By8 w A n) (hn : n ≤ 9223372036854775807) (hm : m < 256) :
    Calls Tryz.prog 7 #[.slice A n k, .int .u8 (m : Int)] w fun e w' => e = .returned (.bool true) ∧ Below w.heap.size w w' := by
  have HK := Kept.mk hK
  have HL := Kept.mk hl
  have HN := Kept.mk hn
  have HAw := Kept.mk (awake_any w hK)
  have q1 : IntKind.i64.wrap (m : Int) = (m : Int) := IntWalk.i64_in _ (by omega)
  have q2 : (m : Int).tmod 3 = ((m % 3 : Nat) : Int) := by rw [Int.tmod_eq_emod_of_nonneg (by omega)]; omega
  obtain ⟨z, hz⟩ : ∃ z, z = m % 3 := ⟨_, rfl⟩
  rw [← hz] at q2
  have hz3 : z < 3 := by omega
  have z0 : (0 : Int) ≤ (z : Int) := by omega
  have z1 : (z : Int) < 3 := by omega
  clear hK hl hn hm hz
  go_enter Tryz.func7, Tryz.ntmps7
  go_wp2_with fail
  go_at_call 11
  refine HAw.out.mono ?_
  rintro e w1 ⟨rfl, hb⟩
  have HB1 := Kept.mk hb
  clear hb HAw
  go_wp2_with fail
  go_at_call 15
  refine (signs_any w1).mono ?_
  rintro e w2 ⟨g, rfl, hS, hb⟩
  have HB2 := Kept.mk (HB1.out.trans (hb.mono HB1.out.size))
  have HS := Kept.mk hS
  clear hb hS
  go_wp2_with fail
  go_at_call 14
  refine (pieces_prop signsL PR 20 (by omega) pr_small ⟨Nat.le_refl _, fun c hc => by cases hc⟩ pr_step A n k g 35 35 w2 (HL.out.below HB2.out) HN.out HS.out rfl (by omega) (by omega)).mono ?_
  rintro e w3 ⟨s, rfl, hs, ⟨jj, hjj, hpr⟩, rfl⟩
  have HSz : Kept (s.size ≤ 280) := ⟨by omega⟩
  have HPr : Kept (nb (toL s) ≤ 28 ∧ ∀ c ∈ toL s, c ≠ 9 ∧ c ≠ 10) := ⟨by have := hpr.1; omega, hpr.2⟩
  have b1 : ¬ 9223372036854775807 < 4 + s.size := by omega
  have b2 : ¬ 9223372036854775807 < 4 + s.size + 3 := by omega
  clear hs hpr hjj
  have hc := (Own.At.fresh (c := Value.string) w2 _ 9 valsL rfl).cell z (by simpa [valsL] using hz3)
  rw [Nat.zero_add] at hc
  have HV0 := Kept.mk (vals_small z (by simpa [valsL] using hz3))
  generalize valsL[z]'(by simpa [valsL] using hz3) = d at hc HV0
  simp only [valsL, List.map_cons, List.map_nil, List.toArray] at hc
  obtain ⟨w3, hw3⟩ : ∃ w3, w3 = (w2.alloc (.cells (valsL.map Value.string).toArray 9)).alloc (.cells #[.string ⟨#[97]⟩, .string d, .bool false, .bool false] 31) := ⟨_, rfl⟩
  have HB3 : Kept (Below w.heap.size w w3) := ⟨by rw [hw3]; exact (HB2.out.alloc HB2.out.size _).alloc (by have := HB2.out.size; simp; omega) _⟩
  have HV3 : Kept (VS w3 (some ⟨w2.heap.size + 1, 0, none⟩) 1 [vA d]) := ⟨by
    rw [hw3]
    have := vs_new (w2.alloc (.cells (valsL.map Value.string).toArray 9)) [vA d] 1 #[.string ⟨#[97]⟩, .string d, .bool false, .bool false] 31 rfl rfl
    rwa [World.size_alloc] at this⟩
  have HOk := Kept.mk (ok_one HV0.out)
  have H1 := Kept.mk (eval_any s [vA d] w3 (some ⟨w2.heap.size + 1, 0, none⟩) 1 1 HV3.out rfl HOk.out (HK.out.below HB3.out) (by have := HSz.out; omega) (show 1 ≤ 1000 by decide))
  have HSu : Kept (((⟨#[32, 10, 40, 32]⟩ : ByteArray) ++ s ++ (⟨#[32, 41, 9]⟩ : ByteArray)).size ≤ 50000) := ⟨by simp only [ByteArray.size_append]; show 4 + s.size + 3 ≤ 50000; have := HSz.out; omega⟩
  go_upto_region 6 with fail
  try simp only [valsL, List.map_cons, List.map_nil, List.toArray] at hw3
  rw [← hw3]
  clear hc hw3
  obtain ⟨R1, hR1⟩ : ∃ R1, R1 = eval (toL s) [vA d] := ⟨_, rfl⟩
  obtain ⟨R2, hR2⟩ : ∃ R2, R2 = eval (toL ((⟨#[32, 10, 40, 32]⟩ : ByteArray) ++ s ++ (⟨#[32, 41, 9]⟩ : ByteArray))) [vA d] := ⟨_, rfl⟩
  rw [← hR1] at H1
  have HR1 := Kept.mk hR1
  have HR2 := Kept.mk hR2
  clear hR1 hR2
  go_wp2_with fail
  go_at_call 17
  refine H1.out.mono ?_
  intro e w4 h1
  cases R1 with
  | error c =>
    obtain ⟨rfl, hb4⟩ := EvE.no h1
    have HB4 := Kept.mk (HB3.out.trans (hb4.out.mono HB3.out.size))
    have H2 := Kept.mk (eval_any ((⟨#[32, 10, 40, 32]⟩ : ByteArray) ++ s ++ (⟨#[32, 41, 9]⟩ : ByteArray)) [vA d] w4 (some ⟨w2.heap.size + 1, 0, none⟩) 1 1 (HV3.out.below hb4.out) rfl HOk.out (HK.out.below HB4.out) HSu.out (show 1 ≤ 1000 by decide))
    rw [← HR2.out] at H2
    have hc0 : (c != 0) = true := by simpa using eval_nz HR1.out.symm
    clear h1 hb4 H1 HR1 HR2
    go_wp2_with fail
    go_at_call 17
    refine H2.out.mono ?_
    intro e w5 h2
    cases R2 with
    | error c2 =>
      obtain ⟨rfl, hb5⟩ := EvE.no h2
      have HB5 := Kept.mk (HB4.out.trans (hb5.out.mono HB4.out.size))
      clear h2 hb5
      go_wp2_with fail
      go_ret
      exact ⟨rfl, HB5.out⟩
    | ok z2 =>
      obtain ⟨n2, m2⟩ := z2
      obtain ⟨A5, k5, rfl, _, hb5⟩ := EvE.ok (mn := m2.length) h2 rfl
      have HB5 := Kept.mk (HB4.out.trans (hb5.out.mono HB4.out.size))
      clear h2 hb5
      go_wp2_with fail
      go_ret
      exact ⟨rfl, HB5.out⟩
  | ok z1 =>
    obtain ⟨n1, m1⟩ := z1
    obtain ⟨M1, hM1⟩ : ∃ M1, m1.length = M1 := ⟨_, rfl⟩
    obtain ⟨A4, k4, rfl, hV4, hb4⟩ := EvE.ok (mn := M1) h1 hM1
    have HB4 := Kept.mk (HB3.out.trans (hb4.out.mono HB3.out.size))
    have HM1 := Kept.mk hM1
    have HV4 := hV4
    have HMl : Kept (M1 ≤ 100000) := ⟨by
      have := eval_len HR1.out.symm HOk.out (by rw [toL_length]; have := HSz.out; omega)
      rw [hM1, toL_length] at this
      have := HSz.out
      simp only [List.length_singleton] at *
      omega⟩
    have H2 := Kept.mk (eval_any ((⟨#[32, 10, 40, 32]⟩ : ByteArray) ++ s ++ (⟨#[32, 41, 9]⟩ : ByteArray)) [vA d] w4 (some ⟨w2.heap.size + 1, 0, none⟩) 1 1 (HV3.out.below hb4.out) rfl HOk.out (HK.out.below HB4.out) HSu.out (show 1 ≤ 1000 by decide))
    rw [← HR2.out] at H2
    clear h1 hb4 hV4 H1 hM1
    cases hbl : bl (toL s) with
    | true =>
      have HBl : Kept (true = bl (toL s)) := ⟨hbl.symm⟩
      clear hbl HR1 HR2
      go_wp2_with fail
      go_at_call 17
      refine H2.out.mono ?_
      intro e w5 h2
      cases R2 with
      | error c2 =>
        obtain ⟨rfl, hb5⟩ := EvE.no h2
        have HB5 := Kept.mk (HB4.out.trans (hb5.out.mono HB4.out.size))
        clear h2 hb5
        go_wp2_with fail
        go_at_call 15
        refine (signs_any w5).mono ?_
        rintro e w6 ⟨g2, rfl, hS2, hb⟩
        have HB6 := Kept.mk (HB5.out.trans (hb.mono HB5.out.size))
        have HS2 := Kept.mk hS2
        have HD6 := Kept.mk hb
        clear hb hS2
        go_wp2_with fail
        go_at_call 14
        refine (pieces_prop signsL PR 20 (by omega) pr_small ⟨Nat.le_refl _, fun c hc => by cases hc⟩ pr_step A n k g2 35 35 w6 (HL.out.below HB6.out) HN.out HS2.out rfl (by omega) (by omega)).mono ?_
        rintro e w7 ⟨x2, rfl, _, _, rfl⟩
        cases hx : (x2.toList == ([] : List UInt8)) with
        | true =>
          go_wp2_with fail
          go_ret
          exact ⟨rfl, HB6.out⟩
        | false =>
          go_wp2_with fail
          go_at_call 20
          refine (blank_run s w6 (by have := HSz.out; omega) _ HBl).mono ?_
          rintro e w8 ⟨rfl, rfl⟩
          go_wp2_with fail
          go_ret
          exact ⟨rfl, HB6.out⟩
      | ok z2 =>
        obtain ⟨n2, m2⟩ := z2
        obtain ⟨A5, k5, rfl, _, hb5⟩ := EvE.ok (mn := m2.length) h2 rfl
        have HB5 := Kept.mk (HB4.out.trans (hb5.out.mono HB4.out.size))
        clear h2 hb5
        go_wp2_with fail
        go_at_call 15
        refine (signs_any w5).mono ?_
        rintro e w6 ⟨g2, rfl, hS2, hb⟩
        have HB6 := Kept.mk (HB5.out.trans (hb.mono HB5.out.size))
        have HS2 := Kept.mk hS2
        have HD6 := Kept.mk hb
        clear hb hS2
        go_wp2_with fail
        go_at_call 14
        refine (pieces_prop signsL PR 20 (by omega) pr_small ⟨Nat.le_refl _, fun c hc => by cases hc⟩ pr_step A n k g2 35 35 w6 (HL.out.below HB6.out) HN.out HS2.out rfl (by omega) (by omega)).mono ?_
        rintro e w7 ⟨x2, rfl, _, _, rfl⟩
        cases hx : (x2.toList == ([] : List UInt8)) with
        | true =>
          go_wp2_with fail
          go_ret
          exact ⟨rfl, HB6.out⟩
        | false =>
          go_wp2_with fail
          go_at_call 20
          refine (blank_run s w6 (by have := HSz.out; omega) _ HBl).mono ?_
          rintro e w8 ⟨rfl, rfl⟩
          go_wp2_with fail
          go_ret
          exact ⟨rfl, HB6.out⟩
    | false =>
      have HBl : Kept (false = bl (toL s)) := ⟨hbl.symm⟩
      have hR2 : R2 = .ok (n1, m1) := by
        rw [HR2.out, toL_around]
        exact eval_around (not_blank hbl HPr.out.2) HPr.out.1 HR1.out.symm
      subst hR2
      clear hbl HR1 HR2
      go_wp2_with fail
      go_at_call 17
      refine H2.out.mono ?_
      intro e w5 h2
      obtain ⟨A5, k5, rfl, hV5, hb5⟩ := EvE.ok (mn := M1) h2 HM1.out
      have HB5 := Kept.mk (HB4.out.trans (hb5.out.mono HB4.out.size))
      have HV := Kept.mk (And.intro (HV4.out.below hb5.out) hV5.out)
      clear h2 hb5 hV5
      go_wp2_with fail
      go_at_call 15
      refine (signs_any w5).mono ?_
      rintro e w6 ⟨g2, rfl, hS2, hb⟩
      have HB6 := Kept.mk (HB5.out.trans (hb.mono HB5.out.size))
      have HS2 := Kept.mk hS2
      have HD6 := Kept.mk hb
      clear hb hS2
      go_wp2_with fail
      go_at_call 14
      refine (pieces_prop signsL PR 20 (by omega) pr_small ⟨Nat.le_refl _, fun c hc => by cases hc⟩ pr_step A n k g2 35 35 w6 (HL.out.below HB6.out) HN.out HS2.out rfl (by omega) (by omega)).mono ?_
      rintro e w7 ⟨x2, rfl, _, _, rfl⟩
      cases hx : (x2.toList == ([] : List UInt8)) with
      | true =>
        go_wp2_with fail
        go_ret
        exact ⟨rfl, HB6.out⟩
      | false =>
        go_wp2_with fail
        go_at_call 20
        refine (blank_run s w6 (by have := HSz.out; omega) _ HBl).mono ?_
        rintro e w8 ⟨rfl, rfl⟩
        have HSm := Kept.mk (Va.same_vars m1 A4 A5 M1 k4 k5 w6 (HV.out.1.below HD6.out) (HV.out.2.below HD6.out) HM1.out HMl.out)
        go_wp2_with fail
        go_at_call 21
        refine HSm.out.mono ?_
        rintro e w9 ⟨rfl, hb⟩
        have HB9 := Kept.mk (HB6.out.trans (hb.mono HB6.out.size))
        clear hb
        go_wp2_with fail
        go_ret
        exact ⟨rfl, HB9.out⟩
end Ar
end Go.Proofs.YtlggpefmojacoaaGreatDoor
end
section
namespace Go.Proofs.YtlggpefmojacoaaGreatDoor
open Go.RowKit Go.ChangeShapes
namespace Law
variable {H : Type} {enc : TypeId × Value → H} {P : Program}

/-- The arguments' types can be read to the bottom. -/
def typesOk (P : Program) (ts : List TypeId) : Bool := ts.all fun t => P.readableRec t && decide (t < P.types.size)

theorem all_stay (hl : laidOutB P = true) {W W' : World} {sp : Nat → Bool} : ∀ {ts : List TypeId} {vs : List Value} {ds : List (DataW H)} {ps : List MemPlace}, typesOk P ts = true →
    DataW.TrodAll enc P W 0 (fun _ => true) true ts vs ds ps → (∀ p ∈ ps, W.sameAt W' p) → (∀ p ∈ ps, sp p.block = true) → DataW.TrodAll enc P W' 0 sp true ts vs ds ps
  | [], [], [], _, _, h, _, _ => h
  | t :: ts, v :: vs, d :: ds, ps, hr, h, hs, hsp => by
    obtain ⟨p, q, h1, h2, rfl⟩ := h
    simp only [typesOk, List.all_cons, Bool.and_eq_true, decide_eq_true_eq] at hr
    exact ⟨p, q, WideElems.Trod_stays hl hr.1.1 hr.1.2 h1 (fun x hx => hs x (List.mem_append_left _ hx)) (fun x hx => hsp x (List.mem_append_left _ hx)),
      all_stay hl hr.2 h2 (fun x hx => hs x (List.mem_append_right _ hx)) (fun x hx => hsp x (List.mem_append_right _ hx)), rfl⟩

theorem true_trod {W : World} {b : Nat} {sp : Nat → Bool} {hd : Bool} {B : TypeId} (hB : P.underlying B = some .bool) : DataW.Trod enc P W b sp hd B (.bool true) (.lit (.bool true)) [] :=
  ⟨1, by simp [DataW.trod, Value.cells, hB]⟩

/-- THE STEP. -/
theorem post {f : Func} {s : ChangeSpec} {apart fresh handsOn again : Bool} {W W' : World} {args : Array Value} {ds : List (DataW H)} {before : List MemPlace} {B : TypeId}
    (hl : laidOutB P = true) (hts : typesOk P f.params.toList = true) (hrt : f.resultTypes = #[B]) (hB : P.underlying B = some .bool) (hvars : s.vars = [])
    (hfn : s.fn H (ds ++ []) = { results := [.lit (.bool true)], args := ds }) (hW : DataW.Whole enc P f.params.toList s.vars apart W args.toList ds [] before) (hb : Below W.heap.size W W') :
    s.post enc P f apart fresh handsOn again W args (.bool true) W' := by
  have hlt : ∀ p ∈ before, p.block < W.heap.size := fun p hp => hW.lt p hp
  obtain ⟨p, q, hA, hV, hpq, hz, hn⟩ := id hW
  have hV' := hV
  rw [hvars] at hV'
  obtain ⟨-, rfl⟩ := trodVars_none hV'
  rw [List.append_nil] at hpq
  subst hpq
  have stays : ∀ sp : Nat → Bool, (∀ x ∈ before, sp x.block = true) → DataW.TrodAll enc P W' 0 sp true f.params.toList args.toList ds before :=
    fun sp hsp => all_stay hl hts hA (fun x hx => hb.same (hlt x hx)) hsp
  have res : ∀ (b : Nat) (sp : Nat → Bool) (hd : Bool), DataW.TrodAll enc P W' b sp hd f.resultTypes.toList ((Value.bool true).resultList f.resultTypes.size) [.lit (.bool true)] [] := by
    intro b sp hd
    rw [hrt]
    exact ⟨[], [], true_trod hB, rfl, rfl⟩
  have noVars : ∀ sp : Nat → Bool, DataW.TrodVars enc P W' sp s.vars ([] : List (DataW H)) [] := fun sp => by rw [hvars]; rfl
  refine ⟨ds, [], before, [], before, [], hW, by rw [hfn]; exact res _ _ _, by rw [hfn]; exact stays _ (fun x hx => decide_eq_true (hlt x hx)), by rw [hfn]; exact noVars _, ?_, fun _ => ⟨ok_one hrt rfl (okWide_bool_mk hB true), ?_⟩⟩
  · exact World.keptBut_mono (fun x hx => ⟨hx, .inr (.inl hx)⟩) (hb.frame (· ∈ before))
  · refine ⟨_, _, [] ++ before ++ [], ⟨[] ++ before, [], trodAll_append (stays _ (fun _ _ => rfl)) (res _ _ _), noVars _, rfl, ?_, ?_⟩, ?_⟩
    · intro b off hp
      have hin : MemPlace.cell b off ∈ before := by simpa using hp
      rw [hb.frozen (p := ⟨b, off, none⟩) (hlt _ hin)]
      exact hz b off hin
    · intro ha
      simpa using hn ha
    · intro x hx _
      simpa using hx
end Law
end Go.Proofs.YtlggpefmojacoaaGreatDoor
end
section
namespace Go.Proofs.YtlggpefmojacoaaGreatDoor
open Go.ChangeShapes Go.WideShapes Go.ChangeAt Go.RowKit Tx
namespace Ar
open Wx (Kit opVals wops)

theorem own : ownKnob Tryz.prog.godebug = none := by kernel_rfl
theorem laidOut : laidOutB Tryz.prog = true := by kernel_rfl
theorem gOps : Tryz.prog.globalNamed "scullion/word.operators" = some 8 := by kernel_rfl
theorem gOpsType : (Tryz.prog.globals[8]?).map (·.type) = some 184 := by kernel_rfl
theorem cellsOps : Tryz.prog.cellsOf 184 = 12 := by kernel_rfl
theorem cellsStr : Tryz.prog.cellsOf 9 = 1 := by kernel_rfl
theorem gPow : Tryz.prog.globalNamed "internal/strconv.uint64pow10" = some 1 := by kernel_rfl
theorem gPowType : (Tryz.prog.globals[1]?).map (·.type) = some 152 := by kernel_rfl
theorem cellsPow : Tryz.prog.cellsOf 152 = 20 := by kernel_rfl
theorem cellsU64 : Tryz.prog.cellsOf 116 = 1 := by kernel_rfl
theorem gSyn : Tryz.prog.globalNamed "strconv.ErrSyntax" = some 4 := by kernel_rfl
theorem gSynType : (Tryz.prog.globals[4]?).map (·.type) = some 118 := by kernel_rfl
theorem gRng : Tryz.prog.globalNamed "strconv.ErrRange" = some 5 := by kernel_rfl
theorem gRngType : (Tryz.prog.globals[5]?).map (·.type) = some 118 := by kernel_rfl

/-- What the rows list. -/
def laid : List (String × DataW Unit) := [("math/bits.deBruijn32tab", Rows.laid_math_bits_deBruijn32tab), ("math/bits.deBruijn64tab", Rows.laid_math_bits_deBruijn64tab), ("internal/strconv.uint64pow10", Rows.laid_internal_strconv_uint64pow10), ("unicode/utf8.acceptRanges", Rows.laid_unicode_utf8_acceptRanges), ("strconv.ErrRange", Rows.laid_strconv_ErrRange), ("strconv.ErrSyntax", Rows.laid_strconv_ErrSyntax), ("scullion/word.operators", Rows.laid_scullion_word_operators), ("unicode/utf8.first", Rows.laid_unicode_utf8_first)]
/-- An array of texts that reads as the list holds the list's texts, cell for cell. -/
theorem cells_of_strs {H : Type} {enc : TypeId × Value → H} {P : Program} {w : World} {base : Nat} {sp : Nat → Bool} {held : Bool} {fuel : Nat} {t e : TypeId} {n : Nat} {cs : List Value} {ls : List (List UInt8)} {p : List MemPlace}
    (ht : P.underlying t = some (.array n e)) (he : P.underlying e = some .string) (hce : P.cellsOf e = 1) (hct : P.cellsOf t = n)
    (h : DataW.trod enc P w base sp held fuel t cs = some (.agg (ls.map fun l => .lit (.string l)), p)) : cs = ls.map fun l => Value.string (bs l) := by
  cases fuel with
  | zero => simp [DataW.trod] at h
  | succ fuel =>
    simp only [DataW.trod, ht, hce, hct, Nat.mul_one] at h
    split at h
    · rename_i hl
      obtain ⟨xs, hm, hx⟩ := Option.map_eq_some_iff.1 h
      have hxs : xs.map (·.1) = ls.map fun l => (DataW.lit (.string l) : DataW H) := by
        have := congrArg Prod.fst hx
        simpa using this
      have hxl : xs.length = n := by simpa using Lib.mapM_length hm
      have hzl : ls.length = n := by
        have := congrArg List.length hxs
        simp at this
        omega
      apply List.ext_getElem?
      intro i
      by_cases hi : i < n
      · obtain ⟨b, hb, hf⟩ := Lib.mapM_at hm i i (by simp [hi])
        obtain ⟨z, hc, rfl, _⟩ := DataW.trod_string he hf
        have h1 : cs[i]? = some (.string z) := by
          have := congrArg (·[0]?) hc
          simpa [List.getElem?_take, List.getElem?_drop] using this
        have h2 : (xs.map (·.1))[i]? = some (DataW.lit (.string z.data.toList) : DataW H) := by simp [hb]
        rw [hxs] at h2
        simp only [List.getElem?_map, Option.map_eq_some_iff, DataW.lit.injEq, Lit.string.injEq] at h2
        obtain ⟨l, hl2, e2⟩ := h2
        have e3 : bs l = z := by rw [e2]; exact bs_toL z
        simp [h1, hl2, e3]
      · rw [List.getElem?_eq_none (by omega), List.getElem?_eq_none (by simp; omega)]
    · cases h
theorem var_block {P : Program} {w : World} {n : String} {cs : Array Value} {g : Nat} (hg : P.globalNamed n = some g) (h : w.var? P n = some cs) : ∃ t fr, w.heap[g]? = some (.cells cs t fr) := by
  unfold World.var? at h
  rw [hg] at h
  simp only [Option.bind_some] at h
  split at h
  · rename_i cs' t fr hx
    obtain rfl := Option.some.inj h
    exact ⟨t, fr, hx⟩
  · cases h
/-- What the rows' conditions give. -/
theorem kit_head {W : World} {r : List (String × DataW Unit)} (h1 : laidMet Tryz.prog (("scullion/word.operators", Rows.laid_scullion_word_operators) :: r) W) (hsh : W.ShapedOpen Tryz.prog) : Kit W := by
  refine ⟨Tryz.laysM145.s1_3 W hsh, ?_⟩
  obtain ⟨ps, ⟨g', t', cs, fuel, p, q, hg', ht', hvar, hd, _, _⟩, _⟩ := h1
  obtain rfl := Option.some.inj (gOps.symm.trans hg')
  obtain rfl := Option.some.inj (gOpsType.symm.trans ht')
  have hc := cells_of_strs (ls := wops) Tryz.underlying184 Tryz.underlying9 cellsStr cellsOps hd
  have hcs : cs = opVals := Array.ext' (by rw [hc]; rfl)
  obtain ⟨t, fr, hb⟩ := var_block gOps hvar
  exact ⟨t, fr, by rw [← hcs]; exact hb⟩
theorem err_of {P : Program} {n nm : String} {x : DataW Unit} {r : List (String × DataW Unit)} {W : World} {g : Nat} {ti : TypeId} {ms : Array (String × TypeId)}
    (h : laidMet P ((n, .iface nm x) :: r) W) (hg : P.globalNamed n = some g) (ht : (P.globals[g]?).map (·.type) = some ti) (hi : P.underlying ti = some (.interface ms)) : ∃ tp p, W.var? P n = some #[.iface tp p] := by
  obtain ⟨ps, ⟨g0, t0, cs0, f0, p0, q0, hg0, ht0, hv0, hd0, _, e0⟩, _, _⟩ := h
  obtain rfl := Option.some.inj (hg.symm.trans hg0)
  obtain rfl := Option.some.inj (ht.symm.trans ht0)
  obtain ⟨_, u, v, hc, _, _⟩ := iface_of_trod hi hd0
  obtain ⟨l0⟩ := cs0
  obtain rfl : l0 = [.iface u v] := hc
  exact ⟨u, v, hv0⟩

set_option maxRecDepth 100000 in
theorem kt_of {W : World} (h : laidMetH Tryz.prog laid W) (hsh : W.ShapedOpen Tryz.prog) : KT W := by
  have h1 : laidMet Tryz.prog laid W := h
  have h3 := laidMet.tail (laidMet.tail h1)
  have h5 := laidMet.tail (laidMet.tail h3)
  have h6 := laidMet.tail h5
  have h7 := laidMet.tail h6
  obtain ⟨t1, p1, e1⟩ := err_of h6 gSyn gSynType Tryz.underlying118
  obtain ⟨t2, p2, e2⟩ := err_of h5 gRng gRngType Tryz.underlying118
  obtain ⟨_, _, b1⟩ := var_block gSyn e1
  obtain ⟨_, _, b2⟩ := var_block gRng e2
  exact ⟨kit_head h7 hsh, Lib.tabIs_of_head (zs := Lib.pow10Tab) gPow gPowType Tryz.underlying152 Tryz.underlying116 cellsU64 cellsPow h3, ⟨t1, p1, cell_of_row _ _ 0 _ _ _ b1⟩, ⟨t2, p2, cell_of_row _ _ 0 _ _ _ b2⟩⟩
theorem wf_i64 {n : Int} (h : (Lit.int .i64 n).wf = true) : rng n := by
  simp only [Lit.wf, Bool.and_eq_true, decide_eq_true_eq] at h
  have e0 : IntKind.i64.min = -9223372036854775808 := by decide
  have e1 : IntKind.i64.max = 9223372036854775807 := by decide
  rw [e0, e1] at h
  exact h
theorem wf_u8 {n : Int} (h : (Lit.int .u8 n).wf = true) : 0 ≤ n ∧ n < 256 := by
  simp only [Lit.wf, Bool.and_eq_true, decide_eq_true_eq] at h
  have e0 : IntKind.u8.min = 0 := by decide
  have e1 : IntKind.u8.max = 255 := by decide
  rw [e0, e1] at h
  omega
theorem cellsByte : Tryz.prog.cellsOf 5 = 1 := by kernel_rfl
set_option maxRecDepth 100000 in
theorem open_bytes {H : Type} {enc : TypeId × Value → H} {W : World} {base : Nat} {v : Value} {d : DataW H} {p : List MemPlace}
    (hv : Value.okWide Tryz.prog W .any base 28 v) (h : DataW.Trod enc Tryz.prog W 0 (fun _ => true) true 28 v d p) :
    ∃ A n k, v = .slice A n k ∧ Pc.By8 W A n ∧ n ≤ 9223372036854775807 := by
  obtain ⟨a0, len, cap, rfl⟩ := okWide_slice Tryz.underlying28 hv
  obtain ⟨fuel, hf⟩ := h
  rcases open_ints Tryz.underlying28 Tryz.underlying5 cellsByte hf with ⟨hcs, hx⟩ | ⟨a, len', cap', zs, hcs, _, hl, hm, hz, hx, hcell, hwz⟩
  · simp [Value.cells] at hcs
    obtain ⟨rfl, rfl, rfl⟩ := hcs
    exact ⟨none, 0, 0, rfl, fun j hj => by omega, by omega⟩
  · simp [Value.cells] at hcs
    obtain ⟨rfl, rfl, rfl⟩ := hcs
    simp only [if_true] at hz
    unfold maxLen at hm
    refine ⟨some a, len, cap, rfl, fun j hj => ?_, by omega⟩
    have hc := hcell j (by omega)
    obtain ⟨b, off, spot⟩ := a
    have hspot : spot = none := by
      have h0 := hcell 0 (by omega)
      simpa [Addr.add] using World.cell?_spot h0
    subst hspot
    rw [Addr.add_lit] at hc
    have hw := hwz (zs.getD j 0) (by rw [List.getD_eq_getElem?_getD, List.getElem?_eq_getElem (show j < zs.length by omega)]; exact List.getElem_mem _)
    simp only [Lit.wf, Bool.and_eq_true, decide_eq_true_eq] at hw
    have e0 : IntKind.u8.min = 0 := by decide
    have e1 : IntKind.u8.max = 255 := by decide
    rw [e0, e1] at hw
    exact ⟨b, off, zs.getD j 0, rfl, World.block_lt_of_cell? W _ hc, hc, by omega, by omega⟩
/-! ### A world for the witness -/
def synS : ByteArray := ⟨#[105, 110, 118, 97, 108, 105, 100, 32, 115, 121, 110, 116, 97, 120]⟩
def rngS : ByteArray := ⟨#[118, 97, 108, 117, 101, 32, 111, 117, 116, 32, 111, 102, 32, 114, 97, 110, 103, 101]⟩
noncomputable def low : Nat := (World.holding Tryz.prog default ⟨#[], #[], []⟩).heap.size
noncomputable def putRow (h : Array Obj) (g : Nat) (cs : Array Value) : Array Obj := h.modify g fun
  | .cells _ t frozen => .cells cs t frozen
  | o => o
def tab32 : List Int := [0, 1, 28, 2, 29, 14, 24, 3, 30, 22, 20, 15, 25, 17, 4, 8, 31, 27, 13, 23, 21, 19, 16, 7, 26, 12, 18, 6, 11, 5, 10, 9]
def tab64 : List Int := [0, 1, 56, 2, 57, 49, 28, 3, 61, 58, 42, 50, 38, 29, 17, 4, 62, 47, 59, 36, 45, 43, 51, 22, 53, 39, 33, 30, 24, 18, 12, 5, 63, 55, 48, 27, 60, 41, 37, 16, 46, 35, 44, 21, 52, 32, 23, 11, 54, 26, 40, 15, 34, 20, 31, 10, 25, 14, 19, 9, 13, 8, 7, 6]
def tabAcc : List Int := [128, 191, 160, 191, 128, 159, 144, 191, 128, 143, 0, 0, 0, 0, 0, 0, 0, 0, 0, 0, 0, 0, 0, 0, 0, 0, 0, 0, 0, 0, 0, 0]
noncomputable def laidWorld (os : Os) : World :=
  let w0 := World.holding Tryz.prog os ⟨#[.cells #[.string synS] 173, .cells #[.string rngS] 173], #[], []⟩
  { w0 with heap := putRow (putRow (putRow (putRow (putRow (putRow (putRow (putRow w0.heap 6 (tab32.map (Value.int .u8)).toArray) 7 (tab64.map (Value.int .u8)).toArray) 1 (Lib.pow10Tab.map (Value.int .u64)).toArray)
      8 opVals) 3 (tabAcc.map (Value.int .u8)).toArray) 2 (Pinned.utf8FirstZ.map fun (n : Nat) => Value.int .u8 (n : Int)).toArray)
      4 #[.iface 171 (.pointer (some ⟨low, 0, none⟩))]) 5 #[.iface 171 (.pointer (some ⟨low + 1, 0, none⟩))] }
theorem laid_met (os : Os) (args : Array Value) : laidMet Tryz.prog laid ((laidWorld os).forCall (fun _ _ => 0) ⟨#[], args, []⟩).memory :=
  laidMet_of_run' 8 (by kernel_rfl) (by kernel_rfl)
end Ar
end Go.Proofs.YtlggpefmojacoaaGreatDoor
end
section
namespace Go.Proofs.YtlggpefmojacoaaGreatDoor
open Go.ChangeShapes Go.WideShapes Go.ChangeAt Go.RowKit Tx
namespace Ar

set_option maxRecDepth 100000 in
theorem rblanks_contract (H : Type) (enc : TypeId × Value → H) (W : World) (base : Nat) (args : Array Value) (ds gs : List (DataW H)) (before : List MemPlace)
    (hval : ∀ (j : Nat) t v, Tryz.f7.params[j]? = some t → args[j]? = some v → Value.okWide Tryz.prog W .any base t v)
    (hW : DataW.Whole enc Tryz.prog Tryz.f7.params.toList Rows.arithBlanksSpec.vars false W args.toList ds gs before)
    (hsz : (DataW.weightsEach Tryz.prog (Tryz.f7.params.toList ++ (OpenSpec.ofChange Rows.arithBlanksSpec).bare.plain.varTypes Tryz.prog) (ds ++ gs)).all (· ≤ reachBytes) = true)
    (hL : laidMetH Tryz.prog Rows.arithBlanksRow.laid W) (hsh : W.ShapedOpen Tryz.prog) :
    Calls Tryz.prog 7 args W fun e W' => ∃ v, e = .returned v ∧ Rows.arithBlanksSpec.post enc Tryz.prog Tryz.f7 false true false false W args v W' := by
  have hW' := hW
  obtain ⟨p, q, hA0, hV, rfl, hfz, hnd⟩ := hW
  obtain ⟨rfl, rfl⟩ := trodVars_none hV
  have hA : DataW.TrodAll enc Tryz.prog W 0 (fun _ => true) true Tryz.f7.params.toList args.toList ds p := hA0
  rw [Tryz.params7] at hA hval hsz
  obtain ⟨v0, vs0, d0, ds0, p0, q0, hargs, rfl, rfl, h0, r0⟩ := trodAll_cons hA
  obtain ⟨v1, vs1, d1, ds1, p1, q1, rfl, rfl, rfl, h1, r1⟩ := trodAll_cons r0
  obtain ⟨rfl, rfl, rfl⟩ := trodAll_nil r1
  obtain rfl : args = #[v0, v1] := by cases args; simp_all
  obtain ⟨A, n, k, rfl, hl, hn⟩ := open_bytes (hval 0 28 v0 rfl rfl) h0
  obtain ⟨m, rfl, rfl, rfl, hm⟩ := open_int Tryz.underlying5 (hval 1 5 v1 rfl rfl) h1
  obtain ⟨m0, m1⟩ := wf_u8 hm
  obtain ⟨m, rfl⟩ := Int.eq_ofNat_of_zero_le m0
  refine (blanks_any A n k m W (kt_of hL hsh) hl hn (by omega)).mono fun e W' ⟨he, hb⟩ => ?_
  subst he
  exact ⟨_, rfl, Law.post laidOut (by kernel_rfl) (by kernel_rfl) Tryz.underlying4 rfl rfl hW' hb⟩

theorem rblanks_laid_met (os : Os) : laidMet Tryz.prog Rows.arithBlanksRow.laid ((laidWorld os).forCall (fun _ _ => 0) ⟨#[], #[Value.slice none 0 0, Value.int .u8 0], []⟩).memory :=
  laid_met os _
theorem rblanks_reads (os : Os) {H : Type} (enc : TypeId × Value → H) : ∃ places, DataW.whole enc Tryz.prog ((laidWorld os).forCall (fun _ _ => 0) ⟨#[], #[Value.slice none 0 0, Value.int .u8 0], []⟩).memory Tryz.f7.params.toList Rows.arithBlanksSpec.vars false #[Value.slice none 0 0, Value.int .u8 0].toList 8 = some ([.nil, .lit (.int .u8 0)], [], places) :=
  ⟨[], by kernel_rfl⟩

set_option maxRecDepth 100000 in
theorem rblanks_lifted (os : Os) (started : os.Started) (H : Type) (enc : TypeId × Value → H) (F : Stop.Interp) :
    ReturnsInHanded {} Tryz.checked os 7 .any ((OpenSpec.ofChange Rows.arithBlanksSpec).preRow enc Tryz.prog Tryz.f7 Rows.arithBlanksRow.domain false Rows.arithBlanksRow.laid)
      (((OpenSpec.ofChange Rows.arithBlanksSpec).at F).post enc Tryz.prog Tryz.f7 false true false false) := by
  obtain ⟨places, hx⟩ := rblanks_reads os enc
  refine returnsInHanded_of_row (C := Tryz.checked) (s := OpenSpec.ofChange Rows.arithBlanksSpec) own started (by kernel_rfl) Tryz.func7
    (witness_row_at (enc := enc) (C := Tryz.checked) false (laidWorld os) #[Value.slice none 0 0, Value.int .u8 0] rfl (by kernel_rfl) (by kernel_rfl) (by kernel_rfl)
      (OpenSpec.preRow_of_cond 8 hx (by kernel_rfl) (fun k hk => by cases hk) (by kernel_rfl) (rblanks_laid_met os))) ?_
  intro W base args ds gs before hval hW _ _ hsz hL hsh _
  exact rblanks_contract H enc W base args ds gs before hval hW hsz hL hsh

theorem rblanks_said : Rows.ArithBlanksSaid :=
  OpenClaim.holds_of_cond 7 Tryz.f7 rfl rfl rfl rfl rfl rfl rfl ⟨rfl, rfl, rfl, rfl, rfl⟩ rfl rfl rfl rfl rfl (by kernel_rfl) Tryz.func7 (by kernel_rfl)
    (of_decide_eq_true (by kernel_rfl)) (by unfold Func.isWrapper; first | (rw [if_pos (by decide +kernel)]; kernel_rfl) | (rw [if_neg (by decide +kernel)]; exact ⟨rfl, rfl⟩))
    (fun os started H enc _ F => by rw [OpenClaim.pre_eq_preRow]; exact rblanks_lifted os started H enc F)

theorem rblanks_plain (f : FuncId) (fn : Func) (hf : Tryz.pinned.checked.prog.funcNamed "scullion/scullionlaw13.ArithBlanks" = some f) (hfn : Tryz.pinned.checked.prog.funcs[f]? = some fn) :
    true = Tryz.pinned.checked.prog.looks [] ∧ ∀ (j : Nat) t, fn.params[j]? = some t → Tryz.pinned.checked.prog.wantsStandIn t = false := by
  obtain rfl : f = 7 := Option.some.inj ((show Tryz.prog.funcNamed "scullion/scullionlaw13.ArithBlanks" = some 7 by kernel_rfl).symm.trans hf) |>.symm
  obtain rfl : fn = Tryz.f7 := (Option.some.inj (Tryz.func7.symm.trans hfn)).symm
  refine ⟨by kernel_rfl, fun j t ht => ?_⟩
  rw [Tryz.params7] at ht
  have hm := Array.mem_of_getElem? ht
  simp at hm
  rcases hm with rfl | rfl
  · exact (show Tryz.prog.wantsStandIn 28 = false by kernel_rfl)
  · exact (show Tryz.prog.wantsStandIn 5 = false by kernel_rfl)

/-- THE CARD. -/
theorem rblanks_card : Rows.ArithBlanksCardSaid :=
  Claim7.holds_tied_plain_at .later [] _ _ _ _ rblanks_said (fun _ h => by cases h) (by kernel_rfl) (fun _ h => by cases h) arithBlanks_row_tie rfl ⟨rfl, rfl⟩ (by kernel_rfl) rfl rblanks_plain (by kernel_rfl)
end Ar
end Go.Proofs.YtlggpefmojacoaaGreatDoor
end
