/-
  Parts of the proof, merged.
-/
import Derived.Test.YtahjonfmhejoeaaGreatDoorVa02
import Derived.Test.YtahjonfmhejoeaaGreatDoorVa05
import Derived.Test.YtahjonfmhejoeaaGreatDoorVa18
namespace Go.Proofs.YtahjonfmhejoeaaGreatDoor
section
namespace Sy
open Lx
open Wx (Pt parts wt cnt nameL)
def wWs (l : List (List Pt)) : Nat := (l.map fun p => 1 + wt p).sum
def wAs (l : List (List UInt8 × List Pt)) : Nat := (l.map fun p => 1 + wt p.2).sum
mutual
def wN : Nd → Nat
 | .mk _ _ _ ws gs rs os ks => 1 + wWs ws + wAs gs + wAs rs + os.length + wL ks
def wL : List Nd → Nat
 | [] => 0
 | k :: l => wN k + wL l
end
theorem wN_mk (k : Int) (q : Bool) (n : List UInt8) (ws : List (List Pt)) (gs rs : List (List UInt8 × List Pt)) (os : List (List UInt8)) (ks : List Nd) : wN (.mk k q n ws gs rs os ks) = 1 + wWs ws + wAs gs + wAs rs + os.length + wL ks := by rw [wN]
theorem wL_nil : wL [] = 0 := by rw [wL]
theorem wL_cons (k : Nd) (l : List Nd) : wL (k :: l) = wN k + wL l := by rw [wL]
theorem wL_snoc (l : List Nd) (k : Nd) : wL (l ++ [k]) = wL l + wN k := by
 induction l with
 | nil => rw [List.nil_append, wL_cons, wL_nil]; omega
 | cons x l ih => rw [List.cons_append, wL_cons, wL_cons, ih]; omega
theorem wWs_snoc (l : List (List Pt)) (p : List Pt) : wWs (l ++ [p]) = wWs l + (1 + wt p) := by simp [wWs]
theorem wAs_snoc (l : List (List UInt8 × List Pt)) (p : List UInt8 × List Pt) : wAs (l ++ [p]) = wAs l + (1 + wt p.2) := by simp [wAs]
theorem wWs_nil : wWs [] = 0 := rfl
theorem wAs_nil : wAs [] = 0 := rfl
def wT (ts : List Tok) : Nat := (ts.map fun t => 2 * t.text.length + 2).sum
theorem wT_cons (t : Tok) (r : List Tok) : wT (t :: r) = 2 * t.text.length + 2 + wT r := by simp [wT]
theorem wT_tail (ts : List Tok) : wT ts.tail ≤ wT ts := by
 cases ts with
 | nil => exact Nat.le_refl _
 | cons t r => rw [wT_cons, List.tail_cons]; omega
theorem wT_lines (ts : List Tok) : wT (lines ts) ≤ wT ts := by
 unfold lines
 induction ts with
 | nil => exact Nat.le_refl _
 | cons t r ih =>
   rw [List.dropWhile_cons]
   split
   · rw [wT_cons]; omega
   · exact Nat.le_refl _
theorem wT_is {k : Int} {x : List UInt8} {ts : List Tok} (h : isT k x ts = true) : wT ts.tail + (2 * x.length + 2) ≤ wT ts := by
 cases ts with
 | nil => cases h
 | cons t r =>
   have h : (t.kind == k && t.text == x) = true := h
   rw [Bool.and_eq_true, beq_iff_eq, beq_iff_eq] at h
   rw [wT_cons, List.tail_cons, h.2]; omega
theorem wT_word {ts : List Tok} (h : wordT ts = true) : wT ts.tail + (2 * (textT ts).length + 2) ≤ wT ts := by
 cases ts with
 | nil => cases h
 | cons t r => rw [wT_cons, List.tail_cons]; show _ + (2 * t.text.length + 2) ≤ _; omega
theorem wT_parts {ts : List Tok} {l : List Pt} {r : List Tok} (h : partsT ts = .ok (l, r)) : 1 + wt l + wT r + 1 ≤ wT ts := by
 cases ts with
 | nil => cases h
 | cons t s =>
   have h : (if t.kind = 0 then (parts 30 t.text).map fun l => (l, s) else .error 100) = .ok (l, r) := h
   split at h
   · cases hp : parts 30 t.text with
     | error e => rw [hp] at h; cases h
     | ok x =>
       rw [hp] at h
       cases h
       have := Wx.parts_wt 30 _ _ hp
       rw [wT_cons]; omega
   · cases h
def Wn (P : List Tok → R Nd) (c : Nat) : Prop := ∀ ts v r, P ts = .ok (v, r) → wN v + wT r ≤ wT ts + c
theorem Wn.zero {P : List Tok → R Nd} (h : Wn P 0) {ts : List Tok} {v : Nd} {r : List Tok} (hp : P ts = .ok (v, r)) : wN v + wT r ≤ wT ts := h ts v r hp
theorem pipeF_wt {c : List Tok → R Nd} (hc : Wn c 0) : ∀ (n : Nat) (ks : List Nd) (ts : List Tok) (v : List Nd) (r : List Tok), pipeF c n ks ts = .ok (v, r) → v.length + wL v + wT r ≤ ks.length + wL ks + wT ts ∧ wL ks ≤ wL v
 | 0, _, _, _, _, h => by cases h
 | n + 1, ks, ts, v, r, h => by
   rw [pipeF] at h
   split at h
   · rename_i ht
     cases hk : c (lines ts.tail) with
     | error e => rw [hk] at h; cases h
     | ok x =>
       rw [hk] at h
       have h1 := pipeF_wt hc n _ _ _ _ h
       have h2 := hc.zero hk
       have := wT_lines ts.tail
       have := wT_is ht
       rw [wL_snoc, List.length_append, List.length_singleton] at h1
       simp only [List.length_singleton] at this
       omega
   · cases h; exact ⟨Nat.le_refl _, Nat.le_refl _⟩
theorem pipe_wt {c : List Tok → R Nd} (hc : Wn c 0) : Wn (pipe c) 0 := by
 intro ts v r h
 unfold pipe at h
 cases hk : c (if isT 0 [33] ts = true then ts.tail else ts) with
 | error e => rw [hk] at h; cases h
 | ok x =>
   rw [hk] at h
   dsimp only at h
   have h1 := hc.zero hk
   cases hp : pipeF c (x.2.length + 1) [x.1] x.2 with
   | error e => rw [hp] at h; cases h
   | ok z =>
     rw [hp] at h
     dsimp only at h
     have h2 := pipeF_wt hc _ _ _ z.1 z.2 hp
     rw [wL_cons, wL_nil, List.length_singleton] at h2
     have h5 : z.1.length ≠ 0 := by
       intro e
       have : ∀ (n : Nat) (ks : List Nd) (ts : List Tok) (v : List Nd) (r : List Tok), pipeF c n ks ts = .ok (v, r) → ks.length ≤ v.length := by
         intro n
         induction n with
         | zero => intro ks ts v r h; cases h
         | succ n ih =>
           intro ks ts v r h
           rw [pipeF] at h
           split at h
           · cases hk : c (lines ts.tail) with
             | error e => rw [hk] at h; cases h
             | ok x => rw [hk] at h; have := ih _ _ _ _ h; rw [List.length_append] at this; omega
           · cases h; exact Nat.le_refl _
       have := this _ _ _ _ _ hp
       rw [List.length_singleton] at this
       omega
     by_cases hn : isT 0 [33] ts = true
     · have h3 := wT_is hn
       rw [if_pos hn] at h1
       rw [if_neg (by rw [hn]; simp)] at h
       cases h
       rw [wN_mk, wWs_nil, wAs_nil]
       simp only [List.length_nil, List.length_singleton] at *
       omega
     · rw [if_neg hn] at h1
       split at h
       · cases h
         rename_i h6
         omega
       · rename_i h6
         have : z.1.length ≠ 1 := fun e => h6 ⟨e, by simpa using hn⟩
         cases h
         rw [wN_mk, wWs_nil, wAs_nil]
         simp only [List.length_nil] at *
         omega
theorem andOrF_wt {c : List Tok → R Nd} (hc : Wn c 0) : ∀ (n : Nat) (os : List (List UInt8)) (ks : List Nd) (ts : List Tok) (v : List (List UInt8) × List Nd) (r : List Tok), andOrF c n os ks ts = .ok (v, r) → 2 * v.1.length + wL v.2 + wT r ≤ 2 * os.length + wL ks + wT ts ∧ wL ks ≤ wL v.2
 | 0, _, _, _, _, _, h => by cases h
 | n + 1, os, ks, ts, v, r, h => by
   rw [andOrF] at h
   split at h
   · rename_i ht
     cases hk : c (lines ts.tail) with
     | error e => rw [hk] at h; cases h
     | ok x =>
       rw [hk] at h
       have h1 := andOrF_wt hc n _ _ _ _ _ h
       have h2 := hc.zero hk
       have := wT_lines ts.tail
       rw [wL_snoc, List.length_append, List.length_singleton] at h1
       have h4 : wT ts.tail + 6 ≤ wT ts := by
         rw [Bool.or_eq_true] at ht
         rcases ht with ht | ht <;> exact wT_is ht
       omega
   · cases h; exact ⟨Nat.le_refl _, Nat.le_refl _⟩
theorem andOr_wt {c : List Tok → R Nd} (hc : Wn c 0) : Wn (andOr c) 0 := by
 intro ts v r h
 unfold andOr at h
 cases hk : c ts with
 | error e => rw [hk] at h; cases h
 | ok x =>
   rw [hk] at h
   dsimp only at h
   have h1 := hc.zero hk
   cases hp : andOrF c (x.2.length + 1) [] [x.1] x.2 with
   | error e => rw [hp] at h; cases h
   | ok z =>
     rw [hp] at h
     dsimp only at h
     have h2 := andOrF_wt hc _ _ _ _ z.1 z.2 hp
     rw [wL_cons, wL_nil, List.length_nil] at h2
     split at h
     · cases h; omega
     · rename_i hne
       have : z.1.1.length ≠ 0 := fun e => hne (by rw [List.eq_nil_of_length_eq_zero e]; rfl)
       cases h
       rw [wN_mk, wWs_nil, wAs_nil]
       omega
theorem listF_wt {c : List Tok → R Nd} (hc : Wn c 0) : ∀ (n : Nat) (ks : List Nd) (ts : List Tok) (v : List Nd) (r : List Tok), listF c n ks ts = .ok (v, r) → wL v + wT r ≤ wL ks + wT ts
 | 0, _, _, _, _, h => by cases h
 | n + 1, ks, ts, v, r, h => by
   rw [listF] at h
   split at h
   · cases h; exact Nat.le_refl _
   · cases hk : c ts with
     | error e => rw [hk] at h; cases h
     | ok x =>
       rw [hk] at h
       dsimp only at h
       have h2 := hc.zero hk
       split at h
       · have h1 := listF_wt hc n _ _ _ _ h
         have := wT_lines x.2.tail
         have := wT_tail x.2
         rw [wL_snoc] at h1
         omega
       · split at h
         · have h1 := listF_wt hc n _ _ _ _ h
           have := wT_lines x.2
           rw [wL_snoc] at h1
           omega
         · cases h
           rw [wL_snoc]; omega
theorem wN_list (l : List Nd) : wN (listN l) = 1 + wL l := by
 unfold listN
 rw [wN_mk, wWs_nil, wAs_nil]
 simp
theorem list_wt {c : List Tok → R Nd} (hc : Wn c 0) (e : Bool) : Wn (list c e) 1 := by
 intro ts v r h
 unfold list at h
 cases hp : listF c (ts.length + 1) [] (lines ts) with
 | error e => rw [hp] at h; cases h
 | ok z =>
   rw [hp] at h
   dsimp only at h
   have h2 := listF_wt hc _ _ _ z.1 z.2 hp
   have := wT_lines ts
   rw [wL_nil] at h2
   split at h
   · cases h
   · cases h
     rw [wN_list]; omega
theorem upTo_wt {k : Int} {t : List UInt8} {x : R Nd} {v : Nd} {r : List Tok} (h : upTo k t x = .ok (v, r)) {n : Nat} (hx : ∀ v r, x = .ok (v, r) → wN v + wT r ≤ n) : wN v + wT r + (2 * t.length + 2) ≤ n := by
 obtain ⟨r0, h1, h2, rfl⟩ := upTo_ok h
 have := wT_is h2
 have := hx _ _ h1
 omega
section
variable {L : Bool → List Tok → R Nd} (hL : ∀ e, Wn (L e) 1)
include hL
theorem body_wt {ts : List Tok} {v : Nd} {r : List Tok} (h : body L ts = .ok (v, r)) : wN v + wT r + 14 ≤ wT ts := by
 unfold body at h
 split at h
 · rename_i ht
   have := upTo_wt h (n := wT ts.tail + 1) fun v r hh => hL _ _ _ _ hh
   have := wT_is ht
   have e1 : kDone.length = 4 := rfl
   have e2 : kDo.length = 2 := rfl
   omega
 · cases h
theorem loop_wt : Wn (loop L) 0 := by
 intro ts v r h
 unfold loop at h
 obtain ⟨u, s, h1, h2⟩ := andThen_ok h
 obtain ⟨u2, s2, h3, h4⟩ := andThen_ok h2
 cases h4
 have := hL _ _ _ _ h1
 have := body_wt hL h3
 have := wT_tail ts
 rw [wN_mk, wWs_nil, wAs_nil, wL_cons, wL_cons, wL_nil]
 simp only [List.length_nil]
 omega
theorem branch_wt {b : List Tok → R Nd} (hb : Wn b 0) : Wn (branch L b) 0 := by
 intro ts v r h
 unfold branch at h
 obtain ⟨u, s, h1, h2⟩ := andThen_ok h
 obtain ⟨u2, s2, h3, h4⟩ := andThen_ok h2
 have a1 := upTo_wt h1 (n := wT ts + 1) fun v r hh => hL _ _ _ _ hh
 have e1 : kThen.length = 4 := rfl
 rw [e1] at a1
 have a2 := hL _ _ _ _ h3
 have a3 := wT_tail s2
 split at h4
 · obtain ⟨u3, s3, h5, h6⟩ := andThen_ok h4
   cases h6
   have := hb.zero h5
   rw [wN_mk, wWs_nil, wAs_nil, wL_cons, wL_cons, wL_cons, wL_nil, wN_list, wL_cons, wL_nil]
   simp only [List.length_nil]
   omega
 · split at h4
   · obtain ⟨u3, s3, h5, h6⟩ := andThen_ok h4
     cases h6
     have := hL _ _ _ _ h5
     rw [wN_mk, wWs_nil, wAs_nil, wL_cons, wL_cons, wL_cons, wL_nil]
     simp only [List.length_nil]
     omega
   · cases h4
     rw [wN_mk, wWs_nil, wAs_nil, wL_cons, wL_cons, wL_nil]
     simp only [List.length_nil]
     omega
theorem item_wt : Wn (item L) 0 := by
 intro ts v r h
 unfold item at h
 obtain ⟨u, s, h1, h2⟩ := andThen_ok h
 obtain ⟨u2, s2, h3, h4⟩ := andThen_ok h2
 obtain ⟨u3, s3, h5, h6⟩ := andThen_ok h4
 cases h6
 have a1 := wT_parts h1
 have a4 : wT (if isT 1 [40] ts = true then ts.tail else ts) ≤ wT ts := by split; exact wT_tail ts; exact Nat.le_refl _
 have bars : ∀ (n : Nat) (ws : List (List Pt)) (ts : List Tok) (v : List (List Pt)) (r : List Tok), barsF n ws ts = .ok (v, r) → wWs v + wT r ≤ wWs ws + wT ts := by
   intro n
   induction n with
   | zero => intro _ _ _ _ h; cases h
   | succ n ih =>
     intro ws ts v r h
     rw [barsF] at h
     split at h
     · cases hp : partsT ts.tail with
       | error e => rw [hp] at h; cases h
       | ok x =>
         rw [hp] at h
         have h9 := ih _ _ _ _ h
         have := wT_parts hp
         have := wT_tail ts
         rw [wWs_snoc] at h9
         omega
     · cases h; exact Nat.le_refl _
 obtain ⟨r0, h7, h8, rfl⟩ := upTo_ok h3
 have a2 := bars _ _ _ _ _ h7
 have a5 := wT_is h8
 have a3 := hL _ _ _ _ h5
 have e1 : wWs [u] = 1 + wt u := by simp [wWs]
 rw [wN_mk, wAs_nil, wL_cons, wL_nil]
 simp only [List.length_nil, List.length_singleton] at *
 omega
theorem itemsF_wt : ∀ (n : Nat) (ks : List Nd) (ts : List Tok) (v : List Nd) (r : List Tok), itemsF L n ks ts = .ok (v, r) → wL v + wT r ≤ wL ks + wT ts
 | 0, _, _, _, _, h => by cases h
 | n + 1, ks, ts, v, r, h => by
   rw [itemsF] at h
   split at h
   · cases h; have := wT_tail ts; omega
   · cases hk : item L ts with
     | error e => rw [hk] at h; cases h
     | ok x =>
       rw [hk] at h
       dsimp only at h
       have h2 := (item_wt hL).zero hk
       split at h
       · have h1 := itemsF_wt n _ _ _ _ h
         have := wT_lines x.2.tail
         have := wT_tail x.2
         rw [wL_snoc] at h1
         omega
       · split at h
         · have h1 := itemsF_wt n _ _ _ _ h
           have := wT_lines x.2
           rw [wL_snoc] at h1
           omega
         · cases h
theorem cases_wt : Wn (cases L) 0 := by
 intro ts v r h
 unfold cases at h
 obtain ⟨u, s, h1, h2⟩ := andThen_ok h
 have a1 := wT_parts h1
 split at h2
 · rename_i ht
   obtain ⟨u2, s2, h3, h4⟩ := andThen_ok h2
   cases h4
   have := itemsF_wt hL _ _ _ _ _ h3
   have := wT_lines (lines s).tail
   have := wT_is ht
   have := wT_lines s
   have e1 : wWs [u] = 1 + wt u := by simp [wWs]
   rw [wN_mk, wAs_nil]
   rw [wL_nil] at *
   simp only [List.length_nil] at *
   omega
 · cases h2
theorem each_wt : Wn (each L) 0 := by
 intro ts v r h
 unfold each at h
 split at h
 · cases h
 have words : ∀ (n : Nat) (ws : List (List Pt)) (ts : List Tok) (v : List (List Pt)) (r : List Tok), wordsF n ws ts = .ok (v, r) → wWs v + wT r ≤ wWs ws + wT ts := by
   intro n
   induction n with
   | zero => intro _ _ _ _ h; cases h
   | succ n ih =>
     intro ws ts v r h
     rw [wordsF] at h
     split at h
     · cases hp : partsT ts with
       | error e => rw [hp] at h; cases h
       | ok x =>
         rw [hp] at h
         have h9 := ih _ _ _ _ h
         have := wT_parts hp
         rw [wWs_snoc] at h9
         omega
     · cases h; exact Nat.le_refl _
 have := wT_lines ts.tail
 have := wT_tail ts
 have := wT_tail (lines ts.tail)
 split at h
 · rename_i ht
   obtain ⟨u, s, h1, h2⟩ := andThen_ok h
   have a1 := words _ _ _ _ _ h1
   split at h2
   · obtain ⟨u2, s2, h3, h4⟩ := andThen_ok h2
     cases h4
     have a2 := body_wt hL h3
     have := wT_lines (if isT 1 [59] s = true then s.tail else s)
     have : wT (if isT 1 [59] s = true then s.tail else s) ≤ wT s := by split; exact wT_tail s; exact Nat.le_refl _
     rw [wN_mk, wAs_nil, wL_cons, wL_nil]
     rw [wWs_nil] at a1
     simp only [List.length_singleton] at *
     omega
   · cases h2
 · obtain ⟨u2, s2, h3, h4⟩ := andThen_ok h
   cases h4
   have a2 := body_wt hL h3
   have := wT_lines (if isT 1 [59] (lines ts.tail) = true then (lines ts.tail).tail else lines ts.tail)
   have : wT (if isT 1 [59] (lines ts.tail) = true then (lines ts.tail).tail else lines ts.tail) ≤ wT (lines ts.tail) := by split; exact wT_tail _; exact Nat.le_refl _
   rw [wN_mk, wAs_nil, wL_cons, wL_nil, wWs_nil]
   simp only [List.length_nil] at *
   omega
end
theorem redirect_wt {ts : List Tok} {v : List UInt8 × List Pt} {r : List Tok} (h : redirect ts = .ok (v, r)) : 1 + wt v.2 + wT r + 1 ≤ wT ts := by
 unfold redirect at h
 obtain ⟨u, s, h1, h2⟩ := andThen_ok h
 cases h2
 have := wT_parts h1
 have := wT_tail ts
 dsimp only
 omega
theorem redirsF_wt : ∀ (n : Nat) (rs : List (List UInt8 × List Pt)) (ts : List Tok) (v : List (List UInt8 × List Pt)) (r : List Tok), redirsF n rs ts = .ok (v, r) → wAs v + wT r ≤ wAs rs + wT ts
 | 0, _, _, _, _, h => by cases h
 | n + 1, rs, ts, v, r, h => by
   rw [redirsF] at h
   split at h
   · cases hp : redirect ts with
     | error e => rw [hp] at h; cases h
     | ok x =>
       rw [hp] at h
       have h9 := redirsF_wt n _ _ _ _ h
       have := redirect_wt hp
       rw [wAs_snoc] at h9
       omega
   · cases h; exact Nat.le_refl _
theorem simpleF_wt : ∀ (n : Nat) (s : Sm) (ts : List Tok) (v : Sm) (r : List Tok), simpleF n s ts = .ok (v, r) → wWs v.words + wAs v.assigns + wAs v.redirs + wT r + 1 ≤ wWs s.words + wAs s.assigns + wAs s.redirs + wT ts ∨ v = s ∧ r = ts
 | 0, _, _, _, _, h => by cases h
 | n + 1, s, ts, v, r, h => by
   rw [simpleF] at h
   split at h
   · cases hp : redirect ts with
     | error e => rw [hp] at h; cases h
     | ok x =>
       rw [hp] at h
       have a := redirect_wt hp
       left
       rcases simpleF_wt n _ _ _ _ h with h9 | ⟨h9, rfl⟩
       · dsimp only at h9
         rw [wAs_snoc] at h9
         omega
       · subst h9
         dsimp only
         rw [wAs_snoc]
         omega
   · split at h
     · rename_i hw
       split at h
       · cases hp : parts 30 ((textT ts).drop (nameL (textT ts) + 1)) with
         | error e => rw [hp] at h; cases h
         | ok x =>
           rw [hp] at h
           have a := wT_word hw
           have b := Wx.parts_wt 30 _ _ hp
           rw [List.length_drop] at b
           left
           rcases simpleF_wt n _ _ _ _ h with h9 | ⟨h9, rfl⟩
           · dsimp only at h9
             rw [wAs_snoc] at h9
             dsimp only at h9
             omega
           · subst h9
             dsimp only
             rw [wAs_snoc]
             dsimp only
             omega
       · cases hp : partsT ts with
         | error e => rw [hp] at h; cases h
         | ok x =>
           rw [hp] at h
           have a := wT_parts hp
           left
           rcases simpleF_wt n _ _ _ _ h with h9 | ⟨h9, rfl⟩
           · dsimp only at h9
             rw [wWs_snoc] at h9
             omega
           · subst h9
             dsimp only
             rw [wWs_snoc]
             omega
     · cases h; exact .inr ⟨rfl, rfl⟩
theorem simple_wt : Wn simple 0 := by
 intro ts v r h
 unfold simple at h
 obtain ⟨u, s, h1, h2⟩ := andThen_ok h
 split at h2
 · cases h2
 · rename_i hne
   cases h2
   rw [wN_mk, wL_nil]
   rcases simpleF_wt _ _ _ _ _ h1 with h3 | ⟨h3, _⟩
   · rw [wWs_nil, wAs_nil] at h3
     simp only [List.length_nil]
     omega
   · rw [h3] at hne
     exact absurd rfl hne
theorem wN_with (n : Nd) (rs : List (List UInt8 × List Pt)) : wN (withRedirs n rs) ≤ wN n + wAs rs := by
 cases n with
 | mk k q nm ws gs r os ks =>
   show wN (.mk k q nm ws gs rs os ks) ≤ _
   rw [wN_mk, wN_mk]
   omega
theorem fun_wt {ts : List Tok} (h : funT ts = true) : wT (ts.drop 3) + 6 ≤ wT ts := by
 match ts, h with
 | a :: b :: c :: r, h =>
   rw [wT_cons, wT_cons, wT_cons]
   show wT r + 6 ≤ _
   omega
theorem commandF_wt {c b : List Tok → R Nd} (hc : Wn c 0) (hb : Wn b 0) : Wn (commandF c b) 0 := by
 have hL : ∀ e, Wn (list (andOr (pipe c)) e) 1 := fun e => list_wt (andOr_wt (pipe_wt hc)) e
 intro ts v r h
 unfold commandF at h
 cases hx : construct c b ts with
 | some x =>
   rw [hx] at h
   dsimp only at h
   obtain ⟨u, s, h1, h2⟩ := andThen_ok h
   obtain ⟨u2, s2, h3, h4⟩ := andThen_ok h2
   cases h4
   have a1 := redirsF_wt _ _ _ _ _ h3
   rw [wAs_nil] at a1
   have a2 := wN_with u u2
   subst h1
   have key : wN u + wT s ≤ wT ts := by
     have hin : ∀ (k : Int) (t : List UInt8) (kk : Int), 1 ≤ t.length → andThen (upTo k t (list (andOr (pipe c)) false ts.tail)) (fun l r => Except.ok (Nd.mk kk false [] [] [] [] [] [l], r)) = .ok (u, s) → wN u + wT s ≤ wT ts := by
       intro k t kk ht h
       obtain ⟨u3, s3, h5, h6⟩ := andThen_ok h
       cases h6
       have := upTo_wt h5 (n := wT ts.tail + 1) fun v r hh => hL _ _ _ _ hh
       have := wT_tail ts
       rw [wN_mk, wWs_nil, wAs_nil, wL_cons, wL_nil]
       simp only [List.length_nil]
       omega
     have hb2 := wT_tail ts
     unfold construct at hx
     dsimp only at hx
     split at hx
     · exact hin _ _ _ (by decide) (Option.some.inj hx)
     split at hx
     · exact hin _ _ _ (by decide) (Option.some.inj hx)
     split at hx
     · have := upTo_wt (Option.some.inj hx) (n := wT ts.tail) fun v r hh => (branch_wt hL hb).zero hh
       omega
     split at hx
     · exact (loop_wt hL).zero (Option.some.inj hx)
     split at hx
     · have := (each_wt hL).zero (Option.some.inj hx)
       omega
     split at hx
     · have := (cases_wt hL).zero (Option.some.inj hx)
       omega
     · cases hx
   omega
 | none =>
   rw [hx] at h
   dsimp only at h
   split at h
   · cases h
   split at h
   · rename_i hf
     unfold define at h
     obtain ⟨u, s, h1, h2⟩ := andThen_ok h
     split at h2
     · cases h2
     · cases h2
       have := hc.zero h1
       have := wT_lines (ts.drop 3)
       have := fun_wt hf
       rw [wN_mk, wWs_nil, wAs_nil, wL_cons, wL_nil]
       simp only [List.length_nil]
       omega
   · exact simple_wt _ _ _ h
theorem both_wt : ∀ d, Wn (both d).1 0 ∧ Wn (both d).2 0
 | 0 => ⟨fun _ _ _ h => (by cases h), fun _ _ _ h => (by cases h)⟩
 | d + 1 => by
   obtain ⟨h1, h2⟩ := both_wt d
   exact ⟨commandF_wt h1 h2, branch_wt (fun e => list_wt (andOr_wt (pipe_wt h1)) e) h2⟩
theorem parse_wt {ts : List Tok} {n : Nd} (h : parse ts = .ok n) : wN n ≤ wT ts + 1 := by
 unfold parse at h
 cases hl : list (andOr (pipe (command 30))) true ts with
 | error e => rw [hl] at h; cases h
 | ok z =>
   rw [hl] at h
   dsimp only at h
   have := list_wt (andOr_wt (pipe_wt (both_wt 30).1)) true ts z.1 z.2 hl
   split at h
   · cases h; omega
   · cases h
theorem wT_glue (ts : List Tok) : wT ts = 2 * (glue ts).length := by
 induction ts with
 | nil => rfl
 | cons t r ih =>
   rw [wT_cons, ih]
   have : glue (t :: r) = t.text ++ [32] ++ glue r := by simp [glue]
   rw [this]
   simp
   omega
theorem goes_wt {l : List UInt8} {ts : List Tok} (h : Goes l ts) {n : Nd} (hp : parse ts = .ok n) : wN n ≤ 4 * l.length + 1 := by
 have := parse_wt hp
 rw [wT_glue] at this
 have := (goes_size h).1
 omega
end Sy
end
section
namespace Sy
open Lx Wx
def Nz {α β : Type} (P : α → Except Int β) : Prop := ∀ s c, P s = .error c → c ≠ 0
theorem braces_nz {w : List UInt8 → Except Int (List Pt)} (hw : Nz w) (q : Bool) : Nz (braces w q) := by
 intro s c h
 unfold braces at h
 split at h
 · cases h
 split at h
 · cases h; decide
 split at h
 · cases h
 split at h
 · cases h; decide
 split at h
 · cases h; decide
 split at h
 · rename_i e he
   cases h
   exact hw _ _ he
 · split at h
   · cases h; decide
   · cases h
theorem map_nz {α β : Type} {x : Except Int α} {f : α → β} {c : Int} (h : x.map f = .error c) : x = .error c := by
 cases x with
 | error e => cases h; rfl
 | ok v => cases h
theorem dollar_nz {w : List UInt8 → Except Int (List Pt)} (hw : Nz w) (q : Bool) : Nz (dollar w q) := by
 intro s c h
 unfold dollar at h
 simp only [] at h
 split at h
 · split at h
   · cases h; decide
   · split at h
     · exact braces_nz hw q _ _ (map_nz h)
     · split at h <;> cases h
 · split at h <;> split at h <;> cases h
theorem step2_nz {w : List UInt8 → Except Int (List Pt)} (hw : Nz w) : Nz (step2 w) := by
 intro s c h
 cases s with
 | nil => cases h; decide
 | cons a r =>
   rw [step2] at h
   split at h
   · exact dollar_nz hw true _ _ h
   · split at h <;> cases h
theorem doubleF_nz {w : List UInt8 → Except Int (List Pt)} (hw : Nz w) : ∀ (n : Nat) (s : List UInt8) (acc : List Pt) (c : Int), doubleF w n s acc = .error c → c ≠ 0
 | _, [], acc, c, h => by rw [doubleF] at h; cases h
 | 0, a :: r, acc, c, h => by rw [doubleF] at h; cases h; decide
 | n + 1, a :: r, acc, c, h => by
   rw [doubleF] at h
   cases hs : step2 w (a :: r) with
   | error e => rw [hs] at h; cases h; exact step2_nz hw _ _ hs
   | ok x => rw [hs] at h; exact doubleF_nz hw n _ _ c h
theorem step1_nz {w : List UInt8 → Except Int (List Pt)} (hw : Nz w) : Nz (step1 w) := by
 intro s c h
 cases s with
 | nil => cases h; decide
 | cons a r =>
   rw [step1] at h
   split at h
   · split at h
     · cases h; decide
     · split at h
       · cases h
       · split at h
         · cases h
         · have h := map_nz h
           unfold double at h
           split at h
           · cases h
           · exact doubleF_nz hw _ _ _ _ h
   · split at h
     · exact dollar_nz hw false _ _ (map_nz h)
     · cases h
theorem partsF_nz {w : List UInt8 → Except Int (List Pt)} (hw : Nz w) : ∀ (n : Nat) (s : List UInt8) (acc : List Pt) (c : Int), partsF w n s acc = .error c → c ≠ 0
 | _, [], acc, c, h => by rw [partsF] at h; cases h
 | 0, a :: r, acc, c, h => by rw [partsF] at h; cases h; decide
 | n + 1, a :: r, acc, c, h => by
   rw [partsF] at h
   cases hs : step1 w (a :: r) with
   | error e => rw [hs] at h; cases h; exact step1_nz hw _ _ hs
   | ok x => rw [hs] at h; exact partsF_nz hw n _ _ c h
theorem parts_nz : ∀ d, Nz (parts d)
 | 0 => fun s c h => by rw [parts] at h; cases h; decide
 | d + 1 => fun s c h => by rw [parts] at h; exact partsF_nz (parts_nz d) _ _ _ c h
theorem andThen_nz {α β : Type} {x : R α} {f : α → List Tok → R β} {c : Int} (h : andThen x f = .error c) (hx : ∀ c, x = .error c → c ≠ 0) (hf : ∀ v r c, f v r = .error c → c ≠ 0) : c ≠ 0 := by
 unfold andThen at h
 cases x with
 | error e => cases h; exact hx _ rfl
 | ok z => exact hf _ _ _ h
theorem upTo_nz {α : Type} {k : Int} {t : List UInt8} {x : R α} {c : Int} (h : upTo k t x = .error c) (hx : ∀ c, x = .error c → c ≠ 0) : c ≠ 0 := by
 unfold upTo at h
 cases x with
 | error e => cases h; exact hx _ rfl
 | ok z =>
   dsimp only at h
   split at h
   · cases h
   · cases h; decide
theorem partsT_nz : Nz partsT := by
 intro ts c h
 cases ts with
 | nil => cases h; decide
 | cons t r =>
   have h : (if t.kind = 0 then (parts 30 t.text).map fun l => (l, r) else .error 100) = .error c := h
   split at h
   · exact parts_nz 30 _ _ (map_nz h)
   · cases h; decide
theorem listF_nz {p : List Tok → R Nd} (hp : Nz p) : ∀ (n : Nat) (acc : List Nd) (ts : List Tok) (c : Int), listF p n acc ts = .error c → c ≠ 0
 | 0, _, _, _, h => by cases h; decide
 | n + 1, acc, ts, c, h => by
   rw [listF] at h
   split at h
   · cases h
   · cases hk : p ts with
     | error e => rw [hk] at h; cases h; exact hp _ _ hk
     | ok x =>
       rw [hk] at h
       dsimp only at h
       split at h
       · exact listF_nz hp n _ _ c h
       · split at h
         · exact listF_nz hp n _ _ c h
         · cases h
theorem list_nz {p : List Tok → R Nd} (hp : Nz p) (e : Bool) : Nz (list p e) := by
 intro ts c h
 unfold list at h
 cases hl : listF p (ts.length + 1) [] (lines ts) with
 | error e => rw [hl] at h; cases h; exact listF_nz hp _ _ _ _ hl
 | ok z =>
   rw [hl] at h
   dsimp only at h
   split at h
   · cases h; decide
   · cases h
theorem andOrF_nz {p : List Tok → R Nd} (hp : Nz p) : ∀ (n : Nat) (os : List (List UInt8)) (ks : List Nd) (ts : List Tok) (c : Int), andOrF p n os ks ts = .error c → c ≠ 0
 | 0, _, _, _, _, h => by cases h; decide
 | n + 1, os, ks, ts, c, h => by
   rw [andOrF] at h
   split at h
   · cases hk : p (lines ts.tail) with
     | error e => rw [hk] at h; cases h; exact hp _ _ hk
     | ok x => rw [hk] at h; exact andOrF_nz hp n _ _ _ c h
   · cases h
theorem andOr_nz {p : List Tok → R Nd} (hp : Nz p) : Nz (andOr p) := by
 intro ts c h
 unfold andOr at h
 cases hk : p ts with
 | error e => rw [hk] at h; cases h; exact hp _ _ hk
 | ok x =>
   rw [hk] at h
   dsimp only at h
   cases hl : andOrF p (x.2.length + 1) [] [x.1] x.2 with
   | error e => rw [hl] at h; cases h; exact andOrF_nz hp _ _ _ _ _ hl
   | ok z => rw [hl] at h; dsimp only at h; split at h <;> cases h
theorem pipeF_nz {p : List Tok → R Nd} (hp : Nz p) : ∀ (n : Nat) (ks : List Nd) (ts : List Tok) (c : Int), pipeF p n ks ts = .error c → c ≠ 0
 | 0, _, _, _, h => by cases h; decide
 | n + 1, ks, ts, c, h => by
   rw [pipeF] at h
   split at h
   · cases hk : p (lines ts.tail) with
     | error e => rw [hk] at h; cases h; exact hp _ _ hk
     | ok x => rw [hk] at h; exact pipeF_nz hp n _ _ c h
   · cases h
theorem pipe_nz {p : List Tok → R Nd} (hp : Nz p) : Nz (pipe p) := by
 intro ts c h
 unfold pipe at h
 cases hk : p (if isT 0 [33] ts = true then ts.tail else ts) with
 | error e => rw [hk] at h; cases h; exact hp _ _ hk
 | ok x =>
   rw [hk] at h
   dsimp only at h
   cases hl : pipeF p (x.2.length + 1) [x.1] x.2 with
   | error e => rw [hl] at h; cases h; exact pipeF_nz hp _ _ _ _ hl
   | ok z => rw [hl] at h; dsimp only at h; split at h <;> cases h
theorem wordsF_nz : ∀ (n : Nat) (ws : List (List Pt)) (ts : List Tok) (c : Int), wordsF n ws ts = .error c → c ≠ 0
 | 0, _, _, _, h => by cases h; decide
 | n + 1, ws, ts, c, h => by
   rw [wordsF] at h
   split at h
   · cases hp : partsT ts with
     | error e => rw [hp] at h; cases h; exact partsT_nz _ _ hp
     | ok x => rw [hp] at h; exact wordsF_nz n _ _ c h
   · cases h
theorem barsF_nz : ∀ (n : Nat) (ws : List (List Pt)) (ts : List Tok) (c : Int), barsF n ws ts = .error c → c ≠ 0
 | 0, _, _, _, h => by cases h; decide
 | n + 1, ws, ts, c, h => by
   rw [barsF] at h
   split at h
   · cases hp : partsT ts.tail with
     | error e => rw [hp] at h; cases h; exact partsT_nz _ _ hp
     | ok x => rw [hp] at h; exact barsF_nz n _ _ c h
   · cases h
section
variable {L : Bool → List Tok → R Nd} (hL : ∀ e, Nz (L e))
include hL
theorem body_nz : Nz (body L) := by
 intro ts c h
 unfold body at h
 split at h
 · exact upTo_nz h fun c h => hL _ _ _ h
 · cases h; decide
theorem branch_nz {b : List Tok → R Nd} (hb : Nz b) : Nz (branch L b) := by
 intro ts c h
 unfold branch at h
 refine andThen_nz h (fun c h => upTo_nz h fun c h => hL _ _ _ h) fun v r c h => andThen_nz h (fun c h => hL _ _ _ h) fun v2 r2 c h => ?_
 split at h
 · exact andThen_nz h (fun c h => hb _ _ h) fun _ _ _ h => by cases h
 · split at h
   · exact andThen_nz h (fun c h => hL _ _ _ h) fun _ _ _ h => by cases h
   · cases h
theorem loop_nz : Nz (loop L) := by
 intro ts c h
 unfold loop at h
 exact andThen_nz h (fun c h => hL _ _ _ h) fun v r c h => andThen_nz h (fun c h => body_nz hL _ _ h) fun _ _ _ h => by cases h
theorem each_nz : Nz (each L) := by
 intro ts c h
 unfold each at h
 split at h
 · cases h; decide
 split at h
 · refine andThen_nz h (fun c h => wordsF_nz _ _ _ _ h) fun v r c h => ?_
   split at h
   · exact andThen_nz h (fun c h => body_nz hL _ _ h) fun _ _ _ h => by cases h
   · cases h; decide
 · exact andThen_nz h (fun c h => body_nz hL _ _ h) fun _ _ _ h => by cases h
theorem item_nz : Nz (item L) := by
 intro ts c h
 unfold item at h
 exact andThen_nz h (fun c h => partsT_nz _ _ h) fun v r c h => andThen_nz h (fun c h => upTo_nz h fun c h => barsF_nz _ _ _ _ h) fun v r c h => andThen_nz h (fun c h => hL _ _ _ h) fun _ _ _ h => by cases h
theorem itemsF_nz : ∀ (n : Nat) (ks : List Nd) (ts : List Tok) (c : Int), itemsF L n ks ts = .error c → c ≠ 0
 | 0, _, _, _, h => by cases h; decide
 | n + 1, ks, ts, c, h => by
   rw [itemsF] at h
   split at h
   · cases h
   · cases hk : item L ts with
     | error e => rw [hk] at h; cases h; exact item_nz hL _ _ hk
     | ok x =>
       rw [hk] at h
       dsimp only at h
       split at h
       · exact itemsF_nz n _ _ c h
       · split at h
         · exact itemsF_nz n _ _ c h
         · cases h; decide
theorem cases_nz : Nz (cases L) := by
 intro ts c h
 unfold cases at h
 refine andThen_nz h (fun c h => partsT_nz _ _ h) fun v r c h => ?_
 split at h
 · exact andThen_nz h (fun c h => itemsF_nz hL _ _ _ _ h) fun _ _ _ h => by cases h
 · cases h; decide
end
theorem redirect_nz : Nz redirect := by
 intro ts c h
 unfold redirect at h
 exact andThen_nz h (fun c h => partsT_nz _ _ h) fun _ _ _ h => by cases h
theorem redirsF_nz : ∀ (n : Nat) (rs : List (List UInt8 × List Pt)) (ts : List Tok) (c : Int), redirsF n rs ts = .error c → c ≠ 0
 | 0, _, _, _, h => by cases h; decide
 | n + 1, rs, ts, c, h => by
   rw [redirsF] at h
   split at h
   · cases hp : redirect ts with
     | error e => rw [hp] at h; cases h; exact redirect_nz _ _ hp
     | ok x => rw [hp] at h; exact redirsF_nz n _ _ c h
   · cases h
theorem simpleF_nz : ∀ (n : Nat) (s : Sm) (ts : List Tok) (c : Int), simpleF n s ts = .error c → c ≠ 0
 | 0, _, _, _, h => by cases h; decide
 | n + 1, s, ts, c, h => by
   rw [simpleF] at h
   split at h
   · cases hp : redirect ts with
     | error e => rw [hp] at h; cases h; exact redirect_nz _ _ hp
     | ok x => rw [hp] at h; exact simpleF_nz n _ _ c h
   · split at h
     · split at h
       · cases hp : parts 30 ((textT ts).drop (nameL (textT ts) + 1)) with
         | error e => rw [hp] at h; cases h; exact parts_nz 30 _ _ hp
         | ok x => rw [hp] at h; exact simpleF_nz n _ _ c h
       · cases hp : partsT ts with
         | error e => rw [hp] at h; cases h; exact partsT_nz _ _ hp
         | ok x => rw [hp] at h; exact simpleF_nz n _ _ c h
     · cases h
theorem simple_nz : Nz simple := by
 intro ts c h
 unfold simple at h
 refine andThen_nz h (fun c h => simpleF_nz _ _ _ _ h) fun v r c h => ?_
 split at h
 · cases h; decide
 · cases h
theorem commandF_nz {c b : List Tok → R Nd} (hc : Nz c) (hb : Nz b) : Nz (commandF c b) := by
 have hL : ∀ e, Nz (list (andOr (pipe c)) e) := fun e => list_nz (andOr_nz (pipe_nz hc)) e
 intro ts e h
 unfold commandF at h
 cases hx : construct c b ts with
 | some x =>
   rw [hx] at h
   dsimp only at h
   refine andThen_nz h (fun e he => ?_) fun v r c h => andThen_nz h (fun c h => redirsF_nz _ _ _ _ h) fun _ _ _ h => by cases h
   subst he
   unfold construct at hx
   dsimp only at hx
   split at hx
   · exact andThen_nz (Option.some.inj hx) (fun c h => upTo_nz h fun c h => hL _ _ _ h) fun _ _ _ h => by cases h
   split at hx
   · exact andThen_nz (Option.some.inj hx) (fun c h => upTo_nz h fun c h => hL _ _ _ h) fun _ _ _ h => by cases h
   split at hx
   · exact upTo_nz (Option.some.inj hx) fun c h => branch_nz hL hb _ _ h
   split at hx
   · exact loop_nz hL _ _ (Option.some.inj hx)
   split at hx
   · exact each_nz hL _ _ (Option.some.inj hx)
   split at hx
   · exact cases_nz hL _ _ (Option.some.inj hx)
   · cases hx
 | none =>
   rw [hx] at h
   dsimp only at h
   split at h
   · cases h; decide
   split at h
   · unfold define at h
     refine andThen_nz h (fun c h => hc _ _ h) fun v r c h => ?_
     split at h
     · cases h; decide
     · cases h
   · exact simple_nz _ _ h
theorem both_nz : ∀ d, Nz (both d).1 ∧ Nz (both d).2
 | 0 => ⟨fun _ _ h => (by cases h; decide), fun _ _ h => (by cases h; decide)⟩
 | d + 1 => by
   obtain ⟨h1, h2⟩ := both_nz d
   exact ⟨commandF_nz h1 h2, branch_nz (fun e => list_nz (andOr_nz (pipe_nz h1)) e) h2⟩
theorem parse_nz : Nz parse := by
 intro ts c h
 unfold parse at h
 cases hl : list (andOr (pipe (command 30))) true ts with
 | error e => rw [hl] at h; cases h; exact list_nz (andOr_nz (pipe_nz (both_nz 30).1)) true _ _ hl
 | ok z =>
   rw [hl] at h
   dsimp only at h
   split at h
   · cases h
   · cases h; decide
end Sy
end
end Go.Proofs.YtahjonfmhejoeaaGreatDoor
