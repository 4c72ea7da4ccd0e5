/-
  Parts of the proof, merged.
-/
import Derived.Test.YtahjonfmhejoeaaGreatDoorVa02
namespace Go.Proofs.YtahjonfmhejoeaaGreatDoor
section
namespace Sy
open Lx Wx
theorem pipeF_st {c : List Tok → R Nd} (hc : St c) (hn : Ne c) : ∀ (n : Nat) (ks : List Nd), St (pipeF c n ks)
 | 0, _, _, _, _, _, _, h => by cases h
 | n + 1, ks, ts, v, r, y, hy, h => by
   rw [pipeF] at h ⊢
   rw [isT_st _ ts hy (by decide)]
   by_cases ht : isT 1 [124] ts = true
   · rw [if_pos ht] at h ⊢
     cases hk : c (lines ts.tail) with
     | error e => rw [hk] at h; cases h
     | ok x =>
       rw [hk] at h
       have hl : lines ts.tail ≠ [] := fun e => hn x (by rw [← e]; exact hk)
       rw [tail_app y (isT_ne ht), lines_app y hl, hc _ x.1 x.2 y hy hk]
       exact pipeF_st hc hn n _ _ v r y hy h
   · rw [if_neg ht] at h ⊢
     cases h; rfl
theorem pipe_st {c : List Tok → R Nd} (hc : St c) (hn : Ne c) : St (pipe c) := by
 intro ts v r y hy h
 unfold pipe at h ⊢
 rw [isT_st _ ts hy (by decide)]
 have e : (if isT 0 [33] ts = true then (ts ++ y).tail else ts ++ y) = (if isT 0 [33] ts = true then ts.tail else ts) ++ y := by
   by_cases ht : isT 0 [33] ts = true
   · rw [if_pos ht, if_pos ht, tail_app y (isT_ne ht)]
   · rw [if_neg ht, if_neg ht]
 rw [e]
 cases hk : c (if isT 0 [33] ts = true then ts.tail else ts) with
 | error e => rw [hk] at h; cases h
 | ok x =>
   rw [hk] at h
   rw [hc _ x.1 x.2 y hy hk]
   simp only [] at h ⊢
   cases hp : pipeF c (x.2.length + 1) [x.1] x.2 with
   | error e => rw [hp] at h; cases h
   | ok z =>
     rw [hp] at h
     rw [pipeF_more _ ((x.2 ++ y).length + 1) _ _ _ (pipeF_st hc hn _ _ _ z.1 z.2 y hy hp) (by rw [List.length_append]; omega)]
     simp only [] at h ⊢
     by_cases h1 : z.1.length = 1 ∧ isT 0 [33] ts = false
     · rw [if_pos h1] at h ⊢; cases h; rfl
     · rw [if_neg h1] at h ⊢; cases h; rfl
theorem pipe_ne {c : List Tok → R Nd} (hn : Ne c) : Ne (pipe c) := by
 intro z h
 unfold pipe at h
 have : isT 0 [33] ([] : List Tok) = false := rfl
 rw [this, if_neg (by simp)] at h
 cases hk : c [] with
 | error e => rw [hk] at h; cases h
 | ok x => exact hn x hk
theorem andOrF_st {p : List Tok → R Nd} (hp : St p) (hn : Ne p) : ∀ (n : Nat) (os : List (List UInt8)) (ks : List Nd), St (andOrF p n os ks)
 | 0, _, _, _, _, _, _, _, h => by cases h
 | n + 1, os, ks, ts, v, r, y, hy, h => by
   rw [andOrF] at h ⊢
   rw [isT_st _ ts hy (by decide), isT_st _ ts hy (by decide)]
   by_cases ht : (isT 1 [38, 38] ts || isT 1 [124, 124] ts) = true
   · rw [if_pos ht] at h ⊢
     have hne : ts ≠ [] := fun e => by rw [e] at ht; cases ht
     cases hk : p (lines ts.tail) with
     | error e => rw [hk] at h; cases h
     | ok x =>
       rw [hk] at h
       have hl : lines ts.tail ≠ [] := fun e => hn x (by rw [← e]; exact hk)
       rw [tail_app y hne, lines_app y hl, hp _ x.1 x.2 y hy hk, textT_app y hne]
       exact andOrF_st hp hn n _ _ _ v r y hy h
   · rw [if_neg ht] at h ⊢
     cases h; rfl
theorem andOr_st {p : List Tok → R Nd} (hp : St p) (hn : Ne p) : St (andOr p) := by
 intro ts v r y hy h
 unfold andOr at h ⊢
 cases hk : p ts with
 | error e => rw [hk] at h; cases h
 | ok x =>
   rw [hk] at h
   rw [hp _ x.1 x.2 y hy hk]
   simp only [] at h ⊢
   cases hz : andOrF p (x.2.length + 1) [] [x.1] x.2 with
   | error e => rw [hz] at h; cases h
   | ok z =>
     rw [hz] at h
     rw [andOrF_more _ ((x.2 ++ y).length + 1) _ _ _ _ (andOrF_st hp hn _ _ _ _ z.1 z.2 y hy hz) (by rw [List.length_append]; omega)]
     simp only [] at h ⊢
     by_cases h1 : z.1.1.isEmpty = true
     · rw [if_pos h1] at h ⊢; cases h; rfl
     · rw [if_neg h1] at h ⊢; cases h; rfl
theorem andOr_ne {p : List Tok → R Nd} (hn : Ne p) : Ne (andOr p) := by
 intro z h
 unfold andOr at h
 cases hk : p [] with
 | error e => rw [hk] at h; cases h
 | ok x => exact hn x hk
theorem listF_st {c : List Tok → R Nd} (hc : St c) (hn : Ne c) : ∀ (n : Nat) (acc : List Nd), St1 (listF c n acc)
 | 0, _, _, _, _, _, _, h, _ => by cases h
 | n + 1, acc, ts, v, r, y, hy, h, hr => by
   rw [listF] at h ⊢
   have hts : ts ≠ [] := by
     intro e
     rw [e] at h
     rw [if_pos (show ends [] = true from rfl)] at h
     cases h
     exact hr rfl
   rw [ends_app y hts]
   by_cases he : ends ts = true
   · rw [if_pos he] at h ⊢; cases h; rfl
   · rw [if_neg he] at h ⊢
     cases hk : c ts with
     | error e => rw [hk] at h; cases h
     | ok x =>
       rw [hk] at h
       rw [hc _ x.1 x.2 y hy hk]
       simp only [] at h ⊢
       have go : ∀ l, listF c n (acc ++ [x.1]) l = .ok (v, r) → l ≠ [] := by
         intro l hl e
         rw [e] at hl
         cases n with
         | zero => cases hl
         | succ n =>
           rw [listF, if_pos (show ends [] = true from rfl)] at hl
           cases hl
           exact hr rfl
       have hx : x.2 ≠ [] := by
         intro e
         rw [e] at h
         rw [if_neg (by simp [isT]), if_neg (by simp [isT])] at h
         cases h
         exact hr rfl
       rw [isT_app y hx, isT_app y hx]
       by_cases h1 : isT 1 [59] x.2 = true
       · rw [if_pos h1] at h ⊢
         rw [tail_app y hx, lines_app y (go _ h)]
         exact listF_st hc hn n _ _ v r y hy h hr
       · rw [if_neg h1] at h ⊢
         by_cases h2 : isT 2 [10] x.2 = true
         · rw [if_pos h2] at h ⊢
           rw [lines_app y (go _ h)]
           exact listF_st hc hn n _ _ v r y hy h hr
         · rw [if_neg h2] at h ⊢
           cases h; rfl
theorem list_st {c : List Tok → R Nd} (hc : St c) (hn : Ne c) (e : Bool) : St1 (list c e) := by
 intro ts v r y hy h hr
 unfold list at h ⊢
 cases hl : listF c (ts.length + 1) [] (lines ts) with
 | error x => rw [hl] at h; cases h
 | ok z =>
   rw [hl] at h
   simp only [] at h
   have hz : z.2 = r := by
     by_cases h1 : (z.1.isEmpty && !e) = true
     · rw [if_pos h1] at h; cases h
     · rw [if_neg h1] at h; cases h; rfl
   have hzr : z.2 ≠ [] := by rw [hz]; exact hr
   have hne : lines ts ≠ [] := by
     intro x
     rw [x, listF, if_pos (show ends [] = true from rfl)] at hl
     cases hl
     exact hzr rfl
   have h2 := listF_st hc hn _ _ _ z.1 z.2 y hy hl hzr
   rw [lines_app y hne, listF_more _ ((ts ++ y).length + 1) _ _ _ h2 (by rw [List.length_append]; omega)]
   simp only []
   by_cases h1 : (z.1.isEmpty && !e) = true
   · rw [if_pos h1] at h; cases h
   · rw [if_neg h1] at h ⊢; cases h; rfl
section
variable {L : Bool → List Tok → R Nd} (hL : ∀ e, St1 (L e))
include hL
theorem body_st : St (body L) := by
 intro ts v r y hy h
 unfold body at h ⊢
 rw [isT_st _ ts hy (by decide)]
 by_cases ht : isT 0 kDo ts = true
 · rw [if_pos ht] at h ⊢
   rw [tail_app y (isT_ne ht)]
   exact upTo_st (hL false) 0 kDone _ v r y hy h
 · rw [if_neg ht] at h; cases h
theorem branch_st {b : List Tok → R Nd} (hb : St1 b) : St1 (branch L b) := by
 intro ts v r y hy h hr
 unfold branch at h ⊢
 obtain ⟨c, r1, h1, h⟩ := andThen_ok h
 obtain ⟨t, r2, h2, h⟩ := andThen_ok h
 have hr2 : r2 ≠ [] := by
   intro e
   rw [e] at h
   rw [if_neg (by simp [isT]), if_neg (by simp [isT])] at h
   cases h
   exact hr rfl
 rw [andThen_is (upTo_st (hL false) 0 kThen _ c r1 y hy h1), andThen_is (hL false _ t r2 y hy h2 hr2), isT_app y hr2, isT_app y hr2]
 by_cases e1 : isT 0 kElif r2 = true
 · rw [if_pos e1] at h ⊢
   obtain ⟨k, r3, h3, h⟩ := andThen_ok h
   cases h
   rw [tail_app y hr2, andThen_is (hb _ k _ y hy h3 hr)]
 · rw [if_neg e1] at h ⊢
   by_cases e2 : isT 0 kElse r2 = true
   · rw [if_pos e2] at h ⊢
     obtain ⟨k, r3, h3, h⟩ := andThen_ok h
     cases h
     rw [tail_app y hr2, andThen_is (hL false _ k _ y hy h3 hr)]
   · rw [if_neg e2] at h ⊢
     cases h; rfl
theorem loop_st (ts : List Tok) (hts : ts ≠ []) (v : Nd) (r y : List Tok) (hy : Ln y) (h : loop L ts = .ok (v, r)) : loop L (ts ++ y) = .ok (v, r ++ y) := by
 unfold loop at h ⊢
 obtain ⟨c, r1, h1, h⟩ := andThen_ok h
 obtain ⟨b, r2, h2, h⟩ := andThen_ok h
 cases h
 have hr1 : r1 ≠ [] := fun e => by rw [e] at h2; cases h2
 rw [tail_app y hts, andThen_is (hL false _ c r1 y hy h1 hr1), andThen_is (body_st hL _ b _ y hy h2), textT_app y hts]
end
theorem wordsF_st : ∀ (n : Nat) (ws : List (List Pt)), St (wordsF n ws)
 | 0, _, _, _, _, _, _, h => by cases h
 | n + 1, ws, ts, v, r, y, hy, h => by
   rw [wordsF] at h ⊢
   rw [wordT_st ts hy]
   by_cases ht : wordT ts = true
   · rw [if_pos ht] at h ⊢
     cases hk : partsT ts with
     | error e => rw [hk] at h; cases h
     | ok x =>
       rw [hk] at h
       rw [partsT_st _ x.1 x.2 y hy hk]
       exact wordsF_st n _ _ v r y hy h
   · rw [if_neg ht] at h ⊢
     cases h; rfl
theorem barsF_st : ∀ (n : Nat) (ws : List (List Pt)), St (barsF n ws)
 | 0, _, _, _, _, _, _, h => by cases h
 | n + 1, ws, ts, v, r, y, hy, h => by
   rw [barsF] at h ⊢
   rw [isT_st _ ts hy (by decide)]
   by_cases ht : isT 1 [124] ts = true
   · rw [if_pos ht] at h ⊢
     cases hk : partsT ts.tail with
     | error e => rw [hk] at h; cases h
     | ok x =>
       rw [hk] at h
       rw [tail_app y (isT_ne ht), partsT_st _ x.1 x.2 y hy hk]
       exact barsF_st n _ _ v r y hy h
   · rw [if_neg ht] at h ⊢
     cases h; rfl
end Sy
end
section
namespace Sy
open Lx Wx
theorem redir_st (ts : List Tok) {y : List Tok} (hy : Ln y) : redir (ts ++ y) = redir ts := by
 unfold redir
 rw [isT_st _ ts hy (by decide), isT_st _ ts hy (by decide), isT_st _ ts hy (by decide)]
theorem redir_ne {ts : List Tok} (h : redir ts = true) : ts ≠ [] := fun e => by rw [e] at h; cases h
theorem redirect_st {ts : List Tok} (hts : ts ≠ []) {v : List UInt8 × List Pt} {r y : List Tok} (hy : Ln y) (h : redirect ts = .ok (v, r)) : redirect (ts ++ y) = .ok (v, r ++ y) := by
 unfold redirect at h ⊢
 obtain ⟨w, r1, h1, h⟩ := andThen_ok h
 cases h
 rw [tail_app y hts, andThen_is (partsT_st _ w _ y hy h1), textT_app y hts]
theorem redirsF_st : ∀ (n : Nat) (rs : List (List UInt8 × List Pt)), St (redirsF n rs)
 | 0, _, _, _, _, _, _, h => by cases h
 | n + 1, rs, ts, v, r, y, hy, h => by
   rw [redirsF] at h ⊢
   rw [redir_st ts hy]
   by_cases ht : redir ts = true
   · rw [if_pos ht] at h ⊢
     cases hk : redirect ts with
     | error e => rw [hk] at h; cases h
     | ok x =>
       rw [hk] at h
       rw [redirect_st (redir_ne ht) hy (v := x.1) (r := x.2) hk]
       exact redirsF_st n _ _ v r y hy h
   · rw [if_neg ht] at h ⊢
     cases h; rfl
theorem simpleF_st : ∀ (n : Nat) (s : Sm), St (simpleF n s)
 | 0, _, _, _, _, _, _, h => by cases h
 | n + 1, s, ts, v, r, y, hy, h => by
   rw [simpleF] at h ⊢
   rw [redir_st ts hy, wordT_st ts hy]
   by_cases ht : redir ts = true
   · rw [if_pos ht] at h ⊢
     cases hk : redirect ts with
     | error e => rw [hk] at h; cases h
     | ok x =>
       rw [hk] at h
       rw [redirect_st (redir_ne ht) hy (v := x.1) (r := x.2) hk]
       exact simpleF_st n _ _ v r y hy h
   · rw [if_neg ht] at h ⊢
     by_cases hw : wordT ts = true
     · rw [if_pos hw] at h ⊢
       rw [textT_app y (wordT_ne hw), tail_app y (wordT_ne hw)]
       by_cases ha : (s.words.isEmpty && asgT (textT ts)) = true
       · rw [if_pos ha] at h ⊢
         cases hc : parts 30 ((textT ts).drop (nameL (textT ts) + 1)) with
         | error e => rw [hc] at h; cases h
         | ok w => rw [hc] at h; exact simpleF_st n _ _ v r y hy h
       · rw [if_neg ha] at h ⊢
         cases hk : partsT ts with
         | error e => rw [hk] at h; cases h
         | ok x =>
           rw [hk] at h
           rw [partsT_st _ x.1 x.2 y hy hk]
           exact simpleF_st n _ _ v r y hy h
     · rw [if_neg hw] at h ⊢
       cases h; rfl
theorem simple_st : St simple := by
 intro ts v r y hy h
 unfold simple at h ⊢
 obtain ⟨s, r1, h1, h⟩ := andThen_ok h
 rw [andThen_is (simpleF_more _ ((ts ++ y).length + 1) _ _ _ (simpleF_st _ _ _ s r1 y hy h1) (by rw [List.length_append]; omega))]
 by_cases he : (s.words.isEmpty && s.assigns.isEmpty && s.redirs.isEmpty) = true
 · rw [if_pos he] at h; cases h
 · rw [if_neg he] at h ⊢; cases h; rfl
section
variable {L : Bool → List Tok → R Nd} (hL : ∀ e, St1 (L e))
include hL
theorem each_st (ts : List Tok) (v : Nd) (r y : List Tok) (hy : Ln y) (h : each L ts = .ok (v, r)) : each L (ts ++ y) = .ok (v, r ++ y) := by
 unfold each at h ⊢
 by_cases hw : wordT ts = false ∨ nameL (textT ts) ≠ (textT ts).length
 · rw [if_pos hw] at h; cases h
 · rw [if_neg hw] at h
   have hwt : wordT ts = true := by
     cases hx : wordT ts with
     | true => rfl
     | false => exact absurd (.inl hx) hw
   have hts := wordT_ne hwt
   rw [wordT_st ts hy, textT_app y hts, tail_app y hts, if_neg hw]
   have bodyNe : ∀ l z, body L l = .ok z → l ≠ [] := fun l z hb e => by rw [e] at hb; cases hb
   by_cases hin : isT 0 kIn (lines ts.tail) = true
   · rw [if_pos hin] at h
     have hl := isT_ne hin
     rw [lines_app y hl, isT_app y hl, if_pos hin, tail_app y hl]
     obtain ⟨ws, r1, h1, h⟩ := andThen_ok h
     rw [andThen_is (wordsF_more _ (((lines ts.tail).tail ++ y).length + 1) _ _ _ (wordsF_st _ _ _ ws r1 y hy h1) (by rw [List.length_append]; omega))]
     by_cases hs : (isT 1 [59] r1 || isT 2 [10] r1) = true
     · rw [if_pos hs] at h
       have hr1 : r1 ≠ [] := fun e => by rw [e] at hs; cases hs
       rw [isT_app y hr1, isT_app y hr1, if_pos hs]
       obtain ⟨b, r2, h2, h⟩ := andThen_ok h
       cases h
       have e1 : (if isT 1 [59] r1 = true then (r1 ++ y).tail else r1 ++ y) = (if isT 1 [59] r1 = true then r1.tail else r1) ++ y := by
         by_cases h3 : isT 1 [59] r1 = true
         · rw [if_pos h3, if_pos h3, tail_app y hr1]
         · rw [if_neg h3, if_neg h3]
       rw [e1, lines_app y (bodyNe _ _ h2), andThen_is (body_st hL _ b _ y hy h2)]
     · rw [if_neg hs] at h; cases h
   · rw [if_neg hin] at h
     obtain ⟨b, r2, h2, h⟩ := andThen_ok h
     cases h
     have hl : lines ts.tail ≠ [] := by
       intro e
       rw [e, if_neg (by simp [isT])] at h2
       exact absurd h2 (by intro h2; cases h2)
     have e1 : (if isT 1 [59] (lines ts.tail) = true then (lines ts.tail ++ y).tail else lines ts.tail ++ y) = (if isT 1 [59] (lines ts.tail) = true then (lines ts.tail).tail else lines ts.tail) ++ y := by
       by_cases h3 : isT 1 [59] (lines ts.tail) = true
       · rw [if_pos h3, if_pos h3, tail_app y hl]
       · rw [if_neg h3, if_neg h3]
     rw [lines_app y hl, isT_app y hl, isT_app y hl, if_neg hin, e1, lines_app y (bodyNe _ _ h2), andThen_is (body_st hL _ b _ y hy h2)]
theorem item_st (ts : List Tok) (v : Nd) (r y : List Tok) (hy : Ln y) (h : item L ts = .ok (v, r)) (hr : r ≠ []) : item L (ts ++ y) = .ok (v, r ++ y) := by
 unfold item at h ⊢
 obtain ⟨w, r1, h1, h⟩ := andThen_ok h
 obtain ⟨ws, r2, h2, h⟩ := andThen_ok h
 obtain ⟨l, r3, h3, h⟩ := andThen_ok h
 cases h
 have e1 : (if isT 1 [40] (ts ++ y) = true then (ts ++ y).tail else ts ++ y) = (if isT 1 [40] ts = true then ts.tail else ts) ++ y := by
   rw [isT_st _ ts hy (by decide)]
   by_cases h4 : isT 1 [40] ts = true
   · rw [if_pos h4, if_pos h4, tail_app y (isT_ne h4)]
   · rw [if_neg h4, if_neg h4]
 obtain ⟨r0, h5, h6, rfl⟩ := upTo_ok h2
 have hr0 := isT_ne h6
 have h7 := barsF_more _ ((r1 ++ y).length + 1) _ _ _ (barsF_st _ _ _ ws r0 y hy h5) (by rw [List.length_append]; omega)
 rw [e1, andThen_is (partsT_st _ w r1 y hy h1), andThen_is (upTo_is h7 ((isT_app y hr0).trans h6)), tail_app y hr0, andThen_is (hL true _ l _ y hy h3 hr)]
theorem itemsF_st : ∀ (n : Nat) (ks : List Nd), St (itemsF L n ks)
 | 0, _, _, _, _, _, _, h => by cases h
 | n + 1, ks, ts, v, r, y, hy, h => by
   rw [itemsF] at h ⊢
   rw [isT_st _ ts hy (by decide)]
   by_cases he : isT 0 kEsac ts = true
   · rw [if_pos he] at h ⊢
     cases h
     rw [tail_app y (isT_ne he)]
   · rw [if_neg he] at h ⊢
     cases hk : item L ts with
     | error e => rw [hk] at h; cases h
     | ok x =>
       rw [hk] at h
       simp only [] at h
       have hx : x.2 ≠ [] := by
         intro e
         rw [e, if_neg (by simp [isT]), if_neg (by simp [isT])] at h
         cases h
       rw [item_st hL _ x.1 x.2 y hy hk hx]
       simp only []
       have go : ∀ l z, itemsF L n (ks ++ [x.1]) l = .ok z → l ≠ [] := by
         intro l z hl e
         rw [e] at hl
         cases n with
         | zero => cases hl
         | succ n =>
           rw [itemsF, if_neg (by simp [isT])] at hl
           cases hi : item L [] with
           | error e => rw [hi] at hl; cases hl
           | ok q =>
             unfold item at hi
             rw [if_neg (by simp [isT])] at hi
             cases hi
       rw [isT_app y hx, isT_app y hx]
       by_cases h1 : isT 1 [59, 59] x.2 = true
       · rw [if_pos h1] at h ⊢
         rw [tail_app y hx, lines_app y (go _ _ h)]
         exact itemsF_st n _ _ v r y hy h
       · rw [if_neg h1] at h ⊢
         by_cases h2 : isT 0 kEsac x.2 = true
         · rw [if_pos h2] at h ⊢
           rw [lines_app y (go _ _ h)]
           exact itemsF_st n _ _ v r y hy h
         · rw [if_neg h2] at h; cases h
theorem cases_st : St (cases L) := by
 intro ts v r y hy h
 unfold cases at h ⊢
 obtain ⟨w, r1, h1, h⟩ := andThen_ok h
 rw [andThen_is (partsT_st _ w r1 y hy h1)]
 by_cases hin : isT 0 kIn (lines r1) = true
 · rw [if_pos hin] at h
   have hl := isT_ne hin
   rw [lines_app y hl, isT_app y hl, if_pos hin, tail_app y hl]
   obtain ⟨ks, r2, h2, h⟩ := andThen_ok h
   cases h
   have hl2 : lines (lines r1).tail ≠ [] := by
     intro e
     rw [e, itemsF, if_neg (by simp [isT])] at h2
     cases hi : item L [] with
     | error e => rw [hi] at h2; cases h2
     | ok q =>
       unfold item at hi
       rw [if_neg (by simp [isT])] at hi
       cases hi
   rw [lines_app y hl2, andThen_is (itemsF_more _ ((r1 ++ y).length + 1) _ _ _ (itemsF_st hL _ _ _ ks _ y hy h2) (by rw [List.length_append]; omega))]
 · rw [if_neg hin] at h; cases h
end
theorem fun_st (ts : List Tok) {y : List Tok} (hy : Ln y) : funT (ts ++ y) = funT ts := by
 rcases hy with rfl | ⟨t, z, rfl, ht⟩
 · rw [List.append_nil]
 · obtain ⟨k2, _⟩ := line_is ht
   have ne : ∀ a b : Bool, (a && t.kind == 1 && b) = false := fun a b => by rw [k2]; cases a <;> rfl
   match ts with
   | [] =>
     show funT (t :: z) = false
     match z with
     | [] => rfl
     | [_] => rfl
     | b :: c :: _ => show (t.kind == 0 && _ && _ && _ && _ && _) = false; rw [k2]; rfl
   | [a] =>
     show funT (a :: t :: z) = false
     match z with
     | [] => rfl
     | c :: _ => show (_ && _ && t.kind == 1 && _ && _ && _) = false; rw [k2]; simp
   | [a, b] => show (_ && _ && _ && _ && t.kind == 1 && _) = false; rw [k2]; simp
   | a :: b :: c :: r => rfl
theorem fun_len {ts : List Tok} (h : funT ts = true) : ∃ a b c r, ts = a :: b :: c :: r := by
 match ts with
 | [] => cases h
 | [_] => cases h
 | [_, _] => cases h
 | a :: b :: c :: r => exact ⟨a, b, c, r, rfl⟩
theorem define_st {c : List Tok → R Nd} (hc : St c) (hn : Ne c) (ts : List Tok) (hf : funT ts = true) (v : Nd) (r y : List Tok) (hy : Ln y) (h : define c ts = .ok (v, r)) : define c (ts ++ y) = .ok (v, r ++ y) := by
 obtain ⟨a, b, d, s, rfl⟩ := fun_len hf
 unfold define at h ⊢
 obtain ⟨k, r1, h1, h⟩ := andThen_ok h
 have hl : lines ((a :: b :: d :: s).drop 3) ≠ [] := fun e => hn _ (by rw [e] at h1; exact h1)
 have e1 : (a :: b :: d :: s ++ y).drop 3 = (a :: b :: d :: s).drop 3 ++ y := rfl
 rw [e1, lines_app y hl, andThen_is (hc _ k r1 y hy h1)]
 by_cases hk : k.kind < 4 ∨ 9 < k.kind
 · rw [if_pos hk] at h; cases h
 · rw [if_neg hk] at h ⊢; cases h; rfl
theorem construct_st {c b : List Tok → R Nd} (hc : St c) (hn : Ne c) (hb : St1 b) {ts : List Tok} {x : R Nd} {y : List Tok} (hy : Ln y) (h : construct c b ts = some x) : ∃ x', construct c b (ts ++ y) = some x' ∧ ∀ v r, x = .ok (v, r) → x' = .ok (v, r ++ y) := by
 have hL : ∀ e, St1 (list (andOr (pipe c)) e) := fun e => list_st (andOr_st (pipe_st hc hn) (pipe_ne hn)) (andOr_ne (pipe_ne hn)) e
 unfold construct at h ⊢
 simp only [isT_st _ ts hy (show (1 : Int) ≠ 2 by decide), isT_st _ ts hy (show (0 : Int) ≠ 2 by decide)]
 by_cases h1 : isT 1 [40] ts = true
 · rw [if_pos h1] at h ⊢
   injection h with h
   refine ⟨_, rfl, fun v r e => ?_⟩
   rw [← h] at e
   obtain ⟨l, r1, h2, e⟩ := andThen_ok e
   cases e
   rw [tail_app y (isT_ne h1), andThen_is (upTo_st (hL false) 1 [41] _ l _ y hy h2)]
 · rw [if_neg h1] at h ⊢
   by_cases h2 : isT 0 [123] ts = true
   · rw [if_pos h2] at h ⊢
     injection h with h
     refine ⟨_, rfl, fun v r e => ?_⟩
     rw [← h] at e
     obtain ⟨l, r1, h3, e⟩ := andThen_ok e
     cases e
     rw [tail_app y (isT_ne h2), andThen_is (upTo_st (hL false) 0 [125] _ l _ y hy h3)]
   · rw [if_neg h2] at h ⊢
     by_cases h3 : isT 0 kIf ts = true
     · rw [if_pos h3] at h ⊢
       injection h with h
       refine ⟨_, rfl, fun v r e => ?_⟩
       rw [← h] at e
       rw [tail_app y (isT_ne h3)]
       exact upTo_st (branch_st hL hb) 0 kFi _ v r y hy e
     · rw [if_neg h3] at h ⊢
       by_cases h4 : (isT 0 kWhile ts || isT 0 kUntil ts) = true
       · rw [if_pos h4] at h ⊢
         injection h with h
         refine ⟨_, rfl, fun v r e => ?_⟩
         rw [← h] at e
         exact loop_st hL ts (fun x => by rw [x] at h4; cases h4) v r y hy e
       · rw [if_neg h4] at h ⊢
         by_cases h5 : isT 0 kFor ts = true
         · rw [if_pos h5] at h ⊢
           injection h with h
           refine ⟨_, rfl, fun v r e => ?_⟩
           rw [← h] at e
           rw [tail_app y (isT_ne h5)]
           exact each_st hL _ v r y hy e
         · rw [if_neg h5] at h ⊢
           by_cases h6 : isT 0 kCase ts = true
           · rw [if_pos h6] at h ⊢
             injection h with h
             refine ⟨_, rfl, fun v r e => ?_⟩
             rw [← h] at e
             rw [tail_app y (isT_ne h6)]
             exact cases_st hL _ v r y hy e
           · rw [if_neg h6] at h; cases h
theorem construct_none {c b : List Tok → R Nd} {ts : List Tok} {y : List Tok} (hy : Ln y) (h : construct c b ts = none) : construct c b (ts ++ y) = none := by
 unfold construct at h ⊢
 simp only [isT_st _ ts hy (show (1 : Int) ≠ 2 by decide), isT_st _ ts hy (show (0 : Int) ≠ 2 by decide)]
 by_cases h1 : isT 1 [40] ts = true
 · rw [if_pos h1] at h; cases h
 · rw [if_neg h1] at h ⊢
   by_cases h2 : isT 0 [123] ts = true
   · rw [if_pos h2] at h; cases h
   · rw [if_neg h2] at h ⊢
     by_cases h3 : isT 0 kIf ts = true
     · rw [if_pos h3] at h; cases h
     · rw [if_neg h3] at h ⊢
       by_cases h4 : (isT 0 kWhile ts || isT 0 kUntil ts) = true
       · rw [if_pos h4] at h; cases h
       · rw [if_neg h4] at h ⊢
         by_cases h5 : isT 0 kFor ts = true
         · rw [if_pos h5] at h; cases h
         · rw [if_neg h5] at h ⊢
           by_cases h6 : isT 0 kCase ts = true
           · rw [if_pos h6] at h; cases h
           · rw [if_neg h6]
theorem commandF_st {c b : List Tok → R Nd} (hc : St c) (hn : Ne c) (hb : St1 b) : St (commandF c b) := by
 intro ts v r y hy h
 unfold commandF at h ⊢
 cases hx : construct c b ts with
 | some x =>
   rw [hx] at h
   obtain ⟨x', e1, e2⟩ := construct_st hc hn hb hy hx
   rw [e1]
   simp only [] at h ⊢
   obtain ⟨n, r1, h1, h⟩ := andThen_ok h
   obtain ⟨rs, r2, h2, h⟩ := andThen_ok h
   cases h
   rw [andThen_is (e2 n r1 h1), andThen_is (redirsF_more _ ((r1 ++ y).length + 1) _ _ _ (redirsF_st _ _ _ rs _ y hy h2) (by rw [List.length_append]; omega))]
 | none =>
   rw [hx] at h
   rw [construct_none hy hx]
   simp only [] at h ⊢
   rw [wordT_st ts hy, fun_st ts hy]
   by_cases hw : (wordT ts && reserved (textT ts)) = true
   · rw [if_pos hw] at h; cases h
   · rw [if_neg hw] at h
     have hw2 : ¬ (wordT ts && reserved (textT (ts ++ y))) = true := by
       by_cases hts : ts = []
       · rw [hts]; simp [wordT]
       · rw [textT_app y hts]; exact hw
     rw [if_neg hw2]
     by_cases hf : funT ts = true
     · rw [if_pos hf] at h ⊢
       exact define_st hc hn ts hf v r y hy h
     · rw [if_neg hf] at h ⊢
       exact simple_st ts v r y hy h
theorem commandF_ne (c b : List Tok → R Nd) : Ne (commandF c b) := by
 intro z h
 unfold commandF at h
 have : construct c b [] = none := rfl
 rw [this] at h
 cases h
theorem both_st : ∀ d, St (both d).1 ∧ Ne (both d).1 ∧ St1 (both d).2
 | 0 => ⟨fun _ _ _ _ _ h => (by cases h), fun _ h => (by cases h), fun _ _ _ _ _ h _ => (by cases h)⟩
 | d + 1 => by
   obtain ⟨h1, h2, h3⟩ := both_st d
   exact ⟨commandF_st h1 h2 h3, commandF_ne _ _, branch_st (fun e => list_st (andOr_st (pipe_st h1 h2) (pipe_ne h2)) (andOr_ne (pipe_ne h2)) e) h3⟩
end Sy
end
section
namespace Sy
open Lx Wx
def Rel {α : Type} (x y : R α) : Prop := x = y ∨ (x = .error 100 ∧ ∃ v r, y = .ok (v, r) ∧ isT 1 [40] r = true)
theorem Rel.refl {α : Type} (x : R α) : Rel x x := .inl rfl
theorem paren_no {k : Int} {x : List UInt8} {r : List Tok} (h : isT 1 [40] r = true) (hk : k = 1 → x ≠ [40]) : isT k x r = false := by
 cases r with
 | nil => cases h
 | cons t r =>
   have h : (t.kind == 1 && t.text == [40]) = true := h
   show (t.kind == k && t.text == x) = false
   rw [Bool.and_eq_true, beq_iff_eq, beq_iff_eq] at h
   rw [h.1, h.2]
   cases hx : ((1 : Int) == k && [40] == x) with
   | false => rfl
   | true =>
     rw [Bool.and_eq_true, beq_iff_eq, beq_iff_eq] at hx
     exact absurd hx.2.symm (hk hx.1.symm)
theorem Rel.ok {α : Type} {x y : R α} {z : α × List Tok} (h : Rel x y) (hx : x = .ok z) : y = .ok z := by
 rcases h with rfl | ⟨h, _⟩
 · exact hx
 · rw [h] at hx; cases hx
theorem Rel.upTo {α : Type} {x y : R α} (h : Rel x y) {k : Int} {t : List UInt8} (hk : k = 1 → t ≠ [40]) : upTo k t x = upTo k t y := by
 rcases h with rfl | ⟨rfl, v, r, rfl, hr⟩
 · rfl
 · show Except.error 100 = if isT k t r = true then _ else _
   rw [paren_no hr hk]; rfl
theorem Rel.andThen {α β : Type} {x y : R α} {f g : α → List Tok → R β} (h : Rel x y) (hf : ∀ v r, x = .ok (v, r) → Rel (f v r) (g v r)) (hg : ∀ v r, isT 1 [40] r = true → Rel (.error 100) (g v r)) : Rel (andThen x f) (andThen y g) := by
 rcases h with rfl | ⟨rfl, v, r, rfl, hr⟩
 · cases x with
   | error e => exact .inl rfl
   | ok z => exact hf z.1 z.2 rfl
 · exact hg v r hr
theorem andThen_eq {α β : Type} {x : R α} {f g : α → List Tok → R β} (hf : ∀ v r, x = .ok (v, r) → f v r = g v r) : andThen x f = andThen x g := by
 cases x with
 | error e => rfl
 | ok z => exact hf z.1 z.2 rfl
theorem andThen_rel {α β : Type} {x : R α} {f g : α → List Tok → R β} (hf : ∀ v r, x = .ok (v, r) → Rel (f v r) (g v r)) : Rel (Sy.andThen x f) (Sy.andThen x g) := by
 cases x with
 | error e => exact .inl rfl
 | ok z => exact hf z.1 z.2 rfl
theorem Rel.thenEq {α β : Type} {x y : R α} {f g : α → List Tok → R β} (h : Rel x y) (hf : ∀ v r, x = .ok (v, r) → f v r = g v r) (hg : ∀ v r, isT 1 [40] r = true → g v r = .error 100) : Sy.andThen x f = Sy.andThen y g := by
 rcases h with rfl | ⟨rfl, v, r, rfl, hr⟩
 · exact andThen_eq hf
 · exact (hg v r hr).symm
def RelF {α : Type} (P Q : List Tok → R α) : Prop := ∀ ts, Rel (P ts) (Q ts)
def Lt {α : Type} (P : List Tok → R α) : Prop := ∀ ts v r, P ts = .ok (v, r) → r.length < ts.length
def Le {α : Type} (P : List Tok → R α) : Prop := ∀ ts v r, P ts = .ok (v, r) → r.length ≤ ts.length
theorem lines_le (l : List Tok) : (lines l).length ≤ l.length := by
 unfold lines
 induction l with
 | nil => exact Nat.le_refl _
 | cons t r ih =>
   rw [List.dropWhile_cons]
   split
   · rw [List.length_cons]; omega
   · exact Nat.le_refl _
theorem tail_le (l : List Tok) : l.tail.length ≤ l.length := by cases l <;> simp
theorem isT_pos {k : Int} {x : List UInt8} {ts : List Tok} (h : isT k x ts = true) : ts.tail.length < ts.length := by
 cases ts with
 | nil => cases h
 | cons t r => simp
theorem partsT_lt : Lt partsT := by
 intro ts v r h
 cases ts with
 | nil => cases h
 | cons t s =>
   rw [partsT_cons] at h
   split at h
   · cases hp : parts 30 t.text with
     | error e => rw [hp] at h; cases h
     | ok l => rw [hp] at h; cases h; simp
   · cases h
theorem pipeF_rel {c d : List Tok → R Nd} (h : RelF c d) : ∀ (n : Nat) (ks : List Nd), RelF (pipeF c n ks) (pipeF d n ks)
 | 0, _, _ => .refl _
 | n + 1, ks, ts => by
   rw [pipeF, pipeF]
   split
   · rcases h (lines ts.tail) with e | ⟨e, v, r, e2, hr⟩
     · rw [e]
       cases d (lines ts.tail) with
       | error e => exact .refl _
       | ok x => exact pipeF_rel h n _ _
     · rw [e, e2]
       cases n with
       | zero => exact .refl _
       | succ n =>
         refine .inr ⟨rfl, ks ++ [v], r, ?_, hr⟩
         show pipeF d (n + 1) (ks ++ [v]) r = _
         rw [pipeF, if_neg (by rw [paren_no hr (fun _ => by decide)]; decide)]
   · exact .refl _
theorem pipe_rel {c d : List Tok → R Nd} (h : RelF c d) : RelF (pipe c) (pipe d) := by
 intro ts
 unfold pipe
 generalize (if isT 0 [33] ts = true then ts.tail else ts) = us
 rcases h us with e | ⟨e, v, r, e2, hr⟩
 · rw [e]
   cases d us with
   | error e => exact .refl _
   | ok x =>
     obtain ⟨k, r⟩ := x
     dsimp only
     rcases pipeF_rel h (r.length + 1) [k] r with e | ⟨e, v, r, e2, hr⟩
     · rw [e]; exact .refl _
     · rw [e, e2]
       dsimp only
       split
       · exact .inr ⟨rfl, _, _, rfl, hr⟩
       · exact .inr ⟨rfl, _, _, rfl, hr⟩
 · rw [e, e2]
   dsimp only
   rw [pipeF, if_neg (by rw [paren_no hr (fun _ => by decide)]; decide)]
   dsimp only
   split
   · exact .inr ⟨rfl, _, _, rfl, hr⟩
   · exact .inr ⟨rfl, _, _, rfl, hr⟩
theorem andOrF_rel {c d : List Tok → R Nd} (h : RelF c d) : ∀ (n : Nat) (os : List (List UInt8)) (ks : List Nd), RelF (andOrF c n os ks) (andOrF d n os ks)
 | 0, _, _, _ => .refl _
 | n + 1, os, ks, ts => by
   rw [andOrF, andOrF]
   split
   · rcases h (lines ts.tail) with e | ⟨e, v, r, e2, hr⟩
     · rw [e]
       cases d (lines ts.tail) with
       | error e => exact .refl _
       | ok x => exact andOrF_rel h n _ _ _
     · rw [e, e2]
       cases n with
       | zero => exact .refl _
       | succ n =>
         refine .inr ⟨rfl, (os ++ [textT ts], ks ++ [v]), r, ?_, hr⟩
         show andOrF d (n + 1) (os ++ [textT ts]) (ks ++ [v]) r = _
         rw [andOrF, if_neg (by rw [paren_no hr (fun _ => by decide), paren_no hr (fun _ => by decide)]; decide)]
   · exact .refl _
theorem andOr_rel {c d : List Tok → R Nd} (h : RelF c d) : RelF (andOr c) (andOr d) := by
 intro us
 unfold andOr
 rcases h us with e | ⟨e, v, r, e2, hr⟩
 · rw [e]
   cases d us with
   | error e => exact .refl _
   | ok x =>
     obtain ⟨k, r⟩ := x
     dsimp only
     rcases andOrF_rel h (r.length + 1) [] [k] r with e | ⟨e, v, r, e2, hr⟩
     · rw [e]; exact .refl _
     · rw [e, e2]
       dsimp only
       split
       · exact .inr ⟨rfl, _, _, rfl, hr⟩
       · exact .inr ⟨rfl, _, _, rfl, hr⟩
 · rw [e, e2]
   dsimp only
   rw [andOrF, if_neg (by rw [paren_no hr (fun _ => by decide), paren_no hr (fun _ => by decide)]; decide)]
   exact .inr ⟨rfl, _, _, rfl, hr⟩
theorem listF_rel {c d : List Tok → R Nd} (h : RelF c d) : ∀ (n : Nat) (ks : List Nd), RelF (listF c n ks) (listF d n ks)
 | 0, _, _ => .refl _
 | n + 1, ks, ts => by
   rw [listF, listF]
   split
   · exact .refl _
   · rcases h ts with e | ⟨e, v, r, e2, hr⟩
     · rw [e]
       cases d ts with
       | error e => exact .refl _
       | ok x =>
         obtain ⟨k, r⟩ := x
         dsimp only
         split
         · exact listF_rel h n _ _
         · split
           · exact listF_rel h n _ _
           · exact .refl _
     · rw [e, e2]
       dsimp only
       rw [if_neg (by rw [paren_no hr (fun _ => by decide)]; decide), if_neg (by rw [paren_no hr (fun h => by cases h)]; decide)]
       exact .inr ⟨rfl, _, _, rfl, hr⟩
theorem list_rel {c d : List Tok → R Nd} (h : RelF c d) (e : Bool) : RelF (list c e) (list d e) := by
 intro ts
 unfold list
 rcases listF_rel h (ts.length + 1) [] (lines ts) with e | ⟨e, v, r, e2, hr⟩
 · rw [e]; exact .refl _
 · rw [e, e2]
   dsimp only
   split
   · exact .refl _
   · exact .inr ⟨rfl, _, _, rfl, hr⟩
section
variable {L M : Bool → List Tok → R Nd}
theorem body_rel (h : ∀ e, RelF (L e) (M e)) (ts : List Tok) : body L ts = body M ts := by
 unfold body
 split
 · exact (h false ts.tail).upTo fun h => by cases h
 · rfl
theorem loop_rel (h : ∀ e, RelF (L e) (M e)) (ts : List Tok) : loop L ts = loop M ts := by
 unfold loop
 refine (h false ts.tail).thenEq (fun v r _ => by rw [body_rel h]) (fun v r hr => ?_)
 show andThen (if isT 0 kDo r = true then _ else _) _ = _
 rw [paren_no hr (fun h => by cases h)]; rfl
theorem each_rel (h : ∀ e, RelF (L e) (M e)) (ts : List Tok) : each L ts = each M ts := by
 unfold each
 simp only [body_rel h]
theorem item_rel (h : ∀ e, RelF (L e) (M e)) (ts : List Tok) : Rel (item L ts) (item M ts) := by
 unfold item
 exact andThen_rel fun w r _ => andThen_rel fun ws r2 _ => (h true r2).andThen (fun l r3 _ => .refl _) (fun v r hr => .inr ⟨rfl, _, _, rfl, hr⟩)
theorem itemsF_rel (h : ∀ e, RelF (L e) (M e)) : ∀ (n : Nat) (ks : List Nd) (ts : List Tok), itemsF L n ks ts = itemsF M n ks ts
 | 0, _, _ => rfl
 | n + 1, ks, ts => by
   rw [itemsF, itemsF]
   split
   · rfl
   · rcases item_rel h ts with e | ⟨e, v, r, e2, hr⟩
     · rw [e]
       cases item M ts with
       | error e => rfl
       | ok x => dsimp only; rw [itemsF_rel h n, itemsF_rel h n]
     · rw [e, e2]
       dsimp only
       rw [if_neg (by rw [paren_no hr (fun _ => by decide)]; decide), if_neg (by rw [paren_no hr (fun h => by cases h)]; decide)]
theorem cases_rel (h : ∀ e, RelF (L e) (M e)) (ts : List Tok) : cases L ts = cases M ts := by
 unfold cases
 simp only [itemsF_rel h]
def choice (L : Bool → List Tok → R Nd) (b : List Tok → R Nd) (ts : List Tok) : R Nd :=
 andThen (upTo 0 kThen (L false ts)) fun c r =>
 andThen (L false r) fun t r2 =>
   if isT 0 kElif r2 then andThen (b r2) fun k r3 => .ok (.mk 6 false [] [] [] [] [] [c, t, k], r3)
   else if isT 0 kElse r2 then upTo 0 kFi (andThen (L false r2.tail) fun k r3 => .ok (.mk 6 false [] [] [] [] [] [c, t, k], r3))
   else upTo 0 kFi (.ok (.mk 6 false [] [] [] [] [] [c, t], r2))
def wrap (x : R Nd) : R Nd := andThen x fun k r => .ok (listN [k], r)
theorem upTo_then {α β : Type} {k : Int} {t : List UInt8} {x : R α} {f : α → List Tok → R β} : upTo k t (andThen x f) = andThen x fun v r => upTo k t (f v r) := by
 cases x <;> rfl
theorem choice_rel (h : ∀ e, RelF (L e) (M e)) {b b' : List Tok → R Nd} (hb : ∀ ts, isT 0 kElif ts = true → b' ts = wrap (upTo 0 kFi (b ts.tail))) (ts : List Tok) : choice L b' ts = upTo 0 kFi (branch M b ts) := by
 unfold choice branch
 rw [upTo_then, (h false ts).upTo fun h => by cases h]
 refine andThen_eq fun c r _ => ?_
 rw [upTo_then]
 refine (h false r).thenEq (fun t r2 _ => ?_) (fun v r2 hr => ?_)
 · by_cases h1 : isT 0 kElif r2 = true
   · rw [if_pos h1, if_pos h1, hb r2 h1]
     cases hbb : b r2.tail with
     | error e => rfl
     | ok x =>
       show andThen (wrap (if isT 0 kFi x.2 = true then _ else _)) _ = (if isT 0 kFi x.2 = true then _ else _)
       by_cases h2 : isT 0 kFi x.2 = true
       · rw [if_pos h2, if_pos h2]; rfl
       · rw [if_neg h2, if_neg h2]; rfl
   · rw [if_neg h1, if_neg h1]
     by_cases h2 : isT 0 kElse r2 = true
     · rw [if_pos h2, if_pos h2, upTo_then, upTo_then]
       exact (h false r2.tail).thenEq (fun k r3 _ => rfl) (fun v r hr => by
         show (if isT 0 kFi r = true then _ else _) = _
         rw [paren_no hr (fun h => by cases h)]; rfl)
     · rw [if_neg h2, if_neg h2]
 · rw [if_neg (by rw [paren_no hr (fun h => by cases h)]; decide), if_neg (by rw [paren_no hr (fun h => by cases h)]; decide)]
   show (if isT 0 kFi r2 = true then _ else _) = _
   rw [paren_no hr (fun h => by cases h)]; rfl
end
def atFun (ts : List Tok) : Bool := wordT ts && nameL (textT ts) == (textT ts).length && isT 1 [40] ts.tail
theorem funT_at (ts : List Tok) : funT ts = (atFun ts && isT 1 [41] ts.tail.tail) := by
 match ts with
 | [] => rfl
 | [a] => simp [funT, atFun, isT]
 | [a, b] => simp [funT, atFun, isT]
 | a :: b :: c :: r => simp [funT, atFun, isT, wordT, textT, Bool.and_assoc]
def defP (c : List Tok → R Nd) (ts : List Tok) : R Nd :=
 if isT 1 [41] ts.tail.tail then andThen (c (lines (ts.drop 3))) fun k r => if k.kind = 11 ∨ k.kind = 0 then .error 100 else .ok (.mk 11 false (textT ts) [] [] [] [] [k], r)
 else .error 100
def constructP (c b : List Tok → R Nd) (ts : List Tok) : Option (R Nd) :=
 let L := list (andOr (pipe c))
 if isT 1 [40] ts then some (andThen (upTo 1 [41] (L false ts.tail)) fun l r => .ok (.mk 5 false [] [] [] [] [] [l], r))
 else if isT 0 [123] ts then some (andThen (upTo 0 [125] (L false ts.tail)) fun l r => .ok (.mk 4 false [] [] [] [] [] [l], r))
 else if isT 0 kIf ts then some (choice L b ts.tail)
 else if isT 0 kWhile ts || isT 0 kUntil ts then some (loop L ts)
 else if isT 0 kFor ts then some (each L ts.tail)
 else if isT 0 kCase ts then some (cases L ts.tail)
 else none
def commandP (c b : List Tok → R Nd) (ts : List Tok) : R Nd :=
 match constructP c b ts with
 | some x => andThen x fun n r => andThen (redirsF (r.length + 1) [] r) fun rs r2 => .ok (withRedirs n rs, r2)
 | none =>
   if ends ts || isT 0 [33] ts then .error 100
   else if atFun ts then defP c ts
   else simple ts
def bothP : Nat → (List Tok → R Nd) × (List Tok → R Nd)
 | 0 => (fun _ => .error 2, fun _ => .error 2)
 | d + 1 => (commandP (bothP d).1 (bothP d).2, fun ts => wrap (choice (list (andOr (pipe (bothP d).1))) (bothP d).2 ts.tail))
end Sy
end
end Go.Proofs.YtahjonfmhejoeaaGreatDoor
