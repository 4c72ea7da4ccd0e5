/-
  Parts of the proof, merged.
-/
import Derived.Test.YtahjonfmhejoeaaGreatDoorVa03
namespace Go.Proofs.YtahjonfmhejoeaaGreatDoor
section
namespace Sy
open Lx Wx
def nb (c : UInt8) : Bool := letter c || digit c || c == 61
theorem nb_ne {c : UInt8} (h : nb c = true) (k : UInt8) (hk : nb k = false) : c ≠ k := fun e => by rw [e, hk] at h; cases h
theorem unit_nb {d : Nat} {e c : UInt8} {r : List UInt8} (h : nb c = true) : unit (d + 1) e (c :: r) = some 1 := by
 rw [unit, if_neg (nb_ne h 92 (by decide)), if_neg (fun x => nb_ne h 39 (by decide) x.1), if_neg (nb_ne h 34 (by decide)), if_neg (fun x => nb_ne h 36 (by decide) x.1), if_neg (fun x => nb_ne h 36 (by decide) x.1), if_neg (fun x => nb_ne h 40 (by decide) x.1)]
theorem til_nb {d : Nat} : ∀ (l : List UInt8) (n : Nat), (∀ c ∈ l, nb c = true) → l.length + 1 ≤ n → til (unit (d + 1) 125) 125 n (l ++ [125]) = some (l.length + 1)
 | [], 0, _, h => by simp at h
 | [], n + 1, _, _ => by
   show til _ 125 (n + 1) [125] = _
   rw [til, if_pos rfl]; rfl
 | c :: l, 0, _, h => by simp at h
 | c :: l, n + 1, hl, h => by
   have hc := hl c (by simp)
   show til _ 125 (n + 1) (c :: (l ++ [125])) = _
   rw [til, if_neg (nb_ne hc 125 (by decide)), unit_nb hc]
   dsimp only
   rw [show (c :: (l ++ [125])).drop 1 = l ++ [125] from rfl, til_nb l n (fun x hx => hl x (by simp [hx])) (by simp at h; omega)]
   simp; omega
theorem til_end {u : List UInt8 → Option Nat} {e : UInt8} : ∀ (n : Nat) (l : List UInt8) (k : Nat), til u e n l = some k → 1 ≤ k ∧ l[k - 1]? = some e
 | 0, _, _, h => by cases h
 | n + 1, [], _, h => by cases h
 | n + 1, c :: r, k, h => by
   rw [til] at h
   by_cases hc : c = e
   · rw [if_pos hc] at h
     cases h
     exact ⟨by omega, by simp [hc]⟩
   · rw [if_neg hc] at h
     cases hu : u (c :: r) with
     | none => rw [hu] at h; cases h
     | some j =>
       rw [hu] at h
       dsimp only at h
       cases ht : til u e n ((c :: r).drop j) with
       | none => rw [ht] at h; cases h
       | some i =>
         rw [ht] at h
         cases h
         obtain ⟨h1, h2⟩ := til_end n _ _ ht
         refine ⟨show 1 ≤ j + i by omega, ?_⟩
         rw [List.getElem?_drop] at h2
         rw [show j + i - 1 = j + (i - 1) by omega]
         exact h2
theorem nameL_cons (a : UInt8) (r : List UInt8) : nameL (a :: r) = if letter a = true then 1 + (r.takeWhile fun c => letter c || digit c).length else 0 := rfl
def isName (x : List UInt8) : Bool := decide (0 < nameL x) && nameL x == x.length
theorem name_all {x : List UInt8} (h : nameL x = x.length) : ∀ c ∈ x, (letter c || digit c) = true := by
 cases x with
 | nil => intro c hc; cases hc
 | cons a r =>
   rw [nameL_cons] at h
   by_cases ha : letter a = true
   · rw [if_pos ha, List.length_cons] at h
     intro c hc
     rcases List.mem_cons.1 hc with rfl | hc
     · rw [ha]; rfl
     · have h1 : (r.takeWhile fun c => letter c || digit c) = r := by
         have : (r.takeWhile fun c => letter c || digit c).length = r.length := by omega
         exact (List.takeWhile_prefix _).eq_of_length this
       rw [← h1] at hc
       have := List.all_takeWhile (l := r) (p := fun c => letter c || digit c)
       exact List.all_eq_true.1 this c hc
   · rw [if_neg ha] at h; simp at h
theorem nameL_app {x y : List UInt8} {c : UInt8} (hc : (letter c || digit c) = false) : nameL (x ++ c :: y) = nameL x := by
 have hl : letter c = false := (Bool.or_eq_false_iff.1 hc).1
 cases x with
 | nil => show nameL (c :: y) = 0; rw [nameL_cons, if_neg (by rw [hl]; decide)]
 | cons a r =>
   show nameL (a :: (r ++ c :: y)) = _
   rw [nameL_cons, nameL_cons]
   by_cases ha : letter a = true
   · rw [if_pos ha, if_pos ha, List.takeWhile_append]
     split
     · rw [List.takeWhile_cons, hc]; simp_all
     · rfl
   · rw [if_neg ha, if_neg ha]
theorem add_head {p q : Pt} {l : List Pt} (hk : p.kind ≠ 0) : ∃ m, add (p :: l) q = p :: m := by
 unfold add
 cases h : (p :: l).getLast? with
 | none => simp at h
 | some a =>
   dsimp only
   by_cases hal : alike a q = true
   · rw [if_pos hal]
     cases l with
     | nil =>
       have : a = p := by simpa using h.symm
       rw [this] at hal
       unfold alike at hal
       rw [Bool.and_eq_true, Bool.and_eq_true] at hal
       exact absurd (by simpa using hal.1.2) hk
     | cons b l => exact ⟨_, rfl⟩
   · rw [if_neg hal]; exact ⟨_, rfl⟩
theorem fold_head {p : Pt} (hk : p.kind ≠ 0) : ∀ (m l : List Pt), ∃ r, m.foldl add (p :: l) = p :: r
 | [], l => ⟨l, rfl⟩
 | q :: m, l => by
   obtain ⟨r, h⟩ := add_head (q := q) (l := l) hk
   rw [List.foldl_cons, h]
   exact fold_head hk m r
theorem partsF_head {w : List UInt8 → Except Int (List Pt)} {p : Pt} (hk : p.kind ≠ 0) : ∀ (n : Nat) (s : List UInt8) (l r : List Pt), partsF w n s (p :: l) = .ok r → ∃ m, r = p :: m
 | 0, [], l, r, h => by cases h; exact ⟨_, rfl⟩
 | n + 1, [], l, r, h => by cases h; exact ⟨_, rfl⟩
 | 0, _ :: _, _, _, h => by cases h
 | n + 1, c :: s, l, r, h => by
   rw [partsF] at h
   cases hs : step1 w (c :: s) with
   | error e => rw [hs] at h; cases h
   | ok x =>
     rw [hs] at h
     dsimp only at h
     obtain ⟨m, hm⟩ := fold_head hk x.1 l
     rw [hm] at h
     exact partsF_head hk n _ _ _ h
def asks (x : List UInt8) : List UInt8 := [36, 123] ++ x ++ [61, 125]
theorem asks_is (x : List UInt8) : asks x = 36 :: 123 :: (x ++ [61, 125]) := by simp [asks]
theorem step1_asks {w : List UInt8 → Except Int (List Pt)} (x : List UInt8) : step1 w (asks x) = match unit 30 0 (asks x) with
   | none => .error 90
   | some k => (braces w false (((asks x).take (k - 1)).drop 2)).map fun p => ([p], k) := by
 rw [asks_is, step1, if_neg (by decide), if_pos rfl, dollar]
 dsimp only
 rw [if_pos (.inr rfl)]
 cases unit 30 0 (36 :: 123 :: (x ++ [61, 125])) with
 | none => rfl
 | some k =>
   dsimp only
   rw [if_pos (by rfl)]
   cases braces w false (((36 :: 123 :: (x ++ [61, 125])).take (k - 1)).drop 2) <;> rfl
theorem unit_asks (x : List UInt8) : unit 30 0 (asks x) = (til (unit 29 125) 125 (x.length + 3) (x ++ [61, 125])).map (2 + ·) := by
 rw [asks_is, unit, if_neg (by decide), if_neg (by simp), if_neg (by decide), if_neg (by simp), if_pos ⟨rfl, rfl⟩]
 simp
theorem asks_name {x : List UInt8} (h : isName x = true) : parts 30 (asks x) = .ok [.mk 1 false [] x [61] []] := by
 unfold isName at h
 rw [Bool.and_eq_true, decide_eq_true_eq, beq_iff_eq] at h
 obtain ⟨h0, hl⟩ := h
 have hall := name_all hl
 have hu : unit 30 0 (asks x) = some (x.length + 4) := by
   have := til_nb (d := 28) (x ++ [61]) (x.length + 3) (fun c hc => by
     rcases List.mem_append.1 hc with hc | hc
     · unfold nb; rw [hall c hc]; rfl
     · rw [List.mem_singleton.1 hc]; rfl) (by simp)
   rw [unit_asks, show x ++ [61, 125] = (x ++ [61]) ++ [125] by simp, this]
   simp; omega
 have hb : ((asks x).take (x.length + 4 - 1)).drop 2 = x ++ [61] := by
   rw [asks_is, show x.length + 4 - 1 = (x.length + 1) + 2 by omega]
   show (x ++ [61, 125]).take (x.length + 1) = x ++ [61]
   rw [show x ++ [61, 125] = (x ++ [61]) ++ [125] by simp]
   exact List.take_left' (by simp)
 have hn : nameL (x ++ [61]) = x.length := by rw [nameL_app (by decide), hl]
 have hp : paramL (x ++ [61]) = x.length := by unfold paramL; rw [hn, if_pos (by omega)]
 have hbr : braces (parts 29) false (x ++ [61]) = .ok (.mk 1 false [] x [61] []) := by
   unfold braces
   rw [if_neg ?_, hp, if_neg (by omega), List.drop_left' rfl, if_neg (by simp)]
   · have ho : opL [61] = some [61] := by decide
     rw [ho]
     dsimp only
     rw [List.take_left' rfl, if_neg (by rintro ⟨_, h⟩; omega)]
     have : (x ++ [61]).drop (x.length + [(61 : UInt8)].length) = [] := by simp
     rw [this]
     rfl
   · rintro ⟨_, h2, _⟩
     cases x with
     | nil => exact absurd h0 (by decide)
     | cons a r =>
       have ha := hall a (by simp)
       have : a = 35 := by simpa using h2
       rw [this] at ha; revert ha; decide
 show partsF (parts 29) (asks x).length (asks x) [] = _
 have hs : step1 (parts 29) (asks x) = .ok ([.mk 1 false [] x [61] []], x.length + 4) := by
   rw [step1_asks, hu]
   dsimp only
   rw [hb, hbr]; rfl
 have hlen : (asks x).length = (x.length + 3) + 1 := by simp [asks]
 rw [hlen, asks_is, partsF, ← asks_is, hs]
 dsimp only
 rw [List.drop_of_length_le (by simp [asks])]
 rfl
theorem asks_only {x : List UInt8} {p : Pt} {l : List Pt} (h : parts 30 (asks x) = .ok (p :: l)) (hx : p.name = x) : isName x = true := by
 have h : partsF (parts 29) (asks x).length (asks x) [] = .ok (p :: l) := h
 have hlen : (asks x).length = (x.length + 3) + 1 := by simp [asks]
 rw [hlen, asks_is, partsF, ← asks_is] at h
 cases hs : step1 (parts 29) (asks x) with
 | error e => rw [hs] at h; cases h
 | ok z =>
   rw [hs] at h
   dsimp only at h
   rw [step1_asks] at hs
   cases hu : unit 30 0 (asks x) with
   | none => rw [hu] at hs; cases hs
   | some k =>
     rw [hu] at hs
     dsimp only at hs
     cases hb : braces (parts 29) false (((asks x).take (k - 1)).drop 2) with
     | error e => rw [hb] at hs; cases hs
     | ok q =>
       rw [hb] at hs
       cases hs
       -- the closing brace
       rw [unit_asks] at hu
       obtain ⟨j, hj, rfl⟩ := Option.map_eq_some_iff.1 hu
       obtain ⟨hj1, hje⟩ := til_end _ _ _ hj
       have hjl : j ≤ x.length + 2 := by
         have := (List.getElem?_eq_some_iff.1 hje).1
         simp at this; omega
       obtain ⟨B, hB⟩ : ∃ B, B = (x ++ [61, 125]).take (j - 1) := ⟨_, rfl⟩
       have hBs : ((asks x).take (2 + j - 1)).drop 2 = B := by
         rw [asks_is, show 2 + j - 1 = (j - 1) + 2 by omega, hB]; rfl
       have hBl : B.length = j - 1 := by rw [hB, List.length_take]; simp; omega
       rw [hBs] at hb
       -- which part it is
       have key : q.kind = 1 ∧ (q.name = x → isName x = true) := by
         unfold braces at hb
         by_cases c1 : 1 < B.length ∧ B.head? = some 35 ∧ paramL (B.drop 1) = B.length - 1
         · rw [if_pos c1] at hb
           cases hb
           refine ⟨rfl, fun hn => ?_⟩
           exfalso
           have hn : B.drop 1 = x := hn
           have hl2 : x.length = B.length - 1 := by rw [← hn, List.length_drop]
           have hBx : B = x ++ [61] := by
             rw [hB, show j - 1 = x.length + 1 by omega, show x ++ [61, 125] = (x ++ [61]) ++ [125] by simp]
             exact List.take_left' (by simp)
           cases x with
           | nil => simp at hl2; omega
           | cons a r =>
             have ha : a = 35 := by have := c1.2.1; rw [hBx] at this; simpa using this
             subst ha
             have hpl := c1.2.2
             rw [hn, ← hl2] at hpl
             have h35 : paramL (35 :: r) = 1 := by
               unfold paramL
               have h1 : nameL (35 :: r) = 0 := by rw [nameL_cons, if_neg (by decide)]
               rw [h1, if_neg (by omega)]
               have h2 : ((35 :: r : List UInt8).takeWhile digit) = [] := by rw [List.takeWhile_cons, if_neg (by decide)]
               rw [h2, if_neg (by simp)]
               rfl
             rw [h35] at hpl
             have hr : r = [] := List.eq_nil_of_length_eq_zero (by rw [List.length_cons] at hpl; omega)
             rw [hr] at hBx hn
             rw [hBx] at hn
             revert hn; decide
         · rw [if_neg c1] at hb
           by_cases c2 : paramL B = 0
           · rw [if_pos c2] at hb; cases hb
           · rw [if_neg c2] at hb
             by_cases c3 : B.drop (paramL B) = []
             · rw [if_pos c3] at hb
               cases hb
               refine ⟨rfl, fun hn => ?_⟩
               exfalso
               have hn : B.take (paramL B) = x := hn
               have hlt := List.drop_eq_nil_iff.1 c3
               rw [List.take_of_length_le hlt] at hn
               have : j - 1 = x.length := by rw [← hn]; exact hBl.symm
               rw [this, List.getElem?_append_right (Nat.le_refl _)] at hje
               simp at hje
             · rw [if_neg c3] at hb
               cases ho : opL (B.drop (paramL B)) with
               | none => rw [ho] at hb; cases hb
               | some o =>
                 rw [ho] at hb
                 dsimp only at hb
                 by_cases c4 : (o = [61] ∨ o = [58, 61]) ∧ nameL (B.take (paramL B)) = 0
                 · rw [if_pos c4] at hb; cases hb
                 · rw [if_neg c4] at hb
                   cases hw : parts 29 (B.drop (paramL B + o.length)) with
                   | error e => rw [hw] at hb; cases hb
                   | ok m =>
                     rw [hw] at hb
                     dsimp only at hb
                     by_cases c5 : cmds m = true
                     · rw [if_pos c5] at hb; cases hb
                     · rw [if_neg c5] at hb
                       cases hb
                       refine ⟨rfl, fun hn => ?_⟩
                       have hn : B.take (paramL B) = x := hn
                       have hlt : paramL B < B.length := by
                         rcases Nat.lt_or_ge (paramL B) B.length with h | h
                         · exact h
                         · exact absurd (List.drop_eq_nil_iff.2 h) c3
                       have hpx : paramL B = x.length := by rw [← hn, List.length_take]; omega
                       have hBx : B = x ++ [61] := by
                         rw [hB, show j - 1 = x.length + 1 by omega, show x ++ [61, 125] = (x ++ [61]) ++ [125] by simp]
                         exact List.take_left' (by simp)
                       have hd : B.drop (paramL B) = [61] := by rw [hpx, hBx]; exact List.drop_left' rfl
                       rw [hd] at ho
                       have ho2 : o = [61] := by
                         have : opL [61] = some [61] := by decide
                         rw [this] at ho; cases ho; rfl
                       rw [hn] at c4
                       have h0 : nameL x ≠ 0 := fun e => c4 ⟨.inl ho2, e⟩
                       have hnb : nameL B = nameL x := by rw [hBx, nameL_app (by decide)]
                       have hpn : paramL B = nameL B := by unfold paramL; rw [if_pos (by omega)]
                       unfold isName
                       rw [Bool.and_eq_true, decide_eq_true_eq, beq_iff_eq]
                       omega
       have hk : q.kind ≠ 0 := by rw [key.1]; decide
       obtain ⟨m, hm⟩ := partsF_head hk _ _ [] _ h
       cases hm
       exact key.2 hx
end Sy
end
section
namespace Sy
open Lx Wx
theorem parts_name_on {w : List UInt8 → Except Int (List Pt)} : ∀ (n : Nat) (s : List UInt8) (acc : List Pt), (∀ c ∈ s, (letter c || digit c) = true) → s.length ≤ n → ∃ l, partsF w n s acc = .ok l
 | 0, [], acc, _, _ => ⟨acc, rfl⟩
 | n + 1, [], acc, _, _ => ⟨acc, rfl⟩
 | 0, _ :: _, _, _, h => by simp at h
 | n + 1, c :: s, acc, hall, h => by
   have hc := hall c (by simp)
   have hn : ∀ k : UInt8, (letter k || digit k) = false → c ≠ k := fun k hk e => by rw [e, hk] at hc; cases hc
   rw [partsF, step1, if_neg (by rintro (h | h | h) <;> exact hn _ (by decide) h), if_neg (hn 36 (by decide))]
   dsimp only
   exact parts_name_on n _ _ (fun x hx => hall x (by simp only [List.drop_succ_cons, List.drop_zero] at hx; simp [hx])) (by simp at h ⊢; omega)
theorem parts_name {x : List UInt8} (h : nameL x = x.length) : ∃ l, parts 30 x = .ok l := parts_name_on _ _ _ (name_all h) (Nat.le_refl _)
theorem redir_word {t : Tok} {r : List Tok} (h : t.kind = 0) : redir (t :: r) = false := by
 show (t.kind == 1 && _ || t.kind == 1 && _ || t.kind == 1 && _) = false
 rw [h]; rfl
theorem simple_paren {ts : List Tok} (h : atFun ts = true) : ∃ v r, simple ts = .ok (v, r) ∧ isT 1 [40] r = true := by
 unfold atFun at h
 rw [Bool.and_eq_true, Bool.and_eq_true, beq_iff_eq] at h
 obtain ⟨⟨h1, h2⟩, h3⟩ := h
 match ts with
 | [] => cases h1
 | [a] => cases h3
 | a :: b :: r =>
   have hk : a.kind = 0 := by have : (a.kind == 0) = true := h1; simpa using this
   have hn : nameL a.text = a.text.length := h2
   have hb : isT 1 [40] (b :: r) = true := h3
   obtain ⟨w, hw⟩ := parts_name hn
   have hrb : redir (b :: r) = false := by
     unfold redir
     rw [paren_no hb (fun _ => by decide), paren_no hb (fun _ => by decide), paren_no hb (fun _ => by decide)]; rfl
   have hwb : wordT (b :: r) = false := by
     have : (b.kind == 1 && b.text == [40]) = true := hb
     rw [Bool.and_eq_true, beq_iff_eq] at this
     show (b.kind == 0) = false
     rw [this.1]; rfl
   have hasg : asgT (textT (a :: b :: r)) = false := by
     show asgT a.text = false
     unfold asgT
     rw [decide_eq_false (by omega)]; rfl
   refine ⟨.mk 0 false [] [w] [] [] [] [], b :: r, ?_, hb⟩
   unfold simple
   have : simpleF ((a :: b :: r).length + 1) ⟨[], [], []⟩ (a :: b :: r) = .ok (⟨[w], [], []⟩, b :: r) := by
     rw [List.length_cons, simpleF, if_neg (by rw [redir_word hk]; decide), if_pos h1, if_neg (by rw [hasg]; simp), partsT_cons, if_pos hk, hw]
     show simpleF ((b :: r).length + 1) ⟨[w], [], []⟩ (b :: r) = _
     rw [simpleF, if_neg (by rw [hrb]; decide), if_neg (by rw [hwb]; decide)]
   rw [this]
   rfl
theorem simple_bad {ts : List Tok} (h1 : redir ts = false) (h2 : wordT ts = false) : simple ts = .error 100 := by
 unfold simple
 rw [simpleF, if_neg (by rw [h1]; decide), if_neg (by rw [h2]; decide)]
 rfl
def kOk (k : Int) : Prop := k = 0 ∨ 4 ≤ k ∧ k ≤ 9 ∨ k = 11
theorem mid {q : Bool} {n : List UInt8} {ws : List (List Pt)} {gs rs : List (List UInt8 × List Pt)} {os : List (List UInt8)} {ks : List Nd} (k : Int) (hk : 4 ≤ k ∧ k ≤ 9) : kOk (Nd.mk k q n ws gs rs os ks).kind := .inr (.inl hk)
def Ks (P : List Tok → R Nd) : Prop := ∀ ts v r, P ts = .ok (v, r) → kOk v.kind
theorem with_kind (n : Nd) (rs : List (List UInt8 × List Pt)) : (withRedirs n rs).kind = n.kind := by cases n; rfl
theorem construct_kind {c b : List Tok → R Nd} {ts : List Tok} {x : R Nd} (h : construct c b ts = some x) {v : Nd} {r : List Tok} (hx : x = .ok (v, r)) : kOk v.kind := by
 subst hx
 unfold construct at h
 dsimp only at h
 split at h
 · obtain ⟨_, _, _, h2⟩ := andThen_ok (Option.some.inj h); cases h2; exact mid 5 (by decide)
 split at h
 · obtain ⟨_, _, _, h2⟩ := andThen_ok (Option.some.inj h); cases h2; exact mid 4 (by decide)
 split at h
 · obtain ⟨r0, h1, _, _⟩ := upTo_ok (Option.some.inj h)
   unfold branch at h1
   obtain ⟨_, _, _, h2⟩ := andThen_ok h1
   obtain ⟨_, _, _, h3⟩ := andThen_ok h2
   split at h3
   · obtain ⟨_, _, _, h4⟩ := andThen_ok h3; cases h4; exact mid 6 (by decide)
   split at h3
   · obtain ⟨_, _, _, h4⟩ := andThen_ok h3; cases h4; exact mid 6 (by decide)
   · cases h3; exact mid 6 (by decide)
 split at h
 · have h := Option.some.inj h
   unfold loop at h
   obtain ⟨_, _, _, h2⟩ := andThen_ok h
   obtain ⟨_, _, _, h3⟩ := andThen_ok h2
   cases h3; exact mid 7 (by decide)
 split at h
 · have h := Option.some.inj h
   unfold each at h
   split at h
   · cases h
   split at h
   · obtain ⟨_, _, _, h2⟩ := andThen_ok h
     split at h2
     · obtain ⟨_, _, _, h3⟩ := andThen_ok h2; cases h3; exact mid 8 (by decide)
     · cases h2
   · obtain ⟨_, _, _, h3⟩ := andThen_ok h; cases h3; exact mid 8 (by decide)
 split at h
 · have h := Option.some.inj h
   unfold cases at h
   obtain ⟨_, _, _, h2⟩ := andThen_ok h
   split at h2
   · obtain ⟨_, _, _, h3⟩ := andThen_ok h2; cases h3; exact mid 9 (by decide)
   · cases h2
 · cases h
theorem simple_kind {ts : List Tok} {v : Nd} {r : List Tok} (h : simple ts = .ok (v, r)) : v.kind = 0 := by
 unfold simple at h
 obtain ⟨_, _, _, h2⟩ := andThen_ok h
 split at h2
 · cases h2
 · cases h2; rfl
theorem commandF_kind (c b : List Tok → R Nd) : Ks (commandF c b) := by
 intro ts v r h
 unfold commandF at h
 cases hc : construct c b ts with
 | some x =>
   rw [hc] at h
   dsimp only at h
   obtain ⟨n, r1, h1, h2⟩ := andThen_ok h
   obtain ⟨rs, r2, _, h3⟩ := andThen_ok h2
   cases h3
   rw [with_kind]
   exact construct_kind hc h1
 | none =>
   rw [hc] at h
   dsimp only at h
   split at h
   · cases h
   split at h
   · unfold define at h
     obtain ⟨_, _, _, h2⟩ := andThen_ok h
     split at h2
     · cases h2
     · cases h2; exact .inr (.inr rfl)
   · exact .inl (simple_kind h)
theorem both_kind : ∀ d, Ks (both d).1
 | 0 => fun _ _ _ h => by cases h
 | d + 1 => commandF_kind _ _
section
variable {c d b b' : List Tok → R Nd}
theorem construct_rel (h : RelF c d) (hb : ∀ ts, isT 0 kElif ts = true → b' ts = wrap (upTo 0 kFi (b ts.tail))) (ts : List Tok) : constructP c b' ts = construct d b ts := by
 have hL : ∀ e, RelF (list (andOr (pipe c)) e) (list (andOr (pipe d)) e) := fun e => list_rel (andOr_rel (pipe_rel h)) e
 unfold constructP construct
 dsimp only
 rw [(hL false ts.tail).upTo (t := [41]) (fun _ => by decide), (hL false ts.tail).upTo (k := 0) (t := [125]) (fun h => by cases h), choice_rel hL hb, loop_rel hL, each_rel hL, cases_rel hL]
theorem def_rel (h : RelF c d) (hk : Ks d) {ts : List Tok} (hp : isT 1 [41] ts.tail.tail = true) : Rel (defP c ts) (define d ts) := by
 unfold defP define
 rw [if_pos hp]
 refine (h _).andThen (fun k r hx => ?_) (fun v r hr => ?_)
 · have := hk _ _ _ ((h _).ok hx)
   have e : (k.kind = 11 ∨ k.kind = 0) ↔ (k.kind < 4 ∨ 9 < k.kind) := by unfold kOk at this; omega
   simp only [e]
   exact .refl _
 · by_cases h2 : v.kind < 4 ∨ 9 < v.kind
   · rw [if_pos h2]; exact .refl _
   · rw [if_neg h2]; exact .inr ⟨rfl, _, _, rfl, hr⟩
theorem ends_simple {ts : List Tok} (he : ends ts = true) (hw : (wordT ts && reserved (textT ts)) = false) : simple ts = .error 100 ∧ funT ts = false := by
 cases ts with
 | nil => exact ⟨rfl, rfl⟩
 | cons t r =>
   have he : (t.kind == 1 && (t.text == [41] || t.text == [59, 59]) || t.kind == 0 && t.text != [33] && reserved t.text) = true := he
   have hw : (t.kind == 0 && reserved t.text) = false := hw
   have h1 : t.kind = 1 ∧ (t.text = [41] ∨ t.text = [59, 59]) := by
     cases h0 : (t.kind == 0)
     · rw [h0] at he
       simpa using he
     · rw [h0, Bool.true_and] at hw
       rw [hw] at he
       simp at he
       exact he
   have hk : t.kind = 1 := h1.1
   refine ⟨simple_bad ?_ ?_, ?_⟩
   · show (t.kind == 1 && t.text == [60] || t.kind == 1 && t.text == [62] || t.kind == 1 && t.text == [62, 62]) = false
     rcases h1.2 with e | e <;> rw [e, hk] <;> rfl
   · show (t.kind == 0) = false
     rw [hk]; rfl
   · rw [funT_at]
     have : atFun (t :: r) = false := by
       show (t.kind == 0 && _ && _) = false
       rw [hk]; rfl
     rw [this]; rfl
theorem ends_of {ts : List Tok} (h : (wordT ts && reserved (textT ts)) = true) : (ends ts || isT 0 [33] ts) = true := by
 cases ts with
 | nil => cases h
 | cons t r =>
   have h : (t.kind == 0 && reserved t.text) = true := h
   show (t.kind == 1 && _ || t.kind == 0 && t.text != [33] && reserved t.text || (t.kind == 0 && t.text == [33])) = true
   rw [Bool.and_eq_true] at h
   rw [h.1, h.2]
   cases hx : (t.text == [33]) <;> simp [bne, hx]
theorem command_rel (h : RelF c d) (hk : Ks d) (hb : ∀ ts, isT 0 kElif ts = true → b' ts = wrap (upTo 0 kFi (b ts.tail))) : RelF (commandP c b') (commandF d b) := by
 intro ts
 unfold commandP commandF
 rw [construct_rel h hb]
 cases construct d b ts with
 | some x => exact .refl _
 | none =>
   dsimp only
   cases hw : (wordT ts && reserved (textT ts)) with
   | true => rw [if_pos (ends_of hw), if_pos rfl]; exact .refl _
   | false =>
     rw [if_neg (by decide : ¬ false = true)]
     by_cases he : (ends ts || isT 0 [33] ts) = true
     · rw [if_pos he]
       have he2 : ends ts = true := by
         rw [Bool.or_eq_true] at he
         rcases he with he | he
         · exact he
         · exfalso
           cases ts with
           | nil => cases he
           | cons t r =>
             have he : (t.kind == 0 && t.text == [33]) = true := he
             rw [Bool.and_eq_true, beq_iff_eq, beq_iff_eq] at he
             have hw : (t.kind == 0 && reserved t.text) = false := hw
             rw [he.1, he.2] at hw
             revert hw; decide
       obtain ⟨h1, h2⟩ := ends_simple he2 hw
       rw [if_neg (by rw [h2]; decide), h1]
       exact .refl _
     · rw [if_neg he, funT_at]
       by_cases ha : atFun ts = true
       · rw [if_pos ha, ha, Bool.true_and]
         by_cases hp : isT 1 [41] ts.tail.tail = true
         · rw [if_pos hp]
           exact def_rel h hk hp
         · rw [if_neg hp]
           obtain ⟨v, r, h1, h2⟩ := simple_paren ha
           refine .inr ⟨by unfold defP; rw [if_neg hp], v, r, h1, h2⟩
       · rw [if_neg ha, if_neg (by rw [Bool.and_eq_true]; exact fun h => ha h.1)]
         exact .refl _
end
theorem both_rel : ∀ n, RelF (bothP n).1 (both n).1 ∧ ∀ ts, isT 0 kElif ts = true → (bothP n).2 ts = wrap (upTo 0 kFi ((both n).2 ts.tail))
 | 0 => ⟨fun _ => .refl _, fun _ _ => rfl⟩
 | n + 1 => by
   obtain ⟨h1, h2⟩ := both_rel n
   refine ⟨command_rel h1 (both_kind n) h2, fun ts _ => ?_⟩
   show wrap (choice _ _ ts.tail) = wrap (upTo 0 kFi (branch _ _ ts.tail))
   rw [choice_rel (fun e => list_rel (andOr_rel (pipe_rel h1)) e) h2]
def parseP (ts : List Tok) : Except Int Nd :=
 match list (andOr (pipe (bothP 30).1)) true ts with
 | .error e => .error e
 | .ok (n, r) => if r.isEmpty then .ok n else .error 100
theorem parse_same (ts : List Tok) : parseP ts = parse ts := by
 unfold parseP parse
 rcases list_rel (andOr_rel (pipe_rel (both_rel 30).1)) true ts with e | ⟨e, v, r, e2, hr⟩
 · rw [show command 30 = (both 30).1 from rfl, e]
   cases list (andOr (pipe (both 30).1)) true ts <;> rfl
 · rw [show command 30 = (both 30).1 from rfl, e, e2]
   dsimp only
   cases r with
   | nil => cases hr
   | cons t r => rfl
end Sy
end
section
namespace Sy
open Lx Wx
theorem Lt.le {α : Type} {P : List Tok → R α} (h : Lt P) : Le P := fun ts v r hh => Nat.le_of_lt (h ts v r hh)
theorem pipeF_le {c : List Tok → R Nd} (hc : Le c) : ∀ (n : Nat) (ks : List Nd), Le (pipeF c n ks)
 | 0, _, _, _, _, h => by cases h
 | n + 1, ks, ts, v, r, h => by
   rw [pipeF] at h
   split at h
   · cases hk : c (lines ts.tail) with
     | error e => rw [hk] at h; cases h
     | ok x =>
       rw [hk] at h
       have h1 := pipeF_le hc n _ _ _ _ h
       have h2 := hc _ x.1 x.2 hk
       have := lines_le ts.tail
       have := tail_le ts
       omega
   · cases h; exact Nat.le_refl _
theorem pipe_lt {c : List Tok → R Nd} (hc : Lt c) : Lt (pipe c) := by
 intro ts v r h
 unfold pipe at h
 cases hk : c (if isT 0 [33] ts = true then ts.tail else ts) with
 | error e => rw [hk] at h; cases h
 | ok x =>
   rw [hk] at h
   dsimp only at h
   have h1 := hc _ x.1 x.2 hk
   cases hp : pipeF c (x.2.length + 1) [x.1] x.2 with
   | error e => rw [hp] at h; cases h
   | ok z =>
     rw [hp] at h
     dsimp only at h
     have h2 := pipeF_le hc.le _ _ _ z.1 z.2 hp
     have h3 : (if isT 0 [33] ts = true then ts.tail else ts).length ≤ ts.length := by split; exact tail_le ts; exact Nat.le_refl _
     split at h <;> cases h <;> omega
theorem andOrF_le {c : List Tok → R Nd} (hc : Le c) : ∀ (n : Nat) (os : List (List UInt8)) (ks : List Nd), Le (andOrF c n os ks)
 | 0, _, _, _, _, _, h => by cases h
 | n + 1, os, ks, ts, v, r, h => by
   rw [andOrF] at h
   split at h
   · cases hk : c (lines ts.tail) with
     | error e => rw [hk] at h; cases h
     | ok x =>
       rw [hk] at h
       have h1 := andOrF_le hc n _ _ _ _ _ h
       have h2 := hc _ x.1 x.2 hk
       have := lines_le ts.tail
       have := tail_le ts
       omega
   · cases h; exact Nat.le_refl _
theorem andOr_lt {c : List Tok → R Nd} (hc : Lt c) : Lt (andOr c) := by
 intro ts v r h
 unfold andOr at h
 cases hk : c ts with
 | error e => rw [hk] at h; cases h
 | ok x =>
   rw [hk] at h
   dsimp only at h
   have h1 := hc _ x.1 x.2 hk
   cases hp : andOrF c (x.2.length + 1) [] [x.1] x.2 with
   | error e => rw [hp] at h; cases h
   | ok z =>
     rw [hp] at h
     dsimp only at h
     have h2 := andOrF_le hc.le _ _ _ _ z.1 z.2 hp
     split at h <;> cases h <;> omega
theorem listF_le {c : List Tok → R Nd} (hc : Le c) : ∀ (n : Nat) (ks : List Nd), Le (listF c n ks)
 | 0, _, _, _, _, h => by cases h
 | n + 1, ks, ts, v, r, h => by
   rw [listF] at h
   split at h
   · cases h; exact Nat.le_refl _
   · cases hk : c ts with
     | error e => rw [hk] at h; cases h
     | ok x =>
       rw [hk] at h
       dsimp only at h
       have h2 := hc _ x.1 x.2 hk
       split at h
       · have h1 := listF_le hc n _ _ _ _ h
         have := lines_le x.2.tail
         have := tail_le x.2
         omega
       · split at h
         · have h1 := listF_le hc n _ _ _ _ h
           have := lines_le x.2
           omega
         · cases h; omega
theorem list_le {c : List Tok → R Nd} (hc : Le c) (e : Bool) : Le (list c e) := by
 intro ts v r h
 unfold list at h
 cases hp : listF c (ts.length + 1) [] (lines ts) with
 | error e => rw [hp] at h; cases h
 | ok z =>
   rw [hp] at h
   dsimp only at h
   have h2 := listF_le hc _ _ _ z.1 z.2 hp
   have := lines_le ts
   split at h
   · cases h
   · cases h; omega
theorem upTo_le {α : Type} {k : Int} {t : List UInt8} {x : R α} {v : α} {r : List Tok} (h : upTo k t x = .ok (v, r)) {n : Nat} (hx : ∀ v r, x = .ok (v, r) → r.length ≤ n) : r.length < n := by
 obtain ⟨r0, h1, h2, rfl⟩ := upTo_ok h
 have := isT_pos h2
 have := hx _ _ h1
 omega
section
variable {L : Bool → List Tok → R Nd} (hL : ∀ e, Le (L e))
include hL
theorem body_le : Le (body L) := by
 intro ts v r h
 unfold body at h
 split at h
 · have := upTo_le h (n := ts.tail.length) fun v r hh => hL _ _ _ _ hh
   have := tail_le ts
   omega
 · cases h
theorem choice_le {b : List Tok → R Nd} (hb : Le b) : Le (choice L b) := by
 intro ts v r h
 unfold choice at h
 obtain ⟨u, s, h1, h2⟩ := andThen_ok h
 obtain ⟨u2, s2, h3, h4⟩ := andThen_ok h2
 have a1 := upTo_le h1 (n := ts.length) fun v r hh => hL _ _ _ _ hh
 have a2 := hL _ _ _ _ h3
 split at h4
 · obtain ⟨u3, s3, h5, h6⟩ := andThen_ok h4
   cases h6
   have := hb _ _ _ h5
   omega
 · split at h4
   · have := upTo_le h4 (n := s2.length) fun v r hh => by
       obtain ⟨u3, s3, h5, h6⟩ := andThen_ok hh
       cases h6
       have := hL _ _ _ _ h5
       have := tail_le s2
       omega
     omega
   · have := upTo_le h4 (n := s2.length) fun v r hh => by cases hh; exact Nat.le_refl _
     omega
theorem item_le : Le (item L) := by
 intro ts v r h
 unfold item at h
 obtain ⟨u, s, h1, h2⟩ := andThen_ok h
 obtain ⟨u2, s2, h3, h4⟩ := andThen_ok h2
 obtain ⟨u3, s3, h5, h6⟩ := andThen_ok h4
 cases h6
 have a1 := partsT_lt _ _ _ h1
 have a4 : (if isT 1 [40] ts = true then ts.tail else ts).length ≤ ts.length := by split; exact tail_le ts; exact Nat.le_refl _
 have bars : ∀ (n : Nat) (ws : List (List Pt)), Le (barsF n ws) := by
   intro n
   induction n with
   | zero => intro _ _ _ _ h; cases h
   | succ n ih =>
     intro ws ts v r h
     rw [barsF] at h
     split at h
     · cases hp : partsT ts.tail with
       | error e => rw [hp] at h; cases h
       | ok x =>
         rw [hp] at h
         have := ih _ _ _ _ h
         have := partsT_lt _ _ _ hp
         have := tail_le ts
         omega
     · cases h; exact Nat.le_refl _
 have a2 := upTo_le h3 (n := s.length) fun v r hh => bars _ _ _ _ _ hh
 have a3 := hL _ _ _ _ h5
 omega
theorem item_lt : Lt (item L) := by
 intro ts v r h
 unfold item at h
 obtain ⟨u, s, h1, h2⟩ := andThen_ok h
 obtain ⟨u2, s2, h3, h4⟩ := andThen_ok h2
 obtain ⟨u3, s3, h5, h6⟩ := andThen_ok h4
 cases h6
 have a1 := partsT_lt _ _ _ h1
 have a4 : (if isT 1 [40] ts = true then ts.tail else ts).length ≤ ts.length := by split; exact tail_le ts; exact Nat.le_refl _
 have bars : ∀ (n : Nat) (ws : List (List Pt)), Le (barsF n ws) := by
   intro n
   induction n with
   | zero => intro _ _ _ _ h; cases h
   | succ n ih =>
     intro ws ts v r h
     rw [barsF] at h
     split at h
     · cases hp : partsT ts.tail with
       | error e => rw [hp] at h; cases h
       | ok x =>
         rw [hp] at h
         have := ih _ _ _ _ h
         have := partsT_lt _ _ _ hp
         have := tail_le ts
         omega
     · cases h; exact Nat.le_refl _
 have a2 := upTo_le h3 (n := s.length) fun v r hh => bars _ _ _ _ _ hh
 have a3 := hL _ _ _ _ h5
 omega
theorem itemsF_le : ∀ (n : Nat) (ks : List Nd), Le (itemsF L n ks)
 | 0, _, _, _, _, h => by cases h
 | n + 1, ks, ts, v, r, h => by
   rw [itemsF] at h
   split at h
   · cases h; exact tail_le ts
   · cases hk : item L ts with
     | error e => rw [hk] at h; cases h
     | ok x =>
       rw [hk] at h
       dsimp only at h
       have h2 := item_le hL _ x.1 x.2 hk
       split at h
       · have h1 := itemsF_le n _ _ _ _ h
         have := lines_le x.2.tail
         have := tail_le x.2
         omega
       · split at h
         · have h1 := itemsF_le n _ _ _ _ h
           have := lines_le x.2
           omega
         · cases h
theorem cases_le : Le (cases L) := by
 intro ts v r h
 unfold cases at h
 obtain ⟨u, s, h1, h2⟩ := andThen_ok h
 have a1 := partsT_lt _ _ _ h1
 split at h2
 · obtain ⟨u2, s2, h3, h4⟩ := andThen_ok h2
   cases h4
   have := itemsF_le hL _ _ _ _ _ h3
   have := lines_le (lines s).tail
   have := tail_le (lines s)
   have := lines_le s
   omega
 · cases h2
theorem each_le : Le (each L) := by
 intro ts v r h
 unfold each at h
 split at h
 · cases h
 have words : ∀ (n : Nat) (ws : List (List Pt)), Le (wordsF n ws) := by
   intro n
   induction n with
   | zero => intro _ _ _ _ h; cases h
   | succ n ih =>
     intro ws ts v r h
     rw [wordsF] at h
     split at h
     · cases hp : partsT ts with
       | error e => rw [hp] at h; cases h
       | ok x =>
         rw [hp] at h
         have := ih _ _ _ _ h
         have := partsT_lt _ _ _ hp
         omega
     · cases h; exact Nat.le_refl _
 have := lines_le ts.tail
 have := tail_le ts
 have := tail_le (lines ts.tail)
 split at h
 · obtain ⟨u, s, h1, h2⟩ := andThen_ok h
   have a1 := words _ _ _ _ _ h1
   split at h2
   · obtain ⟨u2, s2, h3, h4⟩ := andThen_ok h2
     cases h4
     have a2 := body_le hL _ _ _ h3
     have := lines_le (if isT 1 [59] s = true then s.tail else s)
     have : (if isT 1 [59] s = true then s.tail else s).length ≤ s.length := by split; exact tail_le s; exact Nat.le_refl _
     omega
   · cases h2
 · obtain ⟨u2, s2, h3, h4⟩ := andThen_ok h
   cases h4
   have a2 := body_le hL _ _ _ h3
   have := lines_le (if isT 1 [59] (lines ts.tail) = true then (lines ts.tail).tail else lines ts.tail)
   have : (if isT 1 [59] (lines ts.tail) = true then (lines ts.tail).tail else lines ts.tail).length ≤ (lines ts.tail).length := by split; exact tail_le _; exact Nat.le_refl _
   omega
end
theorem redirect_lt {ts : List Tok} {v : List UInt8 × List Pt} {r : List Tok} (h : redirect ts = .ok (v, r)) : r.length < ts.length := by
 unfold redirect at h
 obtain ⟨u, s, h1, h2⟩ := andThen_ok h
 cases h2
 have := partsT_lt _ _ _ h1
 have := tail_le ts
 omega
theorem redirsF_le : ∀ (n : Nat) (rs : List (List UInt8 × List Pt)), Le (redirsF n rs)
 | 0, _, _, _, _, h => by cases h
 | n + 1, rs, ts, v, r, h => by
   rw [redirsF] at h
   split at h
   · cases hp : redirect ts with
     | error e => rw [hp] at h; cases h
     | ok x =>
       rw [hp] at h
       have := redirsF_le n _ _ _ _ h
       have := redirect_lt hp
       omega
   · cases h; exact Nat.le_refl _
theorem wordT_pos {ts : List Tok} (h : wordT ts = true) : ts.tail.length < ts.length := by
 cases ts with
 | nil => cases h
 | cons t r => simp
theorem simpleF_le : ∀ (n : Nat) (s : Sm) (ts : List Tok) (v : Sm) (r : List Tok), simpleF n s ts = .ok (v, r) → r.length ≤ ts.length ∧ (r.length = ts.length → v = s)
 | 0, _, _, _, _, h => by cases h
 | n + 1, s, ts, v, r, h => by
   rw [simpleF] at h
   split at h
   · cases hp : redirect ts with
     | error e => rw [hp] at h; cases h
     | ok x =>
       rw [hp] at h
       have := simpleF_le n _ _ _ _ h
       have := redirect_lt hp
       omega
   · split at h
     · rename_i hw
       split at h
       · cases hp : parts 30 ((textT ts).drop (nameL (textT ts) + 1)) with
         | error e => rw [hp] at h; cases h
         | ok x =>
           rw [hp] at h
           have := simpleF_le n _ _ _ _ h
           have := wordT_pos hw
           omega
       · cases hp : partsT ts with
         | error e => rw [hp] at h; cases h
         | ok x =>
           rw [hp] at h
           have := simpleF_le n _ _ _ _ h
           have := partsT_lt _ _ _ hp
           omega
     · cases h; exact ⟨Nat.le_refl _, fun _ => rfl⟩
theorem simple_lt : Lt simple := by
 intro ts v r h
 unfold simple at h
 obtain ⟨u, s, h1, h2⟩ := andThen_ok h
 obtain ⟨a1, a2⟩ := simpleF_le _ _ _ _ _ h1
 split at h2
 · cases h2
 · rename_i hne
   cases h2
   rcases Nat.lt_or_ge r.length ts.length with h | h
   · exact h
   · rw [a2 (by omega)] at hne
     exact absurd rfl hne
theorem commandP_lt {c b : List Tok → R Nd} (hc : Lt c) (hb : Le b) : Lt (commandP c b) := by
 have hL : ∀ e, Le (list (andOr (pipe c)) e) := fun e => list_le (andOr_lt (pipe_lt hc)).le e
 intro ts v r h
 unfold commandP at h
 cases hx : constructP c b ts with
 | some x =>
   rw [hx] at h
   dsimp only at h
   obtain ⟨u, s, h1, h2⟩ := andThen_ok h
   obtain ⟨u2, s2, h3, h4⟩ := andThen_ok h2
   cases h4
   have a1 := redirsF_le _ _ _ _ _ h3
   subst h1
   have key : s.length < ts.length := by
     unfold constructP at hx
     dsimp only at hx
     split at hx
     · rename_i ht
       obtain ⟨u3, s3, h5, h6⟩ := andThen_ok (Option.some.inj hx)
       cases h6
       have := upTo_le h5 (n := ts.tail.length) fun v r hh => hL _ _ _ _ hh
       have := isT_pos ht
       omega
     split at hx
     · rename_i ht
       obtain ⟨u3, s3, h5, h6⟩ := andThen_ok (Option.some.inj hx)
       cases h6
       have := upTo_le h5 (n := ts.tail.length) fun v r hh => hL _ _ _ _ hh
       have := isT_pos ht
       omega
     split at hx
     · rename_i ht
       have := choice_le hL hb _ _ _ (Option.some.inj hx)
       have := isT_pos ht
       omega
     split at hx
     · rename_i ht
       have h := Option.some.inj hx
       unfold loop at h
       obtain ⟨u, s, h1, h2⟩ := andThen_ok h
       obtain ⟨u2, s2, h3, h4⟩ := andThen_ok h2
       cases h4
       have := hL _ _ _ _ h1
       have := body_le hL _ _ _ h3
       rw [Bool.or_eq_true] at ht
       have : ts.tail.length < ts.length := by rcases ht with ht | ht <;> exact isT_pos ht
       omega
     split at hx
     · rename_i ht
       have := each_le hL _ _ _ (Option.some.inj hx)
       have := isT_pos ht
       omega
     split at hx
     · rename_i ht
       have := cases_le hL _ _ _ (Option.some.inj hx)
       have := isT_pos ht
       omega
     · cases hx
   omega
 | none =>
   rw [hx] at h
   dsimp only at h
   split at h
   · cases h
   split at h
   · rename_i ha
     unfold defP at h
     split at h
     · obtain ⟨u, s, h1, h2⟩ := andThen_ok h
       split at h2
       · cases h2
       · cases h2
         have := hc _ _ _ h1
         have := lines_le (ts.drop 3)
         have : (ts.drop 3).length ≤ ts.length := by simp
         omega
     · cases h
   · exact simple_lt _ _ _ h
theorem bothP_lt : ∀ d, Lt (bothP d).1 ∧ Le (bothP d).2
 | 0 => ⟨fun _ _ _ h => (by cases h), fun _ _ _ h => (by cases h)⟩
 | d + 1 => by
   obtain ⟨h1, h2⟩ := bothP_lt d
   refine ⟨commandP_lt h1 h2, fun ts v r h => ?_⟩
   have h : wrap (choice (list (andOr (pipe (bothP d).1))) (bothP d).2 ts.tail) = .ok (v, r) := h
   unfold wrap at h
   obtain ⟨u, s, h3, h4⟩ := andThen_ok h
   cases h4
   have := choice_le (fun e => list_le (andOr_lt (pipe_lt h1)).le e) h2 _ _ _ h3
   have := tail_le ts
   omega
end Sy
end
end Go.Proofs.YtahjonfmhejoeaaGreatDoor
