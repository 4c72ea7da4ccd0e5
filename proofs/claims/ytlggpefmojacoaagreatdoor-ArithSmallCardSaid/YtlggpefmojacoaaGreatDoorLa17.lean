/-
  Parts of the proof, merged.
-/
import Derived.Test.YtlggpefmojacoaaGreatDoorLa16
namespace Go.Proofs.YtlggpefmojacoaaGreatDoor
section
namespace Wx
open Lx
def okBy (l : List UInt8) : Prop := ∀ c, l.head? = some c → c ≠ 40 ∧ c ≠ 123 ∧ letter c = false ∧ special c = false
def plainT (b : Bool) : List UInt8 → Prop
 | [] => True
 | c :: r => c ≠ 92 ∧ c ≠ 39 ∧ c ≠ 34 ∧ (c = 36 → okBy r) ∧ (b = true → c ≠ 125) ∧ plainT b r
def NameOk (n : List UInt8) : Prop := n ≠ [] ∧ paramL n = n.length
mutual
def AllQ : List Pt → Prop
 | [] => True
 | p :: l => AllQP p ∧ AllQ l
def AllQP : Pt → Prop
 | .mk _ q _ _ _ w => q = true ∧ AllQ w
end
def OpOk (n o : List UInt8) (w : List Pt) : Prop :=
 o ∈ wops ∧ (o = [37] → (print w).head? ≠ some 37) ∧ (o = [35] → (print w).head? ≠ some 35) ∧ (n = [35] → o = [35] ∨ o = [63] → print w ≠ []) ∧ ((o = [61] ∨ o = [58, 61]) → nameL n ≠ 0)
mutual
def CanL (b : Bool) : List Pt → Prop
 | [] => True
 | p :: l => CanP b p ∧ (∀ r, l.head? = some r → alike p r = false) ∧ CanL b l
def CanP (b : Bool) : Pt → Prop
 | .mk k q t n o w =>
   (k = 0 ∧ n = [] ∧ o = [] ∧ w = [] ∧ (q = false → t ≠ [] ∧ plainT b t)) ∨
   (k = 2 ∧ n = [] ∧ o = [] ∧ w = [] ∧ nest 29 41 (t ++ [41]) = some (t.length + 1) ∧ ¬ (t.head? = some 40 ∧ t.getLast? = some 41 ∧ 2 ≤ t.length)) ∨
   (k = 3 ∧ n = [] ∧ o = [] ∧ w = [] ∧ nest 29 41 (40 :: t ++ [41, 41]) = some (t.length + 3)) ∨
   (k = 1 ∧ t = [] ∧ NameOk n ∧ ((o = lenOp ∧ w = []) ∨ (o = [] ∧ w = []) ∨ (OpOk n o w ∧ cmds w = false ∧ CanL true w ∧ (q = true → AllQ w))))
end
mutual
def needL : List Pt → Nat
 | [] => 1
 | p :: l => max (needP p) (needL l)
def needP : Pt → Nat
 | .mk k _ t _ _ w => if k = 0 then 1 else if k = 1 then 2 + needL w else if k = 2 then (t.length + 7) / 2 else (t.length + 9) / 2
end
theorem needL_pos : ∀ (l : List Pt), 1 ≤ needL l
 | [] => by rw [needL]; omega
 | p :: l => by rw [needL]; have := needL_pos l; omega
theorem takeW_app {f : UInt8 → Bool} : ∀ (l : List UInt8) {x : List UInt8}, (l.takeWhile f).length = l.length → (∀ c, x.head? = some c → f c = false) → ((l ++ x).takeWhile f).length = l.length
 | [], [], _, _ => rfl
 | [], c :: x, _, h => by
   rw [List.nil_append, List.takeWhile_cons, if_neg (by simp [h c rfl])]
 | c :: l, x, h, hx => by
   rw [List.cons_append, List.takeWhile_cons]
   rw [List.takeWhile_cons] at h
   by_cases hc : f c = true
   · rw [if_pos hc] at h ⊢
     rw [List.length_cons, List.length_cons, takeW_app l (by simpa using h) hx]
   · rw [if_neg hc] at h
     simp at h
theorem special_digit {c : UInt8} (h : digit c = true) : special c = true := by unfold special; rw [h]; rfl
theorem paramL_app {n x : List UInt8} (hn : NameOk n) (hx : ∀ c, x.head? = some c → letter c = false ∧ digit c = false) : paramL (n ++ x) = n.length := by
 obtain ⟨h0, h1⟩ := hn
 cases n with
 | nil => exact absurd rfl h0
 | cons c r =>
   by_cases hL : letter c = true
   · have e1 : nameL (c :: r) = 1 + (r.takeWhile fun c => letter c || digit c).length := if_pos hL
     have e2 : nameL (c :: r ++ x) = 1 + ((r ++ x).takeWhile fun c => letter c || digit c).length := if_pos hL
     unfold paramL at h1 ⊢
     rw [if_pos (by omega)] at h1 ⊢
     rw [e1, List.length_cons] at h1
     rw [e2, takeW_app r (by omega) (fun c hc => by simp [hx c hc]), List.length_cons]
     omega
   · have e1 : nameL (c :: r) = 0 := if_neg hL
     have e2 : nameL (c :: r ++ x) = 0 := if_neg hL
     unfold paramL at h1 ⊢
     rw [if_neg (by omega)] at h1 ⊢
     by_cases hD : digit c = true
     · have p1 : 0 < ((c :: r).takeWhile digit).length := by rw [List.takeWhile_cons, if_pos hD]; simp
       have p2 : 0 < ((c :: r ++ x).takeWhile digit).length := by rw [List.cons_append, List.takeWhile_cons, if_pos hD]; simp
       rw [if_pos p1] at h1
       rw [if_pos p2]
       exact takeW_app _ h1 fun c hc => (hx c hc).2
     · have p1 : ¬ 0 < ((c :: r).takeWhile digit).length := by rw [List.takeWhile_cons, if_neg hD]; simp
       have p2 : ¬ 0 < ((c :: r ++ x).takeWhile digit).length := by rw [List.cons_append, List.takeWhile_cons, if_neg hD]; simp
       rw [if_neg p1] at h1
       rw [if_neg p2]
       simp only [List.cons_append] at h1 ⊢
       by_cases hS : special c = true
       · rw [if_pos hS] at h1 ⊢; exact h1
       · rw [if_neg hS] at h1; simp at h1
def lone (c : UInt8) : Prop := c ≠ 92 ∧ c ≠ 39 ∧ c ≠ 34 ∧ c ≠ 36 ∧ c ≠ 125
theorem letter_lone {c : UInt8} (h : (letter c || digit c) = true) : lone c := by
 refine ⟨?_, ?_, ?_, ?_, ?_⟩ <;> (rintro rfl; exact absurd h (by decide))
theorem special_lone {c : UInt8} (h : special c = true) : lone c := by
 refine ⟨?_, ?_, ?_, ?_, ?_⟩ <;> (rintro rfl; exact absurd h (by decide))
theorem takeW_all {f : UInt8 → Bool} : ∀ (l : List UInt8), (l.takeWhile f).length = l.length → ∀ c ∈ l, f c = true
 | [], _, c, hc => by cases hc
 | a :: l, h, c, hc => by
   rw [List.takeWhile_cons] at h
   by_cases ha : f a = true
   · rw [if_pos ha] at h
     rcases List.mem_cons.1 hc with rfl | hc
     · exact ha
     · exact takeW_all l (by simpa using h) c hc
   · rw [if_neg ha] at h; simp at h
theorem name_lone {n : List UInt8} (hn : NameOk n) : ∀ c ∈ n, lone c := by
 obtain ⟨h0, h1⟩ := hn
 cases n with
 | nil => exact absurd rfl h0
 | cons c r =>
   by_cases hL : letter c = true
   · have e1 : nameL (c :: r) = 1 + (r.takeWhile fun c => letter c || digit c).length := if_pos hL
     unfold paramL at h1
     rw [if_pos (by omega), e1, List.length_cons] at h1
     intro x hx
     rcases List.mem_cons.1 hx with rfl | hx
     · exact letter_lone (by rw [hL]; rfl)
     · have h2 : (r.takeWhile fun c => letter c || digit c).length = r.length := by omega
       exact letter_lone (takeW_all r h2 x hx)
   · have e1 : nameL (c :: r) = 0 := if_neg hL
     unfold paramL at h1
     rw [if_neg (by omega)] at h1
     by_cases hD : digit c = true
     · have p1 : 0 < ((c :: r).takeWhile digit).length := by rw [List.takeWhile_cons, if_pos hD]; simp
       rw [if_pos p1] at h1
       intro x hx
       exact special_lone (special_digit (takeW_all _ h1 x hx))
     · have p1 : ¬ 0 < ((c :: r).takeWhile digit).length := by rw [List.takeWhile_cons, if_neg hD]; simp
       rw [if_neg p1] at h1
       simp only at h1
       by_cases hS : special c = true
       · rw [if_pos hS] at h1
         intro x hx
         have : r = [] := by cases r with | nil => rfl | cons a r => simp at h1
         subst this
         rw [List.mem_singleton.1 hx]
         exact special_lone hS
       · rw [if_neg hS] at h1; simp at h1
theorem wops_head {o : List UInt8} (h : o ∈ wops) : ∃ c r, o = c :: r ∧ letter c = false ∧ digit c = false ∧ (∀ x ∈ o, lone x) ∧ o ≠ lenOp := by
 unfold wops at h
 simp only [List.mem_cons, List.not_mem_nil, or_false] at h
 rcases h with rfl | rfl | rfl | rfl | rfl | rfl | rfl | rfl | rfl | rfl | rfl | rfl <;>
   exact ⟨_, _, rfl, by decide, by decide, by intro x hx; simp only [List.mem_cons, List.not_mem_nil, or_false] at hx; rcases hx with rfl | rfl <;> exact ⟨by decide, by decide, by decide, by decide, by decide⟩, by decide⟩
theorem opL_app {n o : List UInt8} {w : List Pt} (h : OpOk n o w) : opL (o ++ print w) = some o := by
 obtain ⟨hm, h37, h35, _, _⟩ := h
 unfold wops at hm
 simp only [List.mem_cons, List.not_mem_nil, or_false] at hm
 generalize print w = x at *
 rcases hm with rfl | rfl | rfl | rfl | rfl | rfl | rfl | rfl | rfl | rfl | rfl | rfl
 · simp [opL, wops]
 · simp [opL, wops]
 · simp [opL, wops]
 · simp [opL, wops]
 · simp [opL, wops]
 · simp [opL, wops]
 · simp [opL, wops]
 · simp [opL, wops]
 · simp [opL, wops]
 · simp [opL, wops]
 · have := h37 rfl
   cases x with
   | nil => simp [opL, wops]
   | cons c x =>
     have hc : (37 : UInt8) ≠ c := fun e => this (by rw [← e]; rfl)
     have hc2 : ((37 : UInt8) == c) = false := by simpa using hc
     simp [opL, wops, List.isPrefixOf, hc2]
 · have := h35 rfl
   cases x with
   | nil => simp [opL, wops]
   | cons c x =>
     have hc : (35 : UInt8) ≠ c := fun e => this (by rw [← e]; rfl)
     have hc2 : ((35 : UInt8) == c) = false := by simpa using hc
     simp [opL, wops, List.isPrefixOf, hc2]
theorem unit_lone (d : Nat) {c : UInt8} (hc : lone c) {e : UInt8} (he : e ≠ 41) (r : List UInt8) : unit (d + 1) e (c :: r) = some 1 := by
 obtain ⟨h1, h2, h3, h4, _⟩ := hc
 rw [unit_step, if_neg h1, if_neg (fun h => h2 h.1), if_neg h3, if_neg (fun h => h4 h.1), if_neg (fun h => h4 h.1), if_neg (fun h => he h.2)]
theorem nest_lone {d : Nat} : ∀ (l : List UInt8), (∀ c ∈ l, lone c) → ∀ r, nest (d + 1) 125 (l ++ r) = (nest (d + 1) 125 r).map (l.length + ·)
 | [], _, r => by rw [List.nil_append]; simp
 | c :: l, h, r => by
   have hc := h c (List.mem_cons_self ..)
   rw [List.cons_append, nest_on hc.2.2.2.2 (unit_lone d hc (by decide) _), List.drop_one, List.tail_cons, nest_lone l (fun x hx => h x (List.mem_cons_of_mem _ hx)), Option.map_map, List.length_cons]
   congr 1
   funext x
   show 1 + (l.length + x) = l.length + 1 + x
   omega
def body : Pt → List UInt8
 | .mk k _ t n o w => if k = 2 then [36, 40] ++ t ++ [41] else if k = 3 then [36, 40, 40] ++ t ++ [41, 41] else if o = lenOp then [36, 123, 35] ++ n ++ [125] else [36, 123] ++ n ++ o ++ print w ++ [125]
theorem printP_body {b : Bool} {p : Pt} (hp : CanP b p) (hk : p.kind ≠ 0) : printP p = about p.q (body p) := by
 obtain ⟨k, q, t, n, o, w⟩ := p
 rw [CanP] at hp
 rcases hp with ⟨rfl, _⟩ | ⟨rfl, _⟩ | ⟨rfl, _⟩ | ⟨rfl, _⟩
 · exact absurd rfl hk
 · rw [printP, body]; simp [Pt.q]
 · rw [printP, body]; simp [Pt.q]
 · rw [printP, body]
   simp only [show ¬ (1 : Int) = 0 by omega, show ¬ (1 : Int) = 2 by omega, show ¬ (1 : Int) = 3 by omega, if_false, if_true, Pt.q]
theorem printP_text (q : Bool) (t n o : List UInt8) (w : List Pt) : printP (.mk 0 q t n o w) = if q then single t else t := by rw [printP, if_pos rfl]
theorem body_head {b : Bool} {p : Pt} (hp : CanP b p) (hk : p.kind ≠ 0) : ∃ c r, body p = 36 :: c :: r ∧ (c = 40 ∨ c = 123) := by
 obtain ⟨k, q, t, n, o, w⟩ := p
 rw [CanP] at hp
 rcases hp with ⟨rfl, _⟩ | ⟨rfl, _⟩ | ⟨rfl, _⟩ | ⟨rfl, _⟩
 · exact absurd rfl hk
 · exact ⟨40, t ++ [41], by rw [body]; simp, .inl rfl⟩
 · exact ⟨40, 40 :: t ++ [41, 41], by rw [body]; simp, .inl rfl⟩
 · rw [body]
   simp only [show ¬ (1 : Int) = 2 by omega, show ¬ (1 : Int) = 3 by omega, if_false]
   split
   · exact ⟨123, 35 :: n ++ [125], by simp, .inr rfl⟩
   · exact ⟨123, n ++ o ++ print w ++ [125], by simp, .inr rfl⟩
def shut (l : List UInt8) : Prop := ∀ c, l.head? = some c → c = 39 ∨ c = 34 ∨ c = 36 ∨ c = 125
theorem shut.ok {l : List UInt8} (h : shut l) : okBy l := by
 intro c hc
 rcases h c hc with rfl | rfl | rfl | rfl <;> exact ⟨by decide, by decide, by decide, by decide⟩
theorem print_shut {b : Bool} {l : List Pt} (hl : CanL b l) (h : ∀ r, l.head? = some r → r.kind = 0 → r.q = true) (z : List UInt8) (hz : shut z) : shut (print l ++ z) := by
 cases l with
 | nil => rw [print]; exact hz
 | cons p l =>
   rw [CanL] at hl
   rw [print, List.append_assoc]
   by_cases hk : p.kind = 0
   · have hq := h p rfl hk
     obtain ⟨k, q, t, n, o, w⟩ := p
     obtain rfl : k = 0 := hk
     obtain rfl : q = true := hq
     rw [printP_text, if_pos rfl]
     intro c hc
     rw [single] at hc
     simp at hc
     exact .inl hc.symm
   · rw [printP_body hl.1 hk]
     obtain ⟨c, r, he, _⟩ := body_head hl.1 hk
     rw [he]
     intro x hx
     unfold about at hx
     split at hx
     · simp at hx; exact .inr (.inl hx.symm)
     · simp at hx; exact .inr (.inr (.inl hx.symm))
theorem nest_plain {d : Nat} : ∀ (t : List UInt8), plainT true t → ∀ r, (t ≠ [] → okBy r) → nest (d + 1) 125 (t ++ r) = (nest (d + 1) 125 r).map (t.length + ·)
 | [], _, r, _ => by rw [List.nil_append]; simp
 | c :: t, h, r, hr => by
   obtain ⟨h1, h2, h3, h4, h5, h6⟩ := h
   have hn : c = 36 → (t ++ r).head? ≠ some 40 ∧ (t ++ r).head? ≠ some 123 := by
     intro hc
     cases t with
     | nil => rw [List.nil_append]; exact ⟨fun e => (hr (by simp) _ e).1 rfl, fun e => (hr (by simp) _ e).2.1 rfl⟩
     | cons x t => exact ⟨fun e => (h4 hc x rfl).1 (by simpa using e), fun e => (h4 hc x rfl).2.1 (by simpa using e)⟩
   have hu : unit (d + 1) 125 (c :: (t ++ r)) = some 1 := by
     rw [unit_step, if_neg h1, if_neg (fun h => h2 h.1), if_neg h3, if_neg (fun h => (hn h.1).1 h.2), if_neg (fun h => (hn h.1).2 h.2), if_neg (fun h => absurd h.2 (by decide))]
   rw [List.cons_append, nest_on (h5 rfl) hu, List.drop_one, List.tail_cons, nest_plain t h6 r (fun _ => hr (by simp)), Option.map_map, List.length_cons]
   congr 1
   funext x
   show 1 + (t.length + x) = t.length + 1 + x
   omega
def enc (l : List UInt8) : List UInt8 := l.flatMap fun c => if c = 39 then [39, 92, 39, 39] else [c]
theorem single_enc (l : List UInt8) : single l = 39 :: enc l ++ [39] := rfl
theorem enc_cons (c : UInt8) (l : List UInt8) : enc (c :: l) = (if c = 39 then [39, 92, 39, 39] else [c]) ++ enc l := by unfold enc; rw [List.flatMap_cons]
theorem quoted_at : ∀ (a r : List UInt8), 39 ∉ a → Lx.quoted (a ++ 39 :: r) = some (a.length + 1)
 | [], r, _ => by rw [List.nil_append, Lx.quoted, if_pos rfl]; rfl
 | c :: a, r, h => by
   rw [List.mem_cons, not_or] at h
   rw [List.cons_append, Lx.quoted, if_neg (fun e => h.1 e.symm), quoted_at a r h.2, List.length_cons]
   rfl
theorem unit_single (d : Nat) {e : UInt8} (he : e ≠ 34) (a r : List UInt8) (ha : 39 ∉ a) : unit (d + 1) e (39 :: (a ++ 39 :: r)) = some (a.length + 2) := by
 rw [unit_step, if_neg (by decide), if_pos ⟨rfl, he⟩, quoted_at a r ha]
 show some (1 + (a.length + 1)) = _
 congr 1
 omega
theorem unit_bslash (d : Nat) (e c : UInt8) (r : List UInt8) : unit (d + 1) e (92 :: c :: r) = some 2 := by rw [unit_step, if_pos rfl, if_neg (by simp)]
theorem nest_single {d : Nat} : ∀ (t a r : List UInt8), 39 ∉ a → nest (d + 1) 125 (39 :: (a ++ enc t ++ 39 :: r)) = (nest (d + 1) 125 r).map ((a.length + (enc t).length + 2) + ·)
 | [], a, r, ha => by
   have hu := unit_single d (e := 125) (by decide) a r ha
   rw [show enc [] = [] from rfl, List.append_nil, nest_on (by decide) hu]
   have : (39 :: (a ++ 39 :: r)).drop (a.length + 2) = r := by
     rw [show 39 :: (a ++ 39 :: r) = (39 :: a ++ [39]) ++ r by simp, List.drop_left' (by simp)]
   rw [this]
   rfl
 | c :: t, a, r, ha => by
   by_cases hc : c = 39
   · subst hc
     rw [enc_cons, if_pos rfl]
     have e1 : (39 : UInt8) :: (a ++ ([39, 92, 39, 39] ++ enc t) ++ 39 :: r) = 39 :: (a ++ 39 :: (92 :: 39 :: 39 :: ([] ++ enc t ++ 39 :: r))) := by simp
     have hu := unit_single d (e := 125) (by decide) a (92 :: 39 :: 39 :: ([] ++ enc t ++ 39 :: r)) ha
     have e2 : (39 :: (a ++ 39 :: (92 :: 39 :: 39 :: ([] ++ enc t ++ 39 :: r)))).drop (a.length + 2) = 92 :: 39 :: 39 :: ([] ++ enc t ++ 39 :: r) := by
       rw [show ∀ z : List UInt8, 39 :: (a ++ 39 :: z) = (39 :: a ++ [39]) ++ z by intro z; simp, List.drop_left' (by simp)]
     rw [e1, nest_on (by decide) hu, e2, nest_on (by decide) (unit_bslash d 125 39 _)]
     show Option.map _ (Option.map _ (nest (d + 1) 125 (39 :: ([] ++ enc t ++ 39 :: r)))) = _
     rw [nest_single t [] r (by simp), Option.map_map, Option.map_map]
     congr 1
     funext x
     show a.length + 2 + (2 + (([] : List UInt8).length + (enc t).length + 2 + x)) = a.length + ([39, 92, 39, 39] ++ enc t).length + 2 + x
     simp
     omega
   · rw [enc_cons, if_neg hc]
     have := nest_single t (a ++ [c]) r (by simp [ha]; exact fun e => hc e.symm) (d := d)
     rw [show a ++ ([c] ++ enc t) = a ++ [c] ++ enc t by simp, this]
     congr 1
     funext x
     simp
     omega
theorem unit_par (d : Nat) (e : UInt8) (r : List UInt8) : unit (d + 1) e (36 :: 40 :: r) = (nest d 41 r).map (2 + ·) := by
 rw [unit_step, if_neg (by decide), if_neg (fun h => absurd h.1 (by decide)), if_neg (by decide), if_pos ⟨rfl, rfl⟩]; rfl
theorem unit_brace (d : Nat) (e : UInt8) (r : List UInt8) : unit (d + 1) e (36 :: 123 :: r) = (nest d 125 r).map (2 + ·) := by
 rw [unit_step, if_neg (by decide), if_neg (fun h => absurd h.1 (by decide)), if_neg (by decide), if_neg (fun h => absurd h.2 (by simp)), if_pos ⟨rfl, rfl⟩]; rfl
theorem unit_dq (d : Nat) (e : UInt8) (r : List UInt8) : unit (d + 1) e (34 :: r) = (nest d 34 r).map (1 + ·) := by
 rw [unit_step, if_neg (by decide), if_neg (fun h => absurd h.1 (by decide)), if_pos rfl]
theorem nest_cut {d : Nat} {e : UInt8} {a x : List UInt8} (y : List UInt8) (h : nest d e (a ++ x) = some a.length) : nest d e (a ++ y) = some a.length := nest_sim (unit_sim d e) _ a x y (Nat.le_refl _) h
theorem nest_few {d c : Nat} {e : UInt8} {l : List UInt8} {j : Nat} (h : nest d e l = some j) (hj : j ≤ 2 * c) : nest c e l = some j := nest_enough (unit_enough d c e) _ l j (Nat.le_refl _) h hj
mutual
theorem print_nest : ∀ (l : List Pt), CanL true l → ∀ d, needL l ≤ d → ∀ z, nest d 125 (print l ++ 125 :: z) = some ((print l).length + 1)
 | [], _, d, _, z => by rw [print]; exact nest_end ..
 | p :: l, hc, d, hd, z => by
   rw [CanL] at hc
   rw [needL] at hd
   obtain ⟨hp, hr, hl⟩ := hc
   have ih := print_nest l hl d (by omega) z
   rw [print, List.append_assoc]
   obtain ⟨d, rfl⟩ : ∃ c, d = c + 1 := ⟨d - 1, by have := needL_pos l; omega⟩
   by_cases hk : p.kind = 0
   · obtain ⟨k, q, t, n, o, w⟩ := p
     obtain rfl : k = 0 := hk
     rw [printP_text]
     rw [CanP] at hp
     have hp := (hp.resolve_right (by rintro (⟨h, _⟩ | ⟨h, _⟩ | ⟨h, _⟩) <;> omega)).2.2.2.2
     cases q with
     | true =>
       rw [if_pos rfl, single_enc]
       have := nest_single t [] (print l ++ 125 :: z) (by simp) (d := d)
       rw [show 39 :: enc t ++ [39] ++ (print l ++ 125 :: z) = 39 :: ([] ++ enc t ++ 39 :: (print l ++ 125 :: z)) by simp, this, ih]
       show some _ = some _
       congr 1
       simp
       omega
     | false =>
       obtain ⟨_, hp⟩ := hp rfl
       have hs : shut (print l ++ 125 :: z) := print_shut hl (fun r h h0 => by
         have := hr r h
         obtain ⟨k', q', t', n', o', w'⟩ := r
         obtain rfl : k' = 0 := h0
         cases q' with
         | true => rfl
         | false => exact absurd this (by simp [alike, Pt.kind, Pt.q])) _ (by intro c hc; simp at hc; exact .inr (.inr (.inr hc.symm)))
       rw [if_neg (by decide), nest_plain t hp _ (fun _ => hs.ok), ih]
       show some _ = some _
       congr 1
       dsimp only
       rw [List.length_append]
       omega
   · have hu := body_unit p hp hk
     obtain ⟨c, r, he, _⟩ := body_head hp hk
     rw [printP_body hp hk]
     unfold about
     split
     · have e1 : 34 :: body p ++ [34] ++ (print l ++ 125 :: z) = 34 :: (body p ++ 34 :: (print l ++ 125 :: z)) := by simp
       have h1 : unit (d + 1) 125 (34 :: (body p ++ 34 :: (print l ++ 125 :: z))) = some ((body p).length + 2) := by
         rw [unit_dq]
         have := hu d (by omega) 34 (34 :: (print l ++ 125 :: z))
         rw [he] at this ⊢
         rw [List.cons_append] at this ⊢
         rw [nest_on (by decide) this, ← List.cons_append, List.drop_left, nest_end]
         show some _ = some _
         congr 1
         dsimp only
         omega
       rw [e1, nest_on (by decide) h1]
       have e2 : (34 :: (body p ++ 34 :: (print l ++ 125 :: z))).drop ((body p).length + 2) = print l ++ 125 :: z := by
         rw [← e1, List.drop_left' (by simp)]
       rw [e2, ih]
       show some _ = some _
       congr 1
       simp
       omega
     · have := hu (d + 1) (by omega) 125 (print l ++ 125 :: z)
       rw [he] at this ⊢
       rw [List.cons_append] at this ⊢
       rw [nest_on (by decide) this, ← List.cons_append, List.drop_left, ih]
       show some _ = some _
       congr 1
       dsimp only
       rw [List.length_append]
       omega
theorem body_unit : ∀ (p : Pt) {b : Bool}, CanP b p → p.kind ≠ 0 → ∀ d, needP p ≤ d + 1 → ∀ e z, unit d e (body p ++ z) = some (body p).length
 | .mk k q t n o w, b, hp, hk, d, hd, e, z => by
   rw [CanP] at hp
   rw [needP] at hd
   rcases hp with ⟨rfl, _⟩ | ⟨rfl, _, _, _, h, _⟩ | ⟨rfl, _, _, _, h⟩ | ⟨rfl, _, hn, h⟩
   · exact absurd rfl hk
   · rw [if_neg (by omega), if_neg (by omega), if_pos rfl] at hd
     obtain ⟨d, rfl⟩ : ∃ c, d = c + 1 := ⟨d - 1, by omega⟩
     have h1 := nest_cut (a := t ++ [41]) (x := []) z (by rw [List.append_nil, List.length_append]; exact nest_few (c := d) h (by show t.length + 1 ≤ _; omega))
     rw [body, if_pos rfl, show [36, 40] ++ t ++ [41] ++ z = 36 :: 40 :: (t ++ [41] ++ z) by simp, unit_par, h1]
     show some _ = some _
     congr 1
     simp
     omega
   · rw [if_neg (by omega), if_neg (by omega), if_neg (by omega)] at hd
     obtain ⟨d, rfl⟩ : ∃ c, d = c + 1 := ⟨d - 1, by omega⟩
     have h1 := nest_cut (a := 40 :: t ++ [41, 41]) (x := []) z (by rw [List.append_nil]; simpa using nest_few (c := d) h (by omega))
     rw [body, if_neg (by omega), if_pos rfl, show [36, 40, 40] ++ t ++ [41, 41] ++ z = 36 :: 40 :: (40 :: t ++ [41, 41] ++ z) by simp, unit_par, h1]
     show some _ = some _
     congr 1
     simp
     omega
   · rw [if_neg (by omega), if_pos rfl] at hd
     obtain ⟨d, rfl⟩ : ∃ c, d = c + 2 := ⟨d - 2, by have := needL_pos w; omega⟩
     rw [body, if_neg (by omega), if_neg (by omega)]
     have hnl := name_lone hn
     rcases h with ⟨rfl, rfl⟩ | ⟨rfl, rfl⟩ | ⟨ho, _, hw, _⟩
     · rw [if_pos rfl, show [36, 123, 35] ++ n ++ [125] ++ z = 36 :: 123 :: ((35 :: n) ++ 125 :: z) by simp, unit_brace]
       rw [nest_lone (35 :: n) (by intro c hc; rcases List.mem_cons.1 hc with rfl | hc; exact ⟨by decide, by decide, by decide, by decide, by decide⟩; exact hnl c hc), nest_end]
       show some _ = some _
       congr 1
       simp
       omega
     · rw [if_neg (by decide), show [36, 123] ++ n ++ [] ++ print [] ++ [125] ++ z = 36 :: 123 :: (n ++ 125 :: z) by simp [print], unit_brace, nest_lone n hnl, nest_end]
       show some _ = some _
       congr 1
       simp [print]
       omega
     · obtain ⟨c, r, he, _, _, hol, hlen⟩ := wops_head ho.1
       rw [if_neg hlen, show [36, 123] ++ n ++ o ++ print w ++ [125] ++ z = 36 :: 123 :: (n ++ (o ++ (print w ++ 125 :: z))) by simp, unit_brace, nest_lone n hnl, nest_lone o hol]
       rw [print_nest w hw (d + 1) (by omega) z]
       show some _ = some _
       congr 1
       simp
       omega
end
end Wx
end
end Go.Proofs.YtlggpefmojacoaaGreatDoor
