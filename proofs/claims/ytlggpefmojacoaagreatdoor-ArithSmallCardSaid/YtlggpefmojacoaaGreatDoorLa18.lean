/-
  Parts of the proof, merged.
-/
import Derived.Test.YtlggpefmojacoaaGreatDoorLa17
namespace Go.Proofs.YtlggpefmojacoaaGreatDoor
section
namespace Wx
open Lx
theorem add_onto (l : List Pt) (a p : Pt) : add (l ++ [a]) p = if alike a p then l ++ [joined a p] else l ++ [a] ++ [p] := by
 unfold add
 simp
theorem add_join (l : List Pt) (q : Bool) (t x : List UInt8) : add (l ++ [txt q t]) (txt q x) = l ++ [txt q (t ++ x)] := by
 rw [add_onto, if_pos (by cases q <;> rfl)]
 rfl
theorem add_app {acc : List Pt} {p : Pt} (h : ∀ a, acc.getLast? = some a → alike a p = false) : add acc p = acc ++ [p] := by
 unfold add
 split
 · rename_i h0
   rw [List.getLast?_eq_none_iff] at h0
   rw [h0]; rfl
 · rename_i a ha
   rw [if_neg (by simp [h a ha])]
theorem alike_kind {a p : Pt} (h : p.kind ≠ 0) : alike a p = false := by
 unfold alike
 simp [h]
theorem dName_zero {r : List UInt8} (h : okBy r) : dName r = 0 := by
 unfold dName
 cases r with
 | nil => rfl
 | cons c r =>
   obtain ⟨_, _, hL, hS⟩ := h c rfl
   have e1 : nameL (c :: r) = 0 := if_neg (by simp [hL])
   rw [e1, if_neg (by simp [hS])]
theorem okBy_unit {r : List UInt8} (h : okBy r) (x : UInt8) : ¬ (((x :: r).drop 1).head? = some 40 ∨ ((x :: r).drop 1).head? = some 123) := by
 rw [List.drop_one, List.tail_cons]
 rintro (h1 | h1)
 · exact (h _ h1).1 rfl
 · exact (h _ h1).2.1 rfl
theorem dollar_plain {w : List UInt8 → Except Int (List Pt)} {q : Bool} {r : List UInt8} (h : okBy r) : dollar w q (36 :: r) = .ok (txt q [36], 1) := by
 rw [dollar_name (okBy_unit h 36), List.drop_one, List.tail_cons, if_pos (dName_zero h)]
theorem step1_plain {w : List UInt8 → Except Int (List Pt)} {c : UInt8} {r : List UInt8} (h1 : c ≠ 92) (h2 : c ≠ 39) (h3 : c ≠ 34) (h4 : c = 36 → okBy r) : step1 w (c :: r) = .ok ([txt false [c]], 1) := by
 rw [step1, if_neg (fun h => h.elim h1 (fun h => h.elim h2 h3))]
 by_cases hc : c = 36
 · subst hc
   rw [if_pos rfl, dollar_plain (h4 rfl)]; rfl
 · rw [if_neg hc]
theorem parts_plain {w : List UInt8 → Except Int (List Pt)} {b : Bool} {acc : List Pt} {r : List UInt8} : ∀ (t t1 : List UInt8), plainT b t → (t ≠ [] → okBy r) → partsOn w (t ++ r) (acc ++ [txt false t1]) = partsOn w r (acc ++ [txt false (t1 ++ t)])
 | [], t1, _, _ => by rw [List.nil_append, List.append_nil]
 | c :: t, t1, h, hr => by
   obtain ⟨h1, h2, h3, h4, _, h6⟩ := h
   have hn : c = 36 → okBy (t ++ r) := by
     intro hc
     cases t with
     | nil => exact hr (by simp)
     | cons x t => exact fun y hy => h4 hc y hy
   rw [List.cons_append, partsOn_go (step1_plain h1 h2 h3 hn), List.drop_one, List.tail_cons, List.foldl_cons, List.foldl_nil, add_join]
   have := parts_plain (w := w) (b := b) (acc := acc) (r := r) t (t1 ++ [c]) h6 (fun _ => hr (by simp))
   rw [show t1 ++ c :: t = t1 ++ [c] ++ t by simp]
   exact this
theorem step1_single {w : List UInt8 → Except Int (List Pt)} (a r : List UInt8) (ha : 39 ∉ a) : step1 w (39 :: (a ++ 39 :: r)) = .ok ([txt true a], a.length + 2) := by
 rw [step1, if_pos (.inr (.inl rfl)), unit_single 29 (by decide) a r ha]
 simp only [show ¬ (39 : UInt8) = 92 by decide, if_false, if_true]
 rw [Nat.add_sub_cancel, List.take_left]
theorem step1_bslash {w : List UInt8 → Except Int (List Pt)} (c : UInt8) (r : List UInt8) : step1 w (92 :: c :: r) = .ok ([txt true [c]], 2) := by
 rw [step1, if_pos (.inl rfl), unit_bslash 29 0 c r]
 simp only [if_true]
 rfl
theorem parts_single {w : List UInt8 → Except Int (List Pt)} {acc : List Pt} {r : List UInt8} : ∀ (t a t1 : List UInt8), 39 ∉ a → partsOn w (39 :: (a ++ enc t ++ 39 :: r)) (acc ++ [txt true t1]) = partsOn w r (acc ++ [txt true (t1 ++ a ++ t)])
 | [], a, t1, ha => by
   rw [show enc [] = [] from rfl, List.append_nil, List.append_nil, partsOn_go (step1_single a r ha)]
   rw [show 39 :: (a ++ 39 :: r) = (39 :: a ++ [39]) ++ r by simp, List.drop_left' (by simp), List.foldl_cons, List.foldl_nil, add_join]
 | c :: t, a, t1, ha => by
   by_cases hc : c = 39
   · subst hc
     rw [enc_cons, if_pos rfl]
     have e1 : (39 : UInt8) :: (a ++ ([39, 92, 39, 39] ++ enc t) ++ 39 :: r) = 39 :: (a ++ 39 :: (92 :: 39 :: 39 :: ([] ++ enc t ++ 39 :: r))) := by simp
     rw [e1, partsOn_go (step1_single a _ ha)]
     rw [show ∀ z : List UInt8, 39 :: (a ++ 39 :: z) = (39 :: a ++ [39]) ++ z by intro z; simp, List.drop_left' (by simp), List.foldl_cons, List.foldl_nil, add_join, partsOn_go (step1_bslash ..), List.foldl_cons, List.foldl_nil, add_join]
     have := parts_single (w := w) (acc := acc) (r := r) t [] (t1 ++ a ++ [39]) (by simp)
     rw [show t1 ++ a ++ 39 :: t = t1 ++ a ++ [39] ++ [] ++ t by simp, ← this]
     rfl
   · rw [enc_cons, if_neg hc]
     have := parts_single (w := w) (acc := acc) (r := r) t (a ++ [c]) t1 (by simp [ha]; exact fun e => hc e.symm)
     rw [show a ++ ([c] ++ enc t) = a ++ [c] ++ enc t by simp, this]
     simp
theorem parts_quoted {w : List UInt8 → Except Int (List Pt)} {acc : List Pt} {r : List UInt8} (h : ∀ x a, acc.getLast? = some a → alike a (txt true x) = false) : ∀ (t a : List UInt8), 39 ∉ a → partsOn w (39 :: (a ++ enc t ++ 39 :: r)) acc = partsOn w r (acc ++ [txt true (a ++ t)])
 | [], a, ha => by
   rw [show enc [] = [] from rfl, List.append_nil, partsOn_go (step1_single a r ha)]
   rw [show 39 :: (a ++ 39 :: r) = (39 :: a ++ [39]) ++ r by simp, List.drop_left' (by simp), List.foldl_cons, List.foldl_nil, add_app (h a)]
 | c :: t, a, ha => by
   by_cases hc : c = 39
   · subst hc
     rw [enc_cons, if_pos rfl]
     have e1 : (39 : UInt8) :: (a ++ ([39, 92, 39, 39] ++ enc t) ++ 39 :: r) = 39 :: (a ++ 39 :: (92 :: 39 :: 39 :: ([] ++ enc t ++ 39 :: r))) := by simp
     rw [e1, partsOn_go (step1_single a _ ha)]
     rw [show ∀ z : List UInt8, 39 :: (a ++ 39 :: z) = (39 :: a ++ [39]) ++ z by intro z; simp, List.drop_left' (by simp), List.foldl_cons, List.foldl_nil, add_app (h a), partsOn_go (step1_bslash ..), List.foldl_cons, List.foldl_nil, add_join]
     have := parts_single (w := w) (acc := acc) (r := r) t [] (a ++ [39]) (by simp)
     rw [show a ++ 39 :: t = a ++ [39] ++ [] ++ t by simp, ← this]
     rfl
   · rw [enc_cons, if_neg hc]
     have := parts_quoted (w := w) (acc := acc) (r := r) h t (a ++ [c]) (by simp [ha]; exact fun e => hc e.symm)
     rw [show a ++ ([c] ++ enc t) = a ++ [c] ++ enc t by simp, this]
     simp
mutual
theorem quotes_same : ∀ (l : List Pt) (b : Bool) (acc : List Pt), AllQ l → CanL b l → (∀ p, l.head? = some p → ∀ a, acc.getLast? = some a → alike a p = false) → quotesOn acc l = acc ++ l
 | [], _, acc, _, _, _ => by rw [quotesOn, List.append_nil]
 | p :: l, b, acc, hq, hc, h => by
   rw [AllQ] at hq
   rw [CanL] at hc
   rw [quotesOn, quoteP_same p b hq.1 hc.1, add_app (h p rfl), quotes_same l b (acc ++ [p]) hq.2 hc.2.2 (fun r hr a ha => by
     rw [List.getLast?_concat] at ha
     cases ha
     exact hc.2.1 r hr)]
   simp
theorem quoteP_same : ∀ (p : Pt) (b : Bool), AllQP p → CanP b p → quoteP p = p
 | .mk k q t n o w, b, hq, hc => by
   rw [AllQP] at hq
   obtain ⟨rfl, hw⟩ := hq
   rw [CanP] at hc
   rw [quoteP]
   rcases hc with ⟨rfl, _, _, rfl, _⟩ | ⟨rfl, _, _, rfl, _⟩ | ⟨rfl, _, _, rfl, _⟩ | ⟨rfl, _, _, h⟩
   · rw [quotesOn]
   · rw [quotesOn]
   · rw [quotesOn]
   · rcases h with ⟨_, rfl⟩ | ⟨_, rfl⟩ | ⟨_, _, hc, _⟩
     · rw [quotesOn]
     · rw [quotesOn]
     · rw [quotes_same w true [] hw hc (fun _ _ a ha => by cases ha), List.nil_append]
end
def inner : Pt → List UInt8
 | .mk _ _ _ n o w => if o = lenOp then 35 :: n else n ++ o ++ print w
theorem body_inner (q : Bool) (t n o : List UInt8) (w : List Pt) : body (.mk 1 q t n o w) = 36 :: 123 :: (inner (.mk 1 q t n o w) ++ [125]) := by
 rw [body, inner]
 simp only [show ¬ (1 : Int) = 2 by omega, show ¬ (1 : Int) = 3 by omega, if_false]
 split <;> simp
theorem name_hash {n : List UInt8} (hn : NameOk n) (h : n.head? = some 35) : n = [35] := by
 obtain ⟨h0, h1⟩ := hn
 cases n with
 | nil => exact absurd rfl h0
 | cons c r =>
   obtain rfl : c = 35 := by simpa using h
   have e1 : nameL (35 :: r) = 0 := by rw [nameL, if_neg (by decide)]
   unfold paramL at h1
   rw [if_neg (by omega)] at h1
   have p1 : ¬ 0 < ((35 :: r).takeWhile digit).length := by rw [List.takeWhile_cons, if_neg (by decide)]; simp
   rw [if_neg p1] at h1
   simp only at h1
   rw [if_pos (by decide)] at h1
   cases r with
   | nil => rfl
   | cons a r => simp at h1
theorem param_op {o : List UInt8} (ho : o ∈ wops) (x : List UInt8) : paramL (o ++ x) ≤ 1 ∧ (paramL (o ++ x) = 1 → 2 ≤ o.length ∨ o = [35] ∨ o = [63]) := by
 obtain ⟨c, r, rfl, hL, hD, _, _⟩ := wops_head ho
 have e1 : nameL (c :: r ++ x) = 0 := if_neg (by simp [hL])
 have p1 : ¬ 0 < ((c :: r ++ x).takeWhile digit).length := by rw [List.cons_append, List.takeWhile_cons, if_neg (by simp [hD])]; simp
 have e2 : paramL (c :: r ++ x) = if special c then 1 else 0 := by
   unfold paramL
   rw [if_neg (by omega), if_neg p1]
   rfl
 rw [e2]
 refine ⟨by split <;> omega, fun h => ?_⟩
 cases r with
 | cons a r => left; simp
 | nil =>
   right
   unfold wops at ho
   simp at ho
   rcases ho with rfl | rfl | rfl | rfl | rfl | rfl
   · exact absurd h (by decide)
   · exact absurd h (by decide)
   · exact .inr rfl
   · exact absurd h (by decide)
   · exact absurd h (by decide)
   · exact .inl rfl
theorem param_op2 {o x : List UInt8} (ho : o ∈ wops) (h : o = [35] ∨ o = [63] → x ≠ []) : paramL (o ++ x) ≠ (o ++ x).length := by
 obtain ⟨h1, h2⟩ := param_op ho x
 obtain ⟨c, r, rfl, _⟩ := wops_head ho
 intro e
 rw [List.length_append] at e
 rcases Nat.lt_or_ge (paramL (c :: r ++ x)) 1 with h3 | h3
 · rw [List.length_cons] at e; omega
 · have h4 : paramL (c :: r ++ x) = 1 := by omega
   rcases h2 h4 with h5 | h5
   · omega
   · have := List.length_pos_iff.2 (h h5)
     rw [List.length_cons] at e
     omega
theorem braces_same {w : List UInt8 → Except Int (List Pt)} {b q : Bool} {t n o : List UInt8} {wd : List Pt} (hp : CanP b (.mk 1 q t n o wd)) (hw : OpOk n o wd → w (print wd) = .ok wd) : braces w q (inner (.mk 1 q t n o wd)) = .ok (.mk 1 q t n o wd) := by
 rw [CanP] at hp
 have hp := ((hp.resolve_left (by rintro ⟨h, _⟩; omega)).resolve_left (by rintro ⟨h, _⟩; omega)).resolve_left (by rintro ⟨h, _⟩; omega)
 obtain ⟨_, rfl, hn, h⟩ := hp
 rw [inner]
 rcases h with ⟨rfl, rfl⟩ | ⟨rfl, rfl⟩ | ⟨ho, hcm, hcw, hq⟩
 · rw [if_pos rfl, braces, if_pos]
   · rfl
   · have := List.length_pos_iff.2 hn.1
     exact ⟨by rw [List.length_cons]; omega, rfl, by rw [List.drop_one, List.tail_cons, hn.2, List.length_cons]; rfl⟩
 · rw [if_neg (by decide), show n ++ [] ++ print [] = n by simp [print], braces, if_neg, if_neg, if_pos]
   · rw [hn.2, List.take_length]
   · rw [hn.2, List.drop_length]
   · have := List.length_pos_iff.2 hn.1
     rw [hn.2]; omega
   · rintro ⟨h1, h2, _⟩
     rw [name_hash hn h2] at h1
     simp at h1
 · obtain ⟨c, r, he, hL, hD, _, hlen⟩ := wops_head ho.1
   have hpl : paramL (n ++ (o ++ print wd)) = n.length := paramL_app hn (by
     intro x hx
     rw [he] at hx
     obtain rfl : c = x := by simpa using hx
     exact ⟨hL, hD⟩)
   have hn0 := List.length_pos_iff.2 hn.1
   rw [if_neg hlen, List.append_assoc, braces, if_neg, if_neg, if_neg]
   · rw [hpl, List.drop_left, List.take_left, opL_app ho]
     simp only []
     rw [if_neg (fun h => ho.2.2.2.2 h.1 h.2), show (n ++ (o ++ print wd)).drop (n.length + o.length) = print wd by rw [← List.append_assoc]; exact List.drop_left' (by simp), hw ho]
     simp only []
     rw [hcm, if_neg (by decide)]
     cases q with
     | false => rfl
     | true =>
       rw [if_pos rfl, show quotes wd = wd from (quotes_same wd true [] (hq rfl) hcw (fun _ _ a ha => by cases ha)).trans (List.nil_append _)]
   · rw [hpl, List.drop_left, he]; simp
   · rw [hpl]; omega
   · rintro ⟨_, h2, h3⟩
     have hh : n = [35] := name_hash hn (by
       cases n with
       | nil => exact absurd rfl hn.1
       | cons a n => simpa using h2)
     subst hh
     rw [List.singleton_append, List.drop_one, List.tail_cons, List.length_cons, Nat.add_sub_cancel] at h3
     exact param_op2 ho.1 (ho.2.2.2.1 rfl) h3
theorem dollar_same {w : List UInt8 → Except Int (List Pt)} {b : Bool} {p : Pt} (hp : CanP b p) (hk : p.kind ≠ 0) (hn : needP p ≤ 30) (hw : ∀ k q t n o wd, p = .mk k q t n o wd → OpOk n o wd → w (print wd) = .ok wd) (z : List UInt8) : dollar w p.q (body p ++ z) = .ok (p, (body p).length) := by
 have hu := body_unit p hp hk 30 (by omega) 0 z
 obtain ⟨c, r, he, hc⟩ := body_head hp hk
 rw [dollar_unit (by rw [he, List.drop_one]; rcases hc with rfl | rfl; exact .inl rfl; exact .inr rfl), hu]
 obtain ⟨k, q, t, n, o, wd⟩ := p
 have hp0 := hp
 rw [CanP] at hp
 rcases hp with ⟨rfl, _⟩ | ⟨rfl, rfl, rfl, rfl, _, ha⟩ | ⟨rfl, rfl, rfl, rfl, _⟩ | ⟨rfl, rfl, _, _⟩
 · exact absurd rfl hk
 · have e : body (.mk 2 q t [] [] []) = 36 :: 40 :: (t ++ [41]) := by rw [body, if_pos rfl]; simp
   rw [e]
   simp only []
   rw [if_neg (by simp), if_neg]
   · have e2 : ((36 :: 40 :: (t ++ [41]) ++ z).take ((36 :: 40 :: (t ++ [41])).length - 1)).drop 2 = t := by
       rw [show 36 :: 40 :: (t ++ [41]) ++ z = (36 :: 40 :: t) ++ (41 :: z) by simp, List.take_left' (by simp)]
       rfl
     rw [e2]
     rfl
   · rintro ⟨h1, h2, h3⟩
     apply ha
     simp only [List.length_cons, List.length_append, List.length_nil] at h1 h3
     have ht : 2 ≤ t.length := by omega
     cases t with
     | nil => simp at ht
     | cons x t =>
       refine ⟨by simpa using h2, ?_, ht⟩
       rw [List.length_cons] at h3 ht
       rw [show t.length + 1 + (0 + 1) + 1 + 1 - 2 = t.length + 2 by omega] at h3
       rw [List.getLast?_eq_getElem?, List.length_cons, Nat.add_sub_cancel]
       have : (36 :: 40 :: (x :: t ++ [41]) ++ z)[t.length + 2]? = (x :: t)[t.length]? := by
         show ((x :: t ++ [41]) ++ z)[t.length]? = _
         rw [List.getElem?_append_left (by simp only [List.length_append, List.length_cons, List.length_nil]; omega), List.getElem?_append_left (by simp only [List.length_cons]; omega)]
       rw [← this]; exact h3
 · have e : body (.mk 3 q t [] [] []) = 36 :: 40 :: 40 :: (t ++ [41, 41]) := by rw [body, if_neg (by omega), if_pos rfl]; simp
   rw [e]
   simp only []
   rw [if_neg (by simp), if_pos]
   · have e2 : ((36 :: 40 :: 40 :: (t ++ [41, 41]) ++ z).take ((36 :: 40 :: 40 :: (t ++ [41, 41])).length - 2)).drop 3 = t := by
       rw [show 36 :: 40 :: 40 :: (t ++ [41, 41]) ++ z = (36 :: 40 :: 40 :: t) ++ (41 :: 41 :: z) by simp, List.take_left' (by simp)]
       rfl
     rw [e2]
     rfl
   · refine ⟨by simp, rfl, ?_⟩
     rw [show 36 :: 40 :: 40 :: (t ++ [41, 41]) ++ z = (36 :: 40 :: 40 :: t) ++ (41 :: 41 :: z) by simp, List.getElem?_append_right (by simp)]
     simp
 · rw [body_inner]
   simp only []
   rw [if_pos (by simp)]
   have e2 : ((36 :: 123 :: (inner (.mk 1 q [] n o wd) ++ [125]) ++ z).take ((36 :: 123 :: (inner (.mk 1 q [] n o wd) ++ [125])).length - 1)).drop 2 = inner (.mk 1 q [] n o wd) := by
     rw [show 36 :: 123 :: (inner (.mk 1 q [] n o wd) ++ [125]) ++ z = (36 :: 123 :: inner (.mk 1 q [] n o wd)) ++ (125 :: z) by simp, List.take_left' (by simp)]
     rfl
   rw [e2, show (Pt.mk 1 q [] n o wd).q = q from rfl, braces_same hp0 (hw 1 q [] n o wd rfl)]
   rfl
theorem step1_same {w : List UInt8 → Except Int (List Pt)} {b : Bool} {p : Pt} (hp : CanP b p) (hk : p.kind ≠ 0) (hn : needP p ≤ 30) (hw : ∀ k q t n o wd, p = .mk k q t n o wd → OpOk n o wd → w (print wd) = .ok wd) (z : List UInt8) : step1 w (printP p ++ z) = .ok ([p], (printP p).length) := by
 have hd := dollar_same hp hk hn hw
 obtain ⟨c, r, he, hc⟩ := body_head hp hk
 rw [printP_body hp hk]
 cases hq : p.q with
 | false =>
   rw [about, if_neg (by decide)]
   rw [hq] at hd
   have := hd z
   rw [he] at this ⊢
   rw [List.cons_append] at this ⊢
   rw [step1, if_neg (by decide), if_pos rfl, this]
   rfl
 | true =>
   rw [about, if_pos rfl]
   rw [hq] at hd
   have hu : unit 30 0 (34 :: body p ++ [34] ++ z) = some ((body p).length + 2) := by
     rw [show 34 :: body p ++ [34] ++ z = 34 :: (body p ++ 34 :: z) by simp, unit_dq 29]
     have := body_unit p hp hk 29 (by omega) 34 (34 :: z)
     rw [he] at this ⊢
     rw [List.cons_append] at this ⊢
     rw [nest_on (by decide) this, ← List.cons_append, List.drop_left, nest_end]
     show some _ = some _
     congr 1
     dsimp only
     omega
   have hdb : double w (body p) = .ok [p] := by
     unfold double
     rw [if_neg (by rw [he]; simp)]
     show doubleOn w (body p) [] = _
     have h2 : step2 w (body p) = .ok (p, (body p).length) := by
       have := hd []
       rw [List.append_nil] at this
       rw [he] at this ⊢
       rw [step2, if_pos rfl]
       exact this
     generalize hbl : (body p).length = bl at h2
     rw [he] at h2 hbl ⊢
     rw [doubleOn_go h2, ← hbl, List.drop_length, doubleOn_nil]
     rfl
   have h3 : 34 :: body p ++ [34] ++ z = 34 :: (body p ++ 34 :: z) := by simp
   rw [h3] at hu ⊢
   rw [step1, if_pos (.inr (.inr rfl)), hu]
   simp only []
   rw [if_neg (by decide), if_neg (by decide), Nat.add_sub_cancel, List.take_left, hdb]
   show Except.ok _ = Except.ok _
   congr 2
   simp
theorem parts_is (d : Nat) (s : List UInt8) : parts (d + 1) s = partsOn (parts d) s [] := by rw [parts]; rfl
mutual
theorem parts_print : ∀ (l : List Pt) (b : Bool), CanL b l → ∀ d, needL l ≤ d + 1 → d + 1 ≤ 30 → ∀ acc, (∀ p, l.head? = some p → ∀ a, acc.getLast? = some a → alike a p = false) → partsOn (parts d) (print l) acc = .ok (acc ++ l)
 | [], _, _, d, _, _, acc, _ => by rw [print, partsOn_nil, List.append_nil]
 | p :: l, b, hc, d, hd, hd2, acc, ha => by
   rw [CanL] at hc
   rw [needL] at hd
   obtain ⟨hp, hr, hl⟩ := hc
   have ih := parts_print l b hl d (by omega) hd2 (acc ++ [p]) (fun r h a h2 => by
     rw [List.getLast?_concat] at h2
     cases h2
     exact hr r h)
   rw [List.append_assoc, List.singleton_append] at ih
   rw [print, ← ih]
   by_cases hk : p.kind = 0
   · obtain ⟨k, q, t, n, o, w⟩ := p
     obtain rfl : k = 0 := hk
     rw [printP_text]
     rw [CanP] at hp
     obtain ⟨_, rfl, rfl, rfl, hp2⟩ := (hp.resolve_right (by rintro (⟨h, _⟩ | ⟨h, _⟩ | ⟨h, _⟩) <;> omega))
     cases q with
     | true =>
       rw [if_pos rfl, single_enc]
       have := parts_quoted (w := parts d) (acc := acc) (r := print l) (fun x a h2 => ha _ rfl a h2) t [] (by simp)
       rw [show 39 :: enc t ++ [39] ++ print l = 39 :: ([] ++ enc t ++ 39 :: print l) by simp, this]
       rfl
     | false =>
       obtain ⟨ht, hp⟩ := hp2 rfl
       have hs : shut (print l ++ []) := print_shut hl (fun r h h0 => by
         have := hr r h
         obtain ⟨k', q', t', n', o', w'⟩ := r
         obtain rfl : k' = 0 := h0
         cases q' with
         | true => rfl
         | false => exact absurd this (by simp [alike, Pt.kind, Pt.q])) _ (by intro c hc; simp at hc)
       rw [List.append_nil] at hs
       rw [if_neg (by decide)]
       cases t with
       | nil => exact absurd rfl ht
       | cons c t =>
         obtain ⟨h1, h2, h3, h4, _, h6⟩ := hp
         have hn : c = 36 → okBy (t ++ print l) := by
           intro hc
           cases t with
           | nil => exact hs.ok
           | cons x t => exact fun y hy => h4 hc y hy
         rw [List.cons_append, partsOn_go (step1_plain h1 h2 h3 hn), List.drop_one, List.tail_cons, List.foldl_cons, List.foldl_nil, add_app (p := txt false [c]) (fun a h2 => ha _ rfl a h2)]
         exact parts_plain t [c] h6 (fun _ => hs.ok)
   · have hs := step1_same (w := parts d) hp hk (by omega) (fun k q t n o wd e ho => by
       have := parts_word p hp d (by omega) hd2 k q t n o wd e ho
       exact this) (print l)
     obtain ⟨c, r, he⟩ : ∃ c r, printP p ++ print l = c :: r := by
       obtain ⟨c, r, he, _⟩ := body_head hp hk
       rw [printP_body hp hk, he]
       unfold about
       split
       · exact ⟨_, _, rfl⟩
       · exact ⟨_, _, rfl⟩
     generalize hpl : (printP p).length = pl at hs
     rw [he] at hs
     rw [he, partsOn_go hs, ← he, ← hpl, List.drop_left, List.foldl_cons, List.foldl_nil, add_app (fun a _ => alike_kind hk)]
theorem parts_word : ∀ (p : Pt) {b : Bool}, CanP b p → ∀ d, needP p ≤ d + 1 → d + 1 ≤ 30 → ∀ k q t n o wd, p = .mk k q t n o wd → OpOk n o wd → parts d (print wd) = .ok wd
 | .mk k q t n o w, b, hp, d, hd, hd2, k', q', t', n', o', wd, e, ho => by
   injection e with e1 e2 e3 e4 e5 e6
   subst e1 e2 e3 e4 e5 e6
   rw [CanP] at hp
   rw [needP] at hd
   have hm := wops_head ho.1
   rcases hp with ⟨_, _, rfl, _⟩ | ⟨_, _, rfl, _⟩ | ⟨_, _, rfl, _⟩ | ⟨rfl, _, _, h⟩
   · obtain ⟨_, _, h, _⟩ := hm; cases h
   · obtain ⟨_, _, h, _⟩ := hm; cases h
   · obtain ⟨_, _, h, _⟩ := hm; cases h
   · rw [if_neg (by omega), if_pos rfl] at hd
     rcases h with ⟨h, _⟩ | ⟨rfl, _⟩ | ⟨_, _, hw, _⟩
     · obtain ⟨_, _, _, _, _, _, h2⟩ := hm; exact absurd h h2
     · obtain ⟨_, _, h, _⟩ := hm; cases h
     · obtain ⟨d, rfl⟩ : ∃ c, d = c + 1 := ⟨d - 1, by have := needL_pos w; omega⟩
       rw [parts_is, parts_print w true hw d (by omega) (by omega) [] (fun _ _ a ha => by cases ha), List.nil_append]
end
theorem parts_told {l : List Pt} {b : Bool} (hl : CanL b l) (hn : needL l ≤ 30) : parts 30 (print l) = .ok l := by
 rw [parts_is, parts_print l b hl 29 (by omega) (by omega) [] (fun _ _ a ha => by cases ha), List.nil_append]
end Wx
end
section
namespace Wx
open Lx
theorem cmds_none : cmds [] = false := by rw [cmds]
theorem cmds_cons (p : Pt) (l : List Pt) : cmds (p :: l) = (cmdP p || cmds l) := by rw [cmds]
theorem cmds_snoc (p : Pt) : ∀ l, cmds (l ++ [p]) = (cmds l || cmdP p)
 | [] => by rw [List.nil_append, cmds_cons, cmds_none, Bool.or_false, Bool.false_or]
 | x :: l => by rw [List.cons_append, cmds_cons, cmds_snoc p l, cmds_cons, Bool.or_assoc]
theorem alike_is {a p : Pt} (h : alike a p = true) : a.kind = 0 ∧ p.kind = 0 ∧ a.q = p.q := by
 unfold alike at h
 simp at h
 exact ⟨h.1.2, h.1.1, h.2⟩
theorem alike_eq {a p r : Pt} (hk : a.kind = p.kind) (hq : a.q = p.q) : alike r a = alike r p := by unfold alike; rw [hk, hq]
theorem add_cmds {acc : List Pt} {p : Pt} (ha : cmds acc = false) (hp : cmdP p = false) : cmds (add acc p) = false := by
 rcases List.eq_nil_or_concat acc with rfl | ⟨l, a, rfl⟩
 · show cmds ([] ++ [p]) = false
   rw [cmds_snoc, hp, ha]; rfl
 · rw [List.concat_eq_append] at ha ⊢
   rw [add_onto]
   split
   · rw [cmds_snoc] at ha ⊢
     obtain ⟨k, q, t, n, o, w⟩ := a
     rw [cmdP] at ha
     rw [joined, cmdP]; exact ha
   · rw [cmds_snoc, ha, hp]; rfl
end Wx
end
section
namespace Wx
open Lx
def Cl (d : Nat) (s : List UInt8) : Prop := ∃ z, nest d 125 (s ++ 125 :: z) = some (s.length + 1)
theorem nest_last {d : Nat} {e : UInt8} : ∀ (n : Nat) (l : List UInt8) (j : Nat), l.length ≤ n → nest d e l = some j → ∃ a z, l = a ++ e :: z ∧ j = a.length + 1
 | _, [], _, _, h => by rw [nest_nil] at h; cases h
 | 0, _ :: _, _, hn, _ => by simp at hn
 | n + 1, c :: r, j, hn, h => by
   by_cases hc : c = e
   · subst hc
     rw [nest_end] at h
     cases h
     exact ⟨[], r, rfl, rfl⟩
   · cases hk : unit d e (c :: r) with
     | none => rw [nest_bad hc hk] at h; cases h
     | some k =>
       have h1 := unit_le _ hk
       rw [nest_on hc hk] at h
       obtain ⟨i, hi, rfl⟩ := Option.map_eq_some_iff.1 h
       obtain ⟨a, z, he, rfl⟩ := nest_last n _ i (by rw [List.length_drop]; omega) hi
       refine ⟨(c :: r).take k ++ a, z, ?_, ?_⟩
       · rw [List.append_assoc, ← he, List.take_append_drop]
       · rw [List.length_append, List.length_take]; omega
theorem Cl.head {d : Nat} {c : UInt8} {r : List UInt8} (h : Cl d (c :: r)) : c ≠ 125 := by
 obtain ⟨z, h⟩ := h
 rintro rfl
 rw [List.cons_append, nest_end] at h
 simp at h
theorem take_takeW {f : UInt8 → Bool} : ∀ (l : List UInt8), l.take (l.takeWhile f).length = l.takeWhile f
 | [] => rfl
 | c :: l => by
   rw [List.takeWhile_cons]
   split
   · rw [List.length_cons, List.take_succ_cons, take_takeW l]
   · rfl
theorem nameL_cons (c : UInt8) (r : List UInt8) : nameL (c :: r) = if letter c then 1 + (r.takeWhile fun c => letter c || digit c).length else 0 := rfl
def Fst (s : List UInt8) (l : List Pt) : Prop := ∀ t m, l = txt false t :: m → t.head? = s.head?
structure Wok (w : List UInt8 → Except Int (List Pt)) : Prop where
 can : ∀ {s l}, w s = .ok l → ∀ b, (b = true → ∃ d, Cl d s) → CanL b l
 fst : ∀ {s l}, w s = .ok l → Fst s l
 non : ∀ {s}, w s = .ok [] → s = []
 few : ∀ {s l}, w s = .ok l → 2 * needL l ≤ s.length + 4
structure DolOk (q : Bool) (r : List UInt8) (p : Pt) (k : Nat) : Prop where
 is : (p = txt q [36] ∧ k = 1 ∧ okBy r) ∨ (p.kind ≠ 0 ∧ (∀ b, CanP b p) ∧ 2 * needP p ≤ k + 4)
 cl : ∀ d, Cl d (36 :: r) → Cl d ((36 :: r).drop k)
def Good (m : Nat) (p : Pt) : Prop := (∀ b, CanP b p) ∧ (p.kind = 0 → p.q = true) ∧ 2 * needP p ≤ m + 4
theorem Good.more {m n : Nat} {p : Pt} (h : Good m p) (hm : m ≤ n) : Good n p := ⟨h.1, h.2.1, by have := h.2.2; omega⟩
structure StepOk (c : UInt8) (r : List UInt8) (l : List Pt) (k : Nat) : Prop where
 is : (l = [txt false [c]] ∧ k = 1 ∧ c ≠ 92 ∧ c ≠ 39 ∧ c ≠ 34 ∧ (c = 36 → okBy r)) ∨ (l ≠ [] ∧ ∀ p ∈ l, Good k p)
 cl : ∀ d, Cl d (c :: r) → Cl d ((c :: r).drop k)
end Wx
end
end Go.Proofs.YtlggpefmojacoaaGreatDoor
