/-
  Parts of the proof, merged.
-/
import Derived.Laws.AppendOwnNone
import Derived.Laws.NewBlocks
import Derived.Laws.Pointers
import Derived.Laws.Rows
import Derived.Test.YtlggpefmojacoaaGreatDoorLa15
import Derived.Test.YtlggpefmojacoaaGreatDoorLa16
import Derived.Test.YtlggpefmojacoaaGreatDoorLa18
namespace Go.Proofs.YtlggpefmojacoaaGreatDoor
section
namespace Wx
open Lx
theorem add_none (p : Pt) : add [] p = [p] := rfl
theorem snoc_cases (l : List Pt) : l = [] ∨ ∃ y z, l = y ++ [z] := by
 rcases List.eq_nil_or_concat l with h | ⟨y, z, h⟩
 · exact .inl h
 · exact .inr ⟨y, z, by rw [h, List.concat_eq_append]⟩
theorem joined_kind (a p : Pt) : (joined a p).kind = a.kind ∧ (joined a p).q = a.q ∧ (joined a p).text = a.text ++ p.text := by cases a; exact ⟨rfl, rfl, rfl⟩
theorem joined_joined (a b p : Pt) : joined (joined a b) p = joined a (joined b p) := by
 cases a; cases b
 simp [joined, Pt.text, List.append_assoc]
theorem alike_of {a p : Pt} (h1 : a.kind = 0) (h2 : p.kind = 0) (h3 : a.q = p.q) : alike a p = true := by
 unfold alike; rw [h1, h2, h3]; simp
theorem add_assoc (x : List Pt) {a p : Pt} (h1 : a.kind = 0) (h2 : p.kind = 0) (h3 : a.q = p.q) : add (add x a) p = add x (joined a p) := by
 obtain ⟨j1, j2, _⟩ := joined_kind a p
 rcases snoc_cases x with rfl | ⟨y, z, rfl⟩
 · show add [a] p = [joined a p]
   have := add_onto [] a p
   rw [alike_of h1 h2 h3, if_pos rfl] at this
   exact this
 · rw [add_onto, add_onto]
   have e : alike z (joined a p) = alike z a := alike_eq j1 j2
   rw [e]
   by_cases hz : alike z a = true
   · obtain ⟨k1, k2, k3⟩ := alike_is hz
     obtain ⟨l1, l2, _⟩ := joined_kind z a
     rw [if_pos hz, if_pos hz, add_onto, alike_of (l1.trans k1) h2 (l2.trans (k3.trans h3)), if_pos rfl, joined_joined]
   · rw [if_neg hz, if_neg hz, add_onto, alike_of h1 h2 h3, if_pos rfl]
theorem quotesOn_snoc (p : Pt) : ∀ (l acc : List Pt), quotesOn acc (l ++ [p]) = add (quotesOn acc l) (quoteP p)
 | [], acc => by rw [List.nil_append, quotesOn, quotesOn, quotesOn]
 | a :: l, acc => by rw [List.cons_append, quotesOn, quotesOn_snoc p l, quotesOn]
theorem quotes_nil : quotes [] = [] := by rw [quotes, quotesOn]
theorem quotes_snoc (l : List Pt) (p : Pt) : quotes (l ++ [p]) = add (quotes l) (quoteP p) := quotesOn_snoc p l []
theorem quoteP_is (p : Pt) : (quoteP p).kind = p.kind ∧ (quoteP p).q = true ∧ (quoteP p).text = p.text := by cases p; rw [quoteP]; exact ⟨rfl, rfl, rfl⟩
theorem quoteP_joined (a p : Pt) : quoteP (joined a p) = joined (quoteP a) (quoteP p) := by
 have h := (quoteP_is p).2.2
 cases a
 rw [joined, quoteP, quoteP, joined, h]
theorem quotes_add (l : List Pt) (p : Pt) : quotes (add l p) = add (quotes l) (quoteP p) := by
 rcases snoc_cases l with rfl | ⟨y, z, rfl⟩
 · rw [add_none, quotes_nil]
   exact quotes_snoc [] p
 · rw [add_onto]
   by_cases h : alike z p = true
   · obtain ⟨k1, k2, _⟩ := alike_is h
     obtain ⟨z1, z2, _⟩ := quoteP_is z
     obtain ⟨p1, p2, _⟩ := quoteP_is p
     rw [if_pos h, quotes_snoc, quotes_snoc, quoteP_joined, add_assoc _ (z1.trans k1) (p1.trans k2) (z2.trans p2.symm)]
   · rw [if_neg h, quotes_snoc]
theorem quotes_fold (m : List Pt) : ∀ acc, quotes (m.foldl add acc) = (m.map quoteP).foldl add (quotes acc) := by
 induction m with
 | nil => intro acc; rfl
 | cons p m ih => intro acc; rw [List.foldl_cons, ih, quotes_add, List.map_cons, List.foldl_cons]
mutual
theorem quotes_twice : ∀ (l acc : List Pt), quotes acc = acc → quotes (quotesOn acc l) = quotesOn acc l
 | [], acc, h => by rw [quotesOn]; exact h
 | p :: l, acc, h => by
   rw [quotesOn]
   exact quotes_twice l _ (by rw [quotes_add, h, quoteP_twice p])
theorem quoteP_twice : ∀ (p : Pt), quoteP (quoteP p) = quoteP p
 | .mk k q t n o w => by
   have h := quotes_twice w [] quotes_nil
   rw [quoteP, quoteP]
   rw [quotes] at h
   rw [h]
end
def qf (q : Bool) (l : List Pt) : List Pt := if q then quotes l else l
def qP (q : Bool) (p : Pt) : Pt := if q then quoteP p else p
theorem qf_nil (q : Bool) : qf q [] = [] := by cases q; rfl; exact quotes_nil
theorem qf_add (q : Bool) (l : List Pt) (p : Pt) : qf q (add l p) = add (qf q l) (qP q p) := by cases q; rfl; exact quotes_add l p
theorem qf_fold (q : Bool) (m acc : List Pt) : qf q (m.foldl add acc) = (m.map (qP q)).foldl add (qf q acc) := by
 cases q
 · have : m.map (qP false) = m := by
     conv => rhs; rw [← List.map_id m]
     rfl
   rw [this]; rfl
 · exact quotes_fold m acc
theorem qP_txt (q : Bool) (x : List UInt8) : qP q (txt false x) = txt q x := by
 cases q
 · rfl
 · show quoteP (.mk 0 false x [] [] []) = _; rw [quoteP, quotesOn]; rfl
theorem qP_txt1 (q : Bool) (x : List UInt8) : qP q (txt true x) = txt true x := by
 cases q
 · rfl
 · show quoteP (.mk 0 true x [] [] []) = _; rw [quoteP, quotesOn]; rfl
theorem braces_quote (w : List UInt8 → Except Int (List Pt)) (s : List UInt8) : braces w true s = (braces w false s).map quoteP := by
 have h0 : ∀ n o, quoteP (.mk 1 false [] n o []) = .mk 1 true [] n o [] := fun n o => by rw [quoteP, quotesOn]
 unfold braces
 split
 · show _ = Except.ok _; rw [h0]
 · split
   · rfl
   · split
     · show _ = Except.ok _; rw [h0]
     · split
       · rfl
       · split
         · rfl
         · split
           · rfl
           · split
             · rfl
             · rename_i l _ _
               show _ = Except.ok _
               rw [quoteP]
               rfl
theorem dollar_quote (w : List UInt8 → Except Int (List Pt)) (s : List UInt8) : dollar w true s = (dollar w false s).map fun x => (quoteP x.1, x.2) := by
 have h0 : ∀ (k : Int) t n o, quoteP (.mk k false t n o []) = .mk k true t n o [] := fun k t n o => by rw [quoteP, quotesOn]
 by_cases h : (s.drop 1).head? = some 40 ∨ (s.drop 1).head? = some 123
 · rw [dollar_unit h, dollar_unit h]
   split
   · rfl
   · split
     · rw [braces_quote]
       cases braces w false _ <;> rfl
     · split
       · show _ = Except.ok (quoteP _, _); rw [h0]
       · show _ = Except.ok (quoteP _, _); rw [h0]
 · rw [dollar_name h, dollar_name h]
   split
   · show _ = Except.ok (quoteP (txt false [36]), 1)
     rw [show quoteP (txt false [36]) = txt true [36] from qP_txt true [36]]
   · show _ = Except.ok (quoteP _, _); rw [h0]
theorem dollar_q (w : List UInt8 → Except Int (List Pt)) (q : Bool) (s : List UInt8) : dollar w q s = (dollar w false s).map fun x => (qP q x.1, x.2) := by
 cases q
 · cases dollar w false s <;> rfl
 · exact dollar_quote w s
theorem step2_quote {w : List UInt8 → Except Int (List Pt)} {s : List UInt8} {p : Pt} {k : Nat} (h : step2 w s = .ok (p, k)) (q : Bool) : qP q p = p := by
 cases q
 · rfl
 · show quoteP p = p
   cases s with
   | nil => cases h
   | cons c r =>
     rw [step2] at h
     split at h
     · rw [dollar_quote] at h
       cases hd : dollar w false (c :: r) with
       | error e => rw [hd] at h; cases h
       | ok x =>
         rw [hd] at h
         cases h
         exact quoteP_twice _
     · split at h
       · cases h; exact qP_txt1 true _
       · cases h; exact qP_txt1 true _
theorem fold_add (l : List Pt) (p : Pt) (acc : List Pt) : (add l p).foldl add acc = add (l.foldl add acc) p := by
 rcases snoc_cases l with rfl | ⟨y, z, rfl⟩
 · rfl
 · rw [add_onto]
   by_cases h : alike z p = true
   · obtain ⟨k1, k2, k3⟩ := alike_is h
     rw [if_pos h, List.foldl_append, List.foldl_append]
     show add _ _ = add (add _ _) p
     rw [add_assoc _ k1 k2 k3]
   · rw [if_neg h, List.foldl_append]; rfl
theorem doubleF_fold {w : List UInt8 → Except Int (List Pt)} (acc : List Pt) : ∀ (n : Nat) (s : List UInt8) (l : List Pt), doubleF w n s (l.foldl add acc) = (doubleF w n s l).map fun m => m.foldl add acc
 | _, [], l => by rw [doubleF, doubleF]; rfl
 | 0, c :: r, l => by rw [doubleF, doubleF]; rfl
 | n + 1, c :: r, l => by
   rw [doubleF, doubleF]
   cases step2 w (c :: r) with
   | error e => rfl
   | ok x =>
     obtain ⟨p, k⟩ := x
     show doubleF w n ((c :: r).drop k) (add (l.foldl add acc) p) = _
     rw [← fold_add, doubleF_fold acc n]
theorem doubleOn_fold {w : List UInt8 → Except Int (List Pt)} (acc : List Pt) (s : List UInt8) : doubleOn w s acc = (doubleOn w s []).map fun m => m.foldl add acc := doubleF_fold acc s.length s []
def lit (c : UInt8) : Bool := c != 92 && c != 39 && c != 34 && c != 36
theorem lit_is {c : UInt8} (h : lit c = true) : c ≠ 92 ∧ c ≠ 39 ∧ c ≠ 34 ∧ c ≠ 36 := by
 simp only [lit, Bool.and_eq_true, bne_iff_ne] at h
 exact ⟨h.1.1.1, h.1.1.2, h.1.2, h.2⟩
theorem step1_lit {w : List UInt8 → Except Int (List Pt)} {c : UInt8} (h : lit c = true) (r : List UInt8) : step1 w (c :: r) = .ok ([txt false [c]], 1) := by
 obtain ⟨h1, h2, h3, h4⟩ := lit_is h
 exact step1_plain h1 h2 h3 fun e => absurd e h4
theorem parts_run1 {w : List UInt8 → Except Int (List Pt)} {acc : List Pt} {r : List UInt8} : ∀ (t t1 : List UInt8), (∀ c ∈ t, lit c = true) → partsOn w (t ++ r) (add acc (txt false t1)) = partsOn w r (add acc (txt false (t1 ++ t)))
 | [], t1, _ => by rw [List.append_nil]; rfl
 | c :: t, t1, h => by
   rw [List.cons_append, partsOn_go (step1_lit (h c (by simp)) _)]
   show partsOn w (t ++ r) (add (add acc (txt false t1)) (txt false [c])) = _
   rw [add_assoc acc (a := txt false t1) (p := txt false [c]) rfl rfl rfl]
   show partsOn w (t ++ r) (add acc (txt false (t1 ++ [c]))) = _
   rw [parts_run1 t (t1 ++ [c]) fun c hc => h c (List.mem_cons_of_mem _ hc), List.append_assoc]
   rfl
theorem parts_run {w : List UInt8 → Except Int (List Pt)} {acc : List Pt} {t r : List UInt8} (h0 : t ≠ []) (h : ∀ c ∈ t, lit c = true) : partsOn w (t ++ r) acc = partsOn w r (add acc (txt false t)) := by
 cases t with
 | nil => exact absurd rfl h0
 | cons c t =>
   rw [List.cons_append, partsOn_go (step1_lit (h c (by simp)) _)]
   show partsOn w (t ++ r) (add acc (txt false [c])) = _
   rw [parts_run1 t [c] fun c hc => h c (List.mem_cons_of_mem _ hc)]
   rfl
def any2 (l : List Pt) : Bool := l.any fun p => p.kind == 2
theorem any2_add (l : List Pt) (p : Pt) : any2 (add l p) = (any2 l || p.kind == 2) := by
 rcases snoc_cases l with rfl | ⟨y, z, rfl⟩
 · simp [add_none, any2]
 · rw [add_onto]
   by_cases h : alike z p = true
   · obtain ⟨k1, k2, _⟩ := alike_is h
     obtain ⟨j1, _, _⟩ := joined_kind z p
     rw [if_pos h]
     simp [any2, j1, k1, k2]
   · rw [if_neg h]
     simp [any2, Bool.or_assoc]
theorem any2_quotesOn : ∀ (l acc : List Pt), any2 (quotesOn acc l) = (any2 acc || any2 l)
 | [], acc => by rw [quotesOn]; simp [any2]
 | p :: l, acc => by
   rw [quotesOn, any2_quotesOn l, any2_add, (quoteP_is p).1]
   simp [any2, Bool.or_assoc]
theorem any2_qf (q : Bool) (l : List Pt) : any2 (qf q l) = any2 l := by
 cases q
 · rfl
 · show any2 (quotesOn [] l) = _
   rw [any2_quotesOn]; rfl
def Inn (l : List Pt) : Prop := ∀ p ∈ l, cmds p.word = false
theorem Inn.cmds {l : List Pt} (h : Inn l) : cmds l = any2 l := by
 induction l with
 | nil => rw [cmds_none]; rfl
 | cons p l ih =>
   rw [cmds_cons, ih fun x hx => h x (List.mem_cons_of_mem _ hx)]
   have hp := h p (by simp)
   cases p with
   | mk k q t n o w =>
     rw [cmdP]
     have : Wx.cmds w = false := hp
     rw [this, Bool.or_false]
     rfl
theorem joined_word (a p : Pt) : (joined a p).word = a.word := by cases a; rfl
theorem Inn.add {l : List Pt} {p : Pt} (h : Inn l) (hp : Wx.cmds p.word = false) : Inn (add l p) := by
 rcases snoc_cases l with rfl | ⟨y, z, rfl⟩
 · intro x hx
   rw [add_none, List.mem_singleton] at hx
   rw [hx]; exact hp
 · rw [add_onto]
   split
   · intro x hx
     rcases List.mem_append.1 hx with hx | hx
     · exact h x (List.mem_append_left _ hx)
     · rw [List.mem_singleton] at hx
       rw [hx, joined_word]
       exact h z (by simp)
   · intro x hx
     rcases List.mem_append.1 hx with hx | hx
     · exact h x hx
     · rw [List.mem_singleton] at hx
       rw [hx]; exact hp
theorem Inn.fold {m : List Pt} (hm : Inn m) : ∀ {acc : List Pt}, Inn acc → Inn (m.foldl Wx.add acc) := by
 induction m with
 | nil => intro acc h; exact h
 | cons p m ih =>
   intro acc h
   rw [List.foldl_cons]
   exact ih (fun x hx => hm x (List.mem_cons_of_mem _ hx)) (h.add (hm p (by simp)))
mutual
theorem cmds_quotes : ∀ (l acc : List Pt), cmds acc = false → cmds l = false → cmds (quotesOn acc l) = false
 | [], acc, h, _ => by rw [quotesOn]; exact h
 | p :: l, acc, h, hl => by
   rw [cmds_cons, Bool.or_eq_false_iff] at hl
   rw [quotesOn]
   exact cmds_quotes l _ (add_cmds h (cmds_quoteP p hl.1)) hl.2
theorem cmds_quoteP : ∀ (p : Pt), cmdP p = false → cmdP (quoteP p) = false
 | .mk k q t n o w, h => by
   rw [cmdP, Bool.or_eq_false_iff] at h
   rw [quoteP, cmdP, h.1, cmds_quotes w [] cmds_none h.2]; rfl
end
theorem braces_inn {w : List UInt8 → Except Int (List Pt)} {q : Bool} {s : List UInt8} {p : Pt} (h : braces w q s = .ok p) : cmds p.word = false := by
 unfold braces at h
 split at h
 · cases h; exact cmds_none
 · split at h
   · cases h
   · split at h
     · cases h; exact cmds_none
     · split at h
       · cases h
       · split at h
         · cases h
         · split at h
           · cases h
           · split at h
             · cases h
             · rename_i l _ hc
               cases h
               have hc : cmds l = false := by simpa using hc
               show cmds (if q then quotes l else l) = false
               split
               · exact cmds_quotes l [] cmds_none hc
               · exact hc
theorem dollar_inn {w : List UInt8 → Except Int (List Pt)} {q : Bool} {s : List UInt8} {p : Pt} {k : Nat} (h : dollar w q s = .ok (p, k)) : cmds p.word = false := by
 by_cases hu : (s.drop 1).head? = some 40 ∨ (s.drop 1).head? = some 123
 · rw [dollar_unit hu] at h
   split at h
   · cases h
   · split at h
     · cases hb : braces w q _ with
       | error e => rw [hb] at h; cases h
       | ok x => rw [hb] at h; cases h; exact braces_inn hb
     · split at h <;> (cases h; exact cmds_none)
 · rw [dollar_name hu] at h
   split at h <;> (cases h; exact cmds_none)
theorem step2_inn {w : List UInt8 → Except Int (List Pt)} {s : List UInt8} {p : Pt} {k : Nat} (h : step2 w s = .ok (p, k)) : cmds p.word = false := by
 cases s with
 | nil => cases h
 | cons c r =>
   rw [step2] at h
   split at h
   · exact dollar_inn h
   · split at h <;> (cases h; exact cmds_none)
theorem doubleF_inn {w : List UInt8 → Except Int (List Pt)} : ∀ (n : Nat) (s : List UInt8) (acc l : List Pt), doubleF w n s acc = .ok l → Inn acc → Inn l
 | _, [], acc, l, h, ha => by rw [doubleF] at h; cases h; exact ha
 | 0, c :: r, acc, l, h, ha => by rw [doubleF] at h; cases h
 | n + 1, c :: r, acc, l, h, ha => by
   rw [doubleF] at h
   cases hs : step2 w (c :: r) with
   | error e => rw [hs] at h; cases h
   | ok x => rw [hs] at h; exact doubleF_inn n _ _ _ h (ha.add (step2_inn hs))
theorem inn_nil : Inn [] := fun p hp => by cases hp
theorem inn_one {p : Pt} (h : cmds p.word = false) : Inn [p] := fun x hx => by rw [List.mem_singleton] at hx; rw [hx]; exact h
theorem step1_inn {w : List UInt8 → Except Int (List Pt)} {s : List UInt8} {l : List Pt} {k : Nat} (h : step1 w s = .ok (l, k)) : Inn l := by
 cases s with
 | nil => cases h
 | cons c r =>
   rw [step1] at h
   split at h
   · cases hk : unit 30 0 (c :: r) with
     | none => rw [hk] at h; cases h
     | some j =>
       rw [hk] at h
       simp only [] at h
       split at h
       · cases h; exact inn_one cmds_none
       · split at h
         · cases h; exact inn_one cmds_none
         · unfold double at h
           split at h
           · cases h; exact inn_one cmds_none
           · cases hd : doubleF w _ _ [] with
             | error e => rw [hd] at h; cases h
             | ok x => rw [hd] at h; cases h; exact doubleF_inn _ _ _ _ hd inn_nil
   · split at h
     · cases hd : dollar w false (c :: r) with
       | error e => rw [hd] at h; cases h
       | ok x => rw [hd] at h; cases h; exact inn_one (dollar_inn hd)
     · cases h; exact inn_one cmds_none
theorem partsF_inn {w : List UInt8 → Except Int (List Pt)} : ∀ (n : Nat) (s : List UInt8) (acc l : List Pt), partsF w n s acc = .ok l → Inn acc → Inn l
 | _, [], acc, l, h, ha => by rw [partsF] at h; cases h; exact ha
 | 0, c :: r, acc, l, h, ha => by rw [partsF] at h; cases h
 | n + 1, c :: r, acc, l, h, ha => by
   rw [partsF] at h
   cases hs : step1 w (c :: r) with
   | error e => rw [hs] at h; cases h
   | ok x => rw [hs] at h; exact partsF_inn n _ _ _ h ((step1_inn hs).fold ha)
theorem parts_inn : ∀ (d : Nat) {s : List UInt8} {l : List Pt}, parts d s = .ok l → Inn l
 | 0, s, l, h => by rw [parts] at h; cases h
 | d + 1, s, l, h => by rw [parts] at h; exact partsF_inn _ _ _ _ h inn_nil
structure Acc (ps : List Pt) (it q : Bool) (t : List UInt8) (acc : List Pt) : Prop where
 is : acc = ps ++ if it then [txt q t] else []
 no : it = false → t = []
 last : ∀ a, ps.getLast? = some a → (if it then alike a (txt q []) else a.kind == 0) = false
theorem Acc.start : Acc [] false false [] [] := ⟨rfl, fun _ => rfl, fun a h => by cases h⟩
theorem Acc.text {ps acc : List Pt} {it q : Bool} {t : List UInt8} (h : Acc ps it q t acc) (q' : Bool) (x : List UInt8) :
   Acc (if q = q' then ps else ps ++ if it then [txt q t] else []) true q' ((if q = q' then t else []) ++ x) (add acc (txt q' x)) := by
 obtain ⟨rfl, hno, hlast⟩ := h
 cases it with
 | false =>
   obtain rfl := hno rfl
   have hk : ∀ a, ps.getLast? = some a → alike a (txt q' x) = false := fun a ha => by
     have := hlast a ha
     have h2 : (a.kind == 0) = false := this
     unfold alike; rw [h2]; simp
   have e : (if q = q' then ps else ps ++ []) = ps := by split <;> simp
   have e2 : (if q = q' then ([] : List UInt8) else []) = [] := by split <;> rfl
   refine ⟨?_, fun h => (by cases h), ?_⟩
   · show add (ps ++ []) _ = _
     simp only [Bool.false_eq_true, if_false, List.append_nil, ite_self, List.nil_append, if_true]
     exact add_app hk
   · intro a ha
     simp only [Bool.false_eq_true, if_false, List.append_nil, ite_self] at ha
     exact hk a ha
 | true =>
   by_cases hq : q = q'
   · subst hq
     rw [if_pos rfl, if_pos rfl]
     refine ⟨?_, fun h => (by cases h), hlast⟩
     show add (ps ++ [txt q t]) _ = ps ++ [txt q (t ++ x)]
     exact add_join ps q t x
   · rw [if_neg hq, if_neg hq]
     have hk : alike (txt q t) (txt q' x) = false := by
       have : (q == q') = false := by simpa using hq
       show ((0 : Int) == 0 && (0 : Int) == 0 && q == q') = false
       rw [this, Bool.and_false]
     refine ⟨?_, fun h => (by cases h), ?_⟩
     · show add (ps ++ [txt q t]) _ = ps ++ [txt q t] ++ [txt q' x]
       rw [add_onto, if_neg (by rw [hk]; simp)]
     · intro a ha
       have : a = txt q t := by simpa using ha.symm
       rw [this]
       exact hk
theorem Acc.part {ps acc : List Pt} {it q : Bool} {t : List UInt8} (h : Acc ps it q t acc) {p : Pt} (hp : p.kind ≠ 0) (q' : Bool) : Acc (ps ++ (if it then [txt q t] else []) ++ [p]) false q' [] (add acc p) := by
 obtain ⟨rfl, _, _⟩ := h
 refine ⟨?_, fun _ => rfl, fun a ha => ?_⟩
 · show _ = _ ++ []
   rw [List.append_nil]
   exact add_app fun a _ => alike_kind hp
 · have : a = p := by simpa using ha.symm
   rw [this]
   show (p.kind == 0) = false
   simpa using hp
theorem Acc.done {ps acc : List Pt} {it q : Bool} {t : List UInt8} (h : Acc ps it q t acc) : (ps ++ if it then [txt q t] else []) = acc := h.is.symm
end Wx
end
section
open Go.RowKit Tx
namespace Wx
def opVals : Array Value := #[.string ⟨#[58, 45]⟩, .string ⟨#[58, 61]⟩, .string ⟨#[58, 63]⟩, .string ⟨#[58, 43]⟩, .string ⟨#[37, 37]⟩, .string ⟨#[35, 35]⟩, .string ⟨#[45]⟩, .string ⟨#[61]⟩, .string ⟨#[63]⟩, .string ⟨#[43]⟩, .string ⟨#[37]⟩, .string ⟨#[35]⟩]
structure Kit (w : World) : Prop where
 max : ∃ m, w.cell? ⟨0, 0, none⟩ = some (.int .i64 m)
 ops : ∃ t fr, w.heap[8]? = some (.cells opVals t fr)
theorem Kit.keep {w w' : World} (h : Kit w) (h0 : w'.heap[8]? = w.heap[8]?) (h1 : w'.heap[0]? = w.heap[0]?) : Kit w' := by
 obtain ⟨⟨m, hm⟩, t, fr, ho⟩ := h
 exact ⟨⟨m, (World.cell?_of_block (w := w) (a := ⟨0, 0, none⟩) h1).trans hm⟩, t, fr, h0.trans ho⟩
theorem Kit.lt {w : World} (h : Kit w) : 8 < w.heap.size ∧ 0 < w.heap.size := by
 obtain ⟨⟨m, hm⟩, t, fr, ho⟩ := h
 exact ⟨(Array.getElem?_eq_some_iff.1 ho).1, World.block_lt_of_cell? w _ hm⟩
theorem Kit.below {w w' : World} (h : Kit w) (hb : Below w.heap.size w w') : Kit w' := h.keep (hb.block _ h.lt.1) (hb.block _ h.lt.2)
def Ahead (b : Nat) : Prop := 8 < b ∧ 0 < b
theorem Kit.ahead {w : World} (h : Kit w) {b : Nat} (hb : w.heap.size ≤ b) : Ahead b := ⟨by have := h.lt.1; omega, by have := h.lt.2; omega⟩
theorem Kit.far {w w' : World} {b : Nat} (h : Kit w) (ha : Ahead b) (hb : Below b w w') : Kit w' := h.keep (hb.block _ ha.1) (hb.block _ ha.2)
theorem op_at (k : Nat) (hk : k < 12) : ∃ o, wops[k]? = some o ∧ ∀ W : World, (Instr.index 184 (.agg opVals) (.int .i64 (k : Int))).run Tryz.prog W = .ok (.string (bs o)) W := by
 match k, hk with
 | 0, _ => exact ⟨_, rfl, fun W => by kernel_rfl⟩
 | 1, _ => exact ⟨_, rfl, fun W => by kernel_rfl⟩
 | 2, _ => exact ⟨_, rfl, fun W => by kernel_rfl⟩
 | 3, _ => exact ⟨_, rfl, fun W => by kernel_rfl⟩
 | 4, _ => exact ⟨_, rfl, fun W => by kernel_rfl⟩
 | 5, _ => exact ⟨_, rfl, fun W => by kernel_rfl⟩
 | 6, _ => exact ⟨_, rfl, fun W => by kernel_rfl⟩
 | 7, _ => exact ⟨_, rfl, fun W => by kernel_rfl⟩
 | 8, _ => exact ⟨_, rfl, fun W => by kernel_rfl⟩
 | 9, _ => exact ⟨_, rfl, fun W => by kernel_rfl⟩
 | 10, _ => exact ⟨_, rfl, fun W => by kernel_rfl⟩
 | 11, _ => exact ⟨_, rfl, fun W => by kernel_rfl⟩
 | k + 12, h => omega
theorem prefix_any (s : ByteArray) (o : List UInt8) (w : World) (t : Bool) (ht : t = o.isPrefixOf (toL s)) : Calls Tryz.prog 100 #[.string s, .string (bs o)] w fun e w' => e = .returned (.bool t) ∧ w' = w := by
 refine (Tryz.strings_HasPrefix s (bs o) w).mono ?_
 rintro e w' ⟨rfl, rfl⟩
 exact ⟨by rw [ht]; rfl, rfl⟩
def opS (l : List UInt8) : ByteArray := match opL l with | some o => bs o | none => ⟨#[]⟩
theorem opS_some {l o : List UInt8} (h : opL l = some o) : opS l = bs o := by unfold opS; rw [h]
theorem opS_none {l : List UInt8} (h : opL l = none) : opS l = ⟨#[]⟩ := by unfold opS; rw [h]
set_option maxRecDepth 100000 in
theorem leadingOp_any (s : ByteArray) (w : World) (hK : Kit w) : Calls Tryz.prog 169 #[.string s] w fun e w' => e = .returned (.string (opS (toL s))) ∧ w' = w := by
 obtain ⟨_, tt, fr, ho⟩ := hK
 go_enter Tryz.func169, Tryz.ntmps169
 go_wp2_with (refine wpList_load_row rfl 184 _ rfl 8 rfl tt opVals fr _ ho Tryz.underlying184 rfl (by kernel_rfl) ?_)
 go_loop [6] (fun i => ∃ k : Nat, k ≤ 12 ∧ i = .int .i64 (k : Int) ∧ Kept (opL (toL s) = (wops.drop k).find? fun o => o.isPrefixOf (toL s))) (fun i => 12 - (intOf i).toNat)
 case atStart => exact ⟨0, by omega, rfl, ⟨rfl⟩⟩
 case round =>
   obtain ⟨k, hk, rfl, HL⟩ := hrel
   by_cases hlt : k < 12
   · obtain ⟨o, ho, hix⟩ := op_at k hlt
     have hd : wops.drop k = o :: wops.drop (k + 1) := by
       obtain ⟨h1, h2⟩ := List.getElem?_eq_some_iff.1 ho
       rw [List.drop_eq_getElem_cons h1, h2]
     have z : (k : Int) < 12 := by omega
     cases hp : o.isPrefixOf (toL s) with
     | true =>
       have HP : Kept (true = o.isPrefixOf (toL s)) := ⟨hp.symm⟩
       have HR : Kept (opS (toL s) = bs o) := ⟨opS_some (by rw [HL.out, hd, List.find?_cons, hp])⟩
       clear hp hd ho
       go_wp2_with (go_at_call 100; refine (prefix_any s o _ true HP.out).mono ?_; rintro e w1 ⟨rfl, rfl⟩)
       go_ret
       exact ⟨by rw [HR.out]; rfl, rfl⟩
     | false =>
       have HP : Kept (false = o.isPrefixOf (toL s)) := ⟨hp.symm⟩
       have HL2 : Kept (opL (toL s) = (wops.drop (k + 1)).find? fun o => o.isPrefixOf (toL s)) := ⟨by rw [HL.out, hd, List.find?_cons, hp]⟩
       clear hp hd ho HL
       go_wp2_with (go_at_call 100; refine (prefix_any s o _ false HP.out).mono ?_; rintro e w1 ⟨rfl, rfl⟩)
       go_round
       case rel => exact ⟨k + 1, by omega, by go_num, HL2⟩
       case measure => simp [intOf]; omega
   · obtain rfl : k = 12 := by omega
     have HR : Kept (opS (toL s) = ⟨#[]⟩) := ⟨opS_none (by rw [HL.out]; rfl)⟩
     clear hlt hk HL
     go_wp2_with fail
     go_ret
     exact ⟨by rw [HR.out]; rfl, rfl⟩
theorem assigns_any (o : List UInt8) (w : World) (t : Bool) (ht : t = decide (o = [61] ∨ o = [58, 61])) : Calls Tryz.prog 170 #[.string (bs o)] w fun e w' => e = .returned (.bool t) ∧ w' = w := by
 have h1 : ((bs o).toList == ([61] : List UInt8)) = decide (o = [61]) := by
   have e : (⟨#[61]⟩ : ByteArray).toList = [61] := by decide +kernel
   have h := beq_str (bs o) ⟨#[61]⟩
   rw [e] at h
   rw [h, decide_eq_decide]
   exact ⟨fun h => by have := congrArg toL h; rwa [toL_bs] at this, fun h => by rw [h]; rfl⟩
 have h2 : ((bs o).toList == ([58, 61] : List UInt8)) = decide (o = [58, 61]) := by
   have e : (⟨#[58, 61]⟩ : ByteArray).toList = [58, 61] := by decide +kernel
   have h := beq_str (bs o) ⟨#[58, 61]⟩
   rw [e] at h
   rw [h, decide_eq_decide]
   exact ⟨fun h => by have := congrArg toL h; rwa [toL_bs] at this, fun h => by rw [h]; rfl⟩
 by_cases o1 : o = [61]
 · have k1 := h1.trans (decide_eq_true o1)
   have HT : Kept (t = true) := ⟨by rw [ht]; exact decide_eq_true (.inl o1)⟩
   clear ht o1 h1 h2
   go_enter Tryz.func170, Tryz.ntmps170
   go_wp2_with fail
   go_ret
   exact ⟨by rw [HT.out]; rfl, rfl⟩
 · have k1 := h1.trans (decide_eq_false o1)
   clear h1
   by_cases o2 : o = [58, 61]
   · have k2 := h2.trans (decide_eq_true o2)
     have HT : Kept (t = true) := ⟨by rw [ht]; exact decide_eq_true (.inr o2)⟩
     clear ht o1 o2 h2
     go_enter Tryz.func170, Tryz.ntmps170
     go_wp2_with fail
     go_ret
     exact ⟨by rw [HT.out]; rfl, rfl⟩
   · have k2 := h2.trans (decide_eq_false o2)
     have HT : Kept (t = false) := ⟨by rw [ht]; exact decide_eq_false (fun h => h.elim o1 o2)⟩
     clear ht o1 o2 h2
     go_enter Tryz.func170, Tryz.ntmps170
     go_wp2_with fail
     go_ret
     exact ⟨by rw [HT.out]; rfl, rfl⟩
theorem dName_cases (c : UInt8) (r : List UInt8) : dName (c :: r) = if ((c :: r).take (paramL (c :: r))).takeWhile digit = [] then paramL (c :: r) else 1 := by
 by_cases h : c = 35 ∨ c = 63 ∨ c = 64 ∨ c = 42
 · obtain ⟨h1, h2, h3, h4⟩ := (param_parts (c := c) (r := r)).1 h
   have hD : digit c = false := by
     cases hd : digit c with
     | false => rfl
     | true => rw [List.takeWhile_cons, hd] at h3; simp at h3
   rw [h1, if_pos (by rw [List.take_succ_cons, List.takeWhile_cons, hD]; rfl)]
   unfold dName
   rw [if_pos ⟨h2, by show some (special c) = some true; rw [h4]⟩]
 · obtain ⟨h1, h2, h3⟩ := (param_parts (r := r)).2 h
   by_cases hn : nameL (c :: r) = 0
   · rw [hn, Nat.zero_add] at h1
     cases hd : digit c with
     | true =>
       have hp : 0 < paramL (c :: r) := by rw [h1, List.takeWhile_cons, hd]; simp
       obtain ⟨m, hm⟩ : ∃ m, paramL (c :: r) = m + 1 := ⟨paramL (c :: r) - 1, by omega⟩
       rw [hm, if_neg (by rw [List.take_succ_cons, List.takeWhile_cons, hd]; simp)]
       unfold dName
       rw [if_pos ⟨hn, by show some (special c) = some true; rw [h3, hd]⟩]
     | false =>
       have hp : paramL (c :: r) = 0 := by rw [h1, List.takeWhile_cons, hd]; rfl
       rw [hp, if_pos (by rw [List.take_zero]; rfl)]
       unfold dName
       rw [if_neg (fun h => by have := h.2; change some (special c) = some true at this; rw [h3, hd] at this; cases this), hn]
   · have h4 : ((c :: r).takeWhile digit).length = 0 := h2.resolve_left hn
     rw [h4, Nat.add_zero] at h1
     have hD : digit c = false := by
       cases hd : digit c with
       | false => rfl
       | true => rw [List.takeWhile_cons, hd] at h4; simp at h4
     obtain ⟨m, hm⟩ : ∃ m, nameL (c :: r) = m + 1 := ⟨nameL (c :: r) - 1, by omega⟩
     rw [h1, hm, if_pos (by rw [List.take_succ_cons, List.takeWhile_cons, hD]; rfl)]
     unfold dName
     rw [if_neg (fun h => hn h.1), hm]
set_option maxHeartbeats 2000000 in
set_option maxRecDepth 100000 in
theorem nameAfter_any (s : ByteArray) (w : World) (hs : s.size ≤ 300000000) (m : Nat) (hm : m = dName (toL s)) : Calls Tryz.prog 163 #[.string s] w fun e w' => e = .returned (.string (s.extract 0 m)) ∧ Below w.heap.size w w' := by
 obtain ⟨p, hp⟩ : ∃ p, p = paramL (toL s) := ⟨_, rfl⟩
 obtain ⟨X, hX⟩ : ∃ X, X = s.extract 0 p := ⟨_, rfl⟩
 have HP := Kept.mk hp
 have hple : p ≤ s.size := by rw [hp, ← toL_length]; exact paramL_le _
 have hXl : toL X = (toL s).take p := by rw [hX, toL_to]
 have HX := Kept.mk hX
 obtain ⟨d, hd⟩ : ∃ d, d = ((toL X).takeWhile digit).length := ⟨_, rfl⟩
 have HD := Kept.mk hd
 have hXs : X.size = p := by rw [hX]; exact size_to s p hple
 have hXs2 : X.size ≤ 300000000 := by omega
 obtain ⟨Y, hY⟩ : ∃ Y, Y = X.extract 0 d := ⟨_, rfl⟩
 have HY := Kept.mk hY
 have hdle : d ≤ X.size := by rw [hd, ← toL_length]; exact takeW_le _ _
 by_cases hd0 : d = 0
 · have HR : Kept (s.extract 0 m = X) := ⟨by
     rw [hX, hm]
     congr 1
     cases hs : toL s with
     | nil => rw [hp, hs]; rfl
     | cons c r =>
       rw [dName_cases, if_pos, hp, hs]
       have h1 : (toL X).takeWhile digit = [] := List.eq_nil_of_length_eq_zero (by omega)
       rw [hXl, hp, hs] at h1
       exact h1⟩
   have hy0 : Y = ⟨#[]⟩ := by rw [hY, hd0]; exact toL_inj (by rw [toL_to]; rfl)
   have HY0 : Kept (X.extract 0 d = ⟨#[]⟩) := ⟨by rw [← hY]; exact hy0⟩
   clear hm hp hX hXl hd hY hd0 hy0 hXs hdle
   go_enter Tryz.func163, Tryz.ntmps163
   go_wp2_with (first
     | (go_at_call 168; refine (leadingP_any s _ hs p HP.out).mono ?_; rw [← HX.out]; rintro e w1 ⟨rfl, hb⟩; have HB1 := Kept.mk hb; clear hb)
     | (go_at_call 174; refine (leadingD_any X _ hXs2 d HD.out).mono ?_; rw [HY0.out]; rintro e w2 ⟨rfl, hb⟩; have HB2 := Kept.mk (HB1.out.trans (hb.mono HB1.out.size)); clear hb))
   go_ret
   exact ⟨by rw [HR.out]; rfl, HB2.out⟩
 · have HR : Kept (s.extract 0 m = X.extract 0 1) := ⟨by
     apply toL_inj
     rw [toL_to, toL_to, hXl, hm]
     cases hs : toL s with
     | nil => rw [hXl, hs, List.take_nil] at hd; exact absurd hd hd0
     | cons c r =>
       rw [dName_cases, if_neg, List.take_take]
       · congr 1
         have : p ≠ 0 := by omega
         omega
       · rw [hXl, hs] at hd
         rw [← hs, ← hp, hs]
         intro h; rw [h] at hd; exact hd0 hd⟩
   have hyn : ((Y.toList == ([] : List UInt8)) = false) := by
     rw [ByteArray.toList_eq]
     have h1 : (toL Y).length = d := by rw [hY, toL_length]; exact size_to X d hdle
     show ((toL Y) == []) = false
     cases h2 : toL Y with
     | nil => rw [h2] at h1; exact absurd h1.symm hd0
     | cons a b => rfl
   have hyn2 : ((Y.toList != ([] : List UInt8)) = true) := by unfold bne; rw [hyn]; rfl
   have hsl : ∀ W : World, (Instr.slice 9 (.string X) none (some (.int .i64 1)) none).run Tryz.prog W = .ok (.string (X.extract 0 1)) W := fun W => str_to (s := X) (k := 1) (by omega) W
   clear hm hp hX hXl hd hY hd0 hXs hdle hple
   go_enter Tryz.func163, Tryz.ntmps163
   go_wp2_with (first
     | (go_at_call 168; refine (leadingP_any s _ hs p HP.out).mono ?_; rw [← HX.out]; rintro e w1 ⟨rfl, hb⟩; have HB1 := Kept.mk hb; clear hb)
     | (go_at_call 174; refine (leadingD_any X _ hXs2 d HD.out).mono ?_; rw [← HY.out]; rintro e w2 ⟨rfl, hb⟩; have HB2 := Kept.mk (HB1.out.trans (hb.mono HB1.out.size)); clear hb))
   go_ret
   exact ⟨by rw [HR.out]; rfl, HB2.out⟩
theorem esc_at (c : UInt8) : (0 : Int) ≤ Lib.indexByte [36, 96, 34, 92] c ↔ c = 36 ∨ c = 96 ∨ c = 34 ∨ c = 92 := by
 by_cases h1 : c = 36
 · subst h1; decide
 by_cases h2 : c = 96
 · subst h2; decide
 by_cases h3 : c = 34
 · subst h3; decide
 by_cases h4 : c = 92
 · subst h4; decide
 · have n1 : ((36 : UInt8) == c) = false := by simpa using fun e : (36 : UInt8) = c => h1 e.symm
   have n2 : ((96 : UInt8) == c) = false := by simpa using fun e : (96 : UInt8) = c => h2 e.symm
   have n3 : ((34 : UInt8) == c) = false := by simpa using fun e : (34 : UInt8) = c => h3 e.symm
   have n4 : ((92 : UInt8) == c) = false := by simpa using fun e : (92 : UInt8) = c => h4 e.symm
   simp [Lib.indexByte, n1, n2, n3, n4, h1, h2, h3, h4]
def isEsc : List UInt8 → Bool
 | c :: r => c == 92 && decide (r.head? = some 36 ∨ r.head? = some 96 ∨ r.head? = some 34 ∨ r.head? = some 92)
 | [] => false
set_option maxRecDepth 100000 in
theorem startsEscape_any (s : ByteArray) (w : World) (t : Bool) (ht : t = isEsc (toL s)) : Calls Tryz.prog 167 #[.string s] w fun e w' => e = .returned (.bool t) ∧ w' = w := by
 by_cases h1 : 1 < s.size
 · have z1 : (1 : Int) < (s.size : Int) := by omega
   have h0 : 0 < s.size := by omega
   have hc := drop_at h0
   rw [List.drop_zero] at hc
   have hc1 := drop_at h1
   have ht2 : t = (s[0]'h0 == 92 && decide (s[1]'h1 = 36 ∨ s[1]'h1 = 96 ∨ s[1]'h1 = 34 ∨ s[1]'h1 = 92)) := by
     rw [ht, hc, hc1]
     simp [isEsc]
   by_cases h9 : s[0]'h0 = 92
   · have z2 : ((s[0]'h0).toNat : Int) = 92 := by rw [h9]; rfl
     have HI : Kept (∀ W : World, Calls Tryz.prog 144 #[.string ⟨#[36, 96, 34, 92]⟩, .int .u8 ((s[1]'h1).toNat : Int)] W fun e w' => e = .returned (.int .i64 (Lib.indexByte [36, 96, 34, 92] (s[1]'h1))) ∧ w' = W) := ⟨fun W => by
       refine (Tryz.strings_IndexByte ⟨#[36, 96, 34, 92]⟩ _ W).mono ?_
       rintro e w' ⟨rfl, rfl⟩
       refine ⟨?_, rfl⟩
       rw [show (((s[1]'h1).toNat : Nat) : Int).toNat.toUInt8 = s[1]'h1 by rw [Int.toNat_natCast]; simp]⟩
     have HT : Kept (decide ((0 : Int) ≤ Lib.indexByte [36, 96, 34, 92] (s[1]'h1)) = t) := ⟨by
       rw [ht2, h9, decide_eq_decide.2 (esc_at (s[1]'h1))]; rfl⟩
     clear ht ht2 hc hc1 h9
     generalize Lib.indexByte [36, 96, 34, 92] (s[1]'h1) = ix at *
     go_enter Tryz.func167, Tryz.ntmps167
     go_wp2_with (go_at_call 144; refine (HI.out _).mono ?_; rintro e w1 ⟨rfl, rfl⟩)
     go_ret
     exact ⟨by rw [← HT.out]; rfl, rfl⟩
   · have z2 : ¬ ((s[0]'h0).toNat : Int) = 92 := fun e => h9 (by apply UInt8.toNat_inj.1; have : (92 : UInt8).toNat = 92 := rfl; omega)
     have HT : Kept (t = false) := ⟨by
       rw [ht2]
       have : (s[0]'h0 == 92) = false := by simpa using h9
       rw [this, Bool.false_and]⟩
     clear ht ht2 hc hc1 h9
     go_enter Tryz.func167, Tryz.ntmps167
     go_wp2_with fail
     go_ret
     exact ⟨by rw [HT.out]; rfl, rfl⟩
 · have z1 : ¬ (1 : Int) < (s.size : Int) := by omega
   have HT : Kept (t = false) := ⟨by
     rw [ht]
     have hl : (toL s).length ≤ 1 := by rw [toL_length]; omega
     match hs : toL s with
     | [] => rfl
     | [c] => simp [isEsc]
     | c :: d :: r => rw [hs] at hl; simp at hl⟩
   clear ht h1
   go_enter Tryz.func167, Tryz.ntmps167
   go_wp2_with fail
   go_ret
   exact ⟨by rw [HT.out]; rfl, rfl⟩
theorem any2_drop {l : List Pt} {j : Nat} (hj : j < l.length) : any2 (l.drop j) = (l[j].kind == 2 || any2 (l.drop (j + 1))) := by
 rw [List.drop_eq_getElem_cons hj]; rfl
set_option maxHeartbeats 2000000 in
set_option maxRecDepth 100000 in
theorem hasCommand_any (P : Nat → Prop) (l : List Pt) (A : Option Addr) (n k : Nat) (w : World) (t : Bool) (hl : LV P w (.slice A n k) l) (hs : l.length ≤ 300000000) (ht : t = any2 l) : Calls Tryz.prog 172 #[.slice A n k] w fun e w' => e = .returned (.bool t) ∧ Below w.heap.size w w' := by
 obtain rfl := hl.len
 have H := Kept.mk hl
 have HT := Kept.mk ht
 obtain ⟨ll, hll⟩ : ∃ ll, ll = l.length := ⟨_, rfl⟩
 have HLL := Kept.mk hll
 rw [← hll] at hs H ⊢
 clear hl ht hll
 go_enter Tryz.func172, Tryz.ntmps172
 go_wp2_with fail
 go_loopw [4, 7] (fun v i wr => ∃ j : Nat, j ≤ ll ∧ i = .int .i64 (j : Int) ∧ Kept (any2 l = any2 (l.drop j)) ∧ Kept (Below w.heap.size w wr)) (fun _ i _ => ll - (intOf i).toNat)
 case atStart => exact ⟨0, by omega, rfl, ⟨rfl⟩, ⟨Below.refl _ _⟩⟩
 case round =>
   obtain ⟨j, hj, rfl, HJ, HB⟩ := hrel
   have j0 : (0 : Int) ≤ j := by omega
   by_cases hlt : j < ll
   · have j1 : (j : Int) < (ll : Int) := by omega
     have hjl : j < l.length := by have := HLL.out; omega
     obtain ⟨g, off, kk, q, t2, nn, o, wd, v, e, hg, hp, hv, hwd, c0, c1, c2, c3, c4, c5⟩ := (H.out.keep HB.out).get hjl
     subst e
     have HD := Kept.mk (any2_drop hjl)
     have HK : Kept (l[j].kind = kk) := ⟨by rw [hp]; rfl⟩
     obtain ⟨A2, k2, rfl⟩ := hwd.slice
     generalize wd.length = wl at *
     have HX := heap_alloc_new wr (.cells #[.int .i64 kk, .bool q, .string (bs t2), .string (bs nn), .string (bs o), .slice A2 wl k2] 125)
     have x0 : (wr.alloc (.cells #[.int .i64 kk, .bool q, .string (bs t2), .string (bs nn), .string (bs o), .slice A2 wl k2] 125)).cell? ⟨wr.heap.size, 0, none⟩ = some (.int .i64 kk) := cell_of_row _ _ 0 _ _ _ HX
     have HB2 : Kept (Below w.heap.size w (wr.alloc (.cells #[.int .i64 kk, .bool q, .string (bs t2), .string (bs nn), .string (bs o), .slice A2 wl k2] 125))) := ⟨HB.out.alloc HB.out.size _⟩
     clear hp hwd HX
     by_cases k2 : kk = 2
     · have HR : Kept (t = true) := ⟨by rw [HT.out, HJ.out, HD.out, HK.out, k2]; rfl⟩
       subst k2
       go_wp2_with fail
       go_ret
       exact ⟨by rw [HR.out]; rfl, HB2.out⟩
     · have hk2 : (kk == 2) = false := by simpa using k2
       have HJ2 : Kept (any2 l = any2 (l.drop (j + 1))) := ⟨by rw [HJ.out, HD.out, HK.out, hk2, Bool.false_or]⟩
       clear hk2
       go_wp2_with fail
       go_roundw
       case rel => exact ⟨j + 1, by omega, by go_num, HJ2, HB2⟩
       case measure => simp [intOf]; omega
   · have j1 : ¬ (j : Int) < (ll : Int) := by omega
     have HR : Kept (t = false) := ⟨by rw [HT.out, HJ.out, List.drop_eq_nil_of_le (by have := HLL.out; omega)]; rfl⟩
     clear hlt
     go_wp2_with fail
     go_ret
     exact ⟨by rw [HR.out]; rfl, HB.out⟩
end Wx
end
end Go.Proofs.YtlggpefmojacoaaGreatDoor
