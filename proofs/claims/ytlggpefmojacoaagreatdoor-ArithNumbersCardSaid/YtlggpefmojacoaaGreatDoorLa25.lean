/-
  Parts of the proof, merged.
-/
import Derived.Lib.Bytealg
import Derived.Test.YtlggpefmojacoaaGreatDoorLa01
import Derived.Test.YtlggpefmojacoaaGreatDoorLa18
namespace Go.Proofs.YtlggpefmojacoaaGreatDoor
section
namespace Va
open Lx Wx
def isN (t : List UInt8) : Bool := !t.isEmpty && nameL t == t.length
theorem isN_iff {t : List UInt8} : isN t = true ↔ t ≠ [] ∧ nameL t = t.length := by
 unfold isN
 cases t <;> simp
def asked (t : List UInt8) : List UInt8 := 36 :: 123 :: (t ++ [61, 125])
def one (t : List UInt8) : Pt := .mk 1 false [] t [61] []
theorem nameOk_of {t : List UInt8} (h : isN t = true) : NameOk t := by
 obtain ⟨h0, h1⟩ := isN_iff.1 h
 have := List.length_pos_iff.2 h0
 refine ⟨h0, ?_⟩
 unfold paramL
 rw [if_pos (by omega), h1]
theorem parts_yes {t : List UInt8} (h : isN t = true) : parts 30 (asked t) = .ok [one t] := by
 have hn := nameOk_of h
 obtain ⟨h0, h1⟩ := isN_iff.1 h
 have hl := List.length_pos_iff.2 h0
 have e : asked t = print [one t] := by
   unfold asked one
   simp [print, printP, about, lenOp]
 rw [e]
 have hp : CanP false (one t) := by
   unfold one
   rw [CanP]
   refine .inr (.inr (.inr ⟨rfl, rfl, hn, .inr (.inr ⟨⟨by decide, fun h => by simp at h, fun h => by simp at h, fun _ h => by simp at h, fun _ => by omega⟩, ?_, ?_, fun h => by cases h⟩)⟩))
   · rw [cmds]
   · rw [CanL]; trivial
 have hc : CanL false [one t] := by
   rw [CanL]
   exact ⟨hp, fun r hr => by simp at hr, by rw [CanL]; trivial⟩
 refine parts_told hc ?_
 rw [needL, needL]
 unfold one
 rw [needP, if_neg (by omega), if_pos rfl, needL]
 omega
theorem add_head {x p : Pt} {l : List Pt} (hk : x.kind ≠ 0) : ∃ m, add (x :: l) p = x :: m := by
 unfold add
 cases hl : (x :: l).getLast? with
 | none => simp at hl
 | some a =>
   simp only []
   split
   · rename_i h1
     cases l with
     | nil =>
       simp at hl
       subst hl
       exact absurd (alike_is h1).1 hk
     | cons y l => exact ⟨_, by rw [List.dropLast_cons_cons, List.cons_append]⟩
   · exact ⟨l ++ [p], rfl⟩
theorem foldl_head {x : Pt} (hk : x.kind ≠ 0) : ∀ (ps l : List Pt), ∃ m, ps.foldl add (x :: l) = x :: m
 | [], l => ⟨l, rfl⟩
 | p :: ps, l => by
   obtain ⟨m, hm⟩ := add_head (p := p) (l := l) hk
   rw [List.foldl_cons, hm]
   exact foldl_head hk ps m
theorem partsF_head {w : List UInt8 → Except Int (List Pt)} {x : Pt} (hk : x.kind ≠ 0) : ∀ (n : Nat) (s : List UInt8) (acc l : List Pt), partsF w n s (x :: acc) = .ok l → ∃ m, l = x :: m
 | 0, [], acc, l, h => by
   rw [partsF] at h
   cases h
   exact ⟨acc, rfl⟩
 | _ + 1, [], acc, l, h => by
   rw [partsF] at h
   cases h
   exact ⟨acc, rfl⟩
 | 0, c :: s, acc, l, h => by rw [partsF] at h; cases h
 | n + 1, c :: s, acc, l, h => by
   rw [partsF] at h
   cases hs : step1 w (c :: s) with
   | error e => rw [hs] at h; cases h
   | ok y =>
     obtain ⟨ps, k⟩ := y
     rw [hs] at h
     simp only [] at h
     obtain ⟨m, hm⟩ := foldl_head hk ps acc
     rw [hm] at h
     exact partsF_head hk n _ m l h
theorem hashes : ∀ (t : List UInt8), 35 :: t ≠ t ++ [61]
 | [] => by decide
 | c :: t => fun h => by
   rw [List.cons_append] at h
   injection h with h1 h2
   subst h1
   exact hashes t h2
theorem opL_eq {x : List UInt8} : opL (61 :: x) = some [61] := by
 simp [opL, wops, List.find?, List.isPrefixOf]
theorem nameL_app {t x : List UInt8} (h0 : nameL t ≠ 0) : nameL (t ++ x) ≠ 0 := by
 cases t with
 | nil => exact absurd rfl h0
 | cons c r =>
   rw [nameL_cons] at h0
   rw [List.cons_append, nameL_cons]
   split
   · omega
   · rename_i h; rw [if_neg h] at h0; exact absurd rfl h0
theorem nameL_take {t x : List UInt8} (h0 : nameL t ≠ 0) (h : nameL (t ++ x) = t.length) : nameL t = t.length := by
 cases t with
 | nil => exact absurd rfl h0
 | cons c r =>
   rw [nameL_cons] at h0 ⊢
   rw [List.cons_append, nameL_cons] at h
   split
   · rename_i hL
     rw [if_pos hL, List.length_cons] at h
     rw [List.length_cons]
     have h2 : ((r ++ x).takeWhile fun c => letter c || digit c).length = r.length := by omega
     have h3 : (r.takeWhile fun c => letter c || digit c).length = r.length := by
       rw [List.takeWhile_append] at h2
       split at h2
       · assumption
       · exact h2
     omega
   · rename_i hL; rw [if_neg hL] at h0; exact absurd rfl h0
theorem braces_no {w : List UInt8 → Except Int (List Pt)} {t a z : List UInt8} {p : Pt} (h : braces w false a = .ok p) (hs : t ++ [61, 125] = a ++ 125 :: z) (hn : p.name = t) : isN t = true := by
 have hcut : a = t ++ [61] ∨ ∃ y, t = a ++ 125 :: y := by
   have hlen := congrArg List.length hs
   simp only [List.length_append, List.length_cons, List.length_nil] at hlen
   by_cases h1 : a.length = t.length + 1
   · left
     have h2 : (t ++ [61]) ++ [125] = a ++ 125 :: z := by rw [List.append_assoc]; exact hs
     have h3 : z = [] := List.eq_nil_of_length_eq_zero (by omega)
     subst h3
     exact (List.append_inj_left' h2 rfl).symm
   · by_cases h2 : a.length = t.length
     · have := congrArg (fun l => l[a.length]?) hs
       simp [h2] at this
     · right
       have h3 : a.length < t.length := by omega
       refine ⟨t.drop (a.length + 1), ?_⟩
       have h4 := congrArg (List.take t.length) hs
       rw [List.take_left', List.take_append, List.take_of_length_le (by omega)] at h4
       · have h5 : t.length - a.length = (t.length - a.length - 1) + 1 := by omega
         rw [h5, List.take_succ_cons] at h4
         have h6 := congrArg (List.drop (a.length + 1)) h4
         have h7 : (a ++ 125 :: List.take (t.length - a.length - 1) z).drop (a.length + 1) = List.take (t.length - a.length - 1) z := by
           rw [List.drop_append]
           simp
         rw [h7] at h6
         rw [h6, ← h4]
       · rfl
 have hple := paramL_le a
 unfold braces at h
 split at h
 · rename_i h1
   cases h
   have hn : a.drop 1 = t := hn
   cases a with
   | nil => simp at h1
   | cons c r =>
     have h2 : c = 35 := by simpa using h1.2.1
     subst h2
     have h3 : r = t := hn
     subst h3
     rcases hcut with hc | ⟨y, hy⟩
     · exact absurd hc (hashes r)
     · have := congrArg List.length hy
       simp at this; omega
 · split at h
   · cases h
   · rename_i h0
     have hlen : ∀ q, q.name = a.take (paramL a) → q = p → t.length = paramL a := by
       rintro q hq rfl
       rw [← hn, hq, List.length_take]; omega
     split at h
     · rename_i h2
       cases h
       have h3 := hlen _ rfl rfl
       have h4 : a.length ≤ paramL a := by
         have := congrArg List.length h2
         simp at this; omega
       rcases hcut with hc | ⟨y, hy⟩
       · have := congrArg List.length hc
         simp at this; omega
       · have := congrArg List.length hy
         simp at this; omega
     · split at h
       · cases h
       · rename_i o ho
         split at h
         · cases h
         · rename_i h5
           split at h
           · cases h
           · split at h
             · cases h
             · cases h
               have h3 := hlen _ rfl rfl
               have h6 : a.take (paramL a) = t := hn
               rcases hcut with hc | ⟨y, hy⟩
               · rw [h6] at h5
                 rw [← h3, hc] at ho
                 rw [List.drop_left'] at ho
                 · rw [opL_eq] at ho
                   cases ho
                   have h7 : nameL t ≠ 0 := fun e => h5 ⟨.inl rfl, e⟩
                   have h8 : nameL a ≠ 0 := by rw [hc]; exact nameL_app h7
                   have h9 : paramL a = nameL a := by unfold paramL; rw [if_pos (by omega)]
                   refine isN_iff.2 ⟨fun e => h7 (by rw [e]; rfl), nameL_take (x := [61]) h7 ?_⟩
                   rw [← hc]; omega
                 · rfl
               · have := congrArg List.length hy
                 simp at this; omega
theorem parts_no {t : List UInt8} {l : List Pt} (h : parts 30 (asked t) = .ok l) (p : Pt) (m : List Pt) (hl : l = p :: m) (hn : p.name = t) : isN t = true := by
 rw [parts_is, partsOn, asked, List.length_cons, partsF] at h
 have hs : step1 (parts 29) (36 :: 123 :: (t ++ [61, 125])) = (dollar (parts 29) false (36 :: 123 :: (t ++ [61, 125]))).map fun x => ([x.1], x.2) := by
   rw [step1, if_neg (by decide), if_pos rfl]
 have hd : dollar (parts 29) false (36 :: 123 :: (t ++ [61, 125])) = match unit 30 0 (36 :: 123 :: (t ++ [61, 125])) with
   | none => .error 90
   | some k => (braces (parts 29) false (((36 :: 123 :: (t ++ [61, 125])).take (k - 1)).drop 2)).map fun p => (p, k) := by
   rw [dollar_unit (.inr rfl)]
   cases unit 30 0 (36 :: 123 :: (t ++ [61, 125])) with
   | none => rfl
   | some k =>
     simp only []
     rw [if_pos (show (List.drop 1 (36 :: 123 :: (t ++ [61, 125]))).head? = some 123 from rfl)]
 rw [hs, hd] at h
 rw [unit_brace] at h
 cases hu : nest 29 125 (t ++ [61, 125]) with
 | none => rw [hu] at h; cases h
 | some j =>
   obtain ⟨a, z, he, rfl⟩ := nest_last _ _ _ (Nat.le_refl _) hu
   rw [hu] at h
   simp only [Option.map_some] at h
   have hin : ((36 :: 123 :: (t ++ [61, 125])).take (2 + (a.length + 1) - 1)).drop 2 = a := by
     rw [show 2 + (a.length + 1) - 1 = a.length + 2 by omega, List.take_succ_cons, List.take_succ_cons, he]
     simp
   rw [hin] at h
   cases hb : braces (parts 29) false a with
   | error e => rw [hb] at h; cases h
   | ok q =>
     rw [hb] at h
     simp only [Except.map, List.foldl_cons, List.foldl_nil] at h
     rw [show add [] q = [q] from rfl] at h
     have hq : q.kind ≠ 0 := by
       unfold braces at hb
       split at hb
       · cases hb; exact Int.one_ne_zero
       · split at hb
         · cases hb
         · split at hb
           · cases hb; exact Int.one_ne_zero
           · split at hb
             · cases hb
             · split at hb
               · cases hb
               · split at hb
                 · cases hb
                 · split at hb
                   · cases hb
                   · cases hb; exact Int.one_ne_zero
     obtain ⟨m2, hm2⟩ := partsF_head hq _ _ _ _ h
     rw [hl] at hm2
     injection hm2 with h1 _
     subst h1
     exact braces_no hb he hn
end Va
end
section
open Go.RowKit Tx
namespace Va
structure Vr where
 name : ByteArray
 value : ByteArray
 ex : Bool
 ro : Bool
def Vr.zero : Vr := ⟨⟨#[]⟩, ⟨#[]⟩, false, false⟩
def lt (a b : ByteArray) : Prop := toL a < toL b
instance (a b : ByteArray) : Decidable (lt a b) := inferInstanceAs (Decidable (toL a < toL b))
def pos (l : List Vr) (n : ByteArray) : Nat := (l.takeWhile fun v => decide (lt v.name n)).length
def get? (l : List Vr) (n : ByteArray) : Option Vr :=
 match l.drop (pos l n) with
 | [] => none
 | v :: _ => if v.name = n then some v else none
def getD (l : List Vr) (n : ByteArray) : Vr := (get? l n).getD Vr.zero
def found (l : List Vr) (n : ByteArray) : Bool := (get? l n).isSome
def behind (l : List Vr) (n : ByteArray) : List Vr := l.drop (pos l n + if found l n then 1 else 0)
def before (l : List Vr) (n : ByteArray) : List Vr := l.take (pos l n)
def put (l : List Vr) (n : ByteArray) (m : List Vr) : List Vr := before l n ++ m ++ behind l n
def isName (n : ByteArray) : Bool := isN (toL n)
def set (l : List Vr) (n x : ByteArray) : Except Int (List Vr) :=
 if isName n = false then .error 1 else if (getD l n).ro = true then .error 150 else .ok (put l n [⟨n, x, (getD l n).ex, (getD l n).ro⟩])
def mark (l : List Vr) (n : ByteArray) (e r : Bool) : Except Int (List Vr) :=
 if isName n = false then .error 1 else .ok (put l n [⟨n, (getD l n).value, (getD l n).ex || e, (getD l n).ro || r⟩])
def Sorted (l : List Vr) : Prop := l.Pairwise fun a b => lt a.name b.name
theorem lt_irrefl (a : ByteArray) : ¬ lt a a := List.lt_irrefl _
theorem lt_trans {a b c : ByteArray} (h : lt a b) (k : lt b c) : lt a c := List.lt_trans h k
theorem lt_total {a b : ByteArray} (h : ¬ lt a b) (hn : a ≠ b) : lt b a :=
 Decidable.byContradiction fun k => hn (toL_inj (List.le_antisymm (List.not_lt.1 k) (List.not_lt.1 h)))
theorem cmp_lt : ∀ a b : List UInt8, (Lib.compareBytes a b < 0 ↔ a < b) ∧ (Lib.compareBytes a b = 0 ↔ a = b)
 | [], [] => by simp [Lib.compareBytes]
 | [], b :: l => by simp [Lib.compareBytes]
 | a :: l, [] => by simp [Lib.compareBytes]
 | a :: l, b :: m => by
   have ih := cmp_lt l m
   unfold Lib.compareBytes
   rw [List.cons_lt_cons_iff]
   by_cases h1 : a < b
   · rw [if_pos h1]
     exact ⟨by simp [h1], by simp; intro e; subst e; exact absurd h1 (UInt8.lt_irrefl _)⟩
   · rw [if_neg h1]
     by_cases h2 : b < a
     · rw [if_pos h2]
       exact ⟨by simp [h1]; intro e; subst e; exact absurd h2 (UInt8.lt_irrefl _), by simp; intro e; subst e; exact absurd h2 (UInt8.lt_irrefl _)⟩
     · rw [if_neg h2]
       have e : a = b := UInt8.le_antisymm (UInt8.not_lt.1 h2) (UInt8.not_lt.1 h1)
       subst e
       simp only [List.cons.injEq, true_and]
       exact ⟨by rw [ih.1]; simp [UInt8.lt_irrefl], ih.2⟩
theorem pos_le (l : List Vr) (n : ByteArray) : pos l n ≤ l.length := (List.takeWhile_prefix _).length_le
theorem pos_is {n : ByteArray} : ∀ {l : List Vr} {j : Nat}, j ≤ l.length → (∀ i (hi : i < l.length), i < j → lt l[i].name n) → (∀ hj : j < l.length, ¬ lt l[j].name n) → pos l n = j
 | [], j, hj, _, _ => by
   have : j = 0 := by simpa using hj
   subst this; rfl
 | v :: l, 0, _, _, h2 => by
   have := h2 (by simp)
   unfold pos
   rw [List.takeWhile_cons, if_neg (by simpa using this)]
   rfl
 | v :: l, j + 1, hj, h1, h2 => by
   have h0 : lt v.name n := h1 0 (by simp) (by omega)
   have := pos_is (n := n) (l := l) (j := j) (by simpa using hj) (fun i hi hij => h1 (i + 1) (by simpa using hi) (by omega)) (fun hlt => h2 (by simpa using hlt))
   unfold pos at this ⊢
   rw [List.takeWhile_cons, if_pos (by simpa using h0), List.length_cons, this]
theorem pos_at {l : List Vr} {n : ByteArray} {j : Nat} {v : Vr} (hv : l[j]? = some v) (h1 : ∀ i u, l[i]? = some u → i < j → lt u.name n) (h2 : ¬ lt v.name n) : pos l n = j ∧ found l n = decide (v.name = n) := by
 obtain ⟨hj, rfl⟩ := List.getElem?_eq_some_iff.1 hv
 have e : pos l n = j := pos_is (by omega) (fun i hi hij => h1 i _ (List.getElem?_eq_getElem hi) hij) (fun _ => h2)
 refine ⟨e, ?_⟩
 have hl : pos l n < l.length := by omega
 unfold found get?
 rw [e, List.drop_eq_getElem_cons hj]
 by_cases h : l[j].name = n
 · simp [h]
 · simp [h]
theorem pos_all {l : List Vr} {n : ByteArray} (h1 : ∀ i u, l[i]? = some u → i < l.length → lt u.name n) : pos l n = l.length ∧ found l n = false := by
 have e : pos l n = l.length := pos_is (Nat.le_refl _) (fun i hi _ => h1 i _ (List.getElem?_eq_getElem hi) hi) (fun h => absurd h (Nat.lt_irrefl _))
 refine ⟨e, ?_⟩
 unfold found get?
 rw [e, List.drop_length]
 rfl
theorem get_at {l : List Vr} {n : ByteArray} (h : pos l n < l.length) : get? l n = if l[pos l n].name = n then some l[pos l n] else none := by
 unfold get?
 rw [List.drop_eq_getElem_cons h]
theorem get_end {l : List Vr} {n : ByteArray} (h : ¬ pos l n < l.length) : get? l n = none := by
 unfold get?
 rw [List.drop_eq_nil_of_le (by omega)]
theorem found_at {l : List Vr} {n : ByteArray} (h : pos l n < l.length) : found l n = decide (l[pos l n].name = n) := by
 unfold found
 rw [get_at h]
 by_cases e : l[pos l n].name = n
 · rw [if_pos e]; simp [e]
 · rw [if_neg e]; simp [e]
theorem found_end {l : List Vr} {n : ByteArray} (h : ¬ pos l n < l.length) : found l n = false := by
 unfold found; rw [get_end h]; rfl
theorem found_lt {l : List Vr} {n : ByteArray} (h : found l n = true) : pos l n < l.length := by
 apply Decidable.byContradiction
 intro hn
 rw [found_end hn] at h; cases h
theorem getD_at {l : List Vr} {n : ByteArray} (h : found l n = true) : getD l n = l[pos l n]'(found_lt h) := by
 have hl := found_lt h
 rw [found_at hl] at h
 unfold getD
 rw [get_at hl, if_pos (of_decide_eq_true h)]
 rfl
theorem getD_no {l : List Vr} {n : ByteArray} (h : found l n = false) : getD l n = Vr.zero := by
 unfold found at h
 unfold getD
 cases e : get? l n with
 | none => rfl
 | some v => rw [e] at h; cases h
theorem getD_name {l : List Vr} {n : ByteArray} (h : found l n = true) : (getD l n).name = n := by
 rw [getD_at h]
 have hl := found_lt h
 rw [found_at hl] at h
 exact of_decide_eq_true h
theorem before_lt {l : List Vr} {n : ByteArray} : ∀ v ∈ before l n, lt v.name n := by
 intro v hv
 unfold before pos at hv
 induction l with
 | nil => cases hv
 | cons a l ih =>
   rw [List.takeWhile_cons] at hv
   split at hv
   · rename_i h
     rw [List.length_cons, List.take_succ_cons] at hv
     rcases List.mem_cons.1 hv with rfl | hv
     · exact of_decide_eq_true h
     · exact ih hv
   · cases hv
theorem split3 (l : List Vr) (n : ByteArray) : l = before l n ++ (get? l n).toList ++ behind l n := by
 unfold before behind
 by_cases h : found l n = true
 · have hl := found_lt h
   have h2 := h
   rw [found_at hl] at h2
   rw [get_at hl, if_pos (of_decide_eq_true h2), if_pos h, List.append_assoc]
   show l = l.take (pos l n) ++ ([l[pos l n]] ++ l.drop (pos l n + 1))
   rw [List.singleton_append, ← List.drop_eq_getElem_cons hl, List.take_append_drop]
 · have h1 : get? l n = none := by
     unfold found at h
     cases e : get? l n with
     | none => rfl
     | some v => rw [e] at h; exact absurd rfl h
   rw [h1, if_neg h]
   show l = l.take (pos l n) ++ [] ++ l.drop (pos l n + 0)
   rw [List.append_nil, Nat.add_zero, List.take_append_drop]
theorem behind_lt {l : List Vr} {n : ByteArray} (hs : Sorted l) : ∀ v ∈ behind l n, lt n v.name := by
 intro v hv
 unfold behind at hv
 by_cases h : found l n = true
 · have hl := found_lt h
   have hn := getD_name h
   rw [getD_at h] at hn
   rw [if_pos h] at hv
   have hs2 := hs
   rw [Sorted, ← List.take_append_drop (pos l n) l, List.pairwise_append, List.drop_eq_getElem_cons hl, List.pairwise_cons] at hs2
   have := hs2.2.1.1 v hv
   rwa [hn] at this
 · rw [if_neg h, Nat.add_zero] at hv
   have hf : found l n = false := by simpa using h
   by_cases hl : pos l n < l.length
   · have hnl : ¬ lt l[pos l n].name n := by
       have h3 : ∀ (l : List Vr) (hl : pos l n < l.length), ¬ lt l[pos l n].name n := by
         intro l
         induction l with
         | nil => intro hl; simp at hl
         | cons a l ih =>
           intro hl
           by_cases ha : lt a.name n
           · have e : pos (a :: l) n = pos l n + 1 := by unfold pos; rw [List.takeWhile_cons, if_pos (by simpa using ha), List.length_cons]
             have hl2 : pos l n < l.length := by rw [e] at hl; simpa using hl
             have := ih hl2
             simpa [e] using this
           · have e : pos (a :: l) n = 0 := by unfold pos; rw [List.takeWhile_cons, if_neg (by simpa using ha)]; rfl
             simpa [e] using ha
       exact h3 l hl
     rw [found_at hl] at hf
     have h1 : lt n l[pos l n].name := lt_total hnl (of_decide_eq_false hf)
     rw [List.drop_eq_getElem_cons hl] at hv
     have hs2 := hs
     rw [Sorted, ← List.take_append_drop (pos l n) l, List.pairwise_append, List.drop_eq_getElem_cons hl, List.pairwise_cons] at hs2
     rcases List.mem_cons.1 hv with rfl | hv
     · exact h1
     · exact lt_trans h1 (hs2.2.1.1 v hv)
   · rw [List.drop_eq_nil_of_le (by omega)] at hv; cases hv
theorem put_sorted {l : List Vr} {n : ByteArray} {m : List Vr} (hs : Sorted l) (hm : m = [] ∨ ∃ v, m = [v] ∧ v.name = n) : Sorted (put l n m) := by
 have h3 := split3 l n
 have hs2 := hs
 rw [Sorted, h3, List.pairwise_append, List.pairwise_append] at hs2
 unfold put Sorted
 rw [List.pairwise_append, List.pairwise_append]
 have hmn : ∀ v ∈ m, v.name = n := by
   rcases hm with rfl | ⟨u, rfl, rfl⟩
   · intro v hv; cases hv
   · intro v hv; rw [List.mem_singleton.1 hv]
 refine ⟨⟨hs2.1.1, ?_, fun a ha b hb => by rw [hmn b hb]; exact before_lt a ha⟩, hs2.2.1, fun a ha b hb => ?_⟩
 · rcases hm with rfl | ⟨u, rfl, _⟩
   · exact .nil
   · exact List.pairwise_singleton _ _
 · rcases List.mem_append.1 ha with ha | ha
   · exact lt_trans (before_lt a ha) (behind_lt hs b hb)
   · rw [hmn a ha]; exact behind_lt hs b hb
end Va
end
end Go.Proofs.YtlggpefmojacoaaGreatDoor
