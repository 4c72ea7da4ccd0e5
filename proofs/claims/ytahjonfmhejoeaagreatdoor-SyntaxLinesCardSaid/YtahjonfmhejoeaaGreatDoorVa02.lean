/-
  Parts of the proof, merged.
-/
import Derived.Test.YtahjonfmhejoeaaGreatDoorVa01
namespace Go.Proofs.YtahjonfmhejoeaaGreatDoor
section
namespace Wx
open Lx
inductive Pt where
 | mk (kind : Int) (q : Bool) (text name op : List UInt8) (word : List Pt)
def Pt.kind : Pt → Int | mk k _ _ _ _ _ => k
def Pt.q : Pt → Bool | mk _ q _ _ _ _ => q
def Pt.text : Pt → List UInt8 | mk _ _ t _ _ _ => t
def Pt.name : Pt → List UInt8 | mk _ _ _ n _ _ => n
def Pt.op : Pt → List UInt8 | mk _ _ _ _ o _ => o
def Pt.word : Pt → List Pt | mk _ _ _ _ _ w => w
def txt (q : Bool) (l : List UInt8) : Pt := .mk 0 q l [] [] []
def letter (c : UInt8) : Bool := (65 ≤ c && c ≤ 90) || (97 ≤ c && c ≤ 122) || c == 95
def digit (c : UInt8) : Bool := 48 ≤ c && c ≤ 57
def special (c : UInt8) : Bool := digit c || c == 35 || c == 63 || c == 64 || c == 42
def nameL : List UInt8 → Nat
 | [] => 0
 | c :: r => if letter c then 1 + (r.takeWhile fun c => letter c || digit c).length else 0
def paramL (s : List UInt8) : Nat :=
 if 0 < nameL s then nameL s else
 if 0 < (s.takeWhile digit).length then (s.takeWhile digit).length else
 match s with
 | [] => 0
 | c :: _ => if special c then 1 else 0
def alike (a p : Pt) : Bool := p.kind == 0 && a.kind == 0 && a.q == p.q
def joined : Pt → Pt → Pt
 | .mk k q t n o w, p => .mk k q (t ++ p.text) n o w
def add (l : List Pt) (p : Pt) : List Pt :=
 match l.getLast? with
 | none => [p]
 | some a => if alike a p then l.dropLast ++ [joined a p] else l ++ [p]
mutual
def quotesOn : List Pt → List Pt → List Pt
 | acc, [] => acc
 | acc, p :: l => quotesOn (add acc (quoteP p)) l
def quoteP : Pt → Pt
 | .mk k _ t n o w => .mk k true t n o (quotesOn [] w)
end
def quotes (l : List Pt) : List Pt := quotesOn [] l
mutual
def cmds : List Pt → Bool
 | [] => false
 | p :: l => cmdP p || cmds l
def cmdP : Pt → Bool
 | .mk k _ _ _ _ w => k == 2 || cmds w
end
mutual
def same : List Pt → List Pt → Bool
 | [], [] => true
 | p :: l, r :: m => sameP p r && same l m
 | _, _ => false
def sameP : Pt → Pt → Bool
 | .mk k q t n o w, .mk k' q' t' n' o' w' => k == k' && q == q' && t == t' && n == n' && o == o' && same w w'
end
def wops : List (List UInt8) := [[58, 45], [58, 61], [58, 63], [58, 43], [37, 37], [35, 35], [45], [61], [63], [43], [37], [35]]
def opL (s : List UInt8) : Option (List UInt8) := wops.find? fun o => o.isPrefixOf s
def lenOp : List UInt8 := [108, 101, 110]
def braces (w : List UInt8 → Except Int (List Pt)) (q : Bool) (s : List UInt8) : Except Int Pt :=
 if 1 < s.length ∧ s.head? = some 35 ∧ paramL (s.drop 1) = s.length - 1 then .ok (.mk 1 q [] (s.drop 1) lenOp [])
 else if paramL s = 0 then .error 90
 else if s.drop (paramL s) = [] then .ok (.mk 1 q [] (s.take (paramL s)) [] [])
 else match opL (s.drop (paramL s)) with
   | none => .error 90
   | some o =>
     if (o = [61] ∨ o = [58, 61]) ∧ nameL (s.take (paramL s)) = 0 then .error 90
     else match w (s.drop (paramL s + o.length)) with
       | .error e => .error e
       | .ok l => if cmds l then .error 90 else .ok (.mk 1 q [] (s.take (paramL s)) o (if q then quotes l else l))
def dollar (w : List UInt8 → Except Int (List Pt)) (q : Bool) (s : List UInt8) : Except Int (Pt × Nat) :=
 let r := s.drop 1
 if r.head? = some 40 ∨ r.head? = some 123 then
   match unit 30 0 s with
   | none => .error 90
   | some k =>
     if r.head? = some 123 then (braces w q ((s.take (k - 1)).drop 2)).map fun p => (p, k)
     else if 4 < k ∧ s[2]? = some 40 ∧ s[k - 2]? = some 41 then .ok (.mk 3 q ((s.take (k - 2)).drop 3) [] [] [], k)
     else .ok (.mk 2 q ((s.take (k - 1)).drop 2) [] [] [], k)
 else
   let n := if nameL r = 0 ∧ (r.head?.map special) = some true then 1 else nameL r
   if n = 0 then .ok (txt q [36], 1) else .ok (.mk 1 q [] (r.take n) [] [], n + 1)
def step2 (w : List UInt8 → Except Int (List Pt)) : List UInt8 → Except Int (Pt × Nat)
 | [] => .error 90
 | c :: r =>
   if c = 36 then dollar w true (c :: r)
   else if c = 92 ∧ (r.head? = some 36 ∨ r.head? = some 96 ∨ r.head? = some 34 ∨ r.head? = some 92) then .ok (txt true (r.take 1), 2)
   else .ok (txt true [c], 1)
def doubleF (w : List UInt8 → Except Int (List Pt)) : Nat → List UInt8 → List Pt → Except Int (List Pt)
 | _, [], acc => .ok acc
 | 0, _ :: _, _ => .error 90
 | n + 1, c :: r, acc =>
   match step2 w (c :: r) with
   | .error e => .error e
   | .ok (p, k) => doubleF w n ((c :: r).drop k) (add acc p)
def double (w : List UInt8 → Except Int (List Pt)) (s : List UInt8) : Except Int (List Pt) :=
 if s = [] then .ok [txt true []] else doubleF w s.length s []
def step1 (w : List UInt8 → Except Int (List Pt)) : List UInt8 → Except Int (List Pt × Nat)
 | [] => .error 90
 | c :: r =>
   if c = 92 ∨ c = 39 ∨ c = 34 then
     match unit 30 0 (c :: r) with
     | none => .error 90
     | some k =>
       if c = 92 then .ok ([txt true (r.take 1)], k)
       else if c = 39 then .ok ([txt true (r.take (k - 2))], k)
       else (double w (r.take (k - 2))).map fun l => (l, k)
   else if c = 36 then (dollar w false (c :: r)).map fun x => ([x.1], x.2)
   else .ok ([txt false [c]], 1)
def partsF (w : List UInt8 → Except Int (List Pt)) : Nat → List UInt8 → List Pt → Except Int (List Pt)
 | _, [], acc => .ok acc
 | 0, _ :: _, _ => .error 90
 | n + 1, c :: r, acc =>
   match step1 w (c :: r) with
   | .error e => .error e
   | .ok (l, k) => partsF w n ((c :: r).drop k) (l.foldl add acc)
def parts : Nat → List UInt8 → Except Int (List Pt)
 | 0, _ => .error 2
 | d + 1, s => partsF (parts d) s.length s []
def single (l : List UInt8) : List UInt8 := 39 :: (l.flatMap fun c => if c = 39 then [39, 92, 39, 39] else [c]) ++ [39]
def about (q : Bool) (l : List UInt8) : List UInt8 := if q then 34 :: l ++ [34] else l
mutual
def print : List Pt → List UInt8
 | [] => []
 | p :: l => printP p ++ print l
def printP : Pt → List UInt8
 | .mk k q t n o w =>
   if k = 0 then (if q then single t else t)
   else if k = 2 then about q ([36, 40] ++ t ++ [41])
   else if k = 3 then about q ([36, 40, 40] ++ t ++ [41, 41])
   else if k = 1 then about q (if o = lenOp then [36, 123, 35] ++ n ++ [125] else [36, 123] ++ n ++ o ++ print w ++ [125])
   else about q []
end
theorem nameL_le (s : List UInt8) : nameL s ≤ s.length := by
 cases s with
 | nil => exact Nat.le_refl _
 | cons c r =>
   show (if letter c = true then 1 + (r.takeWhile fun c => letter c || digit c).length else 0) ≤ _
   split
   · have := (List.takeWhile_prefix (l := r) (fun c => letter c || digit c)).length_le
     rw [List.length_cons]; omega
   · omega
theorem paramL_le (s : List UInt8) : paramL s ≤ s.length := by
 have h1 := nameL_le s
 have h2 := (List.takeWhile_prefix (l := s) digit).length_le
 unfold paramL
 split
 · exact h1
 · split
   · exact h2
   · split
     · simp
     · split <;> simp
def dName (r : List UInt8) : Nat := if nameL r = 0 ∧ (r.head?.map special) = some true then 1 else nameL r
theorem dName_le (r : List UInt8) : dName r ≤ r.length := by
 unfold dName
 split
 · rename_i h4
   cases r with
   | nil => simp at h4
   | cons c r => simp
 · exact nameL_le _
theorem dollar_unit {w : List UInt8 → Except Int (List Pt)} {q : Bool} {s : List UInt8} (h : (s.drop 1).head? = some 40 ∨ (s.drop 1).head? = some 123) : dollar w q s =
   match unit 30 0 s with
   | none => .error 90
   | some k =>
     if (s.drop 1).head? = some 123 then (braces w q ((s.take (k - 1)).drop 2)).map fun p => (p, k)
     else if 4 < k ∧ s[2]? = some 40 ∧ s[k - 2]? = some 41 then .ok (.mk 3 q ((s.take (k - 2)).drop 3) [] [] [], k)
     else .ok (.mk 2 q ((s.take (k - 1)).drop 2) [] [] [], k) := by
 unfold dollar
 simp only []
 rw [if_pos h]
theorem dollar_name {w : List UInt8 → Except Int (List Pt)} {q : Bool} {s : List UInt8} (h : ¬ ((s.drop 1).head? = some 40 ∨ (s.drop 1).head? = some 123)) : dollar w q s =
   if dName (s.drop 1) = 0 then .ok (txt q [36], 1) else .ok (.mk 1 q [] ((s.drop 1).take (dName (s.drop 1))) [] [], dName (s.drop 1) + 1) := by
 unfold dollar dName
 simp only []
 rw [if_neg h]
theorem dollar_le {w : List UInt8 → Except Int (List Pt)} {q : Bool} {s : List UInt8} {p : Pt} {k : Nat} (hs : s ≠ []) (h : dollar w q s = .ok (p, k)) : 1 ≤ k ∧ k ≤ s.length := by
 have hl := List.length_pos_iff.2 hs
 by_cases hu : (s.drop 1).head? = some 40 ∨ (s.drop 1).head? = some 123
 · rw [dollar_unit hu] at h
   cases hk : unit 30 0 s with
   | none => rw [hk] at h; cases h
   | some j =>
     have hj := unit_le _ hk
     rw [hk] at h
     simp only [] at h
     split at h
     · cases hb : braces w q ((s.take (j - 1)).drop 2) with
       | error e => rw [hb] at h; cases h
       | ok x => rw [hb] at h; cases h; exact hj
     · split at h <;> (cases h; exact hj)
 · rw [dollar_name hu] at h
   have h3 := dName_le (s.drop 1)
   rw [List.length_drop] at h3
   split at h
   · injection h with h; injection h with _ h; omega
   · injection h with h; injection h with _ h; omega
theorem step2_le {w : List UInt8 → Except Int (List Pt)} {s : List UInt8} {p : Pt} {k : Nat} (h : step2 w s = .ok (p, k)) : 1 ≤ k ∧ k ≤ s.length := by
 cases s with
 | nil => cases h
 | cons c r =>
   rw [step2] at h
   split at h
   · exact dollar_le (by simp) h
   · split at h
     · rename_i h2
       injection h with h; injection h with _ h
       have : r ≠ [] := fun e => by rw [e] at h2; simp at h2
       have := List.length_pos_iff.2 this
       rw [List.length_cons]; omega
     · injection h with h; injection h with _ h
       rw [List.length_cons]; omega
theorem step1_le {w : List UInt8 → Except Int (List Pt)} {s : List UInt8} {l : List Pt} {k : Nat} (h : step1 w s = .ok (l, k)) : 1 ≤ k ∧ k ≤ s.length := by
 cases s with
 | nil => cases h
 | cons c r =>
   rw [step1] at h
   split at h
   · cases hk : unit 30 0 (c :: r) with
     | none => rw [hk] at h; cases h
     | some j =>
       have hj := unit_le _ hk
       rw [hk] at h
       simp only [] at h
       split at h
       · injection h with h; injection h with _ h; omega
       · split at h
         · injection h with h; injection h with _ h; omega
         · cases hd : double w (r.take (j - 2)) with
           | error e => rw [hd] at h; cases h
           | ok x => rw [hd] at h; cases h; exact hj
   · split at h
     · cases hd : dollar w false (c :: r) with
       | error e => rw [hd] at h; cases h
       | ok x =>
         rw [hd] at h
         injection h with h; injection h with _ h
         have := dollar_le (p := x.1) (k := x.2) (by simp) hd
         omega
     · injection h with h; injection h with _ h
       rw [List.length_cons]; omega
theorem doubleF_more {w : List UInt8 → Except Int (List Pt)} : ∀ (n m : Nat) (l : List UInt8) (acc : List Pt), l.length ≤ n → l.length ≤ m → doubleF w n l acc = doubleF w m l acc
 | 0, 0, _, _, _, _ => rfl
 | 0, m + 1, [], _, _, _ => rfl
 | n + 1, 0, [], _, _, _ => rfl
 | 0, _, c :: r, _, h, _ => by simp at h
 | _, 0, c :: r, _, _, h => by simp at h
 | n + 1, m + 1, [], _, _, _ => rfl
 | n + 1, m + 1, c :: r, acc, h, h2 => by
   rw [doubleF, doubleF]
   cases hs : step2 w (c :: r) with
   | error e => rfl
   | ok x =>
     obtain ⟨p, k⟩ := x
     have := step2_le hs
     rw [List.length_cons] at *
     simp only []
     exact doubleF_more n m _ _ (by rw [List.length_drop, List.length_cons]; omega) (by rw [List.length_drop, List.length_cons]; omega)
theorem partsF_more {w : List UInt8 → Except Int (List Pt)} : ∀ (n m : Nat) (l : List UInt8) (acc : List Pt), l.length ≤ n → l.length ≤ m → partsF w n l acc = partsF w m l acc
 | 0, 0, _, _, _, _ => rfl
 | 0, m + 1, [], _, _, _ => rfl
 | n + 1, 0, [], _, _, _ => rfl
 | 0, _, c :: r, _, h, _ => by simp at h
 | _, 0, c :: r, _, _, h => by simp at h
 | n + 1, m + 1, [], _, _, _ => rfl
 | n + 1, m + 1, c :: r, acc, h, h2 => by
   rw [partsF, partsF]
   cases hs : step1 w (c :: r) with
   | error e => rfl
   | ok x =>
     obtain ⟨p, k⟩ := x
     have := step1_le hs
     rw [List.length_cons] at *
     simp only []
     exact partsF_more n m _ _ (by rw [List.length_drop, List.length_cons]; omega) (by rw [List.length_drop, List.length_cons]; omega)
def doubleOn (w : List UInt8 → Except Int (List Pt)) (l : List UInt8) (acc : List Pt) : Except Int (List Pt) := doubleF w l.length l acc
def partsOn (w : List UInt8 → Except Int (List Pt)) (l : List UInt8) (acc : List Pt) : Except Int (List Pt) := partsF w l.length l acc
theorem doubleOn_bad {w : List UInt8 → Except Int (List Pt)} {c : UInt8} {r : List UInt8} {acc : List Pt} {e : Int} (h : step2 w (c :: r) = .error e) : doubleOn w (c :: r) acc = .error e := by
 unfold doubleOn
 rw [List.length_cons, doubleF, h]
theorem doubleOn_go {w : List UInt8 → Except Int (List Pt)} {c : UInt8} {r : List UInt8} {acc : List Pt} {p : Pt} {k : Nat} (h : step2 w (c :: r) = .ok (p, k)) : doubleOn w (c :: r) acc = doubleOn w ((c :: r).drop k) (add acc p) := by
 have := step2_le h
 unfold doubleOn
 conv => lhs; rw [List.length_cons, doubleF, h]
 exact doubleF_more _ _ _ _ (by rw [List.length_drop, List.length_cons] at *; omega) (by omega)
theorem partsOn_bad {w : List UInt8 → Except Int (List Pt)} {c : UInt8} {r : List UInt8} {acc : List Pt} {e : Int} (h : step1 w (c :: r) = .error e) : partsOn w (c :: r) acc = .error e := by
 unfold partsOn
 rw [List.length_cons, partsF, h]
theorem partsOn_go {w : List UInt8 → Except Int (List Pt)} {c : UInt8} {r : List UInt8} {acc : List Pt} {l : List Pt} {k : Nat} (h : step1 w (c :: r) = .ok (l, k)) : partsOn w (c :: r) acc = partsOn w ((c :: r).drop k) (l.foldl add acc) := by
 have := step1_le h
 unfold partsOn
 conv => lhs; rw [List.length_cons, partsF, h]
 exact partsF_more _ _ _ _ (by rw [List.length_drop, List.length_cons] at *; omega) (by omega)
end Wx
end
section
namespace Sy
open Lx Wx
inductive Nd where
 | mk (kind : Int) (not : Bool) (name : List UInt8) (words : List (List Pt)) (assigns redirs : List (List UInt8 × List Pt)) (ops : List (List UInt8)) (kids : List Nd)
def Nd.kind : Nd → Int | mk k _ _ _ _ _ _ _ => k
def Nd.kids : Nd → List Nd | mk _ _ _ _ _ _ _ l => l
abbrev R (α : Type) := Except Int (α × List Tok)
def isT (k : Int) (x : List UInt8) : List Tok → Bool
 | [] => false
 | t :: _ => t.kind == k && t.text == x
def wordT : List Tok → Bool
 | [] => false
 | t :: _ => t.kind == 0
def textT : List Tok → List UInt8
 | [] => []
 | t :: _ => t.text
def isLine (t : Tok) : Bool := t.kind == 2 && t.text == [10]
def lines (l : List Tok) : List Tok := l.dropWhile isLine
def kThen : List UInt8 := [116, 104, 101, 110]
def kElif : List UInt8 := [101, 108, 105, 102]
def kElse : List UInt8 := [101, 108, 115, 101]
def kFi : List UInt8 := [102, 105]
def kDo : List UInt8 := [100, 111]
def kDone : List UInt8 := [100, 111, 110, 101]
def kEsac : List UInt8 := [101, 115, 97, 99]
def kIf : List UInt8 := [105, 102]
def kWhile : List UInt8 := [119, 104, 105, 108, 101]
def kUntil : List UInt8 := [117, 110, 116, 105, 108]
def kFor : List UInt8 := [102, 111, 114]
def kCase : List UInt8 := [99, 97, 115, 101]
def kIn : List UInt8 := [105, 110]
def reserved (x : List UInt8) : Bool := [kThen, kElif, kElse, kFi, kDo, kDone, kEsac, [125], [33]].contains x
def ends : List Tok → Bool
 | [] => true
 | t :: _ => t.kind == 1 && (t.text == [41] || t.text == [59, 59]) || t.kind == 0 && t.text != [33] && reserved t.text
def partsT : List Tok → R (List Pt)
 | [] => .error 100
 | t :: r => if t.kind = 0 then (parts 30 t.text).map fun l => (l, r) else .error 100
def listF (c : List Tok → R Nd) : Nat → List Nd → List Tok → R (List Nd)
 | 0, _, _ => .error 100
 | n + 1, acc, ts =>
   if ends ts then .ok (acc, ts) else
   match c ts with
   | .error e => .error e
   | .ok (k, r) =>
     if isT 1 [59] r then listF c n (acc ++ [k]) (lines r.tail)
     else if isT 2 [10] r then listF c n (acc ++ [k]) (lines r)
     else .ok (acc ++ [k], r)
def listN (l : List Nd) : Nd := .mk 3 false [] [] [] [] [] l
def list (c : List Tok → R Nd) (empty : Bool) (ts : List Tok) : R Nd :=
 match listF c (ts.length + 1) [] (lines ts) with
 | .error e => .error e
 | .ok (ks, r) => if ks.isEmpty && !empty then .error 100 else .ok (listN ks, r)
def andOrF (p : List Tok → R Nd) : Nat → List (List UInt8) → List Nd → List Tok → R (List (List UInt8) × List Nd)
 | 0, _, _, _ => .error 100
 | n + 1, ops, ks, ts =>
   if isT 1 [38, 38] ts || isT 1 [124, 124] ts then
     match p (lines ts.tail) with
     | .error e => .error e
     | .ok (k, r) => andOrF p n (ops ++ [textT ts]) (ks ++ [k]) r
   else .ok ((ops, ks), ts)
def andOr (p : List Tok → R Nd) (ts : List Tok) : R Nd :=
 match p ts with
 | .error e => .error e
 | .ok (k, r) =>
   match andOrF p (r.length + 1) [] [k] r with
   | .error e => .error e
   | .ok (z, r2) => if z.1.isEmpty then .ok (k, r2) else .ok (.mk 2 false [] [] [] [] z.1 z.2, r2)
def pipeF (c : List Tok → R Nd) : Nat → List Nd → List Tok → R (List Nd)
 | 0, _, _ => .error 100
 | n + 1, ks, ts =>
   if isT 1 [124] ts then
     match c (lines ts.tail) with
     | .error e => .error e
     | .ok (k, r) => pipeF c n (ks ++ [k]) r
   else .ok (ks, ts)
def pipe (c : List Tok → R Nd) (ts : List Tok) : R Nd :=
 match c (if isT 0 [33] ts then ts.tail else ts) with
 | .error e => .error e
 | .ok (k, r) =>
   match pipeF c (r.length + 1) [k] r with
   | .error e => .error e
   | .ok (ks, r2) => if ks.length = 1 ∧ isT 0 [33] ts = false then .ok (k, r2) else .ok (.mk 1 (isT 0 [33] ts) [] [] [] [] [] ks, r2)
def upTo {α : Type} (k : Int) (x : List UInt8) : R α → R α
 | .error e => .error e
 | .ok (v, r) => if isT k x r then .ok (v, r.tail) else .error 100
def andThen {α β : Type} (a : R α) (f : α → List Tok → R β) : R β :=
 match a with
 | .error e => .error e
 | .ok (v, r) => f v r
def body (L : Bool → List Tok → R Nd) (ts : List Tok) : R Nd :=
 if isT 0 kDo ts then upTo 0 kDone (L false ts.tail) else .error 100
def branch (L : Bool → List Tok → R Nd) (b : List Tok → R Nd) (ts : List Tok) : R Nd :=
 andThen (upTo 0 kThen (L false ts)) fun c r =>
 andThen (L false r) fun t r2 =>
   if isT 0 kElif r2 then andThen (b r2.tail) fun k r3 => .ok (.mk 6 false [] [] [] [] [] [c, t, listN [k]], r3)
   else if isT 0 kElse r2 then andThen (L false r2.tail) fun k r3 => .ok (.mk 6 false [] [] [] [] [] [c, t, k], r3)
   else .ok (.mk 6 false [] [] [] [] [] [c, t], r2)
def loop (L : Bool → List Tok → R Nd) (ts : List Tok) : R Nd :=
 andThen (L false ts.tail) fun c r =>
 andThen (body L r) fun b r2 => .ok (.mk 7 false (textT ts) [] [] [] [] [c, b], r2)
def wordsF : Nat → List (List Pt) → List Tok → R (List (List Pt))
 | 0, _, _ => .error 100
 | n + 1, ws, ts =>
   if wordT ts then
     match partsT ts with
     | .error e => .error e
     | .ok (w, r) => wordsF n (ws ++ [w]) r
   else .ok (ws, ts)
def each (L : Bool → List Tok → R Nd) (ts : List Tok) : R Nd :=
 if wordT ts = false ∨ nameL (textT ts) ≠ (textT ts).length then .error 100
 else if isT 0 kIn (lines ts.tail) then
   andThen (wordsF ((lines ts.tail).tail.length + 1) [] (lines ts.tail).tail) fun ws r =>
     if isT 1 [59] r || isT 2 [10] r then
       andThen (body L (lines (if isT 1 [59] r then r.tail else r))) fun b r2 => .ok (.mk 8 false (textT ts) ws [] [] [kIn] [b], r2)
     else .error 100
 else andThen (body L (lines (if isT 1 [59] (lines ts.tail) then (lines ts.tail).tail else lines ts.tail))) fun b r2 => .ok (.mk 8 false (textT ts) [] [] [] [] [b], r2)
def barsF : Nat → List (List Pt) → List Tok → R (List (List Pt))
 | 0, _, _ => .error 100
 | n + 1, ws, ts =>
   if isT 1 [124] ts then
     match partsT ts.tail with
     | .error e => .error e
     | .ok (w, r) => barsF n (ws ++ [w]) r
   else .ok (ws, ts)
def item (L : Bool → List Tok → R Nd) (ts : List Tok) : R Nd :=
 andThen (partsT (if isT 1 [40] ts then ts.tail else ts)) fun w r =>
 andThen (upTo 1 [41] (barsF (r.length + 1) [w] r)) fun ws r2 =>
 andThen (L true r2) fun l r3 => .ok (.mk 10 false [] ws [] [] [] [l], r3)
def itemsF (L : Bool → List Tok → R Nd) : Nat → List Nd → List Tok → R (List Nd)
 | 0, _, _ => .error 100
 | n + 1, ks, ts =>
   if isT 0 kEsac ts then .ok (ks, ts.tail) else
   match item L ts with
   | .error e => .error e
   | .ok (k, r) =>
     if isT 1 [59, 59] r then itemsF L n (ks ++ [k]) (lines r.tail)
     else if isT 0 kEsac r then itemsF L n (ks ++ [k]) (lines r)
     else .error 100
def cases (L : Bool → List Tok → R Nd) (ts : List Tok) : R Nd :=
 andThen (partsT ts) fun w r =>
   if isT 0 kIn (lines r) then
     andThen (itemsF L (r.length + 1) [] (lines (lines r).tail)) fun ks r2 => .ok (.mk 9 false [] [w] [] [] [] ks, r2)
   else .error 100
def redir (ts : List Tok) : Bool := isT 1 [60] ts || isT 1 [62] ts || isT 1 [62, 62] ts
def redirect (ts : List Tok) : R (List UInt8 × List Pt) := andThen (partsT ts.tail) fun w r => .ok ((textT ts, w), r)
def redirsF : Nat → List (List UInt8 × List Pt) → List Tok → R (List (List UInt8 × List Pt))
 | 0, _, _ => .error 100
 | n + 1, rs, ts =>
   if redir ts then
     match redirect ts with
     | .error e => .error e
     | .ok (x, r) => redirsF n (rs ++ [x]) r
   else .ok (rs, ts)
def withRedirs : Nd → List (List UInt8 × List Pt) → Nd
 | .mk k q n ws as _ os ks, rs => .mk k q n ws as rs os ks
def funT : List Tok → Bool
 | a :: b :: c :: _ => a.kind == 0 && nameL a.text == a.text.length && b.kind == 1 && b.text == [40] && c.kind == 1 && c.text == [41]
 | _ => false
def define (c : List Tok → R Nd) (ts : List Tok) : R Nd :=
 andThen (c (lines (ts.drop 3))) fun k r => if k.kind < 4 ∨ 9 < k.kind then .error 100 else .ok (.mk 11 false (textT ts) [] [] [] [] [k], r)
def asgT (x : List UInt8) : Bool := decide (0 < nameL x ∧ nameL x < x.length) && x[nameL x]? == some 61
structure Sm where
 words : List (List Pt)
 assigns : List (List UInt8 × List Pt)
 redirs : List (List UInt8 × List Pt)
def simpleF : Nat → Sm → List Tok → R Sm
 | 0, _, _ => .error 100
 | n + 1, s, ts =>
   if redir ts then
     match redirect ts with
     | .error e => .error e
     | .ok (x, r) => simpleF n { s with redirs := s.redirs ++ [x] } r
   else if wordT ts then
     if s.words.isEmpty && asgT (textT ts) then
       match parts 30 ((textT ts).drop (nameL (textT ts) + 1)) with
       | .error e => .error e
       | .ok v => simpleF n { s with assigns := s.assigns ++ [((textT ts).take (nameL (textT ts)), v)] } ts.tail
     else
       match partsT ts with
       | .error e => .error e
       | .ok (w, r) => simpleF n { s with words := s.words ++ [w] } r
   else .ok (s, ts)
def simple (ts : List Tok) : R Nd :=
 andThen (simpleF (ts.length + 1) ⟨[], [], []⟩ ts) fun s r =>
   if s.words.isEmpty && s.assigns.isEmpty && s.redirs.isEmpty then .error 100 else .ok (.mk 0 false [] s.words s.assigns s.redirs [] [], r)
def construct (c b : List Tok → R Nd) (ts : List Tok) : Option (R Nd) :=
 let L := list (andOr (pipe c))
 if isT 1 [40] ts then some (andThen (upTo 1 [41] (L false ts.tail)) fun l r => .ok (.mk 5 false [] [] [] [] [] [l], r))
 else if isT 0 [123] ts then some (andThen (upTo 0 [125] (L false ts.tail)) fun l r => .ok (.mk 4 false [] [] [] [] [] [l], r))
 else if isT 0 kIf ts then some (upTo 0 kFi (branch L b ts.tail))
 else if isT 0 kWhile ts || isT 0 kUntil ts then some (loop L ts)
 else if isT 0 kFor ts then some (each L ts.tail)
 else if isT 0 kCase ts then some (cases L ts.tail)
 else none
def commandF (c b : List Tok → R Nd) (ts : List Tok) : R Nd :=
 match construct c b ts with
 | some x => andThen x fun n r => andThen (redirsF (r.length + 1) [] r) fun rs r2 => .ok (withRedirs n rs, r2)
 | none =>
   if wordT ts && reserved (textT ts) then .error 100
   else if funT ts then define c ts
   else simple ts
def both : Nat → (List Tok → R Nd) × (List Tok → R Nd)
 | 0 => (fun _ => .error 2, fun _ => .error 2)
 | d + 1 => (commandF (both d).1 (both d).2, branch (list (andOr (pipe (both d).1))) (both d).2)
def command (d : Nat) : List Tok → R Nd := (both d).1
def parse (ts : List Tok) : Except Int Nd :=
 match list (andOr (pipe (command 30))) true ts with
 | .error e => .error e
 | .ok (n, r) => if r.isEmpty then .ok n else .error 100
end Sy
end
section
namespace Sy
open Lx Wx
def Ln (y : List Tok) : Prop := y = [] ∨ ∃ t z, y = t :: z ∧ isLine t = true
def St {α : Type} (P : List Tok → R α) : Prop := ∀ ts v r y, Ln y → P ts = .ok (v, r) → P (ts ++ y) = .ok (v, r ++ y)
def St1 {α : Type} (P : List Tok → R α) : Prop := ∀ ts v r y, Ln y → P ts = .ok (v, r) → r ≠ [] → P (ts ++ y) = .ok (v, r ++ y)
def Ne {α : Type} (P : List Tok → R α) : Prop := ∀ z, P [] ≠ .ok z
theorem St.one {α : Type} {P : List Tok → R α} (h : St P) : St1 P := fun ts v r y hy he _ => h ts v r y hy he
theorem line_is {t : Tok} (h : isLine t = true) : t.kind = 2 ∧ t.text = [10] := by
 unfold isLine at h
 rw [Bool.and_eq_true, beq_iff_eq, beq_iff_eq] at h
 exact h
theorem isT_ln {k : Int} {x : List UInt8} {y : List Tok} (hy : Ln y) (h : k ≠ 2) : isT k x y = false := by
 rcases hy with rfl | ⟨t, z, rfl, ht⟩
 · rfl
 · obtain ⟨h1, _⟩ := line_is ht
   show (t.kind == k && _) = false
   have : (t.kind == k) = false := by rw [h1]; simpa using fun e => h e.symm
   rw [this, Bool.false_and]
theorem isT_st {k : Int} (x : List UInt8) (ts : List Tok) {y : List Tok} (hy : Ln y) (h : k ≠ 2) : isT k x (ts ++ y) = isT k x ts := by
 cases ts with
 | nil => rw [List.nil_append, isT_ln hy h]; rfl
 | cons t r => rfl
theorem wordT_st (ts : List Tok) {y : List Tok} (hy : Ln y) : wordT (ts ++ y) = wordT ts := by
 cases ts with
 | nil =>
   rcases hy with rfl | ⟨t, z, rfl, ht⟩
   · rfl
   · show (t.kind == 0) = false
     rw [(line_is ht).1]; rfl
 | cons t r => rfl
theorem isT_ne {k : Int} {x : List UInt8} {ts : List Tok} (h : isT k x ts = true) : ts ≠ [] := fun e => by rw [e] at h; cases h
theorem wordT_ne {ts : List Tok} (h : wordT ts = true) : ts ≠ [] := fun e => by rw [e] at h; cases h
theorem textT_app {ts : List Tok} (y : List Tok) (h : ts ≠ []) : textT (ts ++ y) = textT ts := by
 cases ts with
 | nil => exact absurd rfl h
 | cons t r => rfl
theorem tail_app {ts : List Tok} (y : List Tok) (h : ts ≠ []) : (ts ++ y).tail = ts.tail ++ y := by
 cases ts with
 | nil => exact absurd rfl h
 | cons t r => rfl
theorem isT_app {k : Int} {x : List UInt8} {ts : List Tok} (y : List Tok) (h : ts ≠ []) : isT k x (ts ++ y) = isT k x ts := by
 cases ts with
 | nil => exact absurd rfl h
 | cons t r => rfl
theorem ends_app {ts : List Tok} (y : List Tok) (h : ts ≠ []) : ends (ts ++ y) = ends ts := by
 cases ts with
 | nil => exact absurd rfl h
 | cons t r => rfl
theorem lines_app {ts : List Tok} (y : List Tok) (h : lines ts ≠ []) : lines (ts ++ y) = lines ts ++ y := by
 unfold lines at *
 induction ts with
 | nil => exact absurd rfl h
 | cons t r ih =>
   rw [List.cons_append, List.dropWhile_cons, List.dropWhile_cons]
   by_cases ht : isLine t = true
   · rw [if_pos ht, if_pos ht]
     rw [List.dropWhile_cons, if_pos ht] at h
     exact ih h
   · rw [if_neg ht, if_neg ht]; rfl
theorem lines_none {ts : List Tok} (y : List Tok) (h : lines ts = []) : lines (ts ++ y) = lines y := by
 unfold lines at *
 induction ts with
 | nil => rfl
 | cons t r ih =>
   rw [List.dropWhile_cons] at h
   by_cases ht : isLine t = true
   · rw [if_pos ht] at h
     rw [List.cons_append, List.dropWhile_cons, if_pos ht]
     exact ih h
   · rw [if_neg ht] at h; cases h
theorem partsT_cons (t : Tok) (r : List Tok) : partsT (t :: r) = if t.kind = 0 then (parts 30 t.text).map fun l => (l, r) else .error 100 := rfl
theorem partsT_st : St partsT := by
 intro ts v r y _ h
 cases ts with
 | nil => cases h
 | cons t s =>
   rw [partsT_cons] at h
   rw [List.cons_append, partsT_cons]
   by_cases hk : t.kind = 0
   · rw [if_pos hk] at h ⊢
     cases hp : parts 30 t.text with
     | error e => rw [hp] at h; cases h
     | ok l => rw [hp] at h; cases h; rfl
   · rw [if_neg hk] at h; cases h
theorem andThen_ok {α β : Type} {a : R α} {f : α → List Tok → R β} {z : β × List Tok} (h : andThen a f = .ok z) : ∃ v r, a = .ok (v, r) ∧ f v r = .ok z := by
 unfold andThen at h
 cases a with
 | error e => cases h
 | ok x => exact ⟨x.1, x.2, rfl, h⟩
theorem andThen_is {α β : Type} {a : R α} {f : α → List Tok → R β} {v : α} {r : List Tok} (h : a = .ok (v, r)) : andThen a f = f v r := by rw [h]; rfl
theorem upTo_ok {α : Type} {k : Int} {x : List UInt8} {a : R α} {v : α} {r : List Tok} (h : upTo k x a = .ok (v, r)) : ∃ r0, a = .ok (v, r0) ∧ isT k x r0 = true ∧ r = r0.tail := by
 unfold upTo at h
 cases a with
 | error e => cases h
 | ok z =>
   simp only [] at h
   by_cases ht : isT k x z.2 = true
   · rw [if_pos ht] at h
     cases h
     exact ⟨z.2, rfl, ht, rfl⟩
   · rw [if_neg ht] at h; cases h
theorem upTo_is {α : Type} {k : Int} {x : List UInt8} {a : R α} {v : α} {r0 : List Tok} (h : a = .ok (v, r0)) (ht : isT k x r0 = true) : upTo k x a = .ok (v, r0.tail) := by
 rw [h]
 show (if isT k x r0 = true then _ else _) = _
 rw [if_pos ht]
theorem upTo_st {α : Type} {P : List Tok → R α} (h : St1 P) (k : Int) (x : List UInt8) : St fun ts => upTo k x (P ts) := by
 intro ts v r y hy he
 obtain ⟨r0, h1, h2, rfl⟩ := upTo_ok he
 have hn := isT_ne h2
 rw [← tail_app y hn]
 exact upTo_is (h ts v r0 y hy h1 hn) ((isT_app y hn).trans h2)
theorem pipeF_more {c : List Tok → R Nd} : ∀ (n m : Nat) (ks : List Nd) (ts : List Tok) (z : List Nd × List Tok), pipeF c n ks ts = .ok z → n ≤ m → pipeF c m ks ts = .ok z
 | 0, _, _, _, _, h, _ => by cases h
 | n + 1, 0, _, _, _, _, hm => by omega
 | n + 1, m + 1, ks, ts, z, h, hm => by
   rw [pipeF] at h ⊢
   by_cases ht : isT 1 [124] ts = true
   · rw [if_pos ht] at h ⊢
     cases hc : c (lines ts.tail) with
     | error e => rw [hc] at h; cases h
     | ok x => rw [hc] at h; exact pipeF_more n m _ _ z h (by omega)
   · rw [if_neg ht] at h ⊢; exact h
theorem andOrF_more {p : List Tok → R Nd} : ∀ (n m : Nat) (os : List (List UInt8)) (ks : List Nd) (ts : List Tok) (z : (List (List UInt8) × List Nd) × List Tok), andOrF p n os ks ts = .ok z → n ≤ m → andOrF p m os ks ts = .ok z
 | 0, _, _, _, _, _, h, _ => by cases h
 | n + 1, 0, _, _, _, _, _, hm => by omega
 | n + 1, m + 1, os, ks, ts, z, h, hm => by
   rw [andOrF] at h ⊢
   by_cases ht : (isT 1 [38, 38] ts || isT 1 [124, 124] ts) = true
   · rw [if_pos ht] at h ⊢
     cases hc : p (lines ts.tail) with
     | error e => rw [hc] at h; cases h
     | ok x => rw [hc] at h; exact andOrF_more n m _ _ _ z h (by omega)
   · rw [if_neg ht] at h ⊢; exact h
theorem listF_more {c : List Tok → R Nd} : ∀ (n m : Nat) (ks : List Nd) (ts : List Tok) (z : List Nd × List Tok), listF c n ks ts = .ok z → n ≤ m → listF c m ks ts = .ok z
 | 0, _, _, _, _, h, _ => by cases h
 | n + 1, 0, _, _, _, _, hm => by omega
 | n + 1, m + 1, ks, ts, z, h, hm => by
   rw [listF] at h ⊢
   by_cases he : ends ts = true
   · rw [if_pos he] at h ⊢; exact h
   · rw [if_neg he] at h ⊢
     cases hc : c ts with
     | error e => rw [hc] at h; cases h
     | ok x =>
       rw [hc] at h
       simp only [] at h ⊢
       by_cases h1 : isT 1 [59] x.2 = true
       · rw [if_pos h1] at h ⊢; exact listF_more n m _ _ z h (by omega)
       · rw [if_neg h1] at h ⊢
         by_cases h2 : isT 2 [10] x.2 = true
         · rw [if_pos h2] at h ⊢; exact listF_more n m _ _ z h (by omega)
         · rw [if_neg h2] at h ⊢; exact h
theorem wordsF_more : ∀ (n m : Nat) (ws : List (List Pt)) (ts : List Tok) (z : List (List Pt) × List Tok), wordsF n ws ts = .ok z → n ≤ m → wordsF m ws ts = .ok z
 | 0, _, _, _, _, h, _ => by cases h
 | n + 1, 0, _, _, _, _, hm => by omega
 | n + 1, m + 1, ws, ts, z, h, hm => by
   rw [wordsF] at h ⊢
   by_cases ht : wordT ts = true
   · rw [if_pos ht] at h ⊢
     cases hc : partsT ts with
     | error e => rw [hc] at h; cases h
     | ok x => rw [hc] at h; exact wordsF_more n m _ _ z h (by omega)
   · rw [if_neg ht] at h ⊢; exact h
theorem barsF_more : ∀ (n m : Nat) (ws : List (List Pt)) (ts : List Tok) (z : List (List Pt) × List Tok), barsF n ws ts = .ok z → n ≤ m → barsF m ws ts = .ok z
 | 0, _, _, _, _, h, _ => by cases h
 | n + 1, 0, _, _, _, _, hm => by omega
 | n + 1, m + 1, ws, ts, z, h, hm => by
   rw [barsF] at h ⊢
   by_cases ht : isT 1 [124] ts = true
   · rw [if_pos ht] at h ⊢
     cases hc : partsT ts.tail with
     | error e => rw [hc] at h; cases h
     | ok x => rw [hc] at h; exact barsF_more n m _ _ z h (by omega)
   · rw [if_neg ht] at h ⊢; exact h
theorem itemsF_more {L : Bool → List Tok → R Nd} : ∀ (n m : Nat) (ks : List Nd) (ts : List Tok) (z : List Nd × List Tok), itemsF L n ks ts = .ok z → n ≤ m → itemsF L m ks ts = .ok z
 | 0, _, _, _, _, h, _ => by cases h
 | n + 1, 0, _, _, _, _, hm => by omega
 | n + 1, m + 1, ks, ts, z, h, hm => by
   rw [itemsF] at h ⊢
   by_cases he : isT 0 kEsac ts = true
   · rw [if_pos he] at h ⊢; exact h
   · rw [if_neg he] at h ⊢
     cases hc : item L ts with
     | error e => rw [hc] at h; cases h
     | ok x =>
       rw [hc] at h
       simp only [] at h ⊢
       by_cases h1 : isT 1 [59, 59] x.2 = true
       · rw [if_pos h1] at h ⊢; exact itemsF_more n m _ _ z h (by omega)
       · rw [if_neg h1] at h ⊢
         by_cases h2 : isT 0 kEsac x.2 = true
         · rw [if_pos h2] at h ⊢; exact itemsF_more n m _ _ z h (by omega)
         · rw [if_neg h2] at h; cases h
theorem redirsF_more : ∀ (n m : Nat) (rs : List (List UInt8 × List Pt)) (ts : List Tok) (z : List (List UInt8 × List Pt) × List Tok), redirsF n rs ts = .ok z → n ≤ m → redirsF m rs ts = .ok z
 | 0, _, _, _, _, h, _ => by cases h
 | n + 1, 0, _, _, _, _, hm => by omega
 | n + 1, m + 1, rs, ts, z, h, hm => by
   rw [redirsF] at h ⊢
   by_cases ht : redir ts = true
   · rw [if_pos ht] at h ⊢
     cases hc : redirect ts with
     | error e => rw [hc] at h; cases h
     | ok x => rw [hc] at h; exact redirsF_more n m _ _ z h (by omega)
   · rw [if_neg ht] at h ⊢; exact h
theorem simpleF_more : ∀ (n m : Nat) (s : Sm) (ts : List Tok) (z : Sm × List Tok), simpleF n s ts = .ok z → n ≤ m → simpleF m s ts = .ok z
 | 0, _, _, _, _, h, _ => by cases h
 | n + 1, 0, _, _, _, _, hm => by omega
 | n + 1, m + 1, s, ts, z, h, hm => by
   rw [simpleF] at h ⊢
   by_cases ht : redir ts = true
   · rw [if_pos ht] at h ⊢
     cases hc : redirect ts with
     | error e => rw [hc] at h; cases h
     | ok x => rw [hc] at h; exact simpleF_more n m _ _ z h (by omega)
   · rw [if_neg ht] at h ⊢
     by_cases hw : wordT ts = true
     · rw [if_pos hw] at h ⊢
       by_cases ha : (s.words.isEmpty && asgT (textT ts)) = true
       · rw [if_pos ha] at h ⊢
         cases hc : parts 30 ((textT ts).drop (nameL (textT ts) + 1)) with
         | error e => rw [hc] at h; cases h
         | ok v => rw [hc] at h; exact simpleF_more n m _ _ z h (by omega)
       · rw [if_neg ha] at h ⊢
         cases hc : partsT ts with
         | error e => rw [hc] at h; cases h
         | ok x => rw [hc] at h; exact simpleF_more n m _ _ z h (by omega)
     · rw [if_neg hw] at h ⊢; exact h
end Sy
end
end Go.Proofs.YtahjonfmhejoeaaGreatDoor
