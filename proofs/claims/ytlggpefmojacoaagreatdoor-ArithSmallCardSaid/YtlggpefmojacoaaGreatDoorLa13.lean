/-
  Parts of the proof, merged.
-/
import Derived.Test.YtlggpefmojacoaaGreatDoorLa12
namespace Go.Proofs.YtlggpefmojacoaaGreatDoor
section
namespace Wx
open Lx
inductive Pt where
 | mk (kind : Int) (q : Bool) (text name op : List UInt8) (word : List Pt)
def Pt.kind : Pt → Int | mk k _ _ _ _ _ => k
def Pt.q : Pt → Bool | mk _ q _ _ _ _ => q
def Pt.text : Pt → List UInt8 | mk _ _ t _ _ _ => t
def Pt.name : Pt → List UInt8 | mk _ _ _ n _ _ => n
def Pt.op : Pt → List UInt8 | mk _ _ _ _ o _ => o
def Pt.word : Pt → List Pt | mk _ _ _ _ _ w => w
def txt (q : Bool) (l : List UInt8) : Pt := .mk 0 q l [] [] []
def letter (c : UInt8) : Bool := (65 ≤ c && c ≤ 90) || (97 ≤ c && c ≤ 122) || c == 95
def digit (c : UInt8) : Bool := 48 ≤ c && c ≤ 57
def special (c : UInt8) : Bool := digit c || c == 35 || c == 63 || c == 64 || c == 42
def nameL : List UInt8 → Nat
 | [] => 0
 | c :: r => if letter c then 1 + (r.takeWhile fun c => letter c || digit c).length else 0
def paramL (s : List UInt8) : Nat :=
 if 0 < nameL s then nameL s else
 if 0 < (s.takeWhile digit).length then (s.takeWhile digit).length else
 match s with
 | [] => 0
 | c :: _ => if special c then 1 else 0
def alike (a p : Pt) : Bool := p.kind == 0 && a.kind == 0 && a.q == p.q
def joined : Pt → Pt → Pt
 | .mk k q t n o w, p => .mk k q (t ++ p.text) n o w
def add (l : List Pt) (p : Pt) : List Pt :=
 match l.getLast? with
 | none => [p]
 | some a => if alike a p then l.dropLast ++ [joined a p] else l ++ [p]
mutual
def quotesOn : List Pt → List Pt → List Pt
 | acc, [] => acc
 | acc, p :: l => quotesOn (add acc (quoteP p)) l
def quoteP : Pt → Pt
 | .mk k _ t n o w => .mk k true t n o (quotesOn [] w)
end
def quotes (l : List Pt) : List Pt := quotesOn [] l
mutual
def cmds : List Pt → Bool
 | [] => false
 | p :: l => cmdP p || cmds l
def cmdP : Pt → Bool
 | .mk k _ _ _ _ w => k == 2 || cmds w
end
mutual
def same : List Pt → List Pt → Bool
 | [], [] => true
 | p :: l, r :: m => sameP p r && same l m
 | _, _ => false
def sameP : Pt → Pt → Bool
 | .mk k q t n o w, .mk k' q' t' n' o' w' => k == k' && q == q' && t == t' && n == n' && o == o' && same w w'
end
def wops : List (List UInt8) := [[58, 45], [58, 61], [58, 63], [58, 43], [37, 37], [35, 35], [45], [61], [63], [43], [37], [35]]
def opL (s : List UInt8) : Option (List UInt8) := wops.find? fun o => o.isPrefixOf s
def lenOp : List UInt8 := [108, 101, 110]
def braces (w : List UInt8 → Except Int (List Pt)) (q : Bool) (s : List UInt8) : Except Int Pt :=
 if 1 < s.length ∧ s.head? = some 35 ∧ paramL (s.drop 1) = s.length - 1 then .ok (.mk 1 q [] (s.drop 1) lenOp [])
 else if paramL s = 0 then .error 90
 else if s.drop (paramL s) = [] then .ok (.mk 1 q [] (s.take (paramL s)) [] [])
 else match opL (s.drop (paramL s)) with
   | none => .error 90
   | some o =>
     if (o = [61] ∨ o = [58, 61]) ∧ nameL (s.take (paramL s)) = 0 then .error 90
     else match w (s.drop (paramL s + o.length)) with
       | .error e => .error e
       | .ok l => if cmds l then .error 90 else .ok (.mk 1 q [] (s.take (paramL s)) o (if q then quotes l else l))
def dollar (w : List UInt8 → Except Int (List Pt)) (q : Bool) (s : List UInt8) : Except Int (Pt × Nat) :=
 let r := s.drop 1
 if r.head? = some 40 ∨ r.head? = some 123 then
   match unit 30 0 s with
   | none => .error 90
   | some k =>
     if r.head? = some 123 then (braces w q ((s.take (k - 1)).drop 2)).map fun p => (p, k)
     else if 4 < k ∧ s[2]? = some 40 ∧ s[k - 2]? = some 41 then .ok (.mk 3 q ((s.take (k - 2)).drop 3) [] [] [], k)
     else .ok (.mk 2 q ((s.take (k - 1)).drop 2) [] [] [], k)
 else
   let n := if nameL r = 0 ∧ (r.head?.map special) = some true then 1 else nameL r
   if n = 0 then .ok (txt q [36], 1) else .ok (.mk 1 q [] (r.take n) [] [], n + 1)
def step2 (w : List UInt8 → Except Int (List Pt)) : List UInt8 → Except Int (Pt × Nat)
 | [] => .error 90
 | c :: r =>
   if c = 36 then dollar w true (c :: r)
   else if c = 92 ∧ (r.head? = some 36 ∨ r.head? = some 96 ∨ r.head? = some 34 ∨ r.head? = some 92) then .ok (txt true (r.take 1), 2)
   else .ok (txt true [c], 1)
def doubleF (w : List UInt8 → Except Int (List Pt)) : Nat → List UInt8 → List Pt → Except Int (List Pt)
 | _, [], acc => .ok acc
 | 0, _ :: _, _ => .error 90
 | n + 1, c :: r, acc =>
   match step2 w (c :: r) with
   | .error e => .error e
   | .ok (p, k) => doubleF w n ((c :: r).drop k) (add acc p)
def double (w : List UInt8 → Except Int (List Pt)) (s : List UInt8) : Except Int (List Pt) :=
 if s = [] then .ok [txt true []] else doubleF w s.length s []
def step1 (w : List UInt8 → Except Int (List Pt)) : List UInt8 → Except Int (List Pt × Nat)
 | [] => .error 90
 | c :: r =>
   if c = 92 ∨ c = 39 ∨ c = 34 then
     match unit 30 0 (c :: r) with
     | none => .error 90
     | some k =>
       if c = 92 then .ok ([txt true (r.take 1)], k)
       else if c = 39 then .ok ([txt true (r.take (k - 2))], k)
       else (double w (r.take (k - 2))).map fun l => (l, k)
   else if c = 36 then (dollar w false (c :: r)).map fun x => ([x.1], x.2)
   else .ok ([txt false [c]], 1)
def partsF (w : List UInt8 → Except Int (List Pt)) : Nat → List UInt8 → List Pt → Except Int (List Pt)
 | _, [], acc => .ok acc
 | 0, _ :: _, _ => .error 90
 | n + 1, c :: r, acc =>
   match step1 w (c :: r) with
   | .error e => .error e
   | .ok (l, k) => partsF w n ((c :: r).drop k) (l.foldl add acc)
def parts : Nat → List UInt8 → Except Int (List Pt)
 | 0, _ => .error 2
 | d + 1, s => partsF (parts d) s.length s []
def single (l : List UInt8) : List UInt8 := 39 :: (l.flatMap fun c => if c = 39 then [39, 92, 39, 39] else [c]) ++ [39]
def about (q : Bool) (l : List UInt8) : List UInt8 := if q then 34 :: l ++ [34] else l
mutual
def print : List Pt → List UInt8
 | [] => []
 | p :: l => printP p ++ print l
def printP : Pt → List UInt8
 | .mk k q t n o w =>
   if k = 0 then (if q then single t else t)
   else if k = 2 then about q ([36, 40] ++ t ++ [41])
   else if k = 3 then about q ([36, 40, 40] ++ t ++ [41, 41])
   else if k = 1 then about q (if o = lenOp then [36, 123, 35] ++ n ++ [125] else [36, 123] ++ n ++ o ++ print w ++ [125])
   else about q []
end
theorem nameL_le (s : List UInt8) : nameL s ≤ s.length := by
 cases s with
 | nil => exact Nat.le_refl _
 | cons c r =>
   show (if letter c = true then 1 + (r.takeWhile fun c => letter c || digit c).length else 0) ≤ _
   split
   · have := (List.takeWhile_prefix (l := r) (fun c => letter c || digit c)).length_le
     rw [List.length_cons]; omega
   · omega
theorem paramL_le (s : List UInt8) : paramL s ≤ s.length := by
 have h1 := nameL_le s
 have h2 := (List.takeWhile_prefix (l := s) digit).length_le
 unfold paramL
 split
 · exact h1
 · split
   · exact h2
   · split
     · simp
     · split <;> simp
def dName (r : List UInt8) : Nat := if nameL r = 0 ∧ (r.head?.map special) = some true then 1 else nameL r
theorem dName_le (r : List UInt8) : dName r ≤ r.length := by
 unfold dName
 split
 · rename_i h4
   cases r with
   | nil => simp at h4
   | cons c r => simp
 · exact nameL_le _
theorem dollar_unit {w : List UInt8 → Except Int (List Pt)} {q : Bool} {s : List UInt8} (h : (s.drop 1).head? = some 40 ∨ (s.drop 1).head? = some 123) : dollar w q s =
   match unit 30 0 s with
   | none => .error 90
   | some k =>
     if (s.drop 1).head? = some 123 then (braces w q ((s.take (k - 1)).drop 2)).map fun p => (p, k)
     else if 4 < k ∧ s[2]? = some 40 ∧ s[k - 2]? = some 41 then .ok (.mk 3 q ((s.take (k - 2)).drop 3) [] [] [], k)
     else .ok (.mk 2 q ((s.take (k - 1)).drop 2) [] [] [], k) := by
 unfold dollar
 simp only []
 rw [if_pos h]
theorem dollar_name {w : List UInt8 → Except Int (List Pt)} {q : Bool} {s : List UInt8} (h : ¬ ((s.drop 1).head? = some 40 ∨ (s.drop 1).head? = some 123)) : dollar w q s =
   if dName (s.drop 1) = 0 then .ok (txt q [36], 1) else .ok (.mk 1 q [] ((s.drop 1).take (dName (s.drop 1))) [] [], dName (s.drop 1) + 1) := by
 unfold dollar dName
 simp only []
 rw [if_neg h]
theorem dollar_le {w : List UInt8 → Except Int (List Pt)} {q : Bool} {s : List UInt8} {p : Pt} {k : Nat} (hs : s ≠ []) (h : dollar w q s = .ok (p, k)) : 1 ≤ k ∧ k ≤ s.length := by
 have hl := List.length_pos_iff.2 hs
 by_cases hu : (s.drop 1).head? = some 40 ∨ (s.drop 1).head? = some 123
 · rw [dollar_unit hu] at h
   cases hk : unit 30 0 s with
   | none => rw [hk] at h; cases h
   | some j =>
     have hj := unit_le _ hk
     rw [hk] at h
     simp only [] at h
     split at h
     · cases hb : braces w q ((s.take (j - 1)).drop 2) with
       | error e => rw [hb] at h; cases h
       | ok x => rw [hb] at h; cases h; exact hj
     · split at h <;> (cases h; exact hj)
 · rw [dollar_name hu] at h
   have h3 := dName_le (s.drop 1)
   rw [List.length_drop] at h3
   split at h
   · injection h with h; injection h with _ h; omega
   · injection h with h; injection h with _ h; omega
theorem step2_le {w : List UInt8 → Except Int (List Pt)} {s : List UInt8} {p : Pt} {k : Nat} (h : step2 w s = .ok (p, k)) : 1 ≤ k ∧ k ≤ s.length := by
 cases s with
 | nil => cases h
 | cons c r =>
   rw [step2] at h
   split at h
   · exact dollar_le (by simp) h
   · split at h
     · rename_i h2
       injection h with h; injection h with _ h
       have : r ≠ [] := fun e => by rw [e] at h2; simp at h2
       have := List.length_pos_iff.2 this
       rw [List.length_cons]; omega
     · injection h with h; injection h with _ h
       rw [List.length_cons]; omega
theorem step1_le {w : List UInt8 → Except Int (List Pt)} {s : List UInt8} {l : List Pt} {k : Nat} (h : step1 w s = .ok (l, k)) : 1 ≤ k ∧ k ≤ s.length := by
 cases s with
 | nil => cases h
 | cons c r =>
   rw [step1] at h
   split at h
   · cases hk : unit 30 0 (c :: r) with
     | none => rw [hk] at h; cases h
     | some j =>
       have hj := unit_le _ hk
       rw [hk] at h
       simp only [] at h
       split at h
       · injection h with h; injection h with _ h; omega
       · split at h
         · injection h with h; injection h with _ h; omega
         · cases hd : double w (r.take (j - 2)) with
           | error e => rw [hd] at h; cases h
           | ok x => rw [hd] at h; cases h; exact hj
   · split at h
     · cases hd : dollar w false (c :: r) with
       | error e => rw [hd] at h; cases h
       | ok x =>
         rw [hd] at h
         injection h with h; injection h with _ h
         have := dollar_le (p := x.1) (k := x.2) (by simp) hd
         omega
     · injection h with h; injection h with _ h
       rw [List.length_cons]; omega
theorem doubleF_more {w : List UInt8 → Except Int (List Pt)} : ∀ (n m : Nat) (l : List UInt8) (acc : List Pt), l.length ≤ n → l.length ≤ m → doubleF w n l acc = doubleF w m l acc
 | 0, 0, _, _, _, _ => rfl
 | 0, m + 1, [], _, _, _ => rfl
 | n + 1, 0, [], _, _, _ => rfl
 | 0, _, c :: r, _, h, _ => by simp at h
 | _, 0, c :: r, _, _, h => by simp at h
 | n + 1, m + 1, [], _, _, _ => rfl
 | n + 1, m + 1, c :: r, acc, h, h2 => by
   rw [doubleF, doubleF]
   cases hs : step2 w (c :: r) with
   | error e => rfl
   | ok x =>
     obtain ⟨p, k⟩ := x
     have := step2_le hs
     rw [List.length_cons] at *
     simp only []
     exact doubleF_more n m _ _ (by rw [List.length_drop, List.length_cons]; omega) (by rw [List.length_drop, List.length_cons]; omega)
theorem partsF_more {w : List UInt8 → Except Int (List Pt)} : ∀ (n m : Nat) (l : List UInt8) (acc : List Pt), l.length ≤ n → l.length ≤ m → partsF w n l acc = partsF w m l acc
 | 0, 0, _, _, _, _ => rfl
 | 0, m + 1, [], _, _, _ => rfl
 | n + 1, 0, [], _, _, _ => rfl
 | 0, _, c :: r, _, h, _ => by simp at h
 | _, 0, c :: r, _, _, h => by simp at h
 | n + 1, m + 1, [], _, _, _ => rfl
 | n + 1, m + 1, c :: r, acc, h, h2 => by
   rw [partsF, partsF]
   cases hs : step1 w (c :: r) with
   | error e => rfl
   | ok x =>
     obtain ⟨p, k⟩ := x
     have := step1_le hs
     rw [List.length_cons] at *
     simp only []
     exact partsF_more n m _ _ (by rw [List.length_drop, List.length_cons]; omega) (by rw [List.length_drop, List.length_cons]; omega)
def doubleOn (w : List UInt8 → Except Int (List Pt)) (l : List UInt8) (acc : List Pt) : Except Int (List Pt) := doubleF w l.length l acc
def partsOn (w : List UInt8 → Except Int (List Pt)) (l : List UInt8) (acc : List Pt) : Except Int (List Pt) := partsF w l.length l acc
theorem doubleOn_nil {w : List UInt8 → Except Int (List Pt)} {acc : List Pt} : doubleOn w [] acc = .ok acc := rfl
theorem partsOn_nil {w : List UInt8 → Except Int (List Pt)} {acc : List Pt} : partsOn w [] acc = .ok acc := rfl
theorem doubleOn_bad {w : List UInt8 → Except Int (List Pt)} {c : UInt8} {r : List UInt8} {acc : List Pt} {e : Int} (h : step2 w (c :: r) = .error e) : doubleOn w (c :: r) acc = .error e := by
 unfold doubleOn
 rw [List.length_cons, doubleF, h]
theorem doubleOn_go {w : List UInt8 → Except Int (List Pt)} {c : UInt8} {r : List UInt8} {acc : List Pt} {p : Pt} {k : Nat} (h : step2 w (c :: r) = .ok (p, k)) : doubleOn w (c :: r) acc = doubleOn w ((c :: r).drop k) (add acc p) := by
 have := step2_le h
 unfold doubleOn
 conv => lhs; rw [List.length_cons, doubleF, h]
 exact doubleF_more _ _ _ _ (by rw [List.length_drop, List.length_cons] at *; omega) (by omega)
theorem partsOn_bad {w : List UInt8 → Except Int (List Pt)} {c : UInt8} {r : List UInt8} {acc : List Pt} {e : Int} (h : step1 w (c :: r) = .error e) : partsOn w (c :: r) acc = .error e := by
 unfold partsOn
 rw [List.length_cons, partsF, h]
theorem partsOn_go {w : List UInt8 → Except Int (List Pt)} {c : UInt8} {r : List UInt8} {acc : List Pt} {l : List Pt} {k : Nat} (h : step1 w (c :: r) = .ok (l, k)) : partsOn w (c :: r) acc = partsOn w ((c :: r).drop k) (l.foldl add acc) := by
 have := step1_le h
 unfold partsOn
 conv => lhs; rw [List.length_cons, partsF, h]
 exact partsF_more _ _ _ _ (by rw [List.length_drop, List.length_cons] at *; omega) (by omega)
end Wx
end
end Go.Proofs.YtlggpefmojacoaaGreatDoor
