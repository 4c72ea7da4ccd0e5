/-
  Fields, as plain Lean functions on lists of bytes. Nothing of the program stands here.
-/
import Derived.Test.YtjnhhkiabdbenaaDoorPm
namespace Go.Proofs.YtjnhhkiabdbenaaDoor
namespace Fd
open Pm (esc)

/-- A segment: its kind, its text. -/
structure Sg where
  kind : Nat
  text : List UInt8
/-- A text whose backslashes count as they are. -/
def dbl (s : List UInt8) : List UInt8 := s.flatMap fun c => if c = 92 then [92, 92] else [c]
def blank (c : UInt8) : Bool := c == 32 || c == 9 || c == 10
/-- The fields so far, the current one, whether it has begun, whether a blank ended one. -/
structure St where
  out : List (List UInt8)
  cur : List UInt8
  has : Bool
  gap : Bool
def St.init : St := ⟨[], [], false, false⟩
def St.fin (x : St) : St := if x.has then ⟨x.out ++ [x.cur], [], false, x.gap⟩ else x
def byte (f : List UInt8) (x : St) (c : UInt8) : St :=
  if f.contains c then
    if blank c then (if x.has then ⟨x.out ++ [x.cur], [], false, true⟩ else x)
    else if x.has || !x.gap then ⟨x.out ++ [x.cur], [], false, false⟩ else ⟨x.out, x.cur, x.has, false⟩
  else ⟨x.out, x.cur ++ dbl [c], true, false⟩
def bytes (f : List UInt8) (x : St) (s : List UInt8) : St := s.foldl (byte f) x
def seg (f : List UInt8) (x : St) (g : Sg) : St :=
  if g.kind = 0 then ⟨x.out, x.cur ++ dbl g.text, x.has || !g.text.isEmpty, x.gap && g.text.isEmpty⟩
  else if g.kind = 1 then ⟨x.out, x.cur ++ esc g.text, true, false⟩
  else if g.kind = 2 then bytes f x g.text
  else if g.kind = 3 then ⟨x.fin.out, x.fin.cur, x.fin.has, false⟩ else x
def segs (f : List UInt8) (x : St) (l : List Sg) : St := l.foldl (seg f) x
def fieldsOf (f : List UInt8) (l : List Sg) : List (List UInt8) := (segs f St.init l).fin.out
/-- A segment's text, as it is told. -/
def told (b : Bool) (g : Sg) : List UInt8 := if g.kind = 3 then [32] else if b then (if g.kind = 1 then esc g.text else dbl g.text) else g.text
def joined (b : Bool) (l : List Sg) : List UInt8 := l.flatMap (told b)

theorem dbl_nil : dbl [] = [] := rfl
theorem dbl_app (s t : List UInt8) : dbl (s ++ t) = dbl s ++ dbl t := by unfold dbl; rw [List.flatMap_append]
theorem dbl_one_length (c : UInt8) : (dbl [c]).length ≤ 2 ∧ 1 ≤ (dbl [c]).length := by
  unfold dbl
  rw [List.flatMap_cons, List.flatMap_nil, List.append_nil]
  split <;> simp
theorem dbl_length (s : List UInt8) : (dbl s).length ≤ 2 * s.length ∧ s.length ≤ (dbl s).length := by
  induction s with
  | nil => exact ⟨Nat.le_refl _, Nat.le_refl _⟩
  | cons c t ih =>
    have h := dbl_app [c] t
    have h1 := dbl_one_length c
    rw [List.singleton_append] at h
    rw [h, List.length_append, List.length_cons]
    omega
theorem esc_len (s : List UInt8) : (esc s).length = 2 * s.length := by
  induction s with
  | nil => rfl
  | cons c t ih =>
    have : esc (c :: t) = [92, c] ++ esc t := rfl
    rw [this, List.length_append, ih, List.length_cons]
    simp
    omega

/-- What is not begun has no bytes. -/
def Ok (x : St) : Prop := x.has = false → x.cur = []
theorem ok_init : Ok St.init := fun _ => rfl
theorem ok_fin {x : St} (h : Ok x) : Ok x.fin := by
  unfold St.fin
  split
  · exact fun _ => rfl
  · exact h
theorem fin_has (x : St) : x.fin.has = false := by
  unfold St.fin
  split
  · rfl
  · rename_i h; exact Bool.eq_false_iff.2 h
theorem ok_byte {f : List UInt8} {x : St} {c : UInt8} (h : Ok x) : Ok (byte f x c) := by
  unfold byte
  split
  · split
    · split
      · exact fun _ => rfl
      · exact h
    · split
      · exact fun _ => rfl
      · exact h
  · exact fun h => by cases h
theorem ok_bytes {f : List UInt8} : ∀ {s : List UInt8} {x : St}, Ok x → Ok (bytes f x s)
  | [], _, h => h
  | _ :: s, _, h => ok_bytes (s := s) (ok_byte h)
theorem ok_seg {f : List UInt8} {x : St} {g : Sg} (h : Ok x) : Ok (seg f x g) := by
  unfold seg
  split
  · intro e
    simp only [Bool.or_eq_false_iff, Bool.not_eq_false'] at e
    show x.cur ++ dbl g.text = []
    rw [h e.1, List.isEmpty_iff.1 e.2]
    rfl
  · split
    · exact fun e => by cases e
    · split
      · exact ok_bytes h
      · split
        · intro e; exact ok_fin h e
        · exact h

/-- How much there is. -/
def St.size (x : St) : Nat := x.out.length + x.cur.length
def wt (l : List Sg) : Nat := (l.map fun g => 2 * g.text.length + 1).sum
theorem size_fin (x : St) : x.fin.size ≤ x.size + 1 := by
  unfold St.fin St.size
  split
  · simp only [List.length_append, List.length_singleton, List.length_nil]; omega
  · omega
theorem size_byte (f : List UInt8) (x : St) (c : UInt8) : (byte f x c).size ≤ x.size + 2 := by
  have := dbl_one_length c
  unfold byte St.size
  repeat' split
  all_goals (try simp only [List.length_append, List.length_singleton, List.length_nil])
  all_goals omega
theorem size_bytes (f : List UInt8) : ∀ (s : List UInt8) (x : St), (bytes f x s).size ≤ x.size + 2 * s.length
  | [], _ => Nat.le_refl _
  | c :: s, x => by
    have h1 := size_bytes f s (byte f x c)
    have h2 := size_byte f x c
    have : (bytes f x (c :: s)) = bytes f (byte f x c) s := rfl
    rw [this, List.length_cons]
    omega
theorem size_seg (f : List UInt8) (x : St) (g : Sg) : (seg f x g).size ≤ x.size + (2 * g.text.length + 1) := by
  have h1 := (dbl_length g.text).1
  have h2 := esc_len g.text
  have h3 := size_bytes f g.text x
  have h4 := size_fin x
  unfold seg
  repeat' split
  · simp only [St.size, List.length_append]; omega
  · simp only [St.size, List.length_append]; omega
  · omega
  · simp only [St.size] at h4 ⊢; omega
  · omega
theorem size_segs (f : List UInt8) : ∀ (l : List Sg) (x : St), (segs f x l).size ≤ x.size + wt l
  | [], _ => Nat.le_refl _
  | g :: l, x => by
    have h1 := size_segs f l (seg f x g)
    have h2 := size_seg f x g
    have e : segs f x (g :: l) = segs f (seg f x g) l := rfl
    have e2 : wt (g :: l) = (2 * g.text.length + 1) + wt l := by simp [wt]
    rw [e, e2]
    omega
theorem segs_take (f : List UInt8) (x : St) (l : List Sg) (j : Nat) (h : j < l.length) : segs f x (l.take (j + 1)) = seg f (segs f x (l.take j)) l[j] := by
  rw [List.take_succ_eq_append_getElem h]
  unfold segs
  rw [List.foldl_append]
  rfl
theorem bytes_take (f : List UInt8) (x : St) (l : List UInt8) (j : Nat) (h : j < l.length) : bytes f x (l.take (j + 1)) = byte f (bytes f x (l.take j)) l[j] := by
  rw [List.take_succ_eq_append_getElem h]
  unfold bytes
  rw [List.foldl_append]
  rfl
theorem wt_take : ∀ (l : List Sg) (j : Nat), wt (l.take j) ≤ wt l
  | [], j => by simp [wt]
  | g :: l, 0 => by simp [wt]
  | g :: l, j + 1 => by
    have := wt_take l j
    have e2 : wt (g :: l) = (2 * g.text.length + 1) + wt l := by simp [wt]
    have e3 : wt (g :: l.take j) = (2 * g.text.length + 1) + wt (l.take j) := by simp [wt]
    rw [List.take_succ_cons, e2, e3]
    omega
theorem wt_at {l : List Sg} {j : Nat} (h : j < l.length) : wt (l.take j) + (2 * l[j].text.length + 1) ≤ wt l := by
  have h1 := wt_take l (j + 1)
  rw [List.take_succ_eq_append_getElem h] at h1
  have e : wt (l.take j ++ [l[j]]) = wt (l.take j) + (2 * l[j].text.length + 1) := by unfold wt; rw [List.map_append, List.sum_append]; rfl
  omega
theorem ok_segs {f : List UInt8} : ∀ {l : List Sg} {x : St}, Ok x → Ok (segs f x l)
  | [], _, h => h
  | _ :: l, _, h => ok_segs (l := l) (ok_seg h)
theorem joined_take (b : Bool) (l : List Sg) (j : Nat) (h : j < l.length) : joined b (l.take (j + 1)) = joined b (l.take j) ++ told b l[j] := by
  rw [List.take_succ_eq_append_getElem h]
  unfold joined
  rw [List.flatMap_append]
  simp
theorem told_length (b : Bool) (g : Sg) : (told b g).length ≤ 2 * g.text.length + 1 := by
  have h1 := (dbl_length g.text).1
  have h2 := esc_len g.text
  unfold told
  repeat' split
  all_goals (try simp only [List.length_singleton])
  all_goals omega
theorem joined_length (b : Bool) : ∀ (l : List Sg), (joined b l).length ≤ wt l
  | [] => Nat.le_refl _
  | g :: l => by
    have h1 := joined_length b l
    have h2 := told_length b g
    have e : joined b (g :: l) = told b g ++ joined b l := rfl
    have e2 : wt (g :: l) = (2 * g.text.length + 1) + wt l := by simp [wt]
    rw [e, List.length_append, e2]
    omega

/-! ### The stage's theorem -/
theorem byte_none {x : St} {c : UInt8} : byte [] x c = ⟨x.out, x.cur ++ dbl [c], true, false⟩ := rfl
theorem bytes_none : ∀ (s : List UInt8) (x : St), (bytes [] x s).out = x.out ∧ (bytes [] x s).cur = x.cur ++ dbl s
  | [], x => ⟨rfl, by rw [dbl_nil, List.append_nil]; rfl⟩
  | c :: s, x => by
    have h := bytes_none s (byte [] x c)
    have e : bytes [] x (c :: s) = bytes [] (byte [] x c) s := rfl
    rw [e, h.1, h.2, byte_none]
    refine ⟨rfl, ?_⟩
    show (x.cur ++ dbl [c]) ++ dbl s = _
    rw [List.append_assoc, ← dbl_app, List.singleton_append]
theorem seg_none {x : St} {g : Sg} (hg : g.kind < 3) : (seg [] x g).out = x.out ∧ (seg [] x g).cur = x.cur ++ told true g := by
  have ht : told true g = if g.kind = 1 then esc g.text else dbl g.text := by unfold told; rw [if_neg (show ¬ g.kind = 3 by omega), if_pos rfl]
  rw [ht]
  unfold seg
  by_cases h0 : g.kind = 0
  · rw [if_pos h0, if_neg (show ¬ g.kind = 1 by omega)]; exact ⟨rfl, rfl⟩
  · rw [if_neg h0]
    by_cases h1 : g.kind = 1
    · rw [if_pos h1, if_pos h1]; exact ⟨rfl, rfl⟩
    · rw [if_neg h1, if_neg h1, if_pos (show g.kind = 2 by omega)]
      exact bytes_none _ _
theorem segs_none : ∀ (l : List Sg) (x : St), (∀ g ∈ l, g.kind < 3) → (segs [] x l).out = x.out ∧ (segs [] x l).cur = x.cur ++ joined true l
  | [], x, _ => ⟨rfl, by show x.cur = x.cur ++ []; rw [List.append_nil]⟩
  | g :: l, x, h => by
    have h1 := segs_none l (seg [] x g) (fun y hy => h y (List.mem_cons_of_mem _ hy))
    have h2 := seg_none (x := x) (h g List.mem_cons_self)
    have e : segs [] x (g :: l) = segs [] (seg [] x g) l := rfl
    rw [e, h1.1, h1.2, h2.1, h2.2]
    exact ⟨rfl, by rw [List.append_assoc]; rfl⟩
/-- Without signs that part them, and without a break: one field at most, which is these as one pattern. -/
theorem whole (l : List Sg) (h : ∀ g ∈ l, g.kind < 3) : (fieldsOf [] l = [] ∧ joined true l = []) ∨ fieldsOf [] l = [joined true l] := by
  have h1 := segs_none l St.init h
  have h2 : Ok (segs [] St.init l) := ok_segs ok_init
  have e1 : (segs [] St.init l).out = [] := h1.1
  have e2 : (segs [] St.init l).cur = joined true l := h1.2
  unfold fieldsOf St.fin
  split
  · right
    show (segs [] St.init l).out ++ [(segs [] St.init l).cur] = _
    rw [e1, e2]; rfl
  · rename_i hh
    left
    refine ⟨e1, ?_⟩
    rw [← e2]
    exact h2 (Bool.eq_false_iff.2 hh)
def wsp : List UInt8 := [32, 9, 10]
theorem wsp_blank {c : UInt8} (h : wsp.contains c = true) : blank c = true := by
  simp only [wsp, List.contains_cons, List.contains_nil, Bool.or_false, Bool.or_eq_true, beq_iff_eq] at h
  unfold blank
  rcases h with rfl | rfl | rfl <;> rfl
/-- No field that ended is empty, nor is one that has begun. -/
def Full (x : St) : Prop := (∀ o ∈ x.out, o ≠ []) ∧ (x.has = true → x.cur ≠ [])
theorem dbl_one_ne (c : UInt8) (l : List UInt8) : l ++ dbl [c] ≠ [] := by
  intro e
  have := congrArg List.length e
  have h := dbl_one_length c
  rw [List.length_append, List.length_nil] at this
  omega
theorem full_byte {x : St} {c : UInt8} (h : Full x) : Full (byte wsp x c) := by
  unfold byte
  split
  · rename_i hc
    rw [if_pos (wsp_blank hc)]
    split
    · rename_i hh
      refine ⟨fun o ho => ?_, fun e => by cases e⟩
      rcases List.mem_append.1 ho with ho | ho
      · exact h.1 o ho
      · rw [List.mem_singleton] at ho; subst ho; exact h.2 hh
    · exact h
  · exact ⟨h.1, fun _ => dbl_one_ne c x.cur⟩
theorem full_bytes : ∀ {s : List UInt8} {x : St}, Full x → Full (bytes wsp x s)
  | [], _, h => h
  | _ :: s, _, h => full_bytes (s := s) (full_byte h)
theorem split_full (s : List UInt8) : ∀ o ∈ fieldsOf wsp [⟨2, s⟩], o ≠ [] := by
  have h : Full (bytes wsp St.init s) := full_bytes ⟨(fun o ho => by cases ho), (fun e => by cases e)⟩
  have e : segs wsp St.init [⟨2, s⟩] = bytes wsp St.init s := rfl
  unfold fieldsOf
  rw [e]
  unfold St.fin
  split
  · rename_i hh
    intro o ho
    rcases List.mem_append.1 ho with ho | ho
    · exact h.1 o ho
    · rw [List.mem_singleton] at ho; subst ho; exact h.2 hh
  · exact h.1
/-- Blanks ahead and behind change nothing. -/
theorem split_blanks (s : List UInt8) : fieldsOf wsp [⟨2, [32, 10] ++ s ++ [9, 32]⟩] = fieldsOf wsp [⟨2, s⟩] := by
  have e : ∀ t, segs wsp St.init [⟨2, t⟩] = bytes wsp St.init t := fun _ => rfl
  unfold fieldsOf
  rw [e, e]
  have e1 : bytes wsp St.init ([32, 10] ++ s ++ [9, 32]) = byte wsp (byte wsp (bytes wsp St.init s) 9) 32 := by
    unfold bytes
    rw [List.foldl_append, List.foldl_append]
    rfl
  rw [e1]
  generalize bytes wsp St.init s = x
  have h9 : byte wsp x 9 = if x.has then ⟨x.out ++ [x.cur], [], false, true⟩ else x := rfl
  have h32 : ∀ y : St, byte wsp y 32 = if y.has then ⟨y.out ++ [y.cur], [], false, true⟩ else y := fun _ => rfl
  rw [h9, h32]
  cases hx : x.has
  · simp [hx]
  · simp [hx, St.fin]
/-- What is quoted is never parted. -/
theorem lit_one (f t : List UInt8) : (fieldsOf f [⟨1, t⟩]).length = 1 := rfl
theorem fields_size (f : List UInt8) (l : List Sg) : (fieldsOf f l).length ≤ wt l + 1 := by
  have h1 := size_segs f l St.init
  have h2 := size_fin (segs f St.init l)
  have e : St.init.size = 0 := rfl
  unfold fieldsOf
  unfold St.size at h2 h1 e
  omega
end Fd
end Go.Proofs.YtjnhhkiabdbenaaDoor
