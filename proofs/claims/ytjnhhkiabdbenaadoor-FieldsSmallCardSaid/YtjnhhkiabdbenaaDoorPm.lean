/-
  Patterns, as plain Lean functions on lists of bytes. Nothing of the program stands here.
-/
namespace Go.Proofs.YtjnhhkiabdbenaaDoor
namespace Pm
def byteOf (x : UInt8) (r : List UInt8) : UInt8 × List UInt8 :=
  if x = 92 ∧ r ≠ [] then (r.headD 0, r.tail) else (x, r)
def rangeOf (x : UInt8) (r : List UInt8) : (UInt8 × UInt8) × List UInt8 :=
  if 1 < (byteOf x r).2.length ∧ (byteOf x r).2.headD 0 = 45 ∧ (byteOf x r).2.tail.headD 0 ≠ 93 then
    (((byteOf x r).1, (byteOf ((byteOf x r).2.tail.headD 0) (byteOf x r).2.tail.tail).1), (byteOf ((byteOf x r).2.tail.headD 0) (byteOf x r).2.tail.tail).2)
  else (((byteOf x r).1, (byteOf x r).1), (byteOf x r).2)
def itemsF : Nat → Bool → List UInt8 → Option (List (UInt8 × UInt8) × List UInt8)
  | 0, _, _ => none
  | _ + 1, _, [] => none
  | n + 1, first, x :: r =>
    if first = false ∧ x = 93 then some ([], r)
    else (itemsF n false (rangeOf x r).2).map fun z => ((rangeOf x r).1 :: z.1, z.2)
def items (first : Bool) (l : List UInt8) : Option (List (UInt8 × UInt8) × List UInt8) := itemsF l.length first l
def inR (c : UInt8) (z : UInt8 × UInt8) : Bool := decide (z.1 ≤ c) && decide (c ≤ z.2)
def bracket (r : List UInt8) : Option (Bool × List (UInt8 × UInt8) × List UInt8) :=
  if r.head? = some 33 then (items true r.tail).map fun z => (true, z) else (items true r).map fun z => (false, z)
def elem (x : UInt8) (r : List UInt8) : (UInt8 → Bool) × List UInt8 :=
  if x = 63 then (fun _ => true, r)
  else if x = 92 ∧ r ≠ [] then (fun c => r.headD 0 == c, r.tail)
  else if x = 91 then
    match bracket r with
    | some z => (fun c => z.2.1.any (inR c) != z.1, z.2.2)
    | none => (fun c => x == c, r)
  else (fun c => x == c, r)
def first (b : UInt8 → Bool) (g : List UInt8 → Bool) : List UInt8 → Bool
  | [] => false
  | c :: t => b c && g t
def esc (s : List UInt8) : List UInt8 := s.flatMap fun c => [92, c]
theorem esc_cons (c : UInt8) (s : List UInt8) : esc (c :: s) = 92 :: c :: esc s := rfl
theorem esc_length (s : List UInt8) : (esc s).length = 2 * s.length := by
  induction s with
  | nil => rfl
  | cons c s ih => rw [esc_cons, List.length_cons, List.length_cons, ih, List.length_cons]; omega
end Pm
end Go.Proofs.YtjnhhkiabdbenaaDoor
