/-
  SHA-256 on words of 32 bits, as plain Lean functions, and what is true of them. Nothing of the program stands here.
-/
import Derived.KernelRfl
import Derived.Laws.BitsAllLaws
import Derived.Test.YtmkpkmkhnphogaaGreatDoorChecked
import Derived.WalkKit
import Derived.WalkLawsBesides
import Derived.Lib.Hide
import Derived.Below
import Derived.Deep.Draws
import Derived.Laws.Rows
import Derived.Laws.Tables
import Derived.Deep.MidRow
import Derived.Still
import Derived.Test.YtmkpkmkhnphogaaGreatDoorGcm
import Derived.Laws.ShiftsVarLaws
import Derived.Deep.QuietTactic
import Derived.BigQuiet
import Derived.Outline
import Derived.IntWalk
import Derived.LoopTactic
import Derived.StillTailTactics
import Derived.Laws.CopyOwn
import Derived.Deep.RegionHeld3
import Derived.Deep.DrawnRows
namespace Go.Proofs.YtmkpkmkhnphogaaGreatDoor
namespace Sha

def rotr (x : UInt32) (n : UInt32) : UInt32 := (x <<< (32 - n)) ||| (x >>> n)
def near (x : UInt32) : UInt32 := (rotr x 7 ^^^ rotr x 18) ^^^ (x >>> 3)
def far (x : UInt32) : UInt32 := (rotr x 17 ^^^ rotr x 19) ^^^ (x >>> 10)
def mixA (x : UInt32) : UInt32 := (rotr x 2 ^^^ rotr x 13) ^^^ rotr x 22
def mixE (x : UInt32) : UInt32 := (rotr x 6 ^^^ rotr x 11) ^^^ rotr x 25
def ch (e f g : UInt32) : UInt32 := (e &&& f) ^^^ (~~~e &&& g)
def maj (a b c : UInt32) : UInt32 := ((a &&& b) ^^^ (a &&& c)) ^^^ (b &&& c)

def ks : List UInt32 := [1116352408, 1899447441, 3049323471, 3921009573, 961987163, 1508970993, 2453635748, 2870763221, 3624381080, 310598401, 607225278, 1426881987, 1925078388, 2162078206, 2614888103, 3248222580, 3835390401, 4022224774, 264347078, 604807628, 770255983, 1249150122, 1555081692, 1996064986, 2554220882, 2821834349, 2952996808, 3210313671, 3336571891, 3584528711, 113926993, 338241895, 666307205, 773529912, 1294757372, 1396182291, 1695183700, 1986661051, 2177026350, 2456956037, 2730485921, 2820302411, 3259730800, 3345764771, 3516065817, 3600352804, 4094571909, 275423344, 430227734, 506948616, 659060556, 883997877, 958139571, 1322822218, 1537002063, 1747873779, 1955562222, 2024104815, 2227730452, 2361852424, 2428436474, 2756734187, 3204031479, 3329325298]

def word (a b c d : UInt8) : UInt32 := ((a.toUInt32 <<< 24) ||| (b.toUInt32 <<< 16)) ||| (c.toUInt32 <<< 8) ||| d.toUInt32
def wordAt (l : List UInt8) (i : Nat) : UInt32 := word (l.getD i 0) (l.getD (i + 1) 0) (l.getD (i + 2) 0) (l.getD (i + 3) 0)

/-- the words of a block's rounds, the first n of them (the others are nought) -/
def sched1 (l : List UInt8) : Nat → List UInt32
  | 0 => List.replicate 64 0
  | n + 1 => (sched1 l n).set n (wordAt l (4 * n))
def nextW (w : List UInt32) (i : Nat) : UInt32 := w.getD (i - 16) 0 + near (w.getD (i - 15) 0) + w.getD (i - 7) 0 + far (w.getD (i - 2) 0)
def sched2 (l : List UInt8) : Nat → List UInt32
  | 0 => sched1 l 16
  | n + 1 => let w := sched2 l n; w.set (16 + n) (nextW w (16 + n))
def sched (l : List UInt8) : List UInt32 := sched2 l 48

structure St where
  (a b c d e f g h : UInt32)
def St.list (s : St) : List UInt32 := [s.a, s.b, s.c, s.d, s.e, s.f, s.g, s.h]
def init : St := ⟨1779033703, 3144134277, 1013904242, 2773480762, 1359893119, 2600822924, 528734635, 1541459225⟩
def tOf (s : St) (k w : UInt32) : UInt32 := s.h + mixE s.e + ch s.e s.f s.g + k + w
def uOf (s : St) : UInt32 := mixA s.a + maj s.a s.b s.c
def step (s : St) (k w : UInt32) : St := ⟨tOf s k w + uOf s, s.a, s.b, s.c, s.d + tOf s k w, s.e, s.f, s.g⟩
def rounds (ws : List UInt32) (s : St) : Nat → St
  | 0 => s
  | n + 1 => step (rounds ws s n) (ks.getD n 0) (ws.getD n 0)
def plus (s t : St) : St := ⟨s.a + t.a, s.b + t.b, s.c + t.c, s.d + t.d, s.e + t.e, s.f + t.f, s.g + t.g, s.h + t.h⟩
def compress (s : St) (l : List UInt8) : St := plus s (rounds (sched l) s 64)
/-- the state behind the first n blocks -/
def absorb (s : St) (l : List UInt8) : Nat → St
  | 0 => s
  | n + 1 => compress (absorb s l n) ((l.drop (64 * n)).take 64)
def noughts (n : Nat) : Nat := (119 - n % 64) % 64
def tail8 (n : Nat) : List UInt8 := (List.range 8).map fun i => UInt8.ofNat (n * 8 / 2 ^ (56 - 8 * i))
def ending (rest : List UInt8) (n : Nat) : List UInt8 := rest ++ [128] ++ List.replicate (noughts rest.length) 0 ++ tail8 n
def digits : List UInt8 := [48, 49, 50, 51, 52, 53, 54, 55, 56, 57, 97, 98, 99, 100, 101, 102]
def hex8 (x : UInt32) : List UInt8 := (List.range 8).map fun j => digits.getD (x.toNat / 2 ^ (28 - 4 * j) % 16) 0
def inHex (s : St) : List UInt8 := s.list.flatMap hex8
def sum (l : List UInt8) : List UInt8 :=
  let whole := l.length - l.length % 64
  let s := absorb init (l.take whole) (whole / 64)
  let e := ending (l.drop whole) l.length
  inHex (absorb s e (e.length / 64))

def abcSum : List UInt8 := [98, 97, 55, 56, 49, 54, 98, 102, 56, 102, 48, 49, 99, 102, 101, 97, 52, 49, 52, 49, 52, 48, 100, 101, 53, 100, 97, 101, 50, 50, 50, 51, 98, 48, 48, 51, 54, 49, 97, 51, 57, 54, 49, 55, 55, 97, 57, 99, 98, 52, 49, 48, 102, 102, 54, 49, 102, 50, 48, 48, 49, 53, 97, 100]

theorem sum_abc : sum [97, 98, 99] = abcSum := by decide +kernel

/- The model's words for operations on single words, in UInt32's. -/
theorem lt32 (x : UInt32) : x.toNat < 4294967296 := x.toNat_lt
theorem b_xor (x y : UInt32) : bits .xor .u32 (x.toNat : Int) (y.toNat : Int) = ((x ^^^ y).toNat : Int) := by
  rw [u32_xor_nat _ _ (lt32 x) (lt32 y), UInt32.toNat_xor]
theorem b_or (x y : UInt32) : bits .or .u32 (x.toNat : Int) (y.toNat : Int) = ((x ||| y).toNat : Int) := by
  rw [u32_or_nat _ _ (lt32 x) (lt32 y), UInt32.toNat_or]
theorem b_and (x y : UInt32) : bits .and .u32 (x.toNat : Int) (y.toNat : Int) = ((x &&& y).toNat : Int) := by
  rw [u32_and_nat _ _ (lt32 x) (lt32 y), UInt32.toNat_and]
theorem b_add (x y : UInt32) : ((x.toNat : Int) + (y.toNat : Int)) % 4294967296 = ((x + y).toNat : Int) := by
  rw [UInt32.toNat_add]; omega
theorem b_add' (x y : UInt32) : IntKind.u32.wrap ((x.toNat : Int) + (y.toNat : Int)) = ((x + y).toNat : Int) := by
  rw [IntKind.wrap_u32', b_add]
theorem b_shr (x n : UInt32) (q : Nat) (hq : q = 2 ^ (n.toNat % 32)) : (x.toNat : Int) / (q : Int) = ((x >>> n).toNat : Int) := by
  rw [UInt32.toNat_shiftRight, Nat.shiftRight_eq_div_pow, hq]; simp
theorem b_shl (x n : UInt32) (q : Nat) (hq : q = 2 ^ (n.toNat % 32)) : (x.toNat : Int) * (q : Int) % 4294967296 = ((x <<< n).toNat : Int) := by
  rw [UInt32.toNat_shiftLeft, Nat.shiftLeft_eq, hq]; simp
theorem b_rot (x n : UInt32) (p q : Nat) (hp : p = 2 ^ ((32 - n).toNat % 32)) (hq : q = 2 ^ (n.toNat % 32)) :
    bits .or .u32 ((x.toNat : Int) * (p : Int) % 4294967296) ((x.toNat : Int) / (q : Int)) = ((rotr x n).toNat : Int) := by
  rw [b_shl x (32 - n) p hp, b_shr x n q hq, b_or]; rfl

end Sha
end Go.Proofs.YtmkpkmkhnphogaaGreatDoor

/-
  The functions on single words: what each returns; each leaves the world as it is.
-/
namespace Go.Proofs.YtmkpkmkhnphogaaGreatDoor
open Go.RowKit
namespace Sha

theorem ret_eq {k : IntKind} {a b : Int} (h : a = b) : Ending.returned (.int k a) = .returned (.int k b) := by rw [h]

theorem rot_any (x m : UInt32) (n : Int) (w : World) (h : (m = 2 ∧ n = 2) ∨ (m = 6 ∧ n = 6) ∨ (m = 7 ∧ n = 7) ∨ (m = 11 ∧ n = 11) ∨ (m = 13 ∧ n = 13) ∨ (m = 17 ∧ n = 17) ∨ (m = 18 ∧ n = 18) ∨ (m = 19 ∧ n = 19) ∨ (m = 22 ∧ n = 22) ∨ (m = 25 ∧ n = 25)) :
    Calls Tryz.prog 138 #[.int .u32 x.toNat, .int .i64 (-n)] w fun e w' => e = .returned (.int .u32 (rotr x m).toNat) ∧ w = w' := by
  rcases h with ⟨rfl, rfl⟩ | ⟨rfl, rfl⟩ | ⟨rfl, rfl⟩ | ⟨rfl, rfl⟩ | ⟨rfl, rfl⟩ | ⟨rfl, rfl⟩ | ⟨rfl, rfl⟩ | ⟨rfl, rfl⟩ | ⟨rfl, rfl⟩ | ⟨rfl, rfl⟩
  · have e : bits BinOp.and IntKind.u64 (IntKind.u64.wrap (-2)) 31 = 30 := by decide +kernel
    go_enter Tryz.func138, Tryz.ntmps138
    go_wp2
    go_ret
    exact ⟨ret_eq (b_rot x 2 1073741824 4 (by decide) (by decide)), rfl⟩
  · have e : bits BinOp.and IntKind.u64 (IntKind.u64.wrap (-6)) 31 = 26 := by decide +kernel
    go_enter Tryz.func138, Tryz.ntmps138
    go_wp2
    go_ret
    exact ⟨ret_eq (b_rot x 6 67108864 64 (by decide) (by decide)), rfl⟩
  · have e : bits BinOp.and IntKind.u64 (IntKind.u64.wrap (-7)) 31 = 25 := by decide +kernel
    go_enter Tryz.func138, Tryz.ntmps138
    go_wp2
    go_ret
    exact ⟨ret_eq (b_rot x 7 33554432 128 (by decide) (by decide)), rfl⟩
  · have e : bits BinOp.and IntKind.u64 (IntKind.u64.wrap (-11)) 31 = 21 := by decide +kernel
    go_enter Tryz.func138, Tryz.ntmps138
    go_wp2
    go_ret
    exact ⟨ret_eq (b_rot x 11 2097152 2048 (by decide) (by decide)), rfl⟩
  · have e : bits BinOp.and IntKind.u64 (IntKind.u64.wrap (-13)) 31 = 19 := by decide +kernel
    go_enter Tryz.func138, Tryz.ntmps138
    go_wp2
    go_ret
    exact ⟨ret_eq (b_rot x 13 524288 8192 (by decide) (by decide)), rfl⟩
  · have e : bits BinOp.and IntKind.u64 (IntKind.u64.wrap (-17)) 31 = 15 := by decide +kernel
    go_enter Tryz.func138, Tryz.ntmps138
    go_wp2
    go_ret
    exact ⟨ret_eq (b_rot x 17 32768 131072 (by decide) (by decide)), rfl⟩
  · have e : bits BinOp.and IntKind.u64 (IntKind.u64.wrap (-18)) 31 = 14 := by decide +kernel
    go_enter Tryz.func138, Tryz.ntmps138
    go_wp2
    go_ret
    exact ⟨ret_eq (b_rot x 18 16384 262144 (by decide) (by decide)), rfl⟩
  · have e : bits BinOp.and IntKind.u64 (IntKind.u64.wrap (-19)) 31 = 13 := by decide +kernel
    go_enter Tryz.func138, Tryz.ntmps138
    go_wp2
    go_ret
    exact ⟨ret_eq (b_rot x 19 8192 524288 (by decide) (by decide)), rfl⟩
  · have e : bits BinOp.and IntKind.u64 (IntKind.u64.wrap (-22)) 31 = 10 := by decide +kernel
    go_enter Tryz.func138, Tryz.ntmps138
    go_wp2
    go_ret
    exact ⟨ret_eq (b_rot x 22 1024 4194304 (by decide) (by decide)), rfl⟩
  · have e : bits BinOp.and IntKind.u64 (IntKind.u64.wrap (-25)) 31 = 7 := by decide +kernel
    go_enter Tryz.func138, Tryz.ntmps138
    go_wp2
    go_ret
    exact ⟨ret_eq (b_rot x 25 128 33554432 (by decide) (by decide)), rfl⟩

def Turns (n : Int) : Prop := n = 2 ∨ n = 6 ∨ n = 7 ∨ n = 11 ∨ n = 13 ∨ n = 17 ∨ n = 18 ∨ n = 19 ∨ n = 22 ∨ n = 25
theorem right_any (x : UInt32) (n : Int) (w : World) (h : Turns n) :
    Calls Tryz.prog 133 #[.int .u32 x.toNat, .int .i64 n] w fun e w' => e = .returned (.int .u32 (rotr x (UInt32.ofNat n.toNat)).toNat) ∧ w = w' := by
  have hr : (UInt32.ofNat n.toNat = 2 ∧ n = 2) ∨ (UInt32.ofNat n.toNat = 6 ∧ n = 6) ∨ (UInt32.ofNat n.toNat = 7 ∧ n = 7) ∨ (UInt32.ofNat n.toNat = 11 ∧ n = 11) ∨ (UInt32.ofNat n.toNat = 13 ∧ n = 13) ∨ (UInt32.ofNat n.toNat = 17 ∧ n = 17) ∨ (UInt32.ofNat n.toNat = 18 ∧ n = 18) ∨ (UInt32.ofNat n.toNat = 19 ∧ n = 19) ∨ (UInt32.ofNat n.toNat = 22 ∧ n = 22) ∨ (UInt32.ofNat n.toNat = 25 ∧ n = 25) := by
    rcases h with rfl | rfl | rfl | rfl | rfl | rfl | rfl | rfl | rfl | rfl <;> decide
  have H := Lib.hid hr
  have hb : 0 ≤ n ∧ n ≤ 25 := by rcases h with rfl | rfl | rfl | rfl | rfl | rfl | rfl | rfl | rfl | rfl <;> decide
  obtain ⟨hb0, hb1⟩ := hb
  clear h hr
  go_enter Tryz.func133, Tryz.ntmps133
  go_wp2_with (go_at_call 138; refine (rot_any x _ n _ H.out).mono ?_; rintro e w' ⟨rfl, rfl⟩)
  go_ret
  exact ⟨rfl, rfl⟩

theorem mixA_any (x : UInt32) (w : World) :
    Calls Tryz.prog 119 #[.int .u32 x.toNat] w fun e w' => e = .returned (.int .u32 (mixA x).toNat) ∧ w = w' := by
  go_enter Tryz.func119, Tryz.ntmps119
  go_wp2_with (go_at_call 133; refine (right_any x _ _ (by unfold Turns; simp)).mono ?_; rintro e w' ⟨rfl, rfl⟩)
  go_ret
  exact ⟨ret_eq (by rw [b_xor, b_xor]; rfl), rfl⟩

theorem mixE_any (x : UInt32) (w : World) :
    Calls Tryz.prog 117 #[.int .u32 x.toNat] w fun e w' => e = .returned (.int .u32 (mixE x).toNat) ∧ w = w' := by
  go_enter Tryz.func117, Tryz.ntmps117
  go_wp2_with (go_at_call 133; refine (right_any x _ _ (by unfold Turns; simp)).mono ?_; rintro e w' ⟨rfl, rfl⟩)
  go_ret
  exact ⟨ret_eq (by rw [b_xor, b_xor]; rfl), rfl⟩

theorem near_any (x : UInt32) (w : World) :
    Calls Tryz.prog 131 #[.int .u32 x.toNat] w fun e w' => e = .returned (.int .u32 (near x).toNat) ∧ w = w' := by
  go_enter Tryz.func131, Tryz.ntmps131
  go_wp2_with (go_at_call 133; refine (right_any x _ _ (by unfold Turns; simp)).mono ?_; rintro e w' ⟨rfl, rfl⟩)
  go_ret
  exact ⟨ret_eq ((congrArg _ (b_shr x 3 8 (by decide))).trans (by rw [b_xor, b_xor]; rfl)), rfl⟩

theorem far_any (x : UInt32) (w : World) :
    Calls Tryz.prog 132 #[.int .u32 x.toNat] w fun e w' => e = .returned (.int .u32 (far x).toNat) ∧ w = w' := by
  go_enter Tryz.func132, Tryz.ntmps132
  go_wp2_with (go_at_call 133; refine (right_any x _ _ (by unfold Turns; simp)).mono ?_; rintro e w' ⟨rfl, rfl⟩)
  go_ret
  exact ⟨ret_eq ((congrArg _ (b_shr x 10 1024 (by decide))).trans (by rw [b_xor, b_xor]; rfl)), rfl⟩

theorem b_not (x : UInt32) : bits .xor .u32 IntKind.u32.max (x.toNat : Int) = ((~~~x).toNat : Int) := by
  have h : IntKind.u32.max = ((4294967295 : UInt32).toNat : Int) := by decide +kernel
  rw [h, b_xor]
  rw [show (4294967295 : UInt32) ^^^ x = ~~~x from ?_]
  apply UInt32.toBitVec_inj.mp
  simp only [UInt32.toBitVec_xor, UInt32.toBitVec_not]
  exact BitVec.allOnes_xor
theorem ch_any (x y z : UInt32) (w : World) :
    Calls Tryz.prog 118 #[.int .u32 x.toNat, .int .u32 y.toNat, .int .u32 z.toNat] w fun e w' => e = .returned (.int .u32 (ch x y z).toNat) ∧ w = w' := by
  go_enter Tryz.func118, Tryz.ntmps118
  go_wp2
  go_ret
  exact ⟨ret_eq (by rw [b_not, b_and, b_and, b_xor]; rfl), rfl⟩

theorem maj_any (x y z : UInt32) (w : World) :
    Calls Tryz.prog 120 #[.int .u32 x.toNat, .int .u32 y.toNat, .int .u32 z.toNat] w fun e w' => e = .returned (.int .u32 (maj x y z).toNat) ∧ w = w' := by
  go_enter Tryz.func120, Tryz.ntmps120
  go_wp2
  go_ret
  exact ⟨ret_eq (by rw [b_and, b_and, b_and, b_xor, b_xor]; rfl), rfl⟩

end Sha
end Go.Proofs.YtmkpkmkhnphogaaGreatDoor

/-
  Arrays of words in memory: a block that holds a list of words, and what keeps it.
-/
namespace Go.Proofs.YtmkpkmkhnphogaaGreatDoor
open Go.RowKit
namespace Sha

/-- A fact that no tactic looks into. -/
structure Kept (p : Prop) : Prop where
  out : p

def val (x : UInt32) : Value := .int .u32 x.toNat
def cellsOf (l : List UInt32) : Array Value := (l.map val).toArray
theorem size_cellsOf (l : List UInt32) : (cellsOf l).size = l.length := by simp [cellsOf]
theorem get_cellsOf (l : List UInt32) (i : Nat) (h : i < l.length) : (cellsOf l)[i]? = some (.int .u32 (l.getD i 0).toNat) := by
  simp [cellsOf, h, val]
theorem set_cellsOf (l : List UInt32) (i : Nat) (x : UInt32) : (cellsOf l).setIfInBounds i (val x) = cellsOf (l.set i x) := by
  apply Array.ext'
  simp [cellsOf, List.map_set]
theorem one_cellsOf (l : List UInt32) : (cellsOf l).all (·.oneCell') = true := by
  rw [Array.all_eq_true_iff_forall_mem]
  intro v hv
  obtain ⟨x, _, rfl⟩ := List.mem_map.1 (by simpa [cellsOf] using hv)
  rfl

/-- Block g is an array of type t with these words. -/
def Lies (w : World) (g : Nat) (t : TypeId) (l : List UInt32) : Prop := w.heap[g]? = some (.cells (cellsOf l) t (0, 0))

section
variable {w w' : World} {g : Nat} {t : TypeId} {l : List UInt32}
theorem Lies.lt (h : Lies w g t l) : g < w.heap.size := by
  rcases Nat.lt_or_ge g w.heap.size with h1 | h1
  · exact h1
  · unfold Lies at h; rw [Array.getElem?_eq_none h1] at h; cases h
theorem Lies.cell (h : Lies w g t l) (i : Nat) (hi : i < l.length) : w.cell? ⟨g, i, none⟩ = some (.int .u32 (l.getD i 0).toNat) := by
  rw [cell_of_row w g i _ t (0, 0) h]
  exact get_cellsOf l i hi
theorem Lies.free (h : Lies w g t l) (i : Nat) : w.frozen? ⟨g, i, none⟩ = false := frozen_of_row w g i _ t h
theorem Lies.put (h : Lies w g t l) (i : Nat) (x : UInt32) : Lies (w.setCell ⟨g, i, none⟩ (.int .u32 x.toNat)) g t (l.set i x) := by
  have := heap_setCell_same w g i _ t (val x) h
  rw [set_cellsOf] at this
  exact this
theorem Lies.put2 (h : Lies w g t l) (i : Nat) (x : UInt32) (n : Int) (hn : n = x.toNat) : Lies (w.setCell ⟨g, i, none⟩ (.int .u32 n)) g t (l.set i x) := by
  subst hn
  exact h.put i x
theorem Lies.row2 (h : Lies w g t l) {cs : Array Value} {m : List UInt32} (hc : cs = cellsOf m) : Lies (w.setRow g cs) g t m := by
  subst hc
  exact setRow_heap w g _ _ t _ h
theorem Lies.src (h : Lies w g t l) (m : Nat) : ∀ j v, ((l.take m).map val)[j]? = some v → w.cell? ((⟨g, 0, none⟩ : Addr).add j) = some v := by
  intro j v hv
  have hadd : (⟨g, 0, none⟩ : Addr).add j = ⟨g, j, none⟩ := by unfold Addr.add; split <;> simp_all
  rw [hadd, cell_of_row w g j _ t (0, 0) h]
  simp only [List.getElem?_map, List.getElem?_take] at hv
  split at hv
  · simpa [cellsOf] using hv
  · cases hv
theorem Lies.far (h : Lies w g t l) {a : Addr} (ha : g ≠ a.block) (v : Value) : Lies (w.setCell a v) g t l := (heap_setCell_other w a g v ha).trans h
theorem Lies.alloc (h : Lies w g t l) (o : Obj) : Lies (w.alloc o) g t l := (show (w.alloc o).heap[g]? = w.heap[g]? by first | exact heap_alloc_old w o g h.lt | exact heap_alloc_old w o h.lt).trans h
theorem Lies.drawn (h : Lies w g t l) (n : Nat) : Lies (w.drewN n) g t l := h
theorem Lies.below {B : Nat} (h : Lies w g t l) (hb : Below B w w') (hg : g < B) : Lies w' g t l := (hb.block g hg).trans h
theorem Lies.row (h : Lies w g t l) (m : List UInt32) : Lies (w.setRow g (cellsOf m)) g t m := setRow_heap w g _ _ t _ h
theorem Lies.rowFar (h : Lies w g t l) {k : Nat} (hk : g ≠ k) (cs : Array Value) : Lies (w.setRow k cs) g t l := (setRow_other w k g cs hk).trans h
theorem Lies.made {w : World} {t : TypeId} {l : List UInt32} {cs : Array Value} {g : Nat} (h : cs = cellsOf l) (hg : w.heap.size = g) : Lies (w.alloc (.cells cs t)) g t l := by
  subst h hg
  exact heap_alloc_new w _
theorem Lies.new (w : World) (t : TypeId) (l : List UInt32) : Lies (w.alloc (.cells (cellsOf l) t)) w.heap.size t l := heap_alloc_new w _
end

theorem below_drewN {B : Nat} {a w : World} (h : Below B a w) (n : Nat) : Below B a (w.drewN n) := ⟨h.os, h.tape, h.output, h.size, h.block⟩
theorem below_setRow {B g : Nat} {a w : World} (h : Below B a w) (hg : B ≤ g) (cs : Array Value) : Below B a (w.setRow g cs) :=
  h.trans ⟨rfl, rfl, rfl, by simp, fun k hk => setRow_other _ _ _ _ (by omega)⟩

/-- Of the blocks from b0 on the first two are arrays of 64 words: one for the answer, and one that is written. -/
structure Two (t : TypeId) (w wr : World) (l : List UInt32) : Prop where
  below : Below w.heap.size w wr
  first : Lies wr w.heap.size t (List.replicate 64 0)
  second : Lies wr (w.heap.size + 1) t l
theorem Two.put {t : TypeId} {w wr : World} {l : List UInt32} (h : Two t w wr l) (n i : Nat) (x : UInt32) :
    Two t w ((wr.drewN n).setCell ⟨w.heap.size + 1, i, none⟩ (.int .u32 x.toNat)) (l.set i x) :=
  ⟨(below_drewN h.below n).setCell (by simp) _, (h.first.drawn n).far (by simp) _, (h.second.drawn n).put i x⟩

theorem Two.put2 {t : TypeId} {w wr : World} {l : List UInt32} (h : Two t w wr l) (i : Nat) (x : UInt32) (n : Int) (hn : n = x.toNat) :
    Two t w ((wr.setCell ⟨w.heap.size + 1, i, none⟩ (.int .u32 n)).drew) (l.set i x) := by
  subst hn
  exact ⟨(h.below.setCell (by simp) _).drew, h.first.far (by simp) _, h.second.put i x⟩
theorem sum4 (a b c d : UInt32) : ((a.toNat : Int) + (b.toNat : Int) + (c.toNat : Int) + (d.toNat : Int)) % 4294967296 = ((a + b + c + d).toNat : Int) := by
  simp only [UInt32.toNat_add]; omega
theorem sched2_next (l : List UInt8) (i : Nat) (h : 16 ≤ i) : sched2 l (i + 1 - 16) = (sched2 l (i - 16)).set i (nextW (sched2 l (i - 16)) i) := by
  obtain ⟨n, rfl⟩ : ∃ n, i = 16 + n := ⟨i - 16, by omega⟩
  rw [show 16 + n + 1 - 16 = n + 1 by omega, show 16 + n - 16 = n by omega]
  rfl

theorem sched1_length (l : List UInt8) : ∀ n, (sched1 l n).length = 64
  | 0 => by simp [sched1]
  | n + 1 => by simp [sched1, sched1_length l n]
theorem sched2_length (l : List UInt8) : ∀ n, (sched2 l n).length = 64
  | 0 => by simp [sched2, sched1_length]
  | n + 1 => by simp [sched2, sched2_length l n]

theorem list_at (s : ByteArray) (i : Nat) (h : i < s.size) : s.data.toList.getD i 0 = s[i] := by
  have h' : i < s.data.toList.length := by simpa using h
  rw [List.getD_eq_getElem?_getD, List.getElem?_eq_getElem h']
  rfl
theorem word_val (a b c d : UInt8) :
    bits .or .u32 (bits .or .u32 (bits .or .u32 ((a.toNat : Int) % 4294967296 * 16777216 % 4294967296) ((b.toNat : Int) % 4294967296 * 65536 % 4294967296)) ((c.toNat : Int) % 4294967296 * 256 % 4294967296)) ((d.toNat : Int) % 4294967296) = ((word a b c d).toNat : Int) := by
  have e : ∀ x : UInt8, (x.toNat : Int) % 4294967296 = (x.toUInt32.toNat : Int) := fun x => by
    have := x.toNat_lt
    simp; omega
  rw [e a, e b, e c, e d]
  have h1 := b_shl a.toUInt32 24 16777216 (by decide)
  have h2 := b_shl b.toUInt32 16 65536 (by decide)
  have h3 := b_shl c.toUInt32 8 256 (by decide)
  simp only [Int.cast_ofNat_Int] at h1 h2 h3
  rw [h1, h2, h3, b_or, b_or, b_or]
  rfl

theorem Lies.range {w : World} {g : Nat} {t : TypeId} {l : List UInt32} (h : Lies w g t l) : w.rangeAt g 0 (l.map val) := by
  intro j v hv
  rw [Nat.zero_add, cell_of_row w g j _ t (0, 0) h]
  simpa [cellsOf] using hv
theorem Lies.load {P : Program} {w : World} {g : Nat} {t : TypeId} {l : List UInt32} (h : Lies w g t l) {d : TypeDesc} (hu : P.underlying t = some d) (hd : d.isRow = true)
    (hi : (P.info? t).map (·.size) = some (cellsOf l).size) : (Instr.loadAt t (.pointer (some ⟨g, 0, none⟩))).run P w = .ok (.agg (cellsOf l)) w :=
  run_loadAt_mid w g 0 t (l.map val) d h.range hu hd (by rw [hi, size_cellsOf, List.length_map])
/-- A whole array is loaded, in a region walked still. -/
theorem still_load_row {P : Program} {ops : Array Oper} {w : World} {Q : Act → Prop} {a : Act} {o : Oper} {rest : List Oper} (hg : o.guard = none) (ty : TypeId) (x : Operand) (ho : o.op = .load ty x)
    (v : Value) (hrun : (Instr.loadAt ty (a.eval x)).run P w = .ok v w) (h : wpStill P ops w Q rest (a.put o.dst v)) : wpStill P ops w Q (o :: rest) a := by
  refine wpStill_step fun K hK => ?_
  have hw : Region.wanted o (yielded ops a.tmps) = true := by simp [Region.wanted, hg]
  rw [if_pos hw]
  unfold Oper.still execOp
  simp only [ho, Sem.run_bind, hrun, Result.andThen_ok, Sem.run_pure, Oper.stillUpon]
  exact ⟨trivial, hK _ h⟩

end Sha
end Go.Proofs.YtmkpkmkhnphogaaGreatDoor

/-
  The end of a message: the bytes behind the last whole block, 128, noughts, and the length.
-/
namespace Go.Proofs.YtmkpkmkhnphogaaGreatDoor
open Go.RowKit
namespace Sha

theorem byteTy : By.Ty Tryz.prog 51 5 := ⟨Tryz.underlying51, Tryz.underlying5, by kernel_rfl⟩

/-- The number of bytes in a slot. -/
def lenV : Value → Nat
  | .slice _ n _ => n
  | _ => 0

def Part1 (r : List UInt8) (k : Nat) : List UInt8 := r ++ [128] ++ List.replicate k 0
theorem Part1.len (r : List UInt8) (k : Nat) : (Part1 r k).length = r.length + 1 + k := by simp [Part1]; omega
theorem Part1.next (r : List UInt8) (k : Nat) : Part1 r k ++ [0] = Part1 r (k + 1) := by simp [Part1, List.replicate_succ']

/-- Of the loop that lays noughts. -/
def Lay (w wr : World) (r : List UInt8) (v : Value) : Prop :=
  ∃ k A n c, k ≤ noughts r.length ∧ n = r.length + 1 + k ∧ v = .slice A n c ∧ By.Bs wr w.heap.size (.slice A n c) (Part1 r k) ∧ Below w.heap.size w wr

/-- Of the loop that lays the length. -/
def Lay2 (w wr : World) (r : List UInt8) (n : Nat) (v x : Value) : Prop :=
  ∃ i A m c, i ≤ 8 ∧ x = .int .i64 (i : Nat) ∧ v = .slice A m c ∧ By.Bs wr w.heap.size (.slice A m c) (Part1 r (noughts r.length) ++ (tail8 n).take i) ∧ Below w.heap.size w wr

theorem wrap_u64 (n : Int) : IntKind.u64.wrap n = n % 18446744073709551616 := by simp [IntKind.wrap, IntKind.bits, IntKind.signed]
theorem len_byte (n i : Nat) (hi : i < 8) : IntKind.u64.wrap (IntKind.u64.wrap (n : Int) * 8) / 2 ^ (56 - 8 * i) % 256 = ((UInt8.ofNat (n * 8 / 2 ^ (56 - 8 * i))).toNat : Int) := by
  rw [wrap_u64, wrap_u64, UInt8.toNat_ofNat']
  obtain rfl | rfl | rfl | rfl | rfl | rfl | rfl | rfl : i = 0 ∨ i = 1 ∨ i = 2 ∨ i = 3 ∨ i = 4 ∨ i = 5 ∨ i = 6 ∨ i = 7 := by omega
  all_goals simp only [Nat.reduceMul, Nat.reduceSub, Int.reducePow, Nat.reducePow, Nat.mul_zero, Nat.sub_zero, Nat.sub_self, Nat.pow_zero, Int.pow_zero, Nat.div_one, Int.ediv_one]
  all_goals omega
theorem tail8_length (n : Nat) : (tail8 n).length = 8 := by simp [tail8]
theorem tail_room (r : List UInt8) (n i : Nat) (hr : r.length < 64) : (Part1 r (noughts r.length) ++ (tail8 n).take i).length + 1 ≤ 140737488355328 := by
  rw [List.length_append, Part1.len, List.length_take, tail8_length]
  unfold noughts
  omega
theorem tail_next (n i : Nat) (hi : i < 8) : (tail8 n).take (i + 1) = (tail8 n).take i ++ [UInt8.ofNat (n * 8 / 2 ^ (56 - 8 * i))] := by
  rw [List.take_succ_eq_append_getElem (by rw [tail8_length]; exact hi)]
  simp [tail8]
theorem tail_all (n : Nat) : (tail8 n).take 8 = tail8 n := List.take_of_length_le (by rw [tail8_length]; omega)

theorem Bs.shape {w : World} {B : Nat} {v : Value} {l : List UInt8} {m : Nat} (h : By.Bs w B v l) (hm : l.length = m) : ∃ A n c, v = .slice A n c ∧ n = m ∧ By.Bs w B (.slice A n c) l := by
  obtain ⟨A, c, rfl⟩ := h.len
  exact ⟨A, _, c, rfl, hm, h⟩
theorem below_grown {B : Nat} {a w w' : World} {v : Value} {l : List UInt8} (h : Below B a w) (hg : w.grownBy w' v.ownBlock) (hb : By.Bs w B v l) (hB : B ≤ w.heap.size) : Below B a w' :=
  h.grown hg hB fun k hk => (hb.lt k hk).1

set_option maxRecDepth 100000 in
set_option maxHeartbeats 1000000 in
theorem ending_any (r : ByteArray) (n : Nat) (w : World) (hr : r.size < 64) (hn : n ≤ maxLen) :
    Calls Tryz.prog 83 #[.string r, .int .i64 n] w fun e w' => e = .returned (.string ⟨(ending r.data.toList n).toArray⟩) ∧ Below w.heap.size w w' := by
  have HN := Kept.mk hn
  have hrl : r.data.toList.length = r.size := by simp
  clear hn
  go_enter Tryz.func83, Tryz.ntmps83
  go_wp2_with (first
    | (refine By.wpList_bytes byteTy rfl 9 _ rfl Tryz.underlying9 r rfl (by unfold maxLen; omega) ?_; intro v w1 hb hg)
    | (refine By.wpList_append1 byteTy rfl _ _ rfl rfl hb (by have := hg.size; omega) 128 _ rfl rfl (by omega) ?_; intro v2 w2 hb2 hg2))
  go_loopw [5] (fun v wr => Lay w wr r.data.toList v) (fun v _ => r.size + 65 - lenV v)
  case atStart =>
    have hB : Below w.heap.size w w1 := (Below.refl _ _).grown hg (Nat.le_refl _) (fun k hk => by cases hk)
    obtain ⟨A, m, c, rfl, hm, hb3⟩ := Bs.shape (m := r.size + 1) hb2 (by simp)
    exact ⟨0, A, m, c, by omega, by omega, rfl, by simpa [Part1] using hb3, below_grown hB hg2 hb hg.size⟩
  case round =>
    clear hb hg hb2 hg2
    obtain ⟨k, A, m, c, hk, hm, rfl, hb, hB⟩ := hrel
    have hm1 : m ≤ r.size + 1 + k := by omega
    have hm2 : r.size + 1 + k ≤ m := by omega
    have hno : noughts r.data.toList.length = (119 - r.size % 64) % 64 := by unfold noughts; rw [hrl]
    by_cases hlt : k < noughts r.data.toList.length
    · have h1 : ((m : Int) % 64 == 56) = false := by rw [beq_eq_false_iff_ne]; omega
      have HM := Kept.mk (show m = r.data.toList.length + 1 + k from hm)
      have HK := Kept.mk (show k + 1 ≤ noughts r.data.toList.length from hlt)
      have hmB : (m : Int) ≤ 200 := by omega
      have HB := Kept.mk hB
      have hno' := hno
      have hrl' := hrl
      clear hm hno hlt hk hm1 hm2 hrl
      go_wp2_with (refine By.wpList_append1 byteTy rfl _ _ rfl rfl hb HB.out.size 0 _ rfl rfl (by rw [Part1.len, ← HM.out]; omega) ?_; intro v2 w2 hb2 hg2)
      rw [Part1.next] at hb2
      obtain ⟨A', m', c', rfl, hm', hb3⟩ := Bs.shape (m := m + 1) hb2 (by rw [Part1.len, HM.out]; omega)
      clear hb2
      go_roundw
      case rel => exact ⟨k + 1, A', m', c', HK.out, by rw [hm', HM.out]; omega, rfl, hb3, below_grown HB.out hg2 hb HB.out.size⟩
      case measure =>
        simp only [lenV]
        have h2 := HM.out
        have h3 := HK.out
        rw [hno'] at h3
        rw [hrl'] at h2
        omega
    · have h1 : (m : Int) % 64 = 56 := by omega
      have HK := Kept.mk (show k = noughts r.data.toList.length by omega)
      clear hm hno hlt hk hm1 hm2 hrl
      go_wp2
      clear h1
      generalize (m : Int) % 64 = m64
      obtain ⟨wo, rfl⟩ : ∃ wo : World, wo = wr := ⟨_, rfl⟩
      go_loopw [5, 22] (fun v x wr => Lay2 w wr r.data.toList n v x) (fun _ x _ => 8 - (intOf x).toNat)
      case atStart => exact ⟨0, A, m, c, by omega, rfl, rfl, by rw [← HK.out]; simpa using hb, hB⟩
      case round =>
        clear hb hB
        obtain ⟨i, A2, m2, c2, hi, rfl, rfl, hb, hB⟩ := hrel
        by_cases hlt : i < 8
        · have HB := Kept.mk hB
          have s0 : (0 : Int) ≤ 56 - 8 * (i : Int) := by omega
          have s1 : 8 * (i : Int) ≤ 56 := by omega
          have s2 : (56 - 8 * (i : Int)).toNat = 56 - 8 * i := by omega
          clear hB
          go_wp2_with (refine By.wpList_append1 byteTy rfl _ _ rfl rfl hb HB.out.size (UInt8.ofNat (n * 8 / 2 ^ (56 - 8 * i))) _ (len_byte n i hlt) rfl (tail_room r.data.toList n i (by simp; omega)) ?_; intro v2 w2 hb2 hg2)
          obtain ⟨A', m', c', rfl, -, hb3⟩ := Bs.shape hb2 rfl
          clear hb2
          go_roundw
          case rel =>
            refine ⟨i + 1, A', m', c', by omega, by go_num, rfl, ?_, below_grown HB.out hg2 hb HB.out.size⟩
            rw [tail_next _ _ hlt, ← List.append_assoc]
            exact hb3
          case measure => simp [intOf]; omega
        · have hi8 : i = 8 := by omega
          have HI := Kept.mk hi8
          clear hi8
          go_wp2_with (refine By.wpList_string byteTy rfl 9 _ rfl Tryz.underlying9 rfl hb ?_)
          go_ret
          refine ⟨?_, hB⟩
          show Ending.returned (Value.string ⟨(Part1 r.data.toList (noughts r.data.toList.length) ++ (tail8 n).take i).toArray⟩) = _
          rw [HI.out, tail_all]
          rfl
end Sha
end Go.Proofs.YtmkpkmkhnphogaaGreatDoor

/-
  The words of a state in hexadecimal digits.
-/
namespace Go.Proofs.YtmkpkmkhnphogaaGreatDoor
open Go.RowKit
namespace Sha

/-- Inside inHex: the box, and what has been gathered. -/
structure HexIn (w wr : World) (l : List UInt32) (v : Value) (out : List UInt8) : Prop where
  below : Below w.heap.size w wr
  box : Lies wr w.heap.size 129 l
  bs : By.Bs wr (w.heap.size + 1) v out
theorem HexIn.lt {w wr : World} {l : List UInt32} {v : Value} {out : List UInt8} (h : HexIn w wr l v out) : w.heap.size + 1 ≤ wr.heap.size := h.box.lt
theorem HexIn.grown {w wr w2 : World} {l : List UInt32} {v v2 : Value} {out out2 : List UInt8} (h : HexIn w wr l v out) (hb : By.Bs w2 (w.heap.size + 1) v2 out2) (hg : wr.grownBy w2 v.ownBlock) : HexIn w w2 l v2 out2 :=
  ⟨h.below.grown hg h.below.size (fun k hk => by have := (h.bs.lt k hk).1; omega),
   (hg.block w.heap.size h.box.lt (fun e => by have := (h.bs.lt _ e.symm).1; omega)).trans h.box, hb⟩

theorem and15 (x : UInt32) (j : Nat) : bits .and .u32 ((x.toNat : Int) / 2 ^ (28 - 4 * j)) 15 = ((x.toNat / 2 ^ (28 - 4 * j) % 16 : Nat) : Int) := by
  have h := lt32 x
  have hd : x.toNat / 2 ^ (28 - 4 * j) ≤ x.toNat := Nat.div_le_self _ _
  have e : ((x.toNat : Int) / 2 ^ (28 - 4 * j)) = ((x.toNat / 2 ^ (28 - 4 * j) : Nat) : Int) := by simp
  rw [e, show (15 : Int) = ((15 : Nat) : Int) from rfl, u32_and_nat _ _ (by omega) (by omega)]
  congr 1
  exact Nat.and_two_pow_sub_one_eq_mod _ 4
theorem hex8_length (x : UInt32) : (hex8 x).length = 8 := by simp [hex8]
theorem hex_next (x : UInt32) (j : Nat) (hj : j < 8) : (hex8 x).take (j + 1) = (hex8 x).take j ++ [digits.getD (x.toNat / 2 ^ (28 - 4 * j) % 16) 0] := by
  rw [List.take_succ_eq_append_getElem (by rw [hex8_length]; exact hj)]
  simp [hex8]
/-- The digits of the first i words, and the first j of the word behind them. -/
def hexTo (l : List UInt32) (i j : Nat) : List UInt8 := (l.take i).flatMap hex8 ++ (hex8 (l.getD i 0)).take j
theorem hexTo_next (l : List UInt32) (i : Nat) (hi : i < l.length) : hexTo l (i + 1) 0 = hexTo l i 8 := by
  unfold hexTo
  rw [List.take_succ_eq_append_getElem hi, List.flatMap_append, List.take_of_length_le (l := hex8 (l.getD i 0)) (by rw [hex8_length]; omega)]
  simp [hi]
theorem hexTo_all (l : List UInt32) (h : l.length = 8) : hexTo l 8 0 = l.flatMap hex8 := by
  unfold hexTo
  rw [List.take_of_length_le (by omega)]
  simp
theorem flat_length (l : List UInt32) : (l.flatMap hex8).length = 8 * l.length := by
  induction l with
  | nil => rfl
  | cons x r ih => rw [List.flatMap_cons, List.length_append, ih, hex8_length, List.length_cons]; omega
theorem hex_room (l : List UInt32) (i j : Nat) (h : l.length = 8) : (hexTo l i j).length + 1 ≤ 140737488355328 := by
  unfold hexTo
  rw [List.length_append, flat_length, List.length_take, List.length_take, hex8_length]
  omega
theorem digit_at (d : Nat) (h : d < (⟨#[48, 49, 50, 51, 52, 53, 54, 55, 56, 57, 97, 98, 99, 100, 101, 102]⟩ : ByteArray).size) :
    (((⟨#[48, 49, 50, 51, 52, 53, 54, 55, 56, 57, 97, 98, 99, 100, 101, 102]⟩ : ByteArray)[d]'h).toNat : Int) = ((digits.getD d 0).toNat : Int) := by
  have all : ∀ j : Fin 16, (((⟨#[48, 49, 50, 51, 52, 53, 54, 55, 56, 57, 97, 98, 99, 100, 101, 102]⟩ : ByteArray)[j.val]'j.isLt).toNat : Int) = ((digits.getD j.val 0).toNat : Int) := by decide +kernel
  exact all ⟨d, h⟩

set_option maxRecDepth 100000 in
set_option maxHeartbeats 1000000 in
theorem inHex_any (st : St) (w : World) :
    Calls Tryz.prog 84 #[.agg (cellsOf st.list)] w fun e w' => e = .returned (.string ⟨(inHex st).toArray⟩) ∧ Below w.heap.size w w' := by
  go_enter Tryz.func84, Tryz.ntmps84
  go_wp2
  have hl : st.list.length = 8 := rfl
  generalize hq : st.list = l at *
  have HQ := Kept.mk hq
  have HL := Kept.mk hl
  clear hq hl
  go_loopw [3, 6] (fun v x wr => ∃ i A m c, i ≤ 8 ∧ x = .int .i64 (i : Nat) ∧ v = .slice A m c ∧ HexIn w wr l (.slice A m c) (hexTo l i 0)) (fun _ x _ => 8 - (intOf x).toNat)
  case atStart => exact ⟨0, _, _, _, by omega, rfl, rfl, (Below.refl _ _).alloc (Nat.le_refl _) _, Lies.made rfl rfl, by simpa [hexTo] using By.Bs.nil _ _⟩
  case round =>
    obtain ⟨i, A, m, c, hi, rfl, rfl, hM⟩ := hrel
    by_cases hlt : i < 8
    · go_wp2
      simp only [show decide ((i : Int) < 8) = true from decide_eq_true (by omega)]
      obtain ⟨wo, rfl⟩ : ∃ wo : World, wo = wr := ⟨_, rfl⟩
      go_loopw [3, 9] (fun v x wr => ∃ j A m c, j ≤ 8 ∧ x = .int .i64 (j : Nat) ∧ v = .slice A m c ∧ HexIn w wr l (.slice A m c) (hexTo l i j)) (fun _ x _ => 8 - (intOf x).toNat)
      case atStart => exact ⟨0, _, _, _, by omega, rfl, rfl, hM⟩
      case round =>
        clear hM
        obtain ⟨j, A2, m2, c2, hj, rfl, rfl, hM⟩ := hrel
        by_cases hlt2 : j < 8
        · have cx := hM.box.cell i (by rw [HL.out]; exact hlt)
          generalize hX : l.getD i 0 = X at *
          have HX := Kept.mk hX
          clear hX
          have a15 := and15 X j
          have hd : X.toNat / 2 ^ (28 - 4 * j) % 16 < 16 := Nat.mod_lt _ (by omega)
          generalize hD : X.toNat / 2 ^ (28 - 4 * j) % 16 = d at *
          have HD := Kept.mk hD
          clear hD
          have d0 : (0 : Int) ≤ (d : Int) := by omega
          have d1 : (d : Int) < 16 := by omega
          have s0 : (0 : Int) ≤ 28 - 4 * (j : Int) := by omega
          have s1 : 4 * (j : Int) ≤ 28 := by omega
          have s2 : (28 - 4 * (j : Int)).toNat = 28 - 4 * j := by omega
          have i0 : (0 : Int) ≤ (i : Int) := by omega
          have HM := Kept.mk hM
          clear hM
          go_wp2_with (refine By.wpList_append1 byteTy rfl _ _ rfl rfl HM.out.bs HM.out.lt (digits.getD d 0) _ (digit_at d _) rfl (hex_room l i j HL.out) ?_; intro v2 w2 hb2 hg2)
          obtain ⟨A', m', c', rfl, -, hb3⟩ := Bs.shape hb2 rfl
          clear hb2
          go_roundw
          case rel =>
            refine ⟨j + 1, A', m', c', by omega, by go_num, rfl, HM.out.grown ?_ hg2⟩
            have e : hexTo l i (j + 1) = hexTo l i j ++ [digits.getD d 0] := by
              unfold hexTo
              rw [HX.out, hex_next X j hlt2, HD.out, List.append_assoc]
            rw [e]
            exact hb3
          case measure => simp [intOf]; omega
        · have hj8 : j = 8 := by omega
          have HJ := Kept.mk hj8
          clear hj8
          go_wp2
          go_roundw
          case rel => exact ⟨i + 1, A2, m2, c2, by omega, by go_num, rfl, by rw [hexTo_next l i (by rw [HL.out]; exact hlt), ← HJ.out]; exact hM⟩
          case measure => simp [intOf]; omega
    · have hi8 : i = 8 := by omega
      have HI := Kept.mk hi8
      clear hi8
      go_wp2_with (refine By.wpList_string byteTy rfl 9 _ rfl Tryz.underlying9 rfl hM.bs ?_)
      go_ret
      refine ⟨?_, hM.below⟩
      show Ending.returned (Value.string ⟨(hexTo l i 0).toArray⟩) = _
      rw [HI.out, hexTo_all l HL.out, ← HQ.out]
      rfl
end Sha
end Go.Proofs.YtmkpkmkhnphogaaGreatDoor

/-
  The word that stands at a place of a text.
-/
namespace Go.Proofs.YtmkpkmkhnphogaaGreatDoor
open Go.RowKit
namespace Sha

theorem word_any (s : ByteArray) (i : Nat) (w : World) (hs : s.size ≤ maxLen) (hi : i + 3 < s.size) :
    Calls Tryz.prog 130 #[.string s, .int .i64 i] w fun e w' => e = .returned (.int .u32 (wordAt s.data.toList i).toNat) ∧ ∃ n, w' = w.drewN n := by
  unfold maxLen at hs
  have h0 : (0 : Int) ≤ i := by omega
  have h1 : (i : Int) + 3 < s.size := by omega
  have h2 : (i : Int) < s.size := by omega
  have h3 : (i : Int) + 1 < s.size := by omega
  have h4 : (i : Int) + 2 < s.size := by omega
  have n1 : (0 : Int) ≤ (i : Int) + 1 := by omega
  have n2 : (0 : Int) ≤ (i : Int) + 2 := by omega
  have n3 : (0 : Int) ≤ (i : Int) + 3 := by omega
  have t1 : ((i : Int) + 1).toNat = i + 1 := by omega
  have t2 : ((i : Int) + 2).toNat = i + 2 := by omega
  have t3 : ((i : Int) + 3).toNat = i + 3 := by omega
  have e1 : IntKind.i64.wrap ((i : Int) + 1) = (i : Int) + 1 := IntWalk.i64_in _ (by omega)
  have e2 : IntKind.i64.wrap ((i : Int) + 2) = (i : Int) + 2 := IntWalk.i64_in _ (by omega)
  have e3 : IntKind.i64.wrap ((i : Int) + 3) = (i : Int) + 3 := IntWalk.i64_in _ (by omega)
  go_enter Tryz.func130, Tryz.ntmps130
  go_wp2
  go_quiet (fail)
  go_wp2
  go_ret
  refine ⟨ret_eq ((word_val s[i] s[i + 1] s[i + 2] s[i + 3]).trans ?_), _, rfl⟩
  unfold wordAt
  rw [list_at s i (by omega), list_at s (i + 1) (by omega), list_at s (i + 2) (by omega), list_at s (i + 3) (by omega)]
end Sha
end Go.Proofs.YtmkpkmkhnphogaaGreatDoor

/-
  The words of a block's rounds.
-/
namespace Go.Proofs.YtmkpkmkhnphogaaGreatDoor
open Go.RowKit
namespace Sha

theorem word_at (s : ByteArray) (i : Nat) (j : Int) (w : World) (hj : j = i) (hs : s.size ≤ maxLen) (hi : i + 3 < s.size) :
    Calls Tryz.prog 130 #[.string s, .int .i64 j] w fun e w' => e = .returned (.int .u32 (wordAt s.data.toList i).toNat) ∧ ∃ n, w.drewN n = w' := by
  subst hj
  exact (word_any s i w hs hi).mono fun _ _ ⟨h, n, e⟩ => ⟨h, n, e.symm⟩

theorem turned {P : Program} {f : FuncId} {args : Array Value} {w : World} {v : Value} (h : Calls P f args w fun e w' => e = .returned v ∧ w = w') :
    Calls P f args w fun e w' => e = .returned v ∧ w' = w := h.mono fun _ _ ⟨a, b⟩ => ⟨a, b.symm⟩

set_option maxRecDepth 100000 in
set_option maxHeartbeats 400000 in
theorem sched_any (s : ByteArray) (w : World) (hs : s.size = 64) :
    Calls Tryz.prog 116 #[.string s] w fun e w' => e = .returned (.agg (cellsOf (sched s.data.toList))) ∧ Below w.heap.size w w' := by
  have hm : s.size ≤ maxLen := by unfold maxLen; omega
  have H := Lib.hid hs
  have HM := Lib.hid hm
  clear hs hm
  go_enter Tryz.func116, Tryz.ntmps116
  go_wp2
  go_loopw [6] (fun i wr => ∃ k : Nat, k ≤ 16 ∧ i = .int .i64 k ∧ Two 161 w wr (sched1 s.data.toList k)) (fun i _ => 16 - (intOf i).toNat)
  case atStart => exact ⟨0, by omega, rfl, ⟨((Below.refl _ _).alloc (Nat.le_refl _) _).alloc (by simp) _, (Lies.made (by kernel_rfl) rfl).alloc _, Lies.made (by kernel_rfl) (by simp)⟩⟩
  case round =>
    obtain ⟨k, hk, rfl, hT⟩ := hrel
    by_cases hlt : k < 16
    · have hc := hT.second.cell k (by rw [sched1_length]; omega)
      have hf := hT.second.free k
      have h4 : (0 : Int) ≤ 4 * (k : Int) := by omega
      go_wp2_with (go_at_call 130; refine (word_at s (4 * k) _ _ (by omega) HM.out (by rw [H.out]; omega)).mono ?_; rintro e w' ⟨rfl, n, rfl⟩)
      go_roundw
      case rel => exact ⟨k + 1, by omega, by go_num, hT.put _ _ _⟩
      case measure => simp [intOf]; omega
    · have h16 : k = 16 := by omega
      have H16 := Lib.hid h16
      clear h16
      go_wp2
      clear hlt hk
      obtain ⟨wo, rfl⟩ : ∃ wo : World, wo = wr := ⟨_, rfl⟩
      go_loopw [5] (fun x wr => ∃ i : Nat, 16 ≤ i ∧ i ≤ 64 ∧ x = .int .i64 i ∧ Two 161 w wr (sched2 s.data.toList (i - 16))) (fun x _ => 64 - (intOf x).toNat)
      case atStart => exact ⟨16, by omega, by omega, rfl, by have h16 := H16.out; subst h16; exact hT⟩
      case round =>
        clear hT
        obtain ⟨i, hi1, hi2, rfl, hT⟩ := hrel
        by_cases hlt : i < 64
        · have hl := sched2_length s.data.toList (i - 16)
          have c1 := hT.second.cell (i - 16) (by omega)
          have c2 := hT.second.cell (i - 15) (by omega)
          have c3 := hT.second.cell (i - 7) (by omega)
          have c4 := hT.second.cell (i - 2) (by omega)
          have c5 := hT.second.cell i (by omega)
          have f5 := hT.second.free i
          have a0 : (0 : Int) ≤ (i : Int) := by omega
          have a0' : (i : Int) < 64 := by omega
          have a1 : (0 : Int) ≤ (i : Int) - 16 := by omega
          have a2 : (0 : Int) ≤ (i : Int) - 15 := by omega
          have a3 : (0 : Int) ≤ (i : Int) - 7 := by omega
          have a4 : (0 : Int) ≤ (i : Int) - 2 := by omega
          have b1 : (16 : Int) ≤ (i : Int) := by omega
          have b2 : (15 : Int) ≤ (i : Int) := by omega
          have b3 : (7 : Int) ≤ (i : Int) := by omega
          have b4 : (2 : Int) ≤ (i : Int) := by omega
          have l1 : (i : Int) - 16 < 64 := by omega
          have l2 : (i : Int) - 15 < 64 := by omega
          have l3 : (i : Int) - 7 < 64 := by omega
          have l4 : (i : Int) - 2 < 64 := by omega
          have t1 : ((i : Int) - 16).toNat = i - 16 := by omega
          have t2 : ((i : Int) - 15).toNat = i - 15 := by omega
          have t3 : ((i : Int) - 7).toNat = i - 7 := by omega
          have t4 : ((i : Int) - 2).toNat = i - 2 := by omega
          have e1 : IntKind.i64.wrap ((i : Int) - 16) = (i : Int) - 16 := IntWalk.i64_in _ (by omega)
          have e2 : IntKind.i64.wrap ((i : Int) - 15) = (i : Int) - 15 := IntWalk.i64_in _ (by omega)
          have e3 : IntKind.i64.wrap ((i : Int) - 7) = (i : Int) - 7 := IntWalk.i64_in _ (by omega)
          have e4 : IntKind.i64.wrap ((i : Int) - 2) = (i : Int) - 2 := IntWalk.i64_in _ (by omega)
          have HT := Lib.hid hT
          clear hT hl hi1
          generalize hq : sched2 s.data.toList (i - 16) = q at *
          go_wp2
          refine wp_region_still_tail 23 (by kernel_rfl) (by kernel_rfl) ?_
          simp only [List.take_succ_cons, List.take_zero, List.drop_succ_cons, List.drop_zero]
          repeat (first | still_step | still_call (turned (near_any _ _)) | still_call (turned (far_any _ _)))
          refine wpStill_nil ?_
          go_wp2
          go_roundw
          case rel =>
            refine ⟨i + 1, by omega, by omega, by go_num, ?_⟩
            rw [sched2_next _ _ (by omega), hq]
            refine HT.out.put2 i _ _ ?_
            unfold nextW
            simp only [List.getD_eq_getElem?_getD]
            exact sum4 _ _ _ _
          case measure => simp [intOf]; omega
        · obtain rfl : i = 64 := by omega
          have hl : (sched2 s.data.toList 48).length = 64 := sched2_length s.data.toList 48
          have i39 : (Tryz.prog.info? 161).map (·.size) = some (cellsOf (sched2 s.data.toList 48)).size := by rw [size_cellsOf, hl]; kernel_rfl
          have o39 : (cellsOf (List.replicate 64 0)).size = (cellsOf (sched2 s.data.toList 48)).size := by rw [size_cellsOf, size_cellsOf, hl]; rfl
          have I := Lib.hid i39
          have O := Lib.hid o39
          clear hl i39 o39
          go_wp2_with (first
            | (refine wpList_load_row rfl 161 _ rfl _ rfl _ _ _ _ hT.second Tryz.underlying161 rfl I.out ?_)
            | (refine wpList_store_row rfl 161 _ _ rfl _ _ rfl rfl _ _ hT.first I.out O.out (one_cellsOf _) ?_))
          refine bodyPost_ret (v := .agg (cellsOf (sched2 s.data.toList 48))) (results_cell_row rfl _ _ _ _ _ _ _ rfl (hT.first.row _) Tryz.underlying161 rfl I.out) rfl ⟨rfl, ?_⟩
          exact below_setRow hT.below (Nat.le_refl _) _
end Sha
end Go.Proofs.YtmkpkmkhnphogaaGreatDoor

/-
  The state behind one block.
-/
namespace Go.Proofs.YtmkpkmkhnphogaaGreatDoor
open Go.RowKit
namespace Sha

/-- The table of constants lies where the program has it. -/
def Tab (w : World) : Prop := 2 < w.heap.size ∧ ∀ i, i < 64 → w.cell? ⟨2, i, none⟩ = some (.int .u32 (ks.getD i 0).toNat)
theorem Tab.below {w w' : World} (h : Tab w) (hb : Below w.heap.size w w') : Tab w' :=
  ⟨by have := hb.size; have := h.1; omega, fun i hi => (hb.cell (p := ⟨_, i, none⟩) h.1).trans (h.2 i hi)⟩

/-- Inside compress, behind schedule: w1 the world that schedule left. -/
structure Mid (w w1 wr : World) (s : St) (ws : List UInt32) (v : St) : Prop where
  below : Below w.heap.size w wr
  box : Lies wr w.heap.size 129 s.list
  res : Lies wr (w.heap.size + 1) 129 (List.replicate 8 0)
  words : Lies wr w1.heap.size 161 ws
  cur : Lies wr (w1.heap.size + 1) 129 v.list
theorem Mid.drew {w w1 wr : World} {s v : St} {ws : List UInt32} (h : Mid w w1 wr s ws v) : Mid w w1 wr.drew s ws v := ⟨h.below.drew, h.box, h.res, h.words, h.cur⟩
theorem Mid.again {w w1 wr : World} {s v : St} {ws : List UInt32} (h : Mid w w1 wr s ws v) {X : World → Prop} (k : ∀ W, Mid w w1 W s ws v → X W) : X wr.drew := k _ h.drew
theorem Mid.cells {w w1 wr : World} {s : St} {ws : List UInt32} {a b c d e f g h : UInt32} (m : Mid w w1 wr s ws ⟨a, b, c, d, e, f, g, h⟩) :
    wr.cell? ⟨w1.heap.size + 1, 0, none⟩ = some (.int .u32 a.toNat) ∧ wr.cell? ⟨w1.heap.size + 1, 1, none⟩ = some (.int .u32 b.toNat) ∧ wr.cell? ⟨w1.heap.size + 1, 2, none⟩ = some (.int .u32 c.toNat) ∧
    wr.cell? ⟨w1.heap.size + 1, 4, none⟩ = some (.int .u32 e.toNat) ∧ wr.cell? ⟨w1.heap.size + 1, 5, none⟩ = some (.int .u32 f.toNat) ∧ wr.cell? ⟨w1.heap.size + 1, 6, none⟩ = some (.int .u32 g.toNat) ∧
    wr.cell? ⟨w1.heap.size + 1, 7, none⟩ = some (.int .u32 h.toNat) :=
  ⟨m.cur.cell 0 (by show _ < 8; omega), m.cur.cell 1 (by show _ < 8; omega), m.cur.cell 2 (by show _ < 8; omega), m.cur.cell 4 (by show _ < 8; omega), m.cur.cell 5 (by show _ < 8; omega), m.cur.cell 6 (by show _ < 8; omega), m.cur.cell 7 (by show _ < 8; omega)⟩
theorem Mid.shift {w w1 wr : World} {s v m : St} {ws : List UInt32} (h : Mid w w1 wr s ws v) (hz : w.heap.size + 2 ≤ w1.heap.size) {cs : Array Value} (hc : cs = cellsOf m.list)
    {X : World → Prop} (k : ∀ W, Mid w w1 W s ws m → X W) : X (wr.setRow (w1.heap.size + 1) cs) :=
  k _ ⟨Sha.below_setRow h.below (by omega) _, h.box.rowFar (by omega) _, h.res.rowFar (by omega) _, h.words.rowFar (by omega) _, h.cur.row2 hc⟩
theorem Mid.step {w w1 wr : World} {s v m : St} {ws : List UInt32} (h : Mid w w1 wr s ws v) (hz : w.heap.size + 2 ≤ w1.heap.size) (x y : UInt32) (p q : Int)
    (hp : p = x.toNat) (hq : q = y.toNat) (hm : (v.list.set 4 x).set 0 y = m.list) :
    Mid w w1 ((wr.setCell ⟨w1.heap.size + 1, 4, none⟩ (.int .u32 p)).setCell ⟨w1.heap.size + 1, 0, none⟩ (.int .u32 q)) s ws m := by
  refine ⟨(h.below.setCell (by simp; omega) _).setCell (by simp; omega) _, (h.box.far (by simp; omega) _).far (by simp; omega) _, (h.res.far (by simp; omega) _).far (by simp; omega) _,
    (h.words.far (by simp) _).far (by simp) _, ?_⟩
  rw [← hm]
  exact (h.cur.put2 4 x p hp).put2 0 y q hq
theorem sum6 (d h m c k w : UInt32) : ((d.toNat : Int) + ((h.toNat : Int) + (m.toNat : Int) + (c.toNat : Int) + (k.toNat : Int) + (w.toNat : Int))) % 4294967296 = ((d + (h + m + c + k + w)).toNat : Int) := by
  simp only [UInt32.toNat_add]; omega
theorem sum7 (h m c k w a b : UInt32) : ((h.toNat : Int) + (m.toNat : Int) + (c.toNat : Int) + (k.toNat : Int) + (w.toNat : Int) + ((a.toNat : Int) + (b.toNat : Int))) % 4294967296 = ((h + m + c + k + w + (a + b)).toNat : Int) := by
  simp only [UInt32.toNat_add]; omega

/-- The first k words of l with those of m added. -/
def add1 (l m : List UInt32) : Nat → List UInt32
  | 0 => l
  | k + 1 => (add1 l m k).set k ((add1 l m k).getD k 0 + m.getD k 0)
theorem add1_length (l m : List UInt32) : ∀ k, (add1 l m k).length = l.length
  | 0 => rfl
  | k + 1 => by simp [add1, add1_length l m k]
/-- Inside compress, behind its rounds. -/
structure End (w w1 wr : World) (l m : List UInt32) : Prop where
  below : Below w.heap.size w wr
  box : Lies wr w.heap.size 129 l
  res : Lies wr (w.heap.size + 1) 129 (List.replicate 8 0)
  cur : Lies wr (w1.heap.size + 1) 129 m
theorem End.put {w w1 wr : World} {l m : List UInt32} (h : End w w1 wr l m) (hz : w.heap.size + 2 ≤ w1.heap.size) (k : Nat) (x : UInt32) (n : Int) (hn : n = x.toNat) :
    End w w1 ((wr.setCell ⟨w.heap.size, k, none⟩ (.int .u32 n)).drew) (l.set k x) m :=
  ⟨(h.below.setCell (by simp) _).drew, h.box.put2 k x n hn, h.res.far (by simp) _, h.cur.far (by simp; omega) _⟩

set_option maxRecDepth 100000 in
set_option maxHeartbeats 1000000 in
theorem comp_aux (st : St) (s : ByteArray) (ws : List UInt32) (w : World) (hS : ∀ w, Calls Tryz.prog 116 #[.string s] w fun e w' => e = .returned (.agg (cellsOf ws)) ∧ Below w.heap.size w w')
    (hl : ws.length = 64) (hK : Tab w) :
    Calls Tryz.prog 101 #[.agg (cellsOf st.list), .string s] w fun e w' => e = .returned (.agg (cellsOf (plus st (rounds ws st 64)).list)) ∧ Below w.heap.size w w' := by
  generalize hfin : rounds ws st 64 = fin
  have HF := Lib.hid (show ∀ n, n = 64 → rounds ws st n = fin from fun n h => by rw [h, hfin])
  have H := Lib.hid hS
  have HK := Lib.hid hK
  clear hS hK hfin
  have i28 : (Tryz.prog.info? 129).map (·.size) = some (cellsOf st.list).size := by rw [size_cellsOf]; kernel_rfl
  have I28 := Lib.hid i28
  have i39 : (Tryz.prog.info? 161).map (·.size) = some (cellsOf ws).size := by rw [size_cellsOf, hl]; kernel_rfl
  have I39 := Lib.hid i39
  have HL := Lib.hid hl
  have o39 : (cellsOf (List.replicate 64 0)).size = (cellsOf ws).size := by rw [size_cellsOf, size_cellsOf, hl]; rfl
  have O39 := Lib.hid o39
  clear i28 i39 o39 hl
  go_enter Tryz.func101, Tryz.ntmps101
  go_wp2_with fail
  refine (H.out _).mono ?_
  rintro e w1 ⟨rfl, hb⟩
  simp only []
  have b1 : Lies w1 w.heap.size 129 st.list := ((Lies.made rfl rfl).alloc _).below hb (by simp; omega)
  have b2 : Lies w1 (w.heap.size + 1) 129 (List.replicate 8 0) := (Lies.made (by kernel_rfl) (by simp)).below hb (by simp)
  have hz : w.heap.size + 2 ≤ w1.heap.size := by have := hb.size; simpa using this
  have hB : Below w.heap.size w w1 := (((Below.refl _ _).alloc (Nat.le_refl _) _).alloc (by simp) _).trans (hb.mono (by simp; omega))
  clear hb
  have HB := Lib.hid hB
  have HZ := Lib.hid hz
  clear hB hz
  go_wp2_with (first
    | (refine wpList_store_row rfl 161 _ _ rfl _ _ rfl rfl _ _ (Lies.made (by kernel_rfl) rfl) I39.out O39.out (one_cellsOf _) ?_)
    | (refine wpList_load_row rfl 129 _ rfl _ rfl _ _ _ _ ((b1.alloc _).rowFar (by have := HZ.out; omega) _) Tryz.underlying129 rfl I28.out ?_)
    | (refine wpList_store_row rfl 129 _ _ rfl _ _ rfl rfl _ _ (Lies.made (l := List.replicate 8 0) (by kernel_rfl) (by simp)) I28.out rfl (one_cellsOf _) ?_))
  go_loopw [14] (fun x wr => ∃ n : Nat, n ≤ 64 ∧ x = .int .i64 n ∧ Mid w w1 wr st ws (rounds ws st n)) (fun x _ => 64 - (intOf x).toNat)
  case atStart =>
    have hz := HZ.out
    refine ⟨0, by omega, rfl, ?_, ?_, ?_, ?_, ?_⟩
    · exact Sha.below_setRow ((Sha.below_setRow (HB.out.alloc (by omega) _) (by omega) _).alloc (by simp; omega) _) (by omega) _
    · exact (((b1.alloc _).rowFar (by omega) _).alloc _).rowFar (by omega) _
    · exact (((b2.alloc _).rowFar (by omega) _).alloc _).rowFar (by omega) _
    · exact (((Lies.made (l := List.replicate 64 0) (by kernel_rfl) rfl).row ws).alloc _).rowFar (by omega) _
    · exact (Lies.made (l := List.replicate 8 0) (by kernel_rfl) (by simp)).row _
  case round =>
    clear b1 b2
    obtain ⟨n, hn, rfl, hM⟩ := hrel
    by_cases hlt : n < 64
    · have HQ : Hid (∃ v, rounds ws st n = v) := ⟨_, rfl⟩
      have cw := hM.words.cell n (by rw [HL.out]; omega)
      have ck := (HK.out.below hM.below).2 n hlt
      obtain ⟨⟨a, b, c, d, e, f, g, h⟩, hq⟩ := HQ.out
      rw [hq] at hM
      have H2 := Lib.hid hq
      clear hq HQ
      obtain ⟨c0, c1, c2, c4, c5, c6, c7⟩ := hM.cells
      have a0 : (0 : Int) ≤ (n : Int) := by omega
      have a1 : (n : Int) < 64 := by omega
      have HM := Lib.hid hM
      clear hM
      generalize hW : ws.getD n 0 = W at *
      generalize hK : ks.getD n 0 = K at *
      have HW := Lib.hid hW
      have HKK := Lib.hid hK
      clear hW hK
      go_wp2
      refine wp_region_still_lit (by kernel_rfl) (by kernel_rfl) ?_
      repeat (first | still_step | still_call (turned (mixE_any _ _)) | still_call (turned (ch_any _ _ _ _)))
      refine wpStill_nil ?_
      refine HM.out.again (X := fun W => Exit.then _ _ _ _ W) ?_
      clear c0 c1 c2 c4 c5 c6 c7 cw ck HM
      intro W2 hM
      obtain ⟨c0, c1, c2, c4, c5, c6, c7⟩ := hM.cells
      have HM := Lib.hid hM
      clear hM
      go_wp2
      refine wp_region_still_lit (by kernel_rfl) (by kernel_rfl) ?_
      repeat (first | still_step | still_call (turned (mixA_any _ _)) | still_call (turned (maj_any _ _ _ _)))
      refine wpStill_nil ?_
      refine HM.out.again (X := fun W => Exit.then _ _ _ _ W) ?_
      clear c0 c1 c2 c4 c5 c6 c7 HM
      intro W3 hM
      have HM := Lib.hid hM
      clear hM
      go_wp2
      refine wp_region_still_tail 2 (by kernel_rfl) (by kernel_rfl) ?_
      simp only [List.take_succ_cons, List.take_zero, List.drop_succ_cons, List.drop_zero]
      repeat still_step
      refine wpStill_nil ?_
      refine HM.out.again (X := fun W => wpList _ _ _ _ _ W) ?_
      clear HM
      intro W4 hM
      refine wpList_copy_own rfl _ _ 113 113 rfl 117 Tryz.underlying113 (by kernel_rfl) _ _ _ _ _ _ _ (by rfl) (by rfl) _ _ hM.cur (List.map val (List.take 7 (St.mk a b c d e f g h).list)) (by rfl) (hM.cur.src 7) (by rw [size_cellsOf]; show _ ≤ 8; simp [St.list]) (by intro v hv; obtain ⟨x, _, rfl⟩ := List.mem_map.1 hv; rfl) ?_
      refine hM.shift HZ.out (m := ⟨a, a, b, c, d, e, f, g⟩) (by rfl) (X := fun W => wpList _ _ _ _ _ W) ?_
      clear hM
      intro W5 hM
      obtain ⟨c0, c1, c2, c4, c5, c6, c7⟩ := hM.cells
      have f0 := hM.cur.free 0
      have f4 := hM.cur.free 4
      have HM := Lib.hid hM
      clear hM c1 c2 c5 c6 c7
      go_wp2
      go_roundw
      case rel =>
        refine ⟨n + 1, by omega, by go_num, ?_⟩
        have E1 : rounds ws st (n + 1) = Sha.step ⟨a, b, c, d, e, f, g, h⟩ K W := by
          show Sha.step (rounds ws st n) (ks.getD n 0) (ws.getD n 0) = _
          rw [H2.out, HW.out, HKK.out]
        rw [E1]
        exact HM.out.step HZ.out (d + (h + mixE e + ch e f g + K + W)) ((h + mixE e + ch e f g + K + W) + (mixA a + maj a b c)) _ _ (sum6 _ _ _ _ _ _) (sum7 _ _ _ _ _ _ _) rfl
      case measure => simp [intOf]; omega
    · have h64 : n = 64 := by omega
      have H64 := Lib.hid h64
      clear h64
      have hE : End w w1 wr (add1 st.list (rounds ws st n).list 0) (rounds ws st n).list := ⟨hM.below, hM.box, hM.res, hM.cur⟩
      have HE := Lib.hid hE
      clear hM hE
      go_wp2
      clear hlt hn
      generalize hq : rounds ws st n = q at *
      have HQ := Lib.hid hq
      clear hq
      obtain ⟨wo, rfl⟩ : ∃ wo : World, wo = wr := ⟨_, rfl⟩
      go_loopw [63] (fun x wr => ∃ k : Nat, k ≤ 8 ∧ x = .int .i64 k ∧ End w w1 wr (add1 st.list q.list k) q.list) (fun x _ => 8 - (intOf x).toNat)
      case atStart => exact ⟨0, by omega, rfl, HE.out⟩
      case round =>
        clear HE
        obtain ⟨k, hk, rfl, hM⟩ := hrel
        by_cases hlt : k < 8
        · have c1 := hM.box.cell k (by rw [add1_length]; exact hlt)
          have c2 := hM.cur.cell k hlt
          have f1 := hM.box.free k
          have a0 : (0 : Int) ≤ (k : Int) := by omega
          have a1 : (k : Int) < 8 := by omega
          have HM := Lib.hid hM
          clear hM
          go_wp2
          refine wp_region_still_tail 8 (by kernel_rfl) (by kernel_rfl) ?_
          simp only [List.take_succ_cons, List.take_zero, List.drop_succ_cons, List.drop_zero]
          repeat still_step
          refine wpStill_nil ?_
          go_wp2
          go_roundw
          case rel =>
            refine ⟨k + 1, by omega, by go_num, ?_⟩
            exact HM.out.put HZ.out k _ _ (by simp only [List.getD_eq_getElem?_getD]; exact b_add _ _)
          case measure => simp [intOf]; omega
        · have h8 : k = 8 := by omega
          subst h8
          have hE : End w w1 wr (plus st q).list q.list := hM
          have HI : (Tryz.prog.info? 129).map (·.size) = some (cellsOf (plus st q).list).size := I28.out
          have I := Lib.hid HI
          clear hM HI
          go_wp2_with (first
            | (refine wpList_load_row rfl 129 _ rfl _ rfl _ _ _ _ hE.box Tryz.underlying129 rfl I.out ?_)
            | (refine wpList_store_row rfl 129 _ _ rfl _ _ rfl rfl _ _ hE.res I.out (by rw [size_cellsOf, size_cellsOf]; rfl) (one_cellsOf _) ?_))
          refine bodyPost_ret (v := .agg (cellsOf (plus st q).list)) (results_cell_row rfl _ _ _ _ _ _ _ rfl (hE.res.row _) Tryz.underlying129 rfl I.out) rfl ⟨?_, ?_⟩
          · rw [← HQ.out, HF.out n H64.out]
          · exact Sha.below_setRow hE.below (by omega) _
theorem comp_any (st : St) (s : ByteArray) (w : World) (hs : s.size = 64) (hK : Tab w) :
    Calls Tryz.prog 101 #[.agg (cellsOf st.list), .string s] w fun e w' => e = .returned (.agg (cellsOf (compress st s.data.toList).list)) ∧ Below w.heap.size w w' :=
  comp_aux st s (sched s.data.toList) w (fun w => sched_any s w hs) (sched2_length _ _) hK
end Sha
end Go.Proofs.YtmkpkmkhnphogaaGreatDoor

/-
  The state behind the blocks of a text.
-/
namespace Go.Proofs.YtmkpkmkhnphogaaGreatDoor
open Go.RowKit
namespace Sha

/-- Inside absorb. -/
structure Abs (w wr : World) (l : List UInt32) : Prop where
  below : Below w.heap.size w wr
  box : Lies wr w.heap.size 129 l
  res : Lies wr (w.heap.size + 1) 129 (List.replicate 8 0)
theorem Abs.again {w wr : World} {l : List UInt32} (h : Abs w wr l) {X : World → Prop} (k : ∀ W, Abs w W l → X W) : X wr.drew := k _ ⟨h.below.drew, h.box, h.res⟩
theorem Abs.call {w wr w1 : World} {l : List UInt32} (h : Abs w wr l) (hb : Below wr.heap.size wr w1) : Abs w w1 l :=
  ⟨h.below.trans (hb.mono h.below.size), h.box.below hb h.box.lt, h.res.below hb h.res.lt⟩
theorem extract_list (s : ByteArray) (a b : Nat) : (s.extract a b).data.toList = (s.data.toList.drop a).take (b - a) := by
  simp [ByteArray.data_extract, Array.toList_extract]
theorem comp_kept (st : St) (s : ByteArray) (w : World) (hs : s.size = 64) (hK : Tab w) :
    Calls Tryz.prog 101 #[.agg (cellsOf st.list), .string s] w fun e w' => ∃ c : St, e = .returned (.agg (cellsOf c.list)) ∧ Below w.heap.size w w' ∧ Kept (compress st s.data.toList = c) :=
  (comp_any st s w hs hK).mono fun _ _ ⟨h, b⟩ => ⟨_, h, b, ⟨rfl⟩⟩

set_option maxRecDepth 100000 in
set_option maxHeartbeats 1000000 in
theorem absorb_any (st : St) (s : ByteArray) (m : Nat) (w : World) (hs : s.size = 64 * m) (hm : s.size ≤ maxLen) (hK : Tab w) :
    Calls Tryz.prog 82 #[.agg (cellsOf st.list), .string s] w fun e w' => e = .returned (.agg (cellsOf (absorb st s.data.toList m).list)) ∧ Below w.heap.size w w' := by
  unfold maxLen at hm
  have i28 : ∀ l : List UInt32, l.length = 8 → (Tryz.prog.info? 129).map (·.size) = some (cellsOf l).size := fun l h => by rw [size_cellsOf, h]; kernel_rfl
  have I := Lib.hid i28
  have HK := Lib.hid hK
  have q0 : (s.size : Int) / 64 = m := by omega
  have m1 : (m : Int) ≤ 144115188075855871 := by omega
  have H := Lib.hid hs
  clear i28 hK hs hm
  go_enter Tryz.func82, Tryz.ntmps82
  go_wp2
  clear q0
  go_loopw [9] (fun x wr => ∃ n : Nat, n ≤ m ∧ x = .int .i64 n ∧ Abs w wr (absorb st s.data.toList n).list) (fun x _ => m - (intOf x).toNat)
  case atStart => exact ⟨0, by omega, rfl, ((Below.refl _ _).alloc (Nat.le_refl _) _).alloc (by simp) _, (Lies.made rfl rfl).alloc _, Lies.made (by kernel_rfl) (by simp)⟩
  case round =>
    obtain ⟨n, hn, rfl, hM⟩ := hrel
    by_cases hlt : n < m
    · generalize hq : absorb st s.data.toList n = q at *
      have hN : absorb st s.data.toList (n + 1) = compress q ((s.data.toList.drop (64 * n)).take 64) := by rw [← hq]; rfl
      have HN := Kept.mk hN
      clear hq hN
      have l1 := Lib.hid ((show Lies wr.drew w.heap.size 129 q.list from hM.box).load (P := Tryz.prog) Tryz.underlying129 rfl (I.out _ rfl))
      have HM := Lib.hid hM
      have hs := H.out
      have z : 64 * (n : Int) + 64 ≤ s.size := by omega
      have z0 : (0 : Int) ≤ 64 * (n : Int) := by omega
      have z1 : (0 : Int) ≤ 64 * ((n : Int) + 1) := by omega
      have z2 : 64 * (n : Int) ≤ 64 * ((n : Int) + 1) := by omega
      have z3 : 64 * ((n : Int) + 1) ≤ s.size := by omega
      have t1 : (64 * (n : Int)).toNat = 64 * n := by omega
      have t2 : (64 * ((n : Int) + 1)).toNat = 64 * n + 64 := by omega
      have e1 : IntKind.i64.wrap ((n : Int) + 1) = (n : Int) + 1 := IntWalk.i64_in _ (by omega)
      have e2 : IntKind.i64.wrap (64 * (n : Int)) = 64 * (n : Int) := IntWalk.i64_in _ (by omega)
      have e3 : IntKind.i64.wrap (64 * ((n : Int) + 1)) = 64 * ((n : Int) + 1) := IntWalk.i64_in _ (by omega)
      have hsl : ∀ W : World, (Instr.slice 9 (.string s) (some (.int .i64 (64 * (n : Int)))) (some (.int .i64 (64 * ((n : Int) + 1)))) none).run Tryz.prog W = .ok (.string (s.extract (64 * n) (64 * n + 64))) W := fun W => by
        rw [run_slice_string W 9 s .i64 .i64 _ _ Tryz.underlying9 z0 z2 z3, t1, t2]
      clear hM hs t1 t2
      go_wp2
      refine wp_region_still_tail 8 (by kernel_rfl) (by kernel_rfl) ?_
      simp only [List.take_succ_cons, List.take_zero, List.drop_succ_cons, List.drop_zero]
      refine still_load_row rfl _ _ rfl _ l1.out ?_
      repeat still_step
      refine wpStill_nil ?_
      refine HM.out.again (X := fun W => wpList _ _ _ _ _ W) ?_
      clear e1 e2 e3 hsl HM l1
      intro W2 hM
      have HM := Kept.mk hM
      clear hM
      go_wp2_with fail
      refine (comp_kept q _ _ (by rw [ByteArray.size_extract]; have := H.out; omega) (HK.out.below HM.out.below)).mono ?_
      rintro e w1 ⟨c, rfl, hb, hc⟩
      simp only []
      have hA := HM.out.call hb
      clear hb
      go_wp2_with (refine wpList_store_row rfl 129 _ _ rfl _ _ rfl rfl _ _ hA.box (I.out _ rfl) rfl (one_cellsOf _) ?_)
      go_roundw
      case rel =>
        refine ⟨n + 1, by omega, by go_num, ?_⟩
        have E1 : absorb st s.data.toList (n + 1) = c := by
          rw [HN.out, ← hc.out, extract_list, show 64 * n + 64 - 64 * n = 64 by omega]
        rw [E1]
        exact ⟨Sha.below_setRow hA.below (Nat.le_refl _) _, hA.box.row _, hA.res.rowFar (by omega) _⟩
      case measure => simp [intOf]; omega
    · have hnm : n = m := by omega
      have HNM := Kept.mk hnm
      clear hnm
      generalize hq : absorb st s.data.toList n = q at *
      have HQ := Kept.mk hq
      clear hq
      go_wp2_with (first
        | (refine wpList_load_row rfl 129 _ rfl _ rfl _ _ _ _ hM.box Tryz.underlying129 rfl (I.out _ rfl) ?_)
        | (refine wpList_store_row rfl 129 _ _ rfl _ _ rfl rfl _ _ hM.res (I.out _ rfl) rfl (one_cellsOf _) ?_))
      refine bodyPost_ret (v := .agg (cellsOf q.list)) (results_cell_row rfl _ _ _ _ _ _ _ rfl (hM.res.row _) Tryz.underlying129 rfl (I.out _ rfl)) rfl ⟨?_, ?_⟩
      · rw [← HQ.out, HNM.out]
      · exact Sha.below_setRow hM.below (by omega) _
end Sha
end Go.Proofs.YtmkpkmkhnphogaaGreatDoor

/-
  The sum of a text.
-/
namespace Go.Proofs.YtmkpkmkhnphogaaGreatDoor
open Go.RowKit
namespace Sha

/-- Inside Sum: the state's box. -/
structure Top (w wr : World) (l : List UInt32) : Prop where
  below : Below w.heap.size w wr
  box : Lies wr w.heap.size 129 l
theorem Top.again {w wr : World} {l : List UInt32} (h : Top w wr l) {X : World → Prop} (k : ∀ W, Top w W l → X W) : X wr.drew := k _ ⟨h.below.drew, h.box⟩
theorem Top.call {w wr w1 : World} {l : List UInt32} (h : Top w wr l) (hb : Below wr.heap.size wr w1) : Top w w1 l := ⟨h.below.trans (hb.mono h.below.size), h.box.below hb h.box.lt⟩
theorem Top.store {w wr : World} {l : List UInt32} (h : Top w wr l) (m : List UInt32) : Top w (wr.setRow w.heap.size (cellsOf m)) m := ⟨Sha.below_setRow h.below (Nat.le_refl _) _, h.box.row _⟩

theorem absorb_kept (st : St) (s : ByteArray) (m : Nat) (w : World) (hs : s.size = 64 * m) (hm : s.size ≤ maxLen) (hK : Tab w) :
    Calls Tryz.prog 82 #[.agg (cellsOf st.list), .string s] w fun e w' => ∃ c : St, e = .returned (.agg (cellsOf c.list)) ∧ Below w.heap.size w w' ∧ Kept (absorb st s.data.toList m = c) :=
  (absorb_any st s m w hs hm hK).mono fun _ _ ⟨h, b⟩ => ⟨_, h, b, ⟨rfl⟩⟩
theorem Top.cells {w wr : World} {a b c d e f g h : UInt32} (m : Top w wr (St.mk a b c d e f g h).list) :
    wr.cell? ⟨w.heap.size, 0, none⟩ = some (.int .u32 a.toNat) ∧ wr.cell? ⟨w.heap.size, 1, none⟩ = some (.int .u32 b.toNat) ∧ wr.cell? ⟨w.heap.size, 2, none⟩ = some (.int .u32 c.toNat) ∧
    wr.cell? ⟨w.heap.size, 3, none⟩ = some (.int .u32 d.toNat) ∧ wr.cell? ⟨w.heap.size, 4, none⟩ = some (.int .u32 e.toNat) ∧ wr.cell? ⟨w.heap.size, 5, none⟩ = some (.int .u32 f.toNat) ∧
    wr.cell? ⟨w.heap.size, 6, none⟩ = some (.int .u32 g.toNat) ∧ wr.cell? ⟨w.heap.size, 7, none⟩ = some (.int .u32 h.toNat) :=
  ⟨m.box.cell 0 (by show _ < 8; omega), m.box.cell 1 (by show _ < 8; omega), m.box.cell 2 (by show _ < 8; omega), m.box.cell 3 (by show _ < 8; omega), m.box.cell 4 (by show _ < 8; omega), m.box.cell 5 (by show _ < 8; omega), m.box.cell 6 (by show _ < 8; omega), m.box.cell 7 (by show _ < 8; omega)⟩
theorem absorb_lit (st : St) (s : ByteArray) (m : Nat) (w : World) (hs : s.size = 64 * m) (hm : s.size ≤ maxLen) (hK : Tab w) :
    Calls Tryz.prog 82 #[.agg #[.int .u32 st.a.toNat, .int .u32 st.b.toNat, .int .u32 st.c.toNat, .int .u32 st.d.toNat, .int .u32 st.e.toNat, .int .u32 st.f.toNat, .int .u32 st.g.toNat, .int .u32 st.h.toNat], .string s] w fun e w' =>
      ∃ a b c d e' f g h : UInt32, e = .returned (.agg #[.int .u32 a.toNat, .int .u32 b.toNat, .int .u32 c.toNat, .int .u32 d.toNat, .int .u32 e'.toNat, .int .u32 f.toNat, .int .u32 g.toNat, .int .u32 h.toNat]) ∧ Below w.heap.size w w' ∧ Kept (absorb st s.data.toList m = ⟨a, b, c, d, e', f, g, h⟩) :=
  (absorb_any st s m w hs hm hK).mono fun _ _ ⟨h, b⟩ => ⟨_, _, _, _, _, _, _, _, h, b, ⟨rfl⟩⟩
theorem inHex_lit (a b c d e f g h : UInt32) (w : World) :
    Calls Tryz.prog 84 #[.agg #[.int .u32 a.toNat, .int .u32 b.toNat, .int .u32 c.toNat, .int .u32 d.toNat, .int .u32 e.toNat, .int .u32 f.toNat, .int .u32 g.toNat, .int .u32 h.toNat]] w fun e' w' =>
      ∃ t : ByteArray, e' = .returned (.string t) ∧ Below w.heap.size w w' ∧ Kept (t = ⟨(inHex ⟨a, b, c, d, e, f, g, h⟩).toArray⟩) :=
  (inHex_any ⟨a, b, c, d, e, f, g, h⟩ w).mono fun _ _ ⟨h, b⟩ => ⟨_, h, b, ⟨rfl⟩⟩
theorem ending_length (r : List UInt8) (n : Nat) (hr : r.length < 64) : (ending r n).length % 64 = 0 ∧ (ending r n).length ≤ 200 := by
  have h : (ending r n).length = r.length + 1 + noughts r.length + 8 := by
    unfold ending
    simp only [List.length_append, List.length_replicate, tail8_length, List.length_cons, List.length_nil]
  rw [h]
  unfold noughts
  omega
theorem ending_kept (r : ByteArray) (n : Nat) (w : World) (hr : r.size < 64) (hn : n ≤ maxLen) :
    Calls Tryz.prog 83 #[.string r, .int .i64 n] w fun e w' => ∃ (t : ByteArray) (m : Nat), e = .returned (.string t) ∧ Below w.heap.size w w' ∧ Kept (t.data.toList = ending r.data.toList n ∧ t.size = 64 * m ∧ t.size ≤ maxLen) :=
  (ending_any r n w hr hn).mono fun _ _ ⟨h, b⟩ => by
    have hl := ending_length r.data.toList n (by simpa using hr)
    have hz : (ByteArray.mk (ending r.data.toList n).toArray).size = (ending r.data.toList n).length := by simp [ByteArray.size]
    exact ⟨_, (ending r.data.toList n).length / 64, h, b, ⟨by simp, by rw [hz]; omega, by rw [hz]; unfold maxLen; omega⟩⟩

theorem sum_parts (s : ByteArray) (q m : Nat) (t : ByteArray) (c1 c2 : St) (hq : q = s.size / 64) (h1 : absorb init (s.extract 0 (64 * q)).data.toList q = c1)
    (ht : t.data.toList = ending (s.extract (64 * q) s.size).data.toList s.size) (hm : t.size = 64 * m) (h2 : absorb c1 t.data.toList m = c2) : sum s.data.toList = inHex c2 := by
  have hl : s.data.toList.length = s.size := by simp
  have hw : s.size - s.size % 64 = 64 * q := by omega
  have hw2 : 64 * q / 64 = q := by omega
  have e1 : s.data.toList.take (64 * q) = (s.extract 0 (64 * q)).data.toList := by rw [extract_list]; simp
  have e2 : ending (s.data.toList.drop (64 * q)) s.size = t.data.toList := by
    rw [ht, extract_list, List.take_of_length_le (by rw [List.length_drop, hl]; exact Nat.le_refl _)]
  have e3 : t.data.toList.length / 64 = m := by
    have : t.data.toList.length = t.size := by simp
    omega
  unfold sum
  simp only [hl, hw, hw2, e1, e2, e3, h1, h2]

theorem eight {w w5 w6 : World} {x0 x1 x2 x3 x4 x5 x6 x7 : Value} (h : Below w.heap.size w w5)
    (hb : Below ((((((((w5.setCell ⟨w.heap.size, 0, none⟩ x0).setCell ⟨w.heap.size, 1, none⟩ x1).setCell ⟨w.heap.size, 2, none⟩ x2).setCell ⟨w.heap.size, 3, none⟩ x3).setCell ⟨w.heap.size, 4, none⟩ x4).setCell ⟨w.heap.size, 5, none⟩ x5).setCell ⟨w.heap.size, 6, none⟩ x6).setCell ⟨w.heap.size, 7, none⟩ x7).heap.size
      ((((((((w5.setCell ⟨w.heap.size, 0, none⟩ x0).setCell ⟨w.heap.size, 1, none⟩ x1).setCell ⟨w.heap.size, 2, none⟩ x2).setCell ⟨w.heap.size, 3, none⟩ x3).setCell ⟨w.heap.size, 4, none⟩ x4).setCell ⟨w.heap.size, 5, none⟩ x5).setCell ⟨w.heap.size, 6, none⟩ x6).setCell ⟨w.heap.size, 7, none⟩ x7) w6) : Below w.heap.size w w6 := by
  have h8 := (((((((h.setCell (p := ⟨w.heap.size, 0, none⟩) (Nat.le_refl _) x0).setCell (p := ⟨w.heap.size, 1, none⟩) (Nat.le_refl _) x1).setCell (p := ⟨w.heap.size, 2, none⟩) (Nat.le_refl _) x2).setCell (p := ⟨w.heap.size, 3, none⟩) (Nat.le_refl _) x3).setCell (p := ⟨w.heap.size, 4, none⟩) (Nat.le_refl _) x4).setCell (p := ⟨w.heap.size, 5, none⟩) (Nat.le_refl _) x5).setCell (p := ⟨w.heap.size, 6, none⟩) (Nat.le_refl _) x6).setCell (p := ⟨w.heap.size, 7, none⟩) (Nat.le_refl _) x7
  exact h8.trans (hb.mono h8.size)

attribute [local go_sem ↓] Go.wp_at_zero Go.wp_at_succ
set_option maxRecDepth 100000 in
set_option maxHeartbeats 1000000 in
theorem sum_any (s : ByteArray) (w : World) (hm : s.size ≤ maxLen) (hK : Tab w) :
    Calls Tryz.prog 67 #[.string s] w fun e w' => e = .returned (.string ⟨(sum s.data.toList).toArray⟩) ∧ Below w.heap.size w w' := by
  have HK := Kept.mk hK
  have HM := Kept.mk hm
  have hm' : s.size ≤ 9223372036854775807 := by unfold maxLen at hm; omega
  have I := Kept.mk (show ∀ l : List UInt32, l.length = 8 → (Tryz.prog.info? 129).map (·.size) = some (cellsOf l).size from fun l h => by rw [size_cellsOf, h]; kernel_rfl)
  obtain ⟨q, hq⟩ : ∃ q, q = s.size / 64 := ⟨_, rfl⟩
  have d : (s.size : Int) - (s.size : Int) % 64 = 64 * (q : Int) := by omega
  have d0 : (0 : Int) ≤ 64 * (q : Int) := by omega
  have d1 : 64 * (q : Int) ≤ s.size := by omega
  have d2 : (s.size : Int) < 64 * (q : Int) + 64 := by omega
  have dt : (64 * (q : Int)).toNat = 64 * q := by omega
  have hto : ∀ W : World, (Instr.slice 9 (.string s) none (some (.int .i64 (64 * (q : Int)))) none).run Tryz.prog W = .ok (.string (s.extract 0 (64 * q))) W := fun W => by
    rw [run_slice_string_to_if W 9 s .i64 _ Tryz.underlying9, if_pos ⟨d0, d1⟩, dt]
  have hfrom : ∀ W : World, (Instr.slice 9 (.string s) (some (.int .i64 (64 * (q : Int)))) none none).run Tryz.prog W = .ok (.string (s.extract (64 * q) s.size)) W := fun W => by
    rw [run_slice_string_from_if W 9 s .i64 _ Tryz.underlying9, if_pos ⟨d0, d1⟩, dt]
  have HQ := Kept.mk hq
  clear hK hm dt hq
  go_enter Tryz.func67, Tryz.ntmps67
  go_wp2_with fail
  have hT : Top w (w.alloc (.cells (cellsOf init.list) 129)) init.list := ⟨(Below.refl _ _).alloc (Nat.le_refl _) _, Lies.new _ _ _⟩
  have l1 := Kept.mk ((show Lies (w.alloc (.cells (cellsOf init.list) 129)).drew w.heap.size 129 init.list from hT.box).load (P := Tryz.prog) Tryz.underlying129 rfl (I.out _ rfl))
  refine wp_region_still_tail 4 (by kernel_rfl) (by kernel_rfl) ?_
  simp only [List.take_succ_cons, List.take_zero, List.drop_succ_cons, List.drop_zero]
  refine still_load_row rfl _ _ rfl _ l1.out ?_
  repeat still_step
  refine wpStill_nil ?_
  refine hT.again (X := fun W => wpList _ _ _ _ _ W) ?_
  clear hT l1 hto
  intro W2 hT
  have HT := Kept.mk hT
  clear hT
  go_wp2_with fail
  refine (absorb_kept init _ q _ (by rw [ByteArray.size_extract]; omega) (by rw [ByteArray.size_extract]; unfold maxLen; omega) (HK.out.below HT.out.below)).mono ?_
  rintro e w1 ⟨c1, rfl, hb, hc1⟩
  simp only []
  have hT := HT.out.call hb
  clear hb HT
  go_wp2_with (refine wpList_store_row rfl 129 _ _ rfl _ _ rfl rfl _ _ hT.box (I.out _ rfl) rfl (one_cellsOf _) ?_)
  have hT2 := hT.store c1.list
  clear hT
  generalize w1.setRow w.heap.size (cellsOf c1.list) = W3 at *
  obtain ⟨a, b, c, d', e', f, g, h⟩ := c1
  obtain ⟨k0, k1, k2, k3, k4, k5, k6, k7⟩ := hT2.cells
  have HT := Kept.mk hT2
  clear hT2
  go_region_with (first
      | (go_at_call 83; refine (ending_kept _ s.size _ (by rw [ByteArray.size_extract]; omega) HM.out).mono ?_; rintro e w4 ⟨t, m, rfl, hb1, ht⟩
         have HT4 : Kept (Top w w4 (St.mk a b c d' e' f g h).list) := ⟨Top.call ⟨HT.out.below.drew, HT.out.box⟩ hb1⟩
         obtain ⟨k0, k1, k2, k3, k4, k5, k6, k7⟩ := HT4.out.cells
         clear hb1)
      | (go_at_call 82; refine (absorb_lit ⟨a, b, c, d', e', f, g, h⟩ _ m _ ht.out.2.1 ht.out.2.2 (HK.out.below HT4.out.below)).mono ?_; rintro e w5 ⟨a2, b2, c2, d2, e2, f2, g2, h2, rfl, hb2, hc2⟩
         have HT5 := Kept.mk (HT4.out.call hb2)
         obtain ⟨k0, k1, k2, k3, k4, k5, k6, k7⟩ := HT5.out.cells
         have fr := HT5.out.box.free
         clear hb2))
  all_goals
    go_wp2_with fail
    refine (inHex_lit a2 b2 c2 d2 e2 f2 g2 h2 _).mono ?_
    rintro e w6 ⟨t2, rfl, hb3, ht2⟩
    simp only []
    have hB := eight HT5.out.below hb3
    have HB := Kept.mk hB
    have HT2 := Kept.mk (ht2.out.trans (congrArg (fun l => ByteArray.mk (List.toArray l)) (sum_parts s q m t ⟨a, b, c, d', e', f, g, h⟩ ⟨a2, b2, c2, d2, e2, f2, g2, h2⟩ HQ.out hc1.out ht.out.1 ht.out.2.1 hc2.out).symm))
    clear hb3 hB ht2 hc1 hc2 ht k0 k1 k2 k3 k4 k5 k6 k7 fr
    go_wp2_with fail
    go_ret
    exact ⟨congrArg (fun t => Ending.returned (Value.string t)) HT2.out, HB.out⟩
end Sha
end Go.Proofs.YtmkpkmkhnphogaaGreatDoor
