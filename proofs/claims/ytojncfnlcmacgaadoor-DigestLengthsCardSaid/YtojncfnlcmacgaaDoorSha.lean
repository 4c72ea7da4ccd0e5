/-
  SHA-256 on words of 32 bits, as plain Lean functions, and what is true of them. Nothing of the program stands here.
-/
import Derived.KernelRfl
import Derived.Laws.BitsAllLaws
namespace Go.Proofs.YtojncfnlcmacgaaDoor
namespace Sha

def rotr (x : UInt32) (n : UInt32) : UInt32 := (x <<< (32 - n)) ||| (x >>> n)
def near (x : UInt32) : UInt32 := (rotr x 7 ^^^ rotr x 18) ^^^ (x >>> 3)
def far (x : UInt32) : UInt32 := (rotr x 17 ^^^ rotr x 19) ^^^ (x >>> 10)
def mixA (x : UInt32) : UInt32 := (rotr x 2 ^^^ rotr x 13) ^^^ rotr x 22
def mixE (x : UInt32) : UInt32 := (rotr x 6 ^^^ rotr x 11) ^^^ rotr x 25
def ch (e f g : UInt32) : UInt32 := (e &&& f) ^^^ (~~~e &&& g)
def maj (a b c : UInt32) : UInt32 := ((a &&& b) ^^^ (a &&& c)) ^^^ (b &&& c)

def ks : List UInt32 := [1116352408, 1899447441, 3049323471, 3921009573, 961987163, 1508970993, 2453635748, 2870763221, 3624381080, 310598401, 607225278, 1426881987, 1925078388, 2162078206, 2614888103, 3248222580, 3835390401, 4022224774, 264347078, 604807628, 770255983, 1249150122, 1555081692, 1996064986, 2554220882, 2821834349, 2952996808, 3210313671, 3336571891, 3584528711, 113926993, 338241895, 666307205, 773529912, 1294757372, 1396182291, 1695183700, 1986661051, 2177026350, 2456956037, 2730485921, 2820302411, 3259730800, 3345764771, 3516065817, 3600352804, 4094571909, 275423344, 430227734, 506948616, 659060556, 883997877, 958139571, 1322822218, 1537002063, 1747873779, 1955562222, 2024104815, 2227730452, 2361852424, 2428436474, 2756734187, 3204031479, 3329325298]

def word (a b c d : UInt8) : UInt32 := ((a.toUInt32 <<< 24) ||| (b.toUInt32 <<< 16)) ||| (c.toUInt32 <<< 8) ||| d.toUInt32
def wordAt (l : List UInt8) (i : Nat) : UInt32 := word (l.getD i 0) (l.getD (i + 1) 0) (l.getD (i + 2) 0) (l.getD (i + 3) 0)

/-- the words of a block's rounds, the first n of them (the others are nought) -/
def sched1 (l : List UInt8) : Nat → List UInt32
  | 0 => List.replicate 64 0
  | n + 1 => (sched1 l n).set n (wordAt l (4 * n))
def nextW (w : List UInt32) (i : Nat) : UInt32 := w.getD (i - 16) 0 + near (w.getD (i - 15) 0) + w.getD (i - 7) 0 + far (w.getD (i - 2) 0)
def sched2 (l : List UInt8) : Nat → List UInt32
  | 0 => sched1 l 16
  | n + 1 => let w := sched2 l n; w.set (16 + n) (nextW w (16 + n))
def sched (l : List UInt8) : List UInt32 := sched2 l 48

structure St where
  (a b c d e f g h : UInt32)
def St.list (s : St) : List UInt32 := [s.a, s.b, s.c, s.d, s.e, s.f, s.g, s.h]
def init : St := ⟨1779033703, 3144134277, 1013904242, 2773480762, 1359893119, 2600822924, 528734635, 1541459225⟩
def tOf (s : St) (k w : UInt32) : UInt32 := s.h + mixE s.e + ch s.e s.f s.g + k + w
def uOf (s : St) : UInt32 := mixA s.a + maj s.a s.b s.c
def step (s : St) (k w : UInt32) : St := ⟨tOf s k w + uOf s, s.a, s.b, s.c, s.d + tOf s k w, s.e, s.f, s.g⟩
def rounds (ws : List UInt32) (s : St) : Nat → St
  | 0 => s
  | n + 1 => step (rounds ws s n) (ks.getD n 0) (ws.getD n 0)
def plus (s t : St) : St := ⟨s.a + t.a, s.b + t.b, s.c + t.c, s.d + t.d, s.e + t.e, s.f + t.f, s.g + t.g, s.h + t.h⟩
def compress (s : St) (l : List UInt8) : St := plus s (rounds (sched l) s 64)
/-- the state behind the first n blocks -/
def absorb (s : St) (l : List UInt8) : Nat → St
  | 0 => s
  | n + 1 => compress (absorb s l n) ((l.drop (64 * n)).take 64)
def noughts (n : Nat) : Nat := (119 - n % 64) % 64
def tail8 (n : Nat) : List UInt8 := (List.range 8).map fun i => UInt8.ofNat (n * 8 / 2 ^ (56 - 8 * i))
def ending (rest : List UInt8) (n : Nat) : List UInt8 := rest ++ [128] ++ List.replicate (noughts rest.length) 0 ++ tail8 n
def digits : List UInt8 := [48, 49, 50, 51, 52, 53, 54, 55, 56, 57, 97, 98, 99, 100, 101, 102]
def hex8 (x : UInt32) : List UInt8 := (List.range 8).map fun j => digits.getD (x.toNat / 2 ^ (28 - 4 * j) % 16) 0
def inHex (s : St) : List UInt8 := s.list.flatMap hex8
def sum (l : List UInt8) : List UInt8 :=
  let whole := l.length - l.length % 64
  let s := absorb init (l.take whole) (whole / 64)
  let e := ending (l.drop whole) l.length
  inHex (absorb s e (e.length / 64))

def abcSum : List UInt8 := [98, 97, 55, 56, 49, 54, 98, 102, 56, 102, 48, 49, 99, 102, 101, 97, 52, 49, 52, 49, 52, 48, 100, 101, 53, 100, 97, 101, 50, 50, 50, 51, 98, 48, 48, 51, 54, 49, 97, 51, 57, 54, 49, 55, 55, 97, 57, 99, 98, 52, 49, 48, 102, 102, 54, 49, 102, 50, 48, 48, 49, 53, 97, 100]

theorem sum_abc : sum [97, 98, 99] = abcSum := by decide +kernel

/- The model's words for operations on single words, in UInt32's. -/
theorem lt32 (x : UInt32) : x.toNat < 4294967296 := x.toNat_lt
theorem b_xor (x y : UInt32) : bits .xor .u32 (x.toNat : Int) (y.toNat : Int) = ((x ^^^ y).toNat : Int) := by
  rw [u32_xor_nat _ _ (lt32 x) (lt32 y), UInt32.toNat_xor]
theorem b_or (x y : UInt32) : bits .or .u32 (x.toNat : Int) (y.toNat : Int) = ((x ||| y).toNat : Int) := by
  rw [u32_or_nat _ _ (lt32 x) (lt32 y), UInt32.toNat_or]
theorem b_and (x y : UInt32) : bits .and .u32 (x.toNat : Int) (y.toNat : Int) = ((x &&& y).toNat : Int) := by
  rw [u32_and_nat _ _ (lt32 x) (lt32 y), UInt32.toNat_and]
theorem b_add (x y : UInt32) : ((x.toNat : Int) + (y.toNat : Int)) % 4294967296 = ((x + y).toNat : Int) := by
  rw [UInt32.toNat_add]; omega
theorem b_add' (x y : UInt32) : IntKind.u32.wrap ((x.toNat : Int) + (y.toNat : Int)) = ((x + y).toNat : Int) := by
  rw [IntKind.wrap_u32', b_add]
theorem b_shr (x n : UInt32) (q : Nat) (hq : q = 2 ^ (n.toNat % 32)) : (x.toNat : Int) / (q : Int) = ((x >>> n).toNat : Int) := by
  rw [UInt32.toNat_shiftRight, Nat.shiftRight_eq_div_pow, hq]; simp
theorem b_shl (x n : UInt32) (q : Nat) (hq : q = 2 ^ (n.toNat % 32)) : (x.toNat : Int) * (q : Int) % 4294967296 = ((x <<< n).toNat : Int) := by
  rw [UInt32.toNat_shiftLeft, Nat.shiftLeft_eq, hq]; simp
theorem b_rot (x n : UInt32) (p q : Nat) (hp : p = 2 ^ ((32 - n).toNat % 32)) (hq : q = 2 ^ (n.toNat % 32)) :
    bits .or .u32 ((x.toNat : Int) * (p : Int) % 4294967296) ((x.toNat : Int) / (q : Int)) = ((rotr x n).toNat : Int) := by
  rw [b_shl x (32 - n) p hp, b_shr x n q hq, b_or]; rfl

end Sha
end Go.Proofs.YtojncfnlcmacgaaDoor
