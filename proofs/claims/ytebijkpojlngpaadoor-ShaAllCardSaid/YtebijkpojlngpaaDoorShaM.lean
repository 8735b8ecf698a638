/- Plain mathematics of SHA-256: its words, rounds and blocks; the primes and roots that its numbers come from; the hash of abc. No program. -/
import Derived.Test.YtebijkpojlngpaaDoorArgs
import Derived.Laws.BitsAllLaws
namespace Go.Proofs.YtebijkpojlngpaaDoor.Sha
open Go Go.Proofs.YtebijkpojlngpaaDoor
set_option maxRecDepth 100000

/-- The eight words of a state. -/
structure St where
  a : UInt32
  b : UInt32
  c : UInt32
  d : UInt32
  e : UInt32
  f : UInt32
  g : UInt32
  h : UInt32
deriving DecidableEq

def rr (x : UInt32) (n : Nat) : UInt32 := (x >>> UInt32.ofNat n) ||| (x <<< UInt32.ofNat (32 - n))
def s0 (x : UInt32) : UInt32 := rr x 7 ^^^ rr x 18 ^^^ x >>> 3
def s1 (x : UInt32) : UInt32 := rr x 17 ^^^ rr x 19 ^^^ x >>> 10
def t3 (x : UInt32) (i j k : Nat) : UInt32 := rr x i ^^^ rr x j ^^^ rr x k
def ch (e f g : UInt32) : UInt32 := (e &&& f) ^^^ (~~~e &&& g)
def mj (a b c : UInt32) : UInt32 := (a &&& b) ^^^ (a &&& c) ^^^ (b &&& c)

def tOne (s : St) (k w : UInt32) : UInt32 := s.h + t3 s.e 6 11 25 + ch s.e s.f s.g + k + w
def tTwo (s : St) : UInt32 := t3 s.a 2 13 22 + mj s.a s.b s.c
def round (s : St) (k w : UInt32) : St := ⟨tOne s k w + tTwo s, s.a, s.b, s.c, s.d + tOne s k w, s.e, s.f, s.g⟩

def shaK : List UInt32 := [
  0x428a2f98, 0x71374491, 0xb5c0fbcf, 0xe9b5dba5, 0x3956c25b, 0x59f111f1, 0x923f82a4, 0xab1c5ed5,
  0xd807aa98, 0x12835b01, 0x243185be, 0x550c7dc3, 0x72be5d74, 0x80deb1fe, 0x9bdc06a7, 0xc19bf174,
  0xe49b69c1, 0xefbe4786, 0x0fc19dc6, 0x240ca1cc, 0x2de92c6f, 0x4a7484aa, 0x5cb0a9dc, 0x76f988da,
  0x983e5152, 0xa831c66d, 0xb00327c8, 0xbf597fc7, 0xc6e00bf3, 0xd5a79147, 0x06ca6351, 0x14292967,
  0x27b70a85, 0x2e1b2138, 0x4d2c6dfc, 0x53380d13, 0x650a7354, 0x766a0abb, 0x81c2c92e, 0x92722c85,
  0xa2bfe8a1, 0xa81a664b, 0xc24b8b70, 0xc76c51a3, 0xd192e819, 0xd6990624, 0xf40e3585, 0x106aa070,
  0x19a4c116, 0x1e376c08, 0x2748774c, 0x34b0bcb5, 0x391c0cb3, 0x4ed8aa4a, 0x5b9cca4f, 0x682e6ff3,
  0x748f82ee, 0x78a5636f, 0x84c87814, 0x8cc70208, 0x90befffa, 0xa4506ceb, 0xbef9a3f7, 0xc67178f2]

def iv : St := ⟨0x6a09e667, 0xbb67ae85, 0x3c6ef372, 0xa54ff53a, 0x510e527f, 0x9b05688c, 0x1f83d9ab, 0x5be0cd19⟩

def by32 (a b c d : UInt8) : UInt32 := (a.toUInt32 <<< 24) ||| (b.toUInt32 <<< 16) ||| (c.toUInt32 <<< 8) ||| d.toUInt32
def be32 (p : List UInt8) (i : Nat) : UInt32 := by32 (p.getD (4 * i) 0) (p.getD (4 * i + 1) 0) (p.getD (4 * i + 2) 0) (p.getD (4 * i + 3) 0)

/-- The first k of a block's words. -/
def words0 (p : List UInt8) : Nat → List UInt32
  | 0 => []
  | k + 1 => words0 p k ++ [be32 p k]

def nextW (w : List UInt32) : UInt32 := s1 (w.getD (w.length - 2) 0) + w.getD (w.length - 7) 0 + s0 (w.getD (w.length - 15) 0) + w.getD (w.length - 16) 0

/-- A block's words, and k more. -/
def spreadN (p : List UInt8) : Nat → List UInt32
  | 0 => words0 p 16
  | k + 1 => spreadN p k ++ [nextW (spreadN p k)]

def sched (p : List UInt8) : List UInt32 := spreadN p 48

theorem words0_length (p : List UInt8) : ∀ k, (words0 p k).length = k
  | 0 => rfl
  | k + 1 => by simp [words0, words0_length p k]

theorem spreadN_length (p : List UInt8) : ∀ k, (spreadN p k).length = k + 16
  | 0 => words0_length p 16
  | k + 1 => by simp [spreadN, spreadN_length p k]

theorem sched_length (p : List UInt8) : (sched p).length = 64 := spreadN_length p 48

/-- The first k rounds. -/
def roundN (s : St) (w : List UInt32) : Nat → St
  | 0 => s
  | k + 1 => round (roundN s w k) (shaK.getD k 0) (w.getD k 0)

def addS (s t : St) : St := ⟨s.a + t.a, s.b + t.b, s.c + t.c, s.d + t.d, s.e + t.e, s.f + t.f, s.g + t.g, s.h + t.h⟩
def mixB (s : St) (p : List UInt8) : St := addS s (roundN s (sched p) 64)

/-- The state behind the first k blocks. -/
def mixN (s : St) (m : List UInt8) : Nat → St
  | 0 => s
  | k + 1 => mixB (mixN s m k) ((m.drop (64 * k)).take 64)

def mixL (s : St) (m : List UInt8) : St := mixN s m (m.length / 64)

/-- Eight bytes of a number, the highest first. -/
def len8 (n : Nat) : List UInt8 := [UInt8.ofNat (n / 2 ^ 56), UInt8.ofNat (n / 2 ^ 48), UInt8.ofNat (n / 2 ^ 40), UInt8.ofNat (n / 2 ^ 32), UInt8.ofNat (n / 2 ^ 24), UInt8.ofNat (n / 2 ^ 16), UInt8.ofNat (n / 2 ^ 8), UInt8.ofNat n]

/-- How many zeros there are behind the bit. -/
def zerosN (n : Nat) : Nat := (119 - n % 64) % 64

/-- The bytes and their ending. -/
def padded (b : List UInt8) : List UInt8 := b ++ 128 :: (List.replicate (zerosN b.length) 0 ++ len8 (b.length * 8))

def word4 (x : UInt32) : List UInt8 := [(x >>> 24).toUInt8, (x >>> 16).toUInt8, (x >>> 8).toUInt8, x.toUInt8]
def stL (s : St) : List UInt32 := [s.a, s.b, s.c, s.d, s.e, s.f, s.g, s.h]
def digest (s : St) : List UInt8 := (stL s).flatMap word4
def sumOf (b : List UInt8) : List UInt8 := digest (mixL iv (padded b))

def hexD : List UInt8 := [48, 49, 50, 51, 52, 53, 54, 55, 56, 57, 97, 98, 99, 100, 101, 102]
def hex2 (c : UInt8) : List UInt8 := [hexD.getD (c.toNat / 16) 0, hexD.getD (c.toNat % 16) 0]
def hexOf (l : List UInt8) : List UInt8 := l.flatMap hex2

theorem digest_length (s : St) : (digest s).length = 32 := rfl
theorem sumOf_length (b : List UInt8) : (sumOf b).length = 32 := digest_length _

theorem hex_abc : hexOf (sumOf [97, 98, 99]) = [98, 97, 55, 56, 49, 54, 98, 102, 56, 102, 48, 49, 99, 102, 101, 97, 52, 49, 52, 49, 52, 48, 100, 101, 53, 100, 97, 101, 50, 50, 50, 51, 98, 48, 48, 51, 54, 49, 97, 51, 57, 54, 49, 55, 55, 97, 57, 99, 98, 52, 49, 48, 102, 102, 54, 49, 102, 50, 48, 48, 49, 53, 97, 100] := by decide +kernel

-- the roots of primes

def lo18 (x : UInt64) : UInt64 := x &&& 262143
def up18 (x : UInt64) : UInt64 := x >>> 18
def fitsMid (y : UInt64) : UInt64 := 2 * up18 y * lo18 y
def fitsLo (y : UInt64) : UInt64 := lo18 y * lo18 y + (lo18 (fitsMid y)) <<< (18 : UInt64)
def fitsHi (y : UInt64) : UInt64 := up18 y * up18 y + (up18 (fitsMid y) + (fitsLo y) >>> (36 : UInt64))
def fitsLow (y : UInt64) : UInt64 := fitsLo y &&& 68719476735
def c0 (y : UInt64) : UInt64 := lo18 (fitsLow y) * lo18 y
def c1 (y : UInt64) : UInt64 := up18 (fitsLow y) * lo18 y + lo18 (fitsLow y) * up18 y + up18 (c0 y)
def c2 (y : UInt64) : UInt64 := lo18 (fitsHi y) * lo18 y + up18 (fitsLow y) * up18 y + up18 (c1 y)
def c3 (y : UInt64) : UInt64 := up18 (fitsHi y) * lo18 y + lo18 (fitsHi y) * up18 y + up18 (c2 y)
def c4 (y : UInt64) : UInt64 := up18 (fitsHi y) * up18 y + up18 (c3 y)
def restB (y : UInt64) : Bool := lo18 (c3 y ||| c2 y ||| c1 y ||| c0 y) != 0

/-- Is y / 2^32 to the power not above p? -/
def fitsB (y p : UInt64) (cube : Bool) : Bool :=
  if cube = false then decide (fitsHi y < p <<< (28 : UInt64)) || (fitsHi y == p <<< (28 : UInt64) && fitsLow y == 0)
  else decide (c4 y < p <<< (24 : UInt64)) || (c4 y == p <<< (24 : UInt64) && !restB y)

/-- The root's bits from bit 35 on, n of them. -/
def rootN (p : UInt64) (cube : Bool) : Nat → UInt64
  | 0 => 0
  | n + 1 => if fitsB (rootN p cube n ||| UInt64.ofNat (2 ^ (35 - n))) p cube then rootN p cube n ||| UInt64.ofNat (2 ^ (35 - n)) else rootN p cube n

def rootB (p : UInt64) (cube : Bool) : UInt32 := (rootN p cube 36).toUInt32

/-- No number of the list goes into k. -/
def primeTo (k : Nat) (l : List Nat) : Bool := l.all fun p => k % p != 0

/-- The primes below k + 2. -/
def primesB : Nat → List Nat
  | 0 => []
  | k + 1 => if primeTo (k + 2) (primesB k) then primesB k ++ [k + 2] else primesB k

theorem primes_len : (primesB 310).length = 64 := by decide +kernel
theorem primes_fit : (primesB 310).all (fun p => decide (0 < p ∧ p < 400)) = true := by decide +kernel
theorem roots_is : (primesB 310).map (fun p => rootB (UInt64.ofNat p) true) = shaK := by decide +kernel
theorem iv_is : ((primesB 310).take 8).map (fun p => rootB (UInt64.ofNat p) false) = stL iv := by decide +kernel

-- 32 bits in the words of the integers

/-- A word as an integer, kept shut. -/
def n32 (x : UInt32) : Int := (x.toNat : Int)

theorem n32_ge (x : UInt32) : 0 ≤ n32 x := by unfold n32; omega
theorem n32_lt (x : UInt32) : n32 x < 4294967296 := by have := x.toNat_lt; unfold n32; omega
theorem n32_inj {x y : UInt32} (h : n32 x = n32 y) : x = y := UInt32.toNat_inj.1 (by unfold n32 at h; omega)

theorem n32_xor (x y : UInt32) : bits .xor .u32 (n32 x) (n32 y) = n32 (x ^^^ y) := by
  unfold n32; rw [u32_xor_nat _ _ x.toNat_lt y.toNat_lt, UInt32.toNat_xor]
theorem n32_and (x y : UInt32) : bits .and .u32 (n32 x) (n32 y) = n32 (x &&& y) := by
  unfold n32; rw [u32_and_nat _ _ x.toNat_lt y.toNat_lt, UInt32.toNat_and]
theorem n32_or (x y : UInt32) : bits .or .u32 (n32 x) (n32 y) = n32 (x ||| y) := by
  unfold n32; rw [u32_or_nat _ _ x.toNat_lt y.toNat_lt, UInt32.toNat_or]

theorem n32_not (x : UInt32) : bits .xor .u32 IntKind.u32.max (n32 x) = n32 (~~~x) := by
  have h : n32 4294967295 = IntKind.u32.max := rfl
  rw [← h, n32_xor, show (4294967295 : UInt32) = -1 from rfl, UInt32.neg_one_xor]

theorem n32_add (x y : UInt32) : (n32 x + n32 y) % 4294967296 = n32 (x + y) := by
  unfold n32; rw [UInt32.toNat_add]; omega
theorem n32_wadd (x y : UInt32) : IntKind.u32.wrap (n32 x + n32 y) = n32 (x + y) := by
  rw [IntKind.wrap_u32', n32_add]

theorem n32_shr (x : UInt32) (n : Nat) (h : n < 32) : n32 x / 2 ^ n = n32 (x >>> UInt32.ofNat n) := by
  unfold n32
  rw [UInt32.toNat_shiftRight, UInt32.toNat_ofNat', Nat.mod_eq_of_lt (show n < 2 ^ 32 by omega), Nat.mod_eq_of_lt h, Nat.shiftRight_eq_div_pow]
  simp

theorem n32_shl (x : UInt32) (n : Nat) (h : n < 32) : n32 x * 2 ^ n % 4294967296 = n32 (x <<< UInt32.ofNat n) := by
  unfold n32
  rw [UInt32.toNat_shiftLeft, UInt32.toNat_ofNat', Nat.mod_eq_of_lt (show n < 2 ^ 32 by omega), Nat.mod_eq_of_lt h, Nat.shiftLeft_eq]
  simp

theorem n32_rr (x : UInt32) (n : Nat) (h0 : 0 < n) (h : n < 32) : bits .or .u32 (n32 x * 2 ^ (32 - n) % 4294967296) (n32 x / 2 ^ n) = n32 (rr x n) := by
  rw [n32_shl _ _ (by omega), n32_shr _ _ h, n32_or, UInt32.or_comm]; rfl

theorem n32_rr' (x : UInt32) (n : Nat) (h0 : 0 < n) (h : n < 32) : bits .or .u32 (n32 x / 2 ^ n) (n32 x * 2 ^ (32 - n) % 4294967296) = n32 (rr x n) := by
  rw [n32_shl _ _ (by omega), n32_shr _ _ h, n32_or]; rfl

end Go.Proofs.YtebijkpojlngpaaDoor.Sha
