/-
  SHA-256 as plain mathematics over natural numbers, evaluated by the kernel at the examples.
-/
import Derived.WalkKit
namespace Go.Proofs.YtedhjjlnionckaaDoor.Sha

def m32 : Nat := 4294967296
def rotr (x n : Nat) : Nat := (x >>> n ||| x <<< (32 - n)) % 4294967296
def flip (x : Nat) : Nat := x ^^^ 4294967295
def table : List Nat := [
  0x428a2f98, 0x71374491, 0xb5c0fbcf, 0xe9b5dba5, 0x3956c25b, 0x59f111f1, 0x923f82a4, 0xab1c5ed5,
  0xd807aa98, 0x12835b01, 0x243185be, 0x550c7dc3, 0x72be5d74, 0x80deb1fe, 0x9bdc06a7, 0xc19bf174,
  0xe49b69c1, 0xefbe4786, 0x0fc19dc6, 0x240ca1cc, 0x2de92c6f, 0x4a7484aa, 0x5cb0a9dc, 0x76f988da,
  0x983e5152, 0xa831c66d, 0xb00327c8, 0xbf597fc7, 0xc6e00bf3, 0xd5a79147, 0x06ca6351, 0x14292967,
  0x27b70a85, 0x2e1b2138, 0x4d2c6dfc, 0x53380d13, 0x650a7354, 0x766a0abb, 0x81c2c92e, 0x92722c85,
  0xa2bfe8a1, 0xa81a664b, 0xc24b8b70, 0xc76c51a3, 0xd192e819, 0xd6990624, 0xf40e3585, 0x106aa070,
  0x19a4c116, 0x1e376c08, 0x2748774c, 0x34b0bcb5, 0x391c0cb3, 0x4ed8aa4a, 0x5b9cca4f, 0x682e6ff3,
  0x748f82ee, 0x78a5636f, 0x84c87814, 0x8cc70208, 0x90befffa, 0xa4506ceb, 0xbef9a3f7, 0xc67178f2]
def start : List Nat := [0x6a09e667, 0xbb67ae85, 0x3c6ef372, 0xa54ff53a, 0x510e527f, 0x9b05688c, 0x1f83d9ab, 0x5be0cd19]

/-- The word at place t of a block. -/
def word (b : List UInt8) (t : Nat) : Nat := (b.getD (4 * t) 0).toNat <<< 24 ||| (b.getD (4 * t + 1) 0).toNat <<< 16 ||| (b.getD (4 * t + 2) 0).toNat <<< 8 ||| (b.getD (4 * t + 3) 0).toNat
def next (w : List Nat) (t : Nat) : Nat :=
  (w.getD (t - 16) 0 + (rotr (w.getD (t - 15) 0) 7 ^^^ rotr (w.getD (t - 15) 0) 18 ^^^ w.getD (t - 15) 0 >>> 3) + w.getD (t - 7) 0 +
    (rotr (w.getD (t - 2) 0) 17 ^^^ rotr (w.getD (t - 2) 0) 19 ^^^ w.getD (t - 2) 0 >>> 10)) % 4294967296
/-- The first words of a block: n of them. -/
def words (b : List UInt8) : Nat → List Nat
  | 0 => []
  | t + 1 => words b t ++ [if t < 16 then word b t else next (words b t) t]
/-- The same, in one run (for the kernel). -/
def wordsGo (b : List UInt8) : Nat → Nat → List Nat → List Nat
  | 0, _, acc => acc
  | n + 1, t, acc => wordsGo b n (t + 1) (acc ++ [if t < 16 then word b t else next acc t])
theorem words_go (b : List UInt8) (n t : Nat) : wordsGo b n t (words b t) = words b (t + n) := by
  induction n generalizing t with
  | zero => rfl
  | succ n ih =>
    rw [wordsGo, show t + (n + 1) = t + 1 + n by omega, ← ih (t + 1)]
    rfl
theorem words_len (b : List UInt8) (n : Nat) : (words b n).length = n := by
  induction n with
  | zero => rfl
  | succ n ih => rw [words, List.length_append, ih]; rfl

/-- One of the 64 steps. -/
def step : List Nat → Nat → Nat → List Nat
  | [a, b, c, d, e, f, g, h], k, w =>
    let x := h + (rotr e 6 ^^^ rotr e 11 ^^^ rotr e 25) + ((e &&& f) ^^^ (flip e &&& g)) + k + w
    let y := (rotr a 2 ^^^ rotr a 13 ^^^ rotr a 22) + ((a &&& b) ^^^ (a &&& c) ^^^ (b &&& c))
    [(x + y) % 4294967296, a, b, c, (d + x) % 4294967296, e, f, g]
  | v, _, _ => v
def steps (v : List Nat) (ks ws : List Nat) : List Nat := (ks.zip ws).foldl (fun v q => step v q.1 q.2) v
def compress (s : List Nat) (b : List UInt8) : List Nat :=
  List.zipWith (fun p q => (p + q) % 4294967296) s (steps s table (wordsGo b 64 0 []))
def blocks : Nat → List Nat → List UInt8 → List Nat
  | 0, s, _ => s
  | n + 1, s, b => blocks n (compress s (b.take 64)) (b.drop 64)
def be64 (n : Nat) : List UInt8 := (List.range 8).map fun i => UInt8.ofNat ((n >>> (56 - 8 * i)) % 256)
def zeros (n : Nat) : Nat := (119 - n % 64) % 64
def pad (b : List UInt8) : List UInt8 := b ++ 128 :: List.replicate (zeros b.length) 0 ++ be64 (8 * b.length)
def bytes (s : List Nat) : List UInt8 := s.flatMap fun x => [UInt8.ofNat (x >>> 24 % 256), UInt8.ofNat (x >>> 16 % 256), UInt8.ofNat (x >>> 8 % 256), UInt8.ofNat (x % 256)]
def sum (b : List UInt8) : List UInt8 := bytes (blocks ((pad b).length / 64) start (pad b))

theorem zeros_fit (n : Nat) : (n + 1 + zeros n) % 64 = 56 := by unfold zeros; omega
theorem zeros_least (n j : Nat) (h : j < zeros n) : (n + 1 + j) % 64 ≠ 56 := by unfold zeros at h; omega
theorem be64_len (n : Nat) : (be64 n).length = 8 := rfl
theorem pad_len (b : List UInt8) : (pad b).length % 64 = 0 := by
  have := zeros_fit b.length
  unfold pad
  rw [List.length_append, List.length_append, List.length_cons, List.length_replicate, be64_len]
  omega

set_option maxRecDepth 100000 in
theorem sum_abc : (sum [97, 98, 99]).map UInt8.toNat = [0xba, 0x78, 0x16, 0xbf, 0x8f, 0x01, 0xcf, 0xea, 0x41, 0x41, 0x40, 0xde, 0x5d, 0xae, 0x22, 0x23, 0xb0, 0x03, 0x61, 0xa3, 0x96, 0x17, 0x7a, 0x9c, 0xb4, 0x10, 0xff, 0x61, 0xf2, 0x00, 0x15, 0xad] := by decide +kernel
set_option maxRecDepth 100000 in
theorem sum_one : ((sum [1]).take 16).map UInt8.toNat = [0x4b, 0xf5, 0x12, 0x2f, 0x34, 0x45, 0x54, 0xc5, 0x3b, 0xde, 0x2e, 0xbb, 0x8c, 0xd2, 0xb7, 0xe3] := by decide +kernel
end Go.Proofs.YtedhjjlnionckaaDoor.Sha
