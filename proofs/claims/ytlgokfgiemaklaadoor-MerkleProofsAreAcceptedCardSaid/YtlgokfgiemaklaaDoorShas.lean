/-
  SHA-256 as plain mathematics over natural numbers, evaluated by the kernel at the examples. Streams, keyed hashes and derived bytes as plain mathematics. 32-bit operations, as a walk leaves them, brought to Sha's forms.
-/
import Derived.WalkKit
import Derived.Test.YtlgokfgiemaklaaDoorWmm
import Derived.Laws.BitsAllLaws
namespace Go.Proofs.YtlgokfgiemaklaaDoor.Sha

def m32 : Nat := 4294967296
def rotr (x n : Nat) : Nat := (x >>> n ||| x <<< (32 - n)) % 4294967296
def flip (x : Nat) : Nat := x ^^^ 4294967295
def table : List Nat := [
  0x428a2f98, 0x71374491, 0xb5c0fbcf, 0xe9b5dba5, 0x3956c25b, 0x59f111f1, 0x923f82a4, 0xab1c5ed5,
  0xd807aa98, 0x12835b01, 0x243185be, 0x550c7dc3, 0x72be5d74, 0x80deb1fe, 0x9bdc06a7, 0xc19bf174,
  0xe49b69c1, 0xefbe4786, 0x0fc19dc6, 0x240ca1cc, 0x2de92c6f, 0x4a7484aa, 0x5cb0a9dc, 0x76f988da,
  0x983e5152, 0xa831c66d, 0xb00327c8, 0xbf597fc7, 0xc6e00bf3, 0xd5a79147, 0x06ca6351, 0x14292967,
  0x27b70a85, 0x2e1b2138, 0x4d2c6dfc, 0x53380d13, 0x650a7354, 0x766a0abb, 0x81c2c92e, 0x92722c85,
  0xa2bfe8a1, 0xa81a664b, 0xc24b8b70, 0xc76c51a3, 0xd192e819, 0xd6990624, 0xf40e3585, 0x106aa070,
  0x19a4c116, 0x1e376c08, 0x2748774c, 0x34b0bcb5, 0x391c0cb3, 0x4ed8aa4a, 0x5b9cca4f, 0x682e6ff3,
  0x748f82ee, 0x78a5636f, 0x84c87814, 0x8cc70208, 0x90befffa, 0xa4506ceb, 0xbef9a3f7, 0xc67178f2]
def start : List Nat := [0x6a09e667, 0xbb67ae85, 0x3c6ef372, 0xa54ff53a, 0x510e527f, 0x9b05688c, 0x1f83d9ab, 0x5be0cd19]

/-- The word at place t of a block. -/
def word (b : List UInt8) (t : Nat) : Nat := (b.getD (4 * t) 0).toNat <<< 24 ||| (b.getD (4 * t + 1) 0).toNat <<< 16 ||| (b.getD (4 * t + 2) 0).toNat <<< 8 ||| (b.getD (4 * t + 3) 0).toNat
def next (w : List Nat) (t : Nat) : Nat :=
  (w.getD (t - 16) 0 + (rotr (w.getD (t - 15) 0) 7 ^^^ rotr (w.getD (t - 15) 0) 18 ^^^ w.getD (t - 15) 0 >>> 3) + w.getD (t - 7) 0 +
    (rotr (w.getD (t - 2) 0) 17 ^^^ rotr (w.getD (t - 2) 0) 19 ^^^ w.getD (t - 2) 0 >>> 10)) % 4294967296
/-- The first words of a block: n of them. -/
def words (b : List UInt8) : Nat → List Nat
  | 0 => []
  | t + 1 => words b t ++ [if t < 16 then word b t else next (words b t) t]
/-- The same, in one run (for the kernel). -/
def wordsGo (b : List UInt8) : Nat → Nat → List Nat → List Nat
  | 0, _, acc => acc
  | n + 1, t, acc => wordsGo b n (t + 1) (acc ++ [if t < 16 then word b t else next acc t])
theorem words_go (b : List UInt8) (n t : Nat) : wordsGo b n t (words b t) = words b (t + n) := by
  induction n generalizing t with
  | zero => rfl
  | succ n ih =>
    rw [wordsGo, show t + (n + 1) = t + 1 + n by omega, ← ih (t + 1)]
    rfl
theorem words_len (b : List UInt8) (n : Nat) : (words b n).length = n := by
  induction n with
  | zero => rfl
  | succ n ih => rw [words, List.length_append, ih]; rfl

/-- One of the 64 steps. -/
def step : List Nat → Nat → Nat → List Nat
  | [a, b, c, d, e, f, g, h], k, w =>
    let x := h + (rotr e 6 ^^^ rotr e 11 ^^^ rotr e 25) + ((e &&& f) ^^^ (flip e &&& g)) + k + w
    let y := (rotr a 2 ^^^ rotr a 13 ^^^ rotr a 22) + ((a &&& b) ^^^ (a &&& c) ^^^ (b &&& c))
    [(x + y) % 4294967296, a, b, c, (d + x) % 4294967296, e, f, g]
  | v, _, _ => v
def steps (v : List Nat) (ks ws : List Nat) : List Nat := (ks.zip ws).foldl (fun v q => step v q.1 q.2) v
def compress (s : List Nat) (b : List UInt8) : List Nat :=
  List.zipWith (fun p q => (p + q) % 4294967296) s (steps s table (wordsGo b 64 0 []))
def blocks : Nat → List Nat → List UInt8 → List Nat
  | 0, s, _ => s
  | n + 1, s, b => blocks n (compress s (b.take 64)) (b.drop 64)
def be64 (n : Nat) : List UInt8 := (List.range 8).map fun i => UInt8.ofNat ((n >>> (56 - 8 * i)) % 256)
def zeros (n : Nat) : Nat := (119 - n % 64) % 64
def pad (b : List UInt8) : List UInt8 := b ++ 128 :: List.replicate (zeros b.length) 0 ++ be64 (8 * b.length)
def bytes (s : List Nat) : List UInt8 := s.flatMap fun x => [UInt8.ofNat (x >>> 24 % 256), UInt8.ofNat (x >>> 16 % 256), UInt8.ofNat (x >>> 8 % 256), UInt8.ofNat (x % 256)]
def sum (b : List UInt8) : List UInt8 := bytes (blocks ((pad b).length / 64) start (pad b))

theorem zeros_fit (n : Nat) : (n + 1 + zeros n) % 64 = 56 := by unfold zeros; omega
theorem zeros_least (n j : Nat) (h : j < zeros n) : (n + 1 + j) % 64 ≠ 56 := by unfold zeros at h; omega
theorem be64_len (n : Nat) : (be64 n).length = 8 := rfl
theorem pad_len (b : List UInt8) : (pad b).length % 64 = 0 := by
  have := zeros_fit b.length
  unfold pad
  rw [List.length_append, List.length_append, List.length_cons, List.length_replicate, be64_len]
  omega

set_option maxRecDepth 100000 in
theorem sum_abc : (sum [97, 98, 99]).map UInt8.toNat = [0xba, 0x78, 0x16, 0xbf, 0x8f, 0x01, 0xcf, 0xea, 0x41, 0x41, 0x40, 0xde, 0x5d, 0xae, 0x22, 0x23, 0xb0, 0x03, 0x61, 0xa3, 0x96, 0x17, 0x7a, 0x9c, 0xb4, 0x10, 0xff, 0x61, 0xf2, 0x00, 0x15, 0xad] := by decide +kernel
set_option maxRecDepth 100000 in
theorem sum_one : ((sum [1]).take 16).map UInt8.toNat = [0x4b, 0xf5, 0x12, 0x2f, 0x34, 0x45, 0x54, 0xc5, 0x3b, 0xde, 0x2e, 0xbb, 0x8c, 0xd2, 0xb7, 0xe3] := by decide +kernel
end Go.Proofs.YtlgokfgiemaklaaDoor.Sha

namespace Go.Proofs.YtlgokfgiemaklaaDoor.Sha

theorem step_len (v : List Nat) (k w : Nat) (h : v.length = 8) : (step v k w).length = 8 := by
  match v, h with
  | [_, _, _, _, _, _, _, _], _ => rfl
theorem steps_len (v ks ws : List Nat) (h : v.length = 8) : (steps v ks ws).length = 8 := by
  unfold steps
  generalize ks.zip ws = l
  induction l generalizing v with
  | nil => exact h
  | cons q l ih => exact ih _ (step_len v q.1 q.2 h)
theorem compress_len (s : List Nat) (b : List UInt8) (h : s.length = 8) : (compress s b).length = 8 := by
  unfold compress
  rw [List.length_zipWith, steps_len _ _ _ h, h]
  rfl
theorem blocks_len (n : Nat) (s : List Nat) (b : List UInt8) (h : s.length = 8) : (blocks n s b).length = 8 := by
  induction n generalizing s b with
  | zero => exact h
  | succ n ih => exact ih _ _ (compress_len s _ h)
/-- Blocks one after the other: what a stream keeps of a message. -/
theorem blocks_append (m n : Nat) (s : List Nat) (a b : List UInt8) (h : a.length = 64 * m) : blocks (m + n) s (a ++ b) = blocks n (blocks m s a) b := by
  induction m generalizing s a with
  | zero =>
    rw [List.eq_nil_of_length_eq_zero (by omega : a.length = 0), Nat.zero_add]
    rfl
  | succ m ih =>
    rw [show m + 1 + n = m + n + 1 by omega, blocks, blocks, List.take_append_of_le_length (by omega), List.drop_append_of_le_length (by omega)]
    exact ih _ _ (by rw [List.length_drop]; omega)
theorem blocks_more (n : Nat) (s : List Nat) (a b : List UInt8) (h : 64 * n ≤ a.length) : blocks n s (a ++ b) = blocks n s a := by
  induction n generalizing s a with
  | zero => rfl
  | succ n ih =>
    rw [blocks, blocks, List.take_append_of_le_length (by omega), List.drop_append_of_le_length (by omega)]
    exact ih _ _ (by rw [List.length_drop]; omega)
/-- One block more. -/
theorem blocks_snoc (m : Nat) (s : List Nat) (a b : List UInt8) (h : a.length = 64 * m) (hb : b.length = 64) : blocks (m + 1) s (a ++ b) = compress (blocks m s a) b := by
  rw [blocks_append m 1 s a b h, blocks, blocks, List.take_of_length_le (by omega)]
theorem bytes_len (s : List Nat) : (bytes s).length = 4 * s.length := by
  unfold bytes
  induction s with
  | nil => rfl
  | cons x s ih =>
    rw [List.flatMap_cons, List.length_append, ih, List.length_cons]
    simp only [List.length_cons, List.length_nil]
    omega
theorem sum_len (b : List UInt8) : (sum b).length = 32 := by
  unfold sum
  rw [bytes_len, blocks_len _ _ _ (by rfl)]
/-- The hash of a message from the state after its whole blocks and the rest. -/
theorem sum_split (m : Nat) (a b : List UInt8) (h : a.length = 64 * m) :
    sum (a ++ b) = bytes (blocks ((b.length + 1 + zeros b.length + 8) / 64) (blocks m start a) (b ++ 128 :: List.replicate (zeros b.length) 0 ++ be64 (8 * (a.length + b.length)))) := by
  have hz : zeros (a ++ b).length = zeros b.length := by unfold zeros; rw [List.length_append]; omega
  have hp : pad (a ++ b) = a ++ (b ++ 128 :: List.replicate (zeros b.length) 0 ++ be64 (8 * (a.length + b.length))) := by
    unfold pad
    rw [hz, List.length_append]
    simp only [List.append_assoc]
  have hl : (pad (a ++ b)).length / 64 = m + (b.length + 1 + zeros b.length + 8) / 64 := by
    rw [hp]
    simp only [List.length_append, List.length_cons, List.length_replicate, be64_len]
    omega
  unfold sum
  rw [hl, hp, blocks_append m _ _ a _ h]

/-! ### keyed hashes -/
def block (key : List UInt8) : List UInt8 :=
  let k := if 64 < key.length then sum key else key
  k ++ List.replicate (64 - k.length) 0
def hmac (key msg : List UInt8) : List UInt8 := sum ((block key).map (· ^^^ 0x5c) ++ sum ((block key).map (· ^^^ 0x36) ++ msg))
def message (parts : List (List UInt8)) : List UInt8 := parts.flatMap Wm.encBytes
def mac (key : List UInt8) (parts : List (List UInt8)) : List UInt8 := (hmac key (message parts)).take 16
def input (tag : Int) (parts : List (List UInt8)) : List UInt8 := UInt8.ofNat (tag % 256).toNat :: message parts
def hashOf (tag : Int) (parts : List (List UInt8)) : List UInt8 := (sum (input tag parts)).take 16
/-- What k calls of Hmac give. -/
def stream (seed : List UInt8) : Nat → List UInt8
  | 0 => []
  | k + 1 => stream seed k ++ hmac seed (Wm.enc k)
def expand (seed : List UInt8) (n : Nat) : List UInt8 := (stream seed ((n + 31) / 32)).take n

theorem block_len (key : List UInt8) : (block key).length = 64 := by
  unfold block
  simp only
  split
  · rw [List.length_append, List.length_replicate, sum_len]
  · rw [List.length_append, List.length_replicate]; omega
theorem hmac_len (key msg : List UInt8) : (hmac key msg).length = 32 := sum_len _
theorem stream_len (seed : List UInt8) (k : Nat) : (stream seed k).length = 32 * k := by
  induction k with
  | zero => rfl
  | succ k ih => rw [stream, List.length_append, ih, hmac_len]; omega
theorem stream_more (seed : List UInt8) (j k : Nat) : ∃ t, stream seed (j + k) = stream seed j ++ t := by
  induction k with
  | zero => exact ⟨[], by simp⟩
  | succ k ih =>
    obtain ⟨t, h⟩ := ih
    exact ⟨t ++ hmac seed (Wm.enc (j + k : Nat)), by rw [← Nat.add_assoc, stream, h, List.append_assoc]⟩
theorem expand_len (seed : List UInt8) (n : Nat) : (expand seed n).length = n := by
  unfold expand
  rw [List.length_take, stream_len]
  omega
/-- As many calls as are needed, or more: the same bytes. -/
theorem expand_any (seed : List UInt8) (n k : Nat) (h : n ≤ 32 * k) : (stream seed k).take n = expand seed n := by
  obtain ⟨t, ht⟩ := stream_more seed ((n + 31) / 32) (k - (n + 31) / 32)
  rw [show (n + 31) / 32 + (k - (n + 31) / 32) = k by omega] at ht
  unfold expand
  rw [ht, List.take_append_of_le_length (by rw [stream_len]; omega)]
/-- P2.9 -/
theorem expand_begins (seed : List UInt8) (m n : Nat) (h : m ≤ n) : (expand seed n).take m = expand seed m := by
  unfold expand
  rw [List.take_take, Nat.min_eq_left h]
  exact expand_any seed m _ (by omega)
theorem enc_zero : Wm.enc 0 = [0] := by decide
/-- The first bytes are those of the first call. -/
theorem expand_first (seed : List UInt8) (m : Nat) : (expand seed m).take (min m 32) = (hmac seed [0]).take (min m 32) := by
  rcases Nat.eq_zero_or_pos m with rfl | hm
  · simp
  · rw [expand_begins seed _ _ (Nat.min_le_left _ _), ← expand_any seed (min m 32) 1 (by omega)]
    show (([] ++ hmac seed (Wm.enc (0 : Nat))).take _) = _
    rw [List.nil_append, show ((0 : Nat) : Int) = 0 from rfl, enc_zero]
/-- P2.7: zero bytes at the end of a short key. -/
theorem block_zeros (key : List UInt8) (n : Nat) (h : key.length + n ≤ 64) : block (key ++ List.replicate n 0) = block key := by
  unfold block
  simp only
  rw [if_neg (by rw [List.length_append, List.length_replicate]; omega), if_neg (by omega), List.length_append, List.length_replicate, List.append_assoc, List.replicate_append_replicate]
  congr 2
  omega
/-- P2.7: a long key. -/
theorem block_long (key : List UInt8) (h : 64 < key.length) : block (sum key) = block key := by
  unfold block
  simp only
  rw [if_neg (by rw [sum_len]; omega), if_pos h]
theorem hmac_zeros (key msg : List UInt8) (n : Nat) (h : key.length + n ≤ 64) : hmac (key ++ List.replicate n 0) msg = hmac key msg := by unfold hmac; rw [block_zeros key n h]
theorem hmac_long (key msg : List UInt8) (h : 64 < key.length) : hmac (sum key) msg = hmac key msg := by unfold hmac; rw [block_long key h]
/-- P2.6: different parts, different messages. -/
theorem message_inj : ∀ {a b : List (List UInt8)} (_ : ∀ s ∈ a, s.length ≤ 9223372036854775807) (_ : ∀ s ∈ b, s.length ≤ 9223372036854775807), message a = message b → a = b
  | [], [], _, _, _ => rfl
  | [], s :: b, _, _, h => by
    have := congrArg List.length h
    unfold message at this
    rw [List.flatMap_cons, List.length_append, List.flatMap_nil, List.length_nil] at this
    have h2 := Wm.enc_pos s.length
    unfold Wm.encBytes at this
    rw [List.length_append] at this
    omega
  | s :: a, [], _, _, h => by
    have := congrArg List.length h
    unfold message at this
    rw [List.flatMap_cons, List.length_append, List.flatMap_nil, List.length_nil] at this
    have h2 := Wm.enc_pos s.length
    unfold Wm.encBytes at this
    rw [List.length_append] at this
    omega
  | s :: a, t :: b, ha, hb, h => by
    unfold message at h
    rw [List.flatMap_cons, List.flatMap_cons] at h
    have g1 := Wm.getBytes_enc s (a.flatMap Wm.encBytes) (ha s (by simp))
    have g2 := Wm.getBytes_enc t (b.flatMap Wm.encBytes) (hb t (by simp))
    rw [h, g2] at g1
    injection g1 with e1 _
    subst e1
    rw [message_inj (fun y hy => ha y (by simp [hy])) (fun y hy => hb y (by simp [hy])) (List.append_cancel_left h)]
theorem input_inj {p q : Nat} (hp : p < 256) (hq : q < 256) {a b : List (List UInt8)} (ha : ∀ s ∈ a, s.length ≤ 9223372036854775807) (hb : ∀ s ∈ b, s.length ≤ 9223372036854775807) (h : input p a = input q b) : p = q ∧ a = b := by
  unfold input at h
  injection h with h1 h2
  refine ⟨?_, message_inj ha hb h2⟩
  have := congrArg UInt8.toNat h1
  rw [show ((p : Int) % 256).toNat = p by omega, show ((q : Int) % 256).toNat = q by omega, Wm.toNat_ofNat hp, Wm.toNat_ofNat hq] at this
  exact this

set_option maxRecDepth 100000 in
theorem hmac_jefe : (hmac [74, 101, 102, 101] [119, 104, 97, 116, 32, 100, 111, 32, 121, 97, 32, 119, 97, 110, 116, 32, 102, 111, 114, 32, 110, 111, 116, 104, 105, 110, 103, 63]).map UInt8.toNat =
    [0x5b, 0xdc, 0xc1, 0x46, 0xbf, 0x60, 0x75, 0x4e, 0x6a, 0x04, 0x24, 0x26, 0x08, 0x95, 0x75, 0xc7, 0x5a, 0x00, 0x3f, 0x08, 0x9d, 0x27, 0x39, 0x83, 0x9d, 0xec, 0x58, 0xb9, 0x64, 0xec, 0x38, 0x43] := by decide +kernel
end Go.Proofs.YtlgokfgiemaklaaDoor.Sha

namespace Go.Proofs.YtlgokfgiemaklaaDoor.Sha

theorem rotr_lt (x n : Nat) : rotr x n < 4294967296 := Nat.mod_lt _ (by decide)
theorem rotr_val (x n : Nat) (hx : x < 4294967296) : bits BinOp.or IntKind.u32 ((x : Int) / 2 ^ n) ((x : Int) * 2 ^ (32 - n) % 4294967296) = (rotr x n : Nat) := by
  have e1 : ((x : Int) / 2 ^ n) = ((x >>> n : Nat) : Int) := by rw [Nat.shiftRight_eq_div_pow]; simp
  have e2 : ((x : Int) * 2 ^ (32 - n) % 4294967296) = ((x <<< (32 - n) % 4294967296 : Nat) : Int) := by rw [Nat.shiftLeft_eq]; simp
  have l1 : x >>> n < 4294967296 := Nat.lt_of_le_of_lt (Nat.shiftRight_le x n) hx
  rw [e1, e2, u32_or_nat _ _ l1 (Nat.mod_lt _ (by decide))]
  unfold rotr
  rw [show (4294967296 : Nat) = 2 ^ 32 from rfl, Nat.or_mod_two_pow, Nat.mod_eq_of_lt (a := x >>> n) l1]
theorem and_val (a b : Nat) (ha : a < 4294967296) (hb : b < 4294967296) : bits BinOp.and IntKind.u32 (a : Int) (b : Int) = ((a &&& b : Nat) : Int) := u32_and_nat a b ha hb
theorem xor_val (a b : Nat) (ha : a < 4294967296) (hb : b < 4294967296) : bits BinOp.xor IntKind.u32 (a : Int) (b : Int) = ((a ^^^ b : Nat) : Int) := u32_xor_nat a b ha hb
theorem flip_val (a : Nat) (ha : a < 4294967296) : bits BinOp.xor IntKind.u32 (a : Int) 4294967295 = (flip a : Nat) := u32_xor_nat a 4294967295 ha (by decide)
theorem and_lt {a b : Nat} (ha : a < 4294967296) : a &&& b < 4294967296 := Nat.lt_of_le_of_lt Nat.and_le_left ha
theorem xor_lt {a b : Nat} (ha : a < 4294967296) (hb : b < 4294967296) : a ^^^ b < 4294967296 := Nat.xor_lt_two_pow (n := 32) ha hb
theorem or_lt {a b : Nat} (ha : a < 4294967296) (hb : b < 4294967296) : a ||| b < 4294967296 := Nat.or_lt_two_pow (n := 32) ha hb
theorem flip_lt {a : Nat} (ha : a < 4294967296) : flip a < 4294967296 := xor_lt ha (by decide)
theorem shr_lt {a n : Nat} (ha : a < 4294967296) : a >>> n < 4294967296 := Nat.lt_of_le_of_lt (Nat.shiftRight_le a n) ha
end Go.Proofs.YtlgokfgiemaklaaDoor.Sha
