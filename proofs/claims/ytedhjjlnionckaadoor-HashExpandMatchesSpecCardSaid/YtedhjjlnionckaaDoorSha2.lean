/-
  Streams, keyed hashes and derived bytes as plain mathematics.
-/
import Derived.Test.YtedhjjlnionckaaDoorSha
import Derived.Test.YtedhjjlnionckaaDoorWm2
namespace Go.Proofs.YtedhjjlnionckaaDoor.Sha

theorem step_len (v : List Nat) (k w : Nat) (h : v.length = 8) : (step v k w).length = 8 := by
  match v, h with
  | [_, _, _, _, _, _, _, _], _ => rfl
theorem steps_len (v ks ws : List Nat) (h : v.length = 8) : (steps v ks ws).length = 8 := by
  unfold steps
  generalize ks.zip ws = l
  induction l generalizing v with
  | nil => exact h
  | cons q l ih => exact ih _ (step_len v q.1 q.2 h)
theorem compress_len (s : List Nat) (b : List UInt8) (h : s.length = 8) : (compress s b).length = 8 := by
  unfold compress
  rw [List.length_zipWith, steps_len _ _ _ h, h]
  rfl
theorem blocks_len (n : Nat) (s : List Nat) (b : List UInt8) (h : s.length = 8) : (blocks n s b).length = 8 := by
  induction n generalizing s b with
  | zero => exact h
  | succ n ih => exact ih _ _ (compress_len s _ h)
/-- Blocks one after the other: what a stream keeps of a message. -/
theorem blocks_append (m n : Nat) (s : List Nat) (a b : List UInt8) (h : a.length = 64 * m) : blocks (m + n) s (a ++ b) = blocks n (blocks m s a) b := by
  induction m generalizing s a with
  | zero =>
    rw [List.eq_nil_of_length_eq_zero (by omega : a.length = 0), Nat.zero_add]
    rfl
  | succ m ih =>
    rw [show m + 1 + n = m + n + 1 by omega, blocks, blocks, List.take_append_of_le_length (by omega), List.drop_append_of_le_length (by omega)]
    exact ih _ _ (by rw [List.length_drop]; omega)
theorem blocks_more (n : Nat) (s : List Nat) (a b : List UInt8) (h : 64 * n ≤ a.length) : blocks n s (a ++ b) = blocks n s a := by
  induction n generalizing s a with
  | zero => rfl
  | succ n ih =>
    rw [blocks, blocks, List.take_append_of_le_length (by omega), List.drop_append_of_le_length (by omega)]
    exact ih _ _ (by rw [List.length_drop]; omega)
/-- One block more. -/
theorem blocks_snoc (m : Nat) (s : List Nat) (a b : List UInt8) (h : a.length = 64 * m) (hb : b.length = 64) : blocks (m + 1) s (a ++ b) = compress (blocks m s a) b := by
  rw [blocks_append m 1 s a b h, blocks, blocks, List.take_of_length_le (by omega)]
theorem bytes_len (s : List Nat) : (bytes s).length = 4 * s.length := by
  unfold bytes
  induction s with
  | nil => rfl
  | cons x s ih =>
    rw [List.flatMap_cons, List.length_append, ih, List.length_cons]
    simp only [List.length_cons, List.length_nil]
    omega
theorem sum_len (b : List UInt8) : (sum b).length = 32 := by
  unfold sum
  rw [bytes_len, blocks_len _ _ _ (by rfl)]
/-- The hash of a message from the state after its whole blocks and the rest. -/
theorem sum_split (m : Nat) (a b : List UInt8) (h : a.length = 64 * m) :
    sum (a ++ b) = bytes (blocks ((b.length + 1 + zeros b.length + 8) / 64) (blocks m start a) (b ++ 128 :: List.replicate (zeros b.length) 0 ++ be64 (8 * (a.length + b.length)))) := by
  have hz : zeros (a ++ b).length = zeros b.length := by unfold zeros; rw [List.length_append]; omega
  have hp : pad (a ++ b) = a ++ (b ++ 128 :: List.replicate (zeros b.length) 0 ++ be64 (8 * (a.length + b.length))) := by
    unfold pad
    rw [hz, List.length_append]
    simp only [List.append_assoc]
  have hl : (pad (a ++ b)).length / 64 = m + (b.length + 1 + zeros b.length + 8) / 64 := by
    rw [hp]
    simp only [List.length_append, List.length_cons, List.length_replicate, be64_len]
    omega
  unfold sum
  rw [hl, hp, blocks_append m _ _ a _ h]

/-! ### keyed hashes -/
def block (key : List UInt8) : List UInt8 :=
  let k := if 64 < key.length then sum key else key
  k ++ List.replicate (64 - k.length) 0
def hmac (key msg : List UInt8) : List UInt8 := sum ((block key).map (· ^^^ 0x5c) ++ sum ((block key).map (· ^^^ 0x36) ++ msg))
def message (parts : List (List UInt8)) : List UInt8 := parts.flatMap Wm.encBytes
def mac (key : List UInt8) (parts : List (List UInt8)) : List UInt8 := (hmac key (message parts)).take 16
def input (tag : Int) (parts : List (List UInt8)) : List UInt8 := UInt8.ofNat (tag % 256).toNat :: message parts
def hashOf (tag : Int) (parts : List (List UInt8)) : List UInt8 := (sum (input tag parts)).take 16
/-- What k calls of Hmac give. -/
def stream (seed : List UInt8) : Nat → List UInt8
  | 0 => []
  | k + 1 => stream seed k ++ hmac seed (Wm.enc k)
def expand (seed : List UInt8) (n : Nat) : List UInt8 := (stream seed ((n + 31) / 32)).take n

theorem block_len (key : List UInt8) : (block key).length = 64 := by
  unfold block
  simp only
  split
  · rw [List.length_append, List.length_replicate, sum_len]
  · rw [List.length_append, List.length_replicate]; omega
theorem hmac_len (key msg : List UInt8) : (hmac key msg).length = 32 := sum_len _
theorem stream_len (seed : List UInt8) (k : Nat) : (stream seed k).length = 32 * k := by
  induction k with
  | zero => rfl
  | succ k ih => rw [stream, List.length_append, ih, hmac_len]; omega
theorem stream_more (seed : List UInt8) (j k : Nat) : ∃ t, stream seed (j + k) = stream seed j ++ t := by
  induction k with
  | zero => exact ⟨[], by simp⟩
  | succ k ih =>
    obtain ⟨t, h⟩ := ih
    exact ⟨t ++ hmac seed (Wm.enc (j + k : Nat)), by rw [← Nat.add_assoc, stream, h, List.append_assoc]⟩
theorem expand_len (seed : List UInt8) (n : Nat) : (expand seed n).length = n := by
  unfold expand
  rw [List.length_take, stream_len]
  omega
/-- As many calls as are needed, or more: the same bytes. -/
theorem expand_any (seed : List UInt8) (n k : Nat) (h : n ≤ 32 * k) : (stream seed k).take n = expand seed n := by
  obtain ⟨t, ht⟩ := stream_more seed ((n + 31) / 32) (k - (n + 31) / 32)
  rw [show (n + 31) / 32 + (k - (n + 31) / 32) = k by omega] at ht
  unfold expand
  rw [ht, List.take_append_of_le_length (by rw [stream_len]; omega)]
/-- P2.9 -/
theorem expand_begins (seed : List UInt8) (m n : Nat) (h : m ≤ n) : (expand seed n).take m = expand seed m := by
  unfold expand
  rw [List.take_take, Nat.min_eq_left h]
  exact expand_any seed m _ (by omega)
theorem enc_zero : Wm.enc 0 = [0] := by decide
/-- The first bytes are those of the first call. -/
theorem expand_first (seed : List UInt8) (m : Nat) : (expand seed m).take (min m 32) = (hmac seed [0]).take (min m 32) := by
  rcases Nat.eq_zero_or_pos m with rfl | hm
  · simp
  · rw [expand_begins seed _ _ (Nat.min_le_left _ _), ← expand_any seed (min m 32) 1 (by omega)]
    show (([] ++ hmac seed (Wm.enc (0 : Nat))).take _) = _
    rw [List.nil_append, show ((0 : Nat) : Int) = 0 from rfl, enc_zero]
/-- P2.7: zero bytes at the end of a short key. -/
theorem block_zeros (key : List UInt8) (n : Nat) (h : key.length + n ≤ 64) : block (key ++ List.replicate n 0) = block key := by
  unfold block
  simp only
  rw [if_neg (by rw [List.length_append, List.length_replicate]; omega), if_neg (by omega), List.length_append, List.length_replicate, List.append_assoc, List.replicate_append_replicate]
  congr 2
  omega
/-- P2.7: a long key. -/
theorem block_long (key : List UInt8) (h : 64 < key.length) : block (sum key) = block key := by
  unfold block
  simp only
  rw [if_neg (by rw [sum_len]; omega), if_pos h]
theorem hmac_zeros (key msg : List UInt8) (n : Nat) (h : key.length + n ≤ 64) : hmac (key ++ List.replicate n 0) msg = hmac key msg := by unfold hmac; rw [block_zeros key n h]
theorem hmac_long (key msg : List UInt8) (h : 64 < key.length) : hmac (sum key) msg = hmac key msg := by unfold hmac; rw [block_long key h]
/-- P2.6: different parts, different messages. -/
theorem message_inj : ∀ {a b : List (List UInt8)} (_ : ∀ s ∈ a, s.length ≤ 9223372036854775807) (_ : ∀ s ∈ b, s.length ≤ 9223372036854775807), message a = message b → a = b
  | [], [], _, _, _ => rfl
  | [], s :: b, _, _, h => by
    have := congrArg List.length h
    unfold message at this
    rw [List.flatMap_cons, List.length_append, List.flatMap_nil, List.length_nil] at this
    have h2 := Wm.enc_pos s.length
    unfold Wm.encBytes at this
    rw [List.length_append] at this
    omega
  | s :: a, [], _, _, h => by
    have := congrArg List.length h
    unfold message at this
    rw [List.flatMap_cons, List.length_append, List.flatMap_nil, List.length_nil] at this
    have h2 := Wm.enc_pos s.length
    unfold Wm.encBytes at this
    rw [List.length_append] at this
    omega
  | s :: a, t :: b, ha, hb, h => by
    unfold message at h
    rw [List.flatMap_cons, List.flatMap_cons] at h
    have g1 := Wm.getBytes_enc s (a.flatMap Wm.encBytes) (ha s (by simp))
    have g2 := Wm.getBytes_enc t (b.flatMap Wm.encBytes) (hb t (by simp))
    rw [h, g2] at g1
    injection g1 with e1 _
    subst e1
    rw [message_inj (fun y hy => ha y (by simp [hy])) (fun y hy => hb y (by simp [hy])) (List.append_cancel_left h)]
theorem input_inj {p q : Nat} (hp : p < 256) (hq : q < 256) {a b : List (List UInt8)} (ha : ∀ s ∈ a, s.length ≤ 9223372036854775807) (hb : ∀ s ∈ b, s.length ≤ 9223372036854775807) (h : input p a = input q b) : p = q ∧ a = b := by
  unfold input at h
  injection h with h1 h2
  refine ⟨?_, message_inj ha hb h2⟩
  have := congrArg UInt8.toNat h1
  rw [show ((p : Int) % 256).toNat = p by omega, show ((q : Int) % 256).toNat = q by omega, Wm.toNat_ofNat hp, Wm.toNat_ofNat hq] at this
  exact this

set_option maxRecDepth 100000 in
theorem hmac_jefe : (hmac [74, 101, 102, 101] [119, 104, 97, 116, 32, 100, 111, 32, 121, 97, 32, 119, 97, 110, 116, 32, 102, 111, 114, 32, 110, 111, 116, 104, 105, 110, 103, 63]).map UInt8.toNat =
    [0x5b, 0xdc, 0xc1, 0x46, 0xbf, 0x60, 0x75, 0x4e, 0x6a, 0x04, 0x24, 0x26, 0x08, 0x95, 0x75, 0xc7, 0x5a, 0x00, 0x3f, 0x08, 0x9d, 0x27, 0x39, 0x83, 0x9d, 0xec, 0x58, 0xb9, 0x64, 0xec, 0x38, 0x43] := by decide +kernel
end Go.Proofs.YtedhjjlnionckaaDoor.Sha
