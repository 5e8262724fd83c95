/-
  How OnesCount64 counts: by pairs, by fours, by bytes (numbers alone); bits.OnesCount (as for stages 3 and 7: the same text, standing alone). (For stage 12.). Stage 12 (risk): which of two sets comes first: before. Stage 12 (risk): Least. Stage 12 (risk): Lost. Stage 12 (risk): Compare.
-/
import Derived.Test.YtgajlgnniidgmaaDoorVet
import Derived.Laws.Bits64b
namespace Go.Proofs.YtgajlgnniidgmaaDoor
namespace Pop
/-- The number that bytes make, the least one first. -/
def val : List Nat → Nat
  | [] => 0
  | b :: bs => b + 256 * val bs
theorem and_split (a b c d : Nat) (hb : b < 256) (hd : d < 256) : (b + 256 * a) &&& (d + 256 * c) = (b &&& d) + 256 * (a &&& c) := by
  have e : ∀ x y : Nat, x < 256 → x + 256 * y = 2 ^ 8 * y + x := fun x y _ => by omega
  have hbd : b &&& d < 256 := Nat.lt_of_le_of_lt Nat.and_le_left hb
  rw [e b a hb, e d c hd, e _ _ hbd]
  apply Nat.eq_of_testBit_eq
  intro i
  rw [Nat.testBit_and, Nat.testBit_two_pow_mul_add _ hb, Nat.testBit_two_pow_mul_add _ hd, Nat.testBit_two_pow_mul_add _ hbd, Nat.testBit_and, Nat.testBit_and]
  split <;> rfl
theorem and_val (m : Nat) (hm : m < 256) : ∀ (bs : List Nat), (∀ b ∈ bs, b < 256) → val bs &&& val (List.replicate bs.length m) = val (bs.map (· &&& m))
  | [], _ => by simp [val]
  | b :: bs, h => by
    rw [List.length_cons, List.replicate_succ, List.map_cons]
    simp only [val]
    rw [and_split _ _ _ _ (h b (by simp)) hm, and_val m hm bs fun x hx => h x (by simp [hx])]
theorem div_val (q : Nat) (hq : 256 % q = 0) (hq0 : 0 < q) : ∀ (bs : List Nat), (∀ b ∈ bs, b % q = 0) → val bs / q = val (bs.map (· / q)) ∧ val bs % q = 0
  | [], _ => by simp [val]
  | b :: bs, h => by
    have ih := div_val q hq hq0 bs fun x hx => h x (by simp [hx])
    have hb := h b (by simp)
    simp only [val, List.map_cons]
    obtain ⟨k, hk⟩ := Nat.dvd_of_mod_eq_zero hq
    obtain ⟨x, hx⟩ := Nat.dvd_of_mod_eq_zero hb
    obtain ⟨y, hy⟩ := Nat.dvd_of_mod_eq_zero ih.2
    rw [← ih.1, hx, hy, Nat.mul_div_cancel_left _ hq0, Nat.mul_div_cancel_left _ hq0]
    rw [show q * x + 256 * (q * y) = q * (x + 256 * y) by rw [Nat.mul_add]; congr 1; rw [← Nat.mul_assoc, ← Nat.mul_assoc, Nat.mul_comm 256 q], Nat.mul_div_cancel_left _ hq0]
    exact ⟨rfl, Nat.mul_mod_right _ _⟩
theorem add_val : ∀ (bs cs : List Nat), bs.length = cs.length → val bs + val cs = val (List.zipWith (· + ·) bs cs)
  | [], [], _ => rfl
  | b :: bs, c :: cs, h => by
    have := add_val bs cs (by simpa using h)
    simp only [val, List.zipWith_cons_cons]
    omega
theorem val_lt : ∀ (bs : List Nat), (∀ b ∈ bs, b < 256) → val bs < 256 ^ bs.length
  | [], _ => by simp [val]
  | b :: bs, h => by
    have := val_lt bs fun x hx => h x (by simp [hx])
    have := h b (by simp)
    simp only [val, List.length_cons, Nat.pow_succ]
    omega
/-- How many ones a byte has. -/
def pc (b : Nat) : Nat := b % 2 + b / 2 % 2 + b / 4 % 2 + b / 8 % 2 + b / 16 % 2 + b / 32 % 2 + b / 64 % 2 + b / 128 % 2
theorem step12 : ∀ b, b < 256 → ((b &&& 170) / 2 + (b &&& 85) < 256) ∧ (((((b &&& 170) / 2 + (b &&& 85)) &&& 204) / 4 + (((b &&& 170) / 2 + (b &&& 85)) &&& 51)) % 16 + ((((b &&& 170) / 2 + (b &&& 85)) &&& 204) / 4 + (((b &&& 170) / 2 + (b &&& 85)) &&& 51)) / 16 = pc b) ∧ ((((b &&& 170) / 2 + (b &&& 85)) &&& 204) / 4 + (((b &&& 170) / 2 + (b &&& 85)) &&& 51)) ≤ 68 ∧ ((((b &&& 170) / 2 + (b &&& 85)) &&& 204) / 4 + (((b &&& 170) / 2 + (b &&& 85)) &&& 51)) % 16 ≤ 4
    ∧ (b &&& 170) % 2 = 0 ∧ (((b &&& 170) / 2 + (b &&& 85)) &&& 204) % 4 = 0 := by decide +kernel
/-- Ones of a number. -/
def ones : Nat → Nat → Nat
  | 0, _ => 0
  | f + 1, n => n % 2 + ones f (n / 2)
theorem ones_byte (f b q : Nat) (hb : b < 256) : ones (f + 8) (b + 256 * q) = pc b + ones f q := by
  simp only [ones]
  have h8 : (b + 256 * q) / 2 / 2 / 2 / 2 / 2 / 2 / 2 / 2 = q := by omega
  rw [h8]
  unfold pc
  omega
theorem and_shift (x m k : Nat) : (x / 2 ^ k) &&& m = (x &&& (m * 2 ^ k)) / 2 ^ k := by
  apply Nat.eq_of_testBit_eq
  intro i
  rw [Nat.testBit_and, Nat.testBit_div_two_pow, Nat.testBit_div_two_pow, Nat.testBit_and, Nat.testBit_mul_two_pow]
  simp
theorem bytes_of : ∀ (n x : Nat), x < 256 ^ n → ∃ bs, bs.length = n ∧ (∀ b ∈ bs, b < 256) ∧ x = val bs
  | 0, x, h => ⟨[], rfl, by simp, by simp [val]; omega⟩
  | n + 1, x, h => by
    obtain ⟨bs, h1, h2, h3⟩ := bytes_of n (x / 256) (by rw [Nat.pow_succ] at h; omega)
    exact ⟨x % 256 :: bs, by simp [h1], fun b hb => by rcases List.mem_cons.1 hb with rfl | hb; exact Nat.mod_lt _ (by decide); exact h2 b hb, by simp only [val]; omega⟩
/-- A byte, its ones counted by pairs, by fours. -/
def s1 (b : Nat) : Nat := (b &&& 170) / 2 + (b &&& 85)
def s2 (b : Nat) : Nat := (s1 b &&& 204) / 4 + (s1 b &&& 51)
theorem step (b : Nat) (h : b < 256) : s1 b < 256 ∧ s2 b % 16 + s2 b / 16 = pc b ∧ s2 b ≤ 68 ∧ s2 b % 16 ≤ 4 ∧ (b &&& 170) % 2 = 0 ∧ (s1 b &&& 204) % 4 = 0 := step12 b h
theorem zip_map (f g h : Nat → Nat) : ∀ (bs : List Nat), (∀ b, f b + g b = h b) → List.zipWith (· + ·) (bs.map f) (bs.map g) = bs.map h
  | [], _ => rfl
  | b :: bs, e => by simp only [List.map_cons, List.zipWith_cons_cons, e b, zip_map f g h bs e]
theorem pairs (m q k : Nat) (f : Nat → Nat) (hq : q = 2 ^ k) (hqq : 256 % q = 0) (hm : m * q < 256) (hm1 : m < 256) (hf : ∀ b, (b &&& (m * q)) / q + (b &&& m) = f b) (bs : List Nat) (hb : ∀ b ∈ bs, b < 256) (hz : ∀ b ∈ bs, (b &&& (m * q)) % q = 0) (M : Nat) (hM : M = val (List.replicate bs.length m)) (hMq : M * q = val (List.replicate bs.length (m * q))) :
    ((val bs / q) &&& M) + (val bs &&& M) = val (bs.map f) := by
  have hq0 : 0 < q := by rw [hq]; exact Nat.two_pow_pos _
  have h1 : (val bs / q) &&& M = (val bs &&& (M * q)) / q := by rw [hq]; exact and_shift _ _ _
  rw [h1, hMq, and_val _ hm bs hb, hM, and_val _ hm1 bs hb, (div_val q hqq hq0 _ (by intro b hb'; obtain ⟨a, ha, rfl⟩ := List.mem_map.1 hb'; exact hz a ha)).1, add_val _ _ (by simp), List.map_map]
  congr 1
  exact zip_map _ _ _ bs hf
set_option maxHeartbeats 2000000 in
theorem swar (x : Nat) (hx : x < 18446744073709551616) (y1 y2 y3 y4 y5 y6 : Nat) (h1 : y1 = ((x / 2) &&& 6148914691236517205) + (x &&& 6148914691236517205)) (h2 : y2 = ((y1 / 4) &&& 3689348814741910323) + (y1 &&& 3689348814741910323)) (h3 : y3 = (y2 / 16 + y2) &&& 1085102592571150095)
    (h4 : y4 = y3 + y3 / 256) (h5 : y5 = y4 + y4 / 65536) (h6 : y6 = y5 + y5 / 4294967296) : y6 % 128 = ones 64 x ∧ y1 < 18446744073709551616 ∧ y2 < 18446744073709551616 ∧ y2 / 16 + y2 < 18446744073709551616 ∧ y4 < 18446744073709551616 ∧ y5 < 18446744073709551616 ∧ y6 < 9223372036854775808 := by
  obtain ⟨bs, hl, hb, rfl⟩ := bytes_of 8 x hx
  have e1 : y1 = val (bs.map s1) := by
    rw [h1]
    exact pairs 85 2 1 s1 rfl (by decide) (by decide) (by decide) (fun b => rfl) bs hb (fun b h => (step b (hb b h)).2.2.2.2.1) _ (by rw [hl]; decide) (by rw [hl]; decide)
  have e2 : y2 = val (bs.map s2) := by
    rw [h2, e1]
    have h := pairs 51 4 2 (fun c => (c &&& 204) / 4 + (c &&& 51)) rfl (by decide) (by decide) (by decide) (fun b => rfl) (bs.map s1) (by intro c hc; obtain ⟨b, hb', rfl⟩ := List.mem_map.1 hc; exact (step b (hb b hb')).1) (by intro c hc; obtain ⟨b, hb', rfl⟩ := List.mem_map.1 hc; exact (step b (hb b hb')).2.2.2.2.2) 3689348814741910323 (by rw [List.length_map, hl]; decide) (by rw [List.length_map, hl]; decide)
    rw [List.map_map] at h
    exact h
  match bs, hl with
  | [b0, b1, b2, b3, b4, b5, b6, b7], _ =>
    have i0 := step b0 (hb b0 (by simp))
    have i1 := step b1 (hb b1 (by simp))
    have i2 := step b2 (hb b2 (by simp))
    have i3 := step b3 (hb b3 (by simp))
    have i4 := step b4 (hb b4 (by simp))
    have i5 := step b5 (hb b5 (by simp))
    have i6 := step b6 (hb b6 (by simp))
    have i7 := step b7 (hb b7 (by simp))
    have ho : ones 64 (val [b0, b1, b2, b3, b4, b5, b6, b7]) = pc b0 + (pc b1 + (pc b2 + (pc b3 + (pc b4 + (pc b5 + (pc b6 + pc b7)))))) := by
      simp only [val]
      rw [ones_byte 56 _ _ (hb b0 (by simp)), ones_byte 48 _ _ (hb b1 (by simp)), ones_byte 40 _ _ (hb b2 (by simp)), ones_byte 32 _ _ (hb b3 (by simp)), ones_byte 24 _ _ (hb b4 (by simp)), ones_byte 16 _ _ (hb b5 (by simp)), ones_byte 8 _ _ (hb b6 (by simp)), ones_byte 0 _ _ (hb b7 (by simp))]
      rfl
    rw [ho, ← i0.2.1, ← i1.2.1, ← i2.2.1, ← i3.2.1, ← i4.2.1, ← i5.2.1, ← i6.2.1, ← i7.2.1]
    simp only [List.map_cons, List.map_nil] at e1 e2
    have l1 : y1 < 18446744073709551616 := by
      rw [e1]
      refine Nat.lt_of_lt_of_le (val_lt _ (by
        intro b hb
        simp only [List.mem_cons, List.not_mem_nil, or_false] at hb
        rcases hb with rfl | rfl | rfl | rfl | rfl | rfl | rfl | rfl
        · exact i0.1
        · exact i1.1
        · exact i2.1
        · exact i3.1
        · exact i4.1
        · exact i5.1
        · exact i6.1
        · exact i7.1)) (by simp only [List.length_cons, List.length_nil]; decide)
    generalize s2 b0 = c0 at *
    generalize s2 b1 = c1 at *
    generalize s2 b2 = c2 at *
    generalize s2 b3 = c3 at *
    generalize s2 b4 = c4 at *
    generalize s2 b5 = c5 at *
    generalize s2 b6 = c6 at *
    generalize s2 b7 = c7 at *
    have j0 := i0.2.2; have j1 := i1.2.2; have j2 := i2.2.2; have j3 := i3.2.2; have j4 := i4.2.2; have j5 := i5.2.2; have j6 := i6.2.2; have j7 := i7.2.2
    clear i0 i1 i2 i3 i4 i5 i6 i7 ho h1 h2 hb
    have e3 : y2 / 16 + y2 = val [c0 / 16 + 16 * (c1 % 16) + c0, c1 / 16 + 16 * (c2 % 16) + c1, c2 / 16 + 16 * (c3 % 16) + c2, c3 / 16 + 16 * (c4 % 16) + c3, c4 / 16 + 16 * (c5 % 16) + c4, c5 / 16 + 16 * (c6 % 16) + c5, c6 / 16 + 16 * (c7 % 16) + c6, c7 / 16 + c7] := by
      rw [e2]; simp only [val]; omega
    have e4 : y3 = val [c0 / 16 + c0 % 16, c1 / 16 + c1 % 16, c2 / 16 + c2 % 16, c3 / 16 + c3 % 16, c4 / 16 + c4 % 16, c5 / 16 + c5 % 16, c6 / 16 + c6 % 16, c7 / 16 + c7 % 16] := by
      rw [h3, e3]
      have h := and_val 15 (by decide) [c0 / 16 + 16 * (c1 % 16) + c0, c1 / 16 + 16 * (c2 % 16) + c1, c2 / 16 + 16 * (c3 % 16) + c2, c3 / 16 + 16 * (c4 % 16) + c3, c4 / 16 + 16 * (c5 % 16) + c4, c5 / 16 + 16 * (c6 % 16) + c5, c6 / 16 + 16 * (c7 % 16) + c6, c7 / 16 + c7] (by
        intro b hb
        simp only [List.mem_cons, List.not_mem_nil, or_false] at hb
        rcases hb with rfl | rfl | rfl | rfl | rfl | rfl | rfl | rfl <;> omega)
      have hm : val (List.replicate 8 15) = 1085102592571150095 := by decide
      simp only [List.length_cons, List.length_nil] at h
      rw [hm] at h
      rw [h]
      have a15 : ∀ z, z &&& 15 = z % 16 := fun z => Nat.and_two_pow_sub_one_eq_mod z 4
      simp only [List.map_cons, List.map_nil, a15]
      congr 1
      have hh : ∀ c d, c ≤ 68 ∧ c % 16 ≤ 4 ∧ d → (c / 16 + c) % 16 = c / 16 + c % 16 := fun c d h => by omega
      have hk : ∀ c d e, c ≤ 68 ∧ c % 16 ≤ 4 ∧ e → (c / 16 + 16 * d + c) % 16 = c / 16 + c % 16 := fun c d e h => by omega
      rw [hk c0 _ _ j0, hk c1 _ _ j1, hk c2 _ _ j2, hk c3 _ _ j3, hk c4 _ _ j4, hk c5 _ _ j5, hk c6 _ _ j6, hh c7 _ j7]
    have k0 : c0 / 16 + c0 % 16 ≤ 8 := by omega
    have k1 : c1 / 16 + c1 % 16 ≤ 8 := by omega
    have k2 : c2 / 16 + c2 % 16 ≤ 8 := by omega
    have k3 : c3 / 16 + c3 % 16 ≤ 8 := by omega
    have k4 : c4 / 16 + c4 % 16 ≤ 8 := by omega
    have k5 : c5 / 16 + c5 % 16 ≤ 8 := by omega
    have k6 : c6 / 16 + c6 % 16 ≤ 8 := by omega
    have k7 : c7 / 16 + c7 % 16 ≤ 8 := by omega
    have l3 : y2 / 16 + y2 < 18446744073709551616 := by rw [e3]; simp only [val]; omega
    have l2 : y2 < 18446744073709551616 := by omega
    have n0 : c0 % 16 + c0 / 16 = c0 / 16 + c0 % 16 := Nat.add_comm _ _
    have n1 : c1 % 16 + c1 / 16 = c1 / 16 + c1 % 16 := Nat.add_comm _ _
    have n2 : c2 % 16 + c2 / 16 = c2 / 16 + c2 % 16 := Nat.add_comm _ _
    have n3 : c3 % 16 + c3 / 16 = c3 / 16 + c3 % 16 := Nat.add_comm _ _
    have n4 : c4 % 16 + c4 / 16 = c4 / 16 + c4 % 16 := Nat.add_comm _ _
    have n5 : c5 % 16 + c5 / 16 = c5 / 16 + c5 % 16 := Nat.add_comm _ _
    have n6 : c6 % 16 + c6 / 16 = c6 / 16 + c6 % 16 := Nat.add_comm _ _
    have n7 : c7 % 16 + c7 / 16 = c7 / 16 + c7 % 16 := Nat.add_comm _ _
    rw [n0, n1, n2, n3, n4, n5, n6, n7]
    generalize c0 / 16 + c0 % 16 = d0 at *
    generalize c1 / 16 + c1 % 16 = d1 at *
    generalize c2 / 16 + c2 % 16 = d2 at *
    generalize c3 / 16 + c3 % 16 = d3 at *
    generalize c4 / 16 + c4 % 16 = d4 at *
    generalize c5 / 16 + c5 % 16 = d5 at *
    generalize c6 / 16 + c6 % 16 = d6 at *
    generalize c7 / 16 + c7 % 16 = d7 at *
    clear e1 e2 e3 h3 j0 j1 j2 j3 j4 j5 j6 j7 n0 n1 n2 n3 n4 n5 n6 n7
    simp only [val] at e4
    have f3 : y3 / 256 = d1 + 256 * (d2 + 256 * (d3 + 256 * (d4 + 256 * (d5 + 256 * (d6 + 256 * d7))))) := by omega
    have f4 : y4 = (d0 + d1) + 256 * ((d1 + d2) + 256 * ((d2 + d3) + 256 * ((d3 + d4) + 256 * ((d4 + d5) + 256 * ((d5 + d6) + 256 * ((d6 + d7) + 256 * d7)))))) := by omega
    have f5 : y4 / 65536 = (d2 + d3) + 256 * ((d3 + d4) + 256 * ((d4 + d5) + 256 * ((d5 + d6) + 256 * ((d6 + d7) + 256 * d7)))) := by omega
    have f6 : y5 / 4294967296 = (d4 + d5 + d6 + d7) + 256 * ((d5 + d6 + d7) + 256 * ((d6 + d7) + 256 * d7)) := by omega
    refine ⟨?_, l1, l2, l3, by omega, by omega, by omega⟩
    omega
end Pop
end Go.Proofs.YtgajlgnniidgmaaDoor

namespace Go.Proofs.YtgajlgnniidgmaaDoor
set_option linter.unusedVariables false
set_option linter.unusedSimpArgs false
open Go.RowKit

theorem i64_and7 (a b : Nat) (ha : a < 9223372036854775808) (hb : b < 9223372036854775808) : bits BinOp.and IntKind.i64 (a : Int) (b : Int) = ((a &&& b : Nat) : Int) := by
  have hx : a &&& b < 9223372036854775808 := Nat.lt_of_le_of_lt Nat.and_le_left ha
  have h1 : (BitVec.ofInt 64 (a : Int)).toNat = a := by
    rw [BitVec.ofInt_natCast, BitVec.toNat_ofNat]; exact Nat.mod_eq_of_lt (by omega)
  have h2 : (BitVec.ofInt 64 (b : Int)).toNat = b := by
    rw [BitVec.ofInt_natCast, BitVec.toNat_ofNat]; exact Nat.mod_eq_of_lt (by omega)
  show IntKind.i64.wrap ((BitVec.ofInt 64 (a : Int) &&& BitVec.ofInt 64 (b : Int)).toNat : Int) = _
  rw [BitVec.toNat_and, h1, h2, IntKind.wrap_i64]
  omega

set_option maxRecDepth 100000 in
set_option maxHeartbeats 2000000 in
theorem onesCount64_any (x : Nat) (hx : x < 18446744073709551616) (w : World) :
    Calls Tryd.prog 73 #[.int .u64 x] w fun e w' => e = .returned (.int .i64 (Pop.ones 64 x)) ∧ w' = w := by
  obtain ⟨y1, h1⟩ : ∃ y, y = ((x / 2) &&& 6148914691236517205) + (x &&& 6148914691236517205) := ⟨_, rfl⟩
  obtain ⟨y2, h2⟩ : ∃ y, y = ((y1 / 4) &&& 3689348814741910323) + (y1 &&& 3689348814741910323) := ⟨_, rfl⟩
  obtain ⟨y3, h3⟩ : ∃ y, y = (y2 / 16 + y2) &&& 1085102592571150095 := ⟨_, rfl⟩
  obtain ⟨y4, h4⟩ : ∃ y, y = y3 + y3 / 256 := ⟨_, rfl⟩
  obtain ⟨y5, h5⟩ : ∃ y, y = y4 + y4 / 65536 := ⟨_, rfl⟩
  obtain ⟨y6, h6⟩ : ∃ y, y = y5 + y5 / 4294967296 := ⟨_, rfl⟩
  obtain ⟨hr, l1, l2, l3, l4, l5, l6⟩ := Pop.swar x hx y1 y2 y3 y4 y5 y6 h1 h2 h3 h4 h5 h6
  have hr' := Lib.hid hr
  have hones : Hid (y6 % 128 = Pop.ones 64 x) := hr
  clear hr hr'
  generalize Pop.ones 64 x = r at hones ⊢
  have k1 : IntKind.u64.wrap (bits BinOp.and IntKind.u64 ((x : Int) / 2) 6148914691236517205 + bits BinOp.and IntKind.u64 (x : Int) 6148914691236517205) = (y1 : Int) := by
    rw [show (x : Int) / 2 = ((x / 2 : Nat) : Int) by omega, show (6148914691236517205 : Int) = ((6148914691236517205 : Nat) : Int) from rfl, bits_and_u64_nat _ _ (by omega) (by omega), bits_and_u64_nat _ _ hx (by omega), IntKind.wrap_u64]
    omega
  have k2 : IntKind.u64.wrap (bits BinOp.and IntKind.u64 ((y1 : Int) / 4) 3689348814741910323 + bits BinOp.and IntKind.u64 (y1 : Int) 3689348814741910323) = (y2 : Int) := by
    rw [show (y1 : Int) / 4 = ((y1 / 4 : Nat) : Int) by omega, show (3689348814741910323 : Int) = ((3689348814741910323 : Nat) : Int) from rfl, bits_and_u64_nat _ _ (by omega) (by omega), bits_and_u64_nat _ _ l1 (by omega), IntKind.wrap_u64]
    omega
  have k3 : bits BinOp.and IntKind.u64 (IntKind.u64.wrap ((y2 : Int) / 16 + (y2 : Int))) 1085102592571150095 = (y3 : Int) := by
    rw [show IntKind.u64.wrap ((y2 : Int) / 16 + (y2 : Int)) = ((y2 / 16 + y2 : Nat) : Int) by rw [IntKind.wrap_u64]; omega, show (1085102592571150095 : Int) = ((1085102592571150095 : Nat) : Int) from rfl, bits_and_u64_nat _ _ l3 (by omega), h3]
  have k4 : IntKind.u64.wrap ((y3 : Int) + (y3 : Int) / 256) = (y4 : Int) := by rw [IntKind.wrap_u64]; omega
  have k5 : IntKind.u64.wrap ((y4 : Int) + (y4 : Int) / 65536) = (y5 : Int) := by rw [IntKind.wrap_u64]; omega
  have k6 : IntKind.u64.wrap ((y5 : Int) + (y5 : Int) / 4294967296) = (y6 : Int) := by rw [IntKind.wrap_u64]; omega
  clear h1 h2 h3 h4 h5 h6 l1 l2 l3 l4 l5 hx
  go_enter Tryd.func73, Tryd.ntmps73
  go_wp2_with (first | simp only [k1] | simp only [k2] | simp only [k3] | simp only [k4] | simp only [k5] | simp only [k6])
  go_ret
  refine ⟨?_, rfl⟩
  rw [← hones.out]
  show Ending.returned (Value.int IntKind.i64 (bits BinOp.and IntKind.i64 (y6 : Int) 127)) = _
  rw [show (127 : Int) = ((127 : Nat) : Int) from rfl, i64_and7 _ _ l6 (by omega), Nat.and_two_pow_sub_one_eq_mod y6 7]
theorem onesCount_any (x : Nat) (hx : x < 18446744073709551616) (w : World) :
    Calls Tryd.prog 53 #[.int .u64 x] w fun e w' => e = .returned (.int .i64 (Pop.ones 64 x)) ∧ w' = w := by
  have H := Lib.hid (onesCount64_any x hx w)
  generalize Pop.ones 64 x = r at H ⊢
  go_enter Tryd.func53, Tryd.ntmps53
  go_wp2_with fail
  refine H.out.mono ?_
  rintro e w' ⟨rfl, rfl⟩
  go_wp2_with fail
  go_ret
  exact ⟨rfl, rfl⟩

theorem ones_cnt7 : ∀ (f x : Nat), x < 2 ^ f → Pop.ones f x = cnt7 x
  | 0, x, h => by
    have : x = 0 := by simpa using h
    rw [this, cnt7_zero]; rfl
  | f + 1, x, h => by
    rw [Nat.pow_succ] at h
    rw [Pop.ones, ones_cnt7 f (x / 2) (by omega)]
    rcases Nat.eq_zero_or_pos x with h0 | h0
    · rw [h0, Nat.zero_div, cnt7_zero]
    · rw [cnt7_pos h0]
end Go.Proofs.YtgajlgnniidgmaaDoor

namespace Go.Proofs.YtgajlgnniidgmaaDoor
set_option linter.unusedVariables false
set_option linter.unusedSimpArgs false
open Go.RowKit Go.Maps

/-- Is the lowest bit of d a bit of a? -/
def bfr : Nat → Nat → Nat → Bool
  | 0, _, _ => false
  | m + 1, a, d => if d % 2 = 1 then decide (a % 2 = 1) else bfr m (a / 2) (d / 2)
theorem and_not12 {m e : Nat} (h : e < 2 ^ m) : e &&& (2 ^ m - (e + 1)) = 0 := by
  apply Nat.eq_of_testBit_eq
  intro i
  rw [Nat.testBit_and, Nat.testBit_two_pow_sub_succ h, Nat.zero_testBit]
  cases e.testBit i <;> simp
theorem low_bfr : ∀ (m a d : Nat), d < 2 ^ m → ((a &&& d) &&& (2 ^ m - d) ≠ 0 ↔ bfr m a d = true)
  | 0, a, d, h => by
    have : d = 0 := by simpa using h
    subst this
    simp [bfr]
  | m + 1, a, d, h => by
    have hp : 2 ^ (m + 1) = 2 * 2 ^ m := by rw [Nat.pow_succ, Nat.mul_comm]
    rw [hp] at h ⊢
    have hdiv : ((a &&& d) &&& (2 * 2 ^ m - d)) / 2 = (a / 2 &&& d / 2) &&& ((2 * 2 ^ m - d) / 2) := by rw [Nat.and_div_two, Nat.and_div_two]
    have hmod := Nat.and_mod_two_eq_one (a := a &&& d) (b := 2 * 2 ^ m - d)
    have hmod2 := Nat.and_mod_two_eq_one (a := a) (b := d)
    rw [bfr]
    by_cases ho : d % 2 = 1
    · rw [if_pos ho, decide_eq_true_eq]
      have hz : ((a &&& d) &&& (2 * 2 ^ m - d)) / 2 = 0 := by
        rw [hdiv, show (2 * 2 ^ m - d) / 2 = 2 ^ m - (d / 2 + 1) by omega, Nat.and_assoc, and_not12 (by omega), Nat.and_zero]
      constructor
      · intro hh
        have : ((a &&& d) &&& (2 * 2 ^ m - d)) % 2 = 1 := by omega
        exact (hmod2.1 (hmod.1 this).1).1
      · intro hh hc
        have := hmod.2 ⟨hmod2.2 ⟨hh, ho⟩, by omega⟩
        omega
    · rw [if_neg ho, ← low_bfr m (a / 2) (d / 2) (by omega)]
      rw [show (2 * 2 ^ m - d) / 2 = 2 ^ m - d / 2 by omega] at hdiv
      rw [← hdiv]
      have : ¬ ((a &&& d) &&& (2 * 2 ^ m - d)) % 2 = 1 := fun hh => ho (hmod2.1 (hmod.1 hh).1).2
      omega
theorem i64_xor12 {a b : Nat} (ha : a < 4096) (hb : b < 4096) : bits BinOp.xor IntKind.i64 (a : Int) (b : Int) = ((a ^^^ b : Nat) : Int) ∧ a ^^^ b < 4096 := by
  have hx : a ^^^ b < 2 ^ 12 := Nat.xor_lt_two_pow ha hb
  have h1 : (BitVec.ofInt 64 (a : Int)).toNat = a := by rw [BitVec.ofInt_natCast, BitVec.toNat_ofNat]; exact Nat.mod_eq_of_lt (by omega)
  have h2 : (BitVec.ofInt 64 (b : Int)).toNat = b := by rw [BitVec.ofInt_natCast, BitVec.toNat_ofNat]; exact Nat.mod_eq_of_lt (by omega)
  refine ⟨?_, hx⟩
  show IntKind.i64.wrap ((BitVec.ofInt 64 (a : Int) ^^^ BitVec.ofInt 64 (b : Int)).toNat : Int) = _
  rw [BitVec.toNat_xor, h1, h2, IntKind.wrap_i64]
  omega
theorem i64_low12 {a d : Nat} (ha : a < 4096) (hd : d < 4096) : bits BinOp.and IntKind.i64 (bits BinOp.and IntKind.i64 (a : Int) (d : Int)) (-(d : Int)) = (((a &&& d) &&& (2 ^ 64 - d) : Nat) : Int) := by
  rw [i64_and7 _ _ (by omega) (by omega)]
  have hx : a &&& d < 4096 := Nat.lt_of_le_of_lt Nat.and_le_left ha
  have hz : d = 0 → a &&& d = 0 := fun h => by rw [h, Nat.and_zero]
  generalize a &&& d = x at *
  have h1 : (BitVec.ofInt 64 (x : Int)).toNat = x := by rw [BitVec.ofInt_natCast, BitVec.toNat_ofNat]; exact Nat.mod_eq_of_lt (by omega)
  have h2 : (BitVec.ofInt 64 (-(d : Int))).toNat = (2 ^ 64 - d) % 2 ^ 64 := by rw [BitVec.toNat_ofInt]; omega
  have hy : x &&& (2 ^ 64 - d) < 4096 := Nat.lt_of_le_of_lt Nat.and_le_left hx
  show IntKind.i64.wrap ((BitVec.ofInt 64 (x : Int) &&& BitVec.ofInt 64 (-(d : Int))).toNat : Int) = _
  rw [BitVec.toNat_and, h1, h2]
  by_cases h0 : d = 0
  · rw [hz h0, Nat.zero_and, Nat.zero_and]; rfl
  · rw [Nat.mod_eq_of_lt (by omega), IntKind.wrap_i64]
    omega
/-- Does a come before b? -/
def befB (a b : Nat) : Bool := if cnt7 a = cnt7 b then bfr 64 a (a ^^^ b) else decide (cnt7 a < cnt7 b)
set_option maxRecDepth 100000 in
set_option maxHeartbeats 2000000 in
theorem before_any (a b : Nat) (w : World) (ha : a < 4096) (hb : b < 4096) : Calls Tryd.prog 33 #[.int .i64 a, .int .i64 b] w fun e w' => e = .returned (.bool (befB a b)) ∧ w' = w := by
  have C1 := onesCount_any a (by omega) w
  have C2 := onesCount_any b (by omega) w
  rw [ones_cnt7 64 a (by omega)] at C1
  rw [ones_cnt7 64 b (by omega)] at C2
  obtain ⟨x1, x2⟩ := i64_xor12 ha hb
  have L := i64_low12 ha x2
  have B := low_bfr 64 a (a ^^^ b) (by omega)
  have hl : (a &&& (a ^^^ b)) &&& (2 ^ 64 - (a ^^^ b)) < 4096 := Nat.lt_of_le_of_lt Nat.and_le_left (Nat.lt_of_le_of_lt Nat.and_le_left ha)
  obtain ⟨R, hR⟩ : ∃ r, r = befB a b := ⟨_, rfl⟩
  rw [← hR]
  unfold befB at hR
  generalize (a &&& (a ^^^ b)) &&& (2 ^ 64 - (a ^^^ b)) = q at *
  generalize a ^^^ b = d at *
  generalize bfr 64 a d = z at *
  have c1 : cnt7 a ≤ a := cnt7_le a a (Nat.le_refl _)
  have c2 : cnt7 b ≤ b := cnt7_le b b (Nat.le_refl _)
  generalize cnt7 a = n at *
  generalize cnt7 b = m at *
  have C3 := cmp12_any n m w
  by_cases h : n = m
  · subst h
    rw [if_pos rfl] at hR
    subst hR
    have e0 : cmpI n n = 0 := by unfold cmpI; rw [if_neg (by omega), if_neg (by omega)]
    rw [e0] at C3
    have fd : IntKind.i64.wrap (-(d : Int)) = -(d : Int) := by rw [IntKind.wrap_i64]; omega
    have hq : Hid ((!((q : Int) == 0)) = R) := by
      show (!((q : Int) == 0)) = R
      cases R with
      | true => have := B.2 rfl; simp only [Bool.not_eq_true', beq_eq_false_iff_ne, ne_eq]; omega
      | false =>
        have : q = 0 := by
          by_cases hq0 : q = 0
          · exact hq0
          · have := B.1 hq0; cases this
        rw [this]; rfl
    clear B
    go_enter Tryd.func33, Tryd.ntmps33
    go_wp2_with fail
    refine C1.mono ?_
    rintro e v ⟨rfl, rfl⟩
    go_wp2_with fail
    refine C2.mono ?_
    rintro e v ⟨rfl, rfl⟩
    go_wp2_with fail
    refine C3.mono ?_
    rintro e v ⟨rfl, rfl⟩
    go_wp2_with fail
    go_ret
    refine ⟨?_, rfl⟩
    rw [← hq.out]
    first | rfl | (show Ending.returned (.bool _) = _; rw [x1, L])
  · rw [if_neg h] at hR
    clear B L x1 x2 hl
    by_cases hlt : n < m
    · have hz : Hid (R = true) := by show R = true; rw [hR]; exact decide_eq_true hlt
      have e0 : cmpI n m = -1 := by unfold cmpI; rw [if_pos (by omega)]
      rw [e0] at C3
      clear hR
      go_enter Tryd.func33, Tryd.ntmps33
      go_wp2_with fail
      refine C1.mono ?_
      rintro e v ⟨rfl, rfl⟩
      go_wp2_with fail
      refine C2.mono ?_
      rintro e v ⟨rfl, rfl⟩
      go_wp2_with fail
      refine C3.mono ?_
      rintro e v ⟨rfl, rfl⟩
      go_wp2_with fail
      go_ret
      exact ⟨(by rw [hz.out]; rfl), rfl⟩
    · have hz : Hid (R = false) := by show R = false; rw [hR]; exact decide_eq_false hlt
      have e0 : cmpI n m = 1 := by unfold cmpI; rw [if_neg (by omega), if_pos (by omega)]
      rw [e0] at C3
      clear hR
      go_enter Tryd.func33, Tryd.ntmps33
      go_wp2_with fail
      refine C1.mono ?_
      rintro e v ⟨rfl, rfl⟩
      go_wp2_with fail
      refine C2.mono ?_
      rintro e v ⟨rfl, rfl⟩
      go_wp2_with fail
      refine C3.mono ?_
      rintro e v ⟨rfl, rfl⟩
      go_wp2_with fail
      go_ret
      exact ⟨(by rw [hz.out]; rfl), rfl⟩
end Go.Proofs.YtgajlgnniidgmaaDoor

namespace Go.Proofs.YtgajlgnniidgmaaDoor
set_option linter.unusedVariables false
set_option linter.unusedSimpArgs false
open Go.RowKit Go.Maps

open Classical in
/-- The first of the sets below m that lose the chunk, or all. -/
noncomputable def lsq (p : Prl) (all : Nat) : Nat → Nat
  | 0 => all
  | f + 1 => if befB f (lsq p all f) = true ∧ LosP p f then f else lsq p all f
theorem lsq_lt {p : Prl} {all : Nat} : ∀ m, m ≤ all → lsq p all m ≤ all
  | 0, _ => by rw [lsq]; exact Nat.le_refl _
  | f + 1, h => by
    rw [lsq]
    have := lsq_lt (p := p) (all := all) f (by omega)
    split <;> omega
theorem lsq_yes {p : Prl} {all f : Nat} (h : befB f (lsq p all f) = true) (h2 : LosP p f) : lsq p all (f + 1) = f := by rw [lsq, if_pos ⟨h, h2⟩]
theorem lsq_no {p : Prl} {all f : Nat} (h : ¬ (befB f (lsq p all f) = true ∧ LosP p f)) : lsq p all (f + 1) = lsq p all f := by rw [lsq, if_neg h]
/-- What Least returns for a peril without an error. -/
noncomputable def lstV (p : Prl) : Nat := lsq p (2 ^ p.ch.length - 1) (2 ^ p.ch.length - 1)
set_option maxRecDepth 100000 in
set_option maxHeartbeats 8000000 in
theorem rLeast_any {B : Nat} (p : Prl) (w : World) (hM : PerM w B p) (ht : PTab 2 w) :
    Calls Tryd.prog 15 #[prv p] w fun e w' => e = .returned (.tuple #[.int .i64 (if chkP p = 0 then (lstV p : Int) else 0), .int .i64 (chkP p)]) ∧ Below w.heap.size w w' := by
  rcases p with ⟨D, A, n, c, G, Gs, A1, n1, c1, al, A2, n2, c2, ch⟩
  obtain ⟨q, hq⟩ : ∃ q : Prl, q = ⟨D, A, n, c, G, Gs, A1, n1, c1, al, A2, n2, c2, ch⟩ := ⟨_, rfl⟩
  have hqv : Hid (prv q = .agg #[.int .i64 D, .slice A n c, .int .i64 G, .slice A1 n1 c1, .slice A2 n2 c2]) := by rw [hq]; rfl
  rw [← hq] at hM ⊢
  have hnn : Hid (n2 = q.ch.length) := by show n2 = q.ch.length; rw [hq]; rw [hq] at hM; exact hM.n2
  obtain ⟨W1, hW1⟩ : ∃ W1, W1 = w.alloc (.cells #[.int .i64 D, .slice A n c, .int .i64 G, .slice A1 n1 c1, .slice A2 n2 c2] 27) := ⟨_, rfl⟩
  have E : Hid (Below w.heap.size w W1) := by show Below _ _ _; rw [hW1]; exact (Below.refl _ _).alloc (Nat.le_refl _) _
  have X : Hid (Blk W1 w.heap.size [.int .i64 D, .slice A n c, .int .i64 G, .slice A1 n1 c1, .slice A2 n2 c2] 27) := by show Blk _ _ _ _; rw [hW1]; exact Blk.new _ [_, _, _, _, _] _
  have M := Lib.hid (hM.keep E.out)
  have T := Lib.hid (ht.on E.out)
  have hW' := Lib.hid hW1
  have hsz := Lib.hid size_prl
  have hun : Hid (Tryd.prog.underlying 27 = _) := Tryd.underlying27
  clear hM ht hW1 hq
  rw [hqv.out]
  have CC := Lib.hid (rcheck_any q W1 M.out)
  rw [hqv.out] at CC
  obtain ⟨Z, hZ⟩ : ∃ z, z = chkP q := ⟨_, rfl⟩
  rw [← hZ] at CC ⊢
  have hZ' := Lib.hid hZ
  clear hZ
  obtain ⟨V0, hV0⟩ : ∃ v : Int, v = (if Z = 0 then (lstV q : Int) else 0) := ⟨_, rfl⟩
  rw [← hV0]
  have hV0' := Lib.hid hV0
  clear hV0
  go_enter Tryd.func15, Tryd.ntmps15
  go_wp2_with fail
  generalize hg : w.alloc _ = Wg
  have hgW : W1 = Wg := by rw [← hg, hW'.out]
  clear hg hW'
  subst hgW
  go_wp2_with (first | (refine wpList_blk_load rfl 27 _ rfl 0 rfl X.out [_, _, _, _, _] rfl _ hun.out rfl hsz.out ?_) | fail)
  refine CC.out.mono ?_
  rintro e w2 ⟨rfl, hb⟩
  clear CC
  replace X := Lib.hid (X.out.below hb X.out.lt)
  replace M := Lib.hid (M.out.keep hb)
  replace T := Lib.hid (T.out.on hb)
  replace E : Hid (Below w.heap.size w w2) := E.out.trans (hb.mono E.out.size)
  clear hb
  by_cases h0 : Z = 0
  rotate_left
  · have t0 : (Z == 0) = false := by simpa using h0
    have hz : Hid (V0 = 0) := by show V0 = 0; rw [hV0'.out, if_neg h0]
    go_wp2_with fail
    go_ret2
    exact ⟨(by rw [hz.out]; rfl), E.out⟩
  have OK := Lib.hid (chkP_ok.1 (hZ'.out.symm.trans h0))
  have hz : Hid (V0 = lstV q) := by show V0 = _; rw [hV0'.out, if_pos h0]
  have p4 := X.out.cell (j := 4) rfl
  subst h0
  have hl12 : n2 ≤ 12 := by rw [hnn.out]; exact OK.out.l12
  have u1 : ¬ (n2 : Int) < 0 := by omega
  have u0 : 0 ≤ (n2 : Int) := by omega
  have um : min n2 64 = n2 := by omega
  obtain ⟨m, hm⟩ : ∃ m, m = 2 ^ n2 := ⟨_, rfl⟩
  have hm4 : m ≤ 4096 := by
    have : (2 : Nat) ^ n2 ≤ 2 ^ 12 := Nat.pow_le_pow_right (by omega) (by omega)
    omega
  have hm1 : 1 ≤ m := by rw [hm]; exact Nat.one_le_two_pow
  have e2 : (2 : Int) ^ n2 = (m : Int) := by rw [hm, Int.natCast_pow]; rfl
  have fm : wrap64 (m : Int) = (m : Int) := by unfold wrap64; omega
  obtain ⟨M0, hM0⟩ : ∃ a, a = m - 1 := ⟨_, rfl⟩
  have e3 : (m : Int) - 1 = (M0 : Int) := by omega
  have fM : IntKind.i64.wrap (M0 : Int) = (M0 : Int) := by rw [IntKind.wrap_i64]; omega
  have hlv : Hid (V0 = lsq q M0 M0) := by show V0 = _; rw [hz.out]; unfold lstV; rw [← hnn.out, ← hm, ← hM0]
  have hM4 : M0 < 4096 := by omega
  clear hz hV0' hm hM0 hm4 hm1
  have CL := losers_any q w2 M.out T.out
  rw [hqv.out] at CL
  go_wp2_with (first | (refine wpList_blk_load rfl 27 _ rfl 0 rfl X.out [_, _, _, _, _] rfl _ hun.out rfl hsz.out ?_) | fail)
  refine CL.mono ?_
  rintro e w3 ⟨⟨bp, bk, bm, rfl, hL, hbm⟩, hb⟩
  clear CL p4
  have L := Lib.hid hL
  have hbmE : Hid (w.heap.size ≤ bm) := Nat.le_trans E.out.size hbm
  replace E : Hid (Below w.heap.size w w3) := E.out.trans (hb.mono E.out.size)
  clear hb hL hbm M T X
  go_wp2_with fail
  go_loopg [6, 23] M0 (fun g s6 s23 wx => ∃ k : Nat, k + g = M0 ∧ s23 = .int .i64 k ∧ s6 = .int .i64 (lsq q M0 k) ∧ Hid (Lsr wx B bp bk bm k q) ∧ Hid (Below w.heap.size w wx))
  case atStart => exact ⟨0, by omega, rfl, rfl, L, E⟩
  case round =>
    obtain ⟨k, hkg, rfl, rfl, Lk, Ek⟩ := hrel
    clear L E
    have r0 := lsq_lt (p := q) (all := M0) k (by omega)
    obtain ⟨S0, hS0⟩ : ∃ s, s = lsq q M0 k := ⟨_, rfl⟩
    rw [← hS0] at r0 ⊢
    have hS0' := Lib.hid hS0
    clear hS0
    cases gk with
    | zero =>
      have hkz : ¬ ((k : Int) < (M0 : Int)) := by omega
      have hkm : Hid (V0 = S0) := by show V0 = S0; rw [hlv.out, hS0'.out, show k = M0 by omega]
      go_wp2_with fail
      go_ret2
      refine ⟨?_, Ek.out⟩
      first
        | rfl
        | (rw [hkm.out]; rfl)
    | succ gk =>
      have hkz : (k : Int) < (M0 : Int) := by omega
      have CB := before_any k S0 wr (by omega) (by omega)
      have C1 := losers1_any q k wr Lk.out OK.out.l24 OK.out.a60 (by omega)
      obtain ⟨z, hzb⟩ : ∃ b, b = befB k S0 := ⟨_, rfl⟩
      rw [← hzb] at CB
      have hz' := Lib.hid hzb
      clear hzb
      cases z with
      | false =>
        have hnx : Hid (lsq q M0 (k + 1) = S0) := by
          show lsq q M0 (k + 1) = S0
          rw [lsq_no (fun h => by rw [← hS0'.out, ← hz'.out] at h; exact absurd h.1 (by decide)), hS0'.out]
        clear C1
        go_wp2_with fail
        refine CB.mono ?_
        rintro e v1 ⟨rfl, rfl⟩
        clear CB
        go_wp2_with fail
        go_roundg gk
        case measure => omega
        case rel => exact ⟨k + 1, by omega, by go_num, by rw [hnx.out], Lk.out.more (by omega), Ek⟩
      | true =>
        go_wp2_with fail
        refine CB.mono ?_
        rintro e v1 ⟨rfl, rfl⟩
        clear CB
        go_wp2_with fail
        refine C1.mono ?_
        rintro e v2 ⟨⟨b, rfl, hb⟩, hL2, hc⟩
        clear C1
        have L2 := Lib.hid hL2
        have E2 : Hid (Below w.heap.size w v2) := Ek.out.trans (hc.below (fun x hx => by rw [List.mem_singleton.1 hx]; exact hbmE.out) Ek.out.size)
        have hb' : Hid (b = true ↔ LosP q k) := hb
        clear hL2 hc Lk Ek hb
        cases b with
        | true =>
          have hnx : Hid (lsq q M0 (k + 1) = k) := by show lsq q M0 (k + 1) = k; exact lsq_yes (by rw [← hS0'.out, ← hz'.out]) (hb'.out.1 rfl)
          clear hb'
          go_wp2_with fail
          go_roundg gk
          case measure => omega
          case rel => exact ⟨k + 1, by omega, by go_num, by rw [hnx.out], L2, E2⟩
        | false =>
          have hnx : Hid (lsq q M0 (k + 1) = S0) := by
            show lsq q M0 (k + 1) = S0
            rw [lsq_no (fun h => absurd (hb'.out.2 h.2) (by decide)), hS0'.out]
          clear hb'
          go_wp2_with fail
          go_roundg gk
          case measure => omega
          case rel => exact ⟨k + 1, by omega, by go_num, by rw [hnx.out], L2, E2⟩
end Go.Proofs.YtgajlgnniidgmaaDoor

namespace Go.Proofs.YtgajlgnniidgmaaDoor
set_option linter.unusedVariables false
set_option linter.unusedSimpArgs false
open Go.RowKit Go.Maps

theorem shr_zero12 {s : Int} {k : Nat} : s / 2 ^ k = 0 ↔ 0 ≤ s ∧ s < 2 ^ k := by
  have := @isSet_of s k
  rwa [beq_iff_eq] at this
/-- How Lost ends. -/
def LostEnd (w : World) (p : Prl) (s : Int) (e : Ending) (w' : World) : Prop :=
  (∃ b, e = .returned (.tuple #[.bool b, .int .i64 (if chkP p ≠ 0 then chkP p else if 0 ≤ s ∧ s < 2 ^ p.ch.length then 0 else 1)]) ∧ (b = true ↔ chkP p = 0 ∧ 0 ≤ s ∧ s < 2 ^ p.ch.length ∧ LosP p s.toNat)) ∧ Below w.heap.size w w'
set_option maxRecDepth 100000 in
set_option maxHeartbeats 4000000 in
theorem rLost_any {B : Nat} (p : Prl) (s : Int) (w : World) (hM : PerM w B p) (ht : PTab 2 w) :
    Calls Tryd.prog 13 #[prv p, .int .i64 s] w (LostEnd w p s) := by
  rcases p with ⟨D, A, n, c, G, Gs, A1, n1, c1, al, A2, n2, c2, ch⟩
  obtain ⟨q, hq⟩ : ∃ q : Prl, q = ⟨D, A, n, c, G, Gs, A1, n1, c1, al, A2, n2, c2, ch⟩ := ⟨_, rfl⟩
  have hqv : Hid (prv q = .agg #[.int .i64 D, .slice A n c, .int .i64 G, .slice A1 n1 c1, .slice A2 n2 c2]) := by rw [hq]; rfl
  rw [← hq] at hM ⊢
  have hnn : Hid (n2 = q.ch.length) := by show n2 = q.ch.length; rw [hq]; rw [hq] at hM; exact hM.n2
  obtain ⟨W1, hW1⟩ : ∃ W1, W1 = w.alloc (.cells #[.int .i64 D, .slice A n c, .int .i64 G, .slice A1 n1 c1, .slice A2 n2 c2] 27) := ⟨_, rfl⟩
  have E : Hid (Below w.heap.size w W1) := by show Below _ _ _; rw [hW1]; exact (Below.refl _ _).alloc (Nat.le_refl _) _
  have X : Hid (Blk W1 w.heap.size [.int .i64 D, .slice A n c, .int .i64 G, .slice A1 n1 c1, .slice A2 n2 c2] 27) := by show Blk _ _ _ _; rw [hW1]; exact Blk.new _ [_, _, _, _, _] _
  have M := Lib.hid (hM.keep E.out)
  have T := Lib.hid (ht.on E.out)
  have hW' := Lib.hid hW1
  have hsz := Lib.hid size_prl
  have hun : Hid (Tryd.prog.underlying 27 = _) := Tryd.underlying27
  clear hM ht hW1 hq
  rw [hqv.out]
  have CC := Lib.hid (rcheck_any q W1 M.out)
  rw [hqv.out] at CC
  obtain ⟨Z, hZ⟩ : ∃ z, z = chkP q := ⟨_, rfl⟩
  rw [← hZ] at CC
  have hZ' := Lib.hid hZ
  clear hZ
  go_enter Tryd.func13, Tryd.ntmps13
  go_wp2_with fail
  generalize hg : w.alloc _ = Wg
  have hgW : W1 = Wg := by rw [← hg, hW'.out]
  clear hg hW'
  subst hgW
  go_wp2_with (first | (refine wpList_blk_load rfl 27 _ rfl 0 rfl X.out [_, _, _, _, _] rfl _ hun.out rfl hsz.out ?_) | fail)
  refine CC.out.mono ?_
  rintro e w2 ⟨rfl, hb⟩
  clear CC
  replace X := Lib.hid (X.out.below hb X.out.lt)
  replace M := Lib.hid (M.out.keep hb)
  replace T := Lib.hid (T.out.on hb)
  replace E : Hid (Below w.heap.size w w2) := E.out.trans (hb.mono E.out.size)
  clear hb
  by_cases h0 : Z = 0
  rotate_left
  · have t0 : (Z == 0) = false := by simpa using h0
    have hz := Lib.hid h0
    go_wp2_with fail
    go_ret2
    refine ⟨⟨false, ?_, ⟨fun h => (by cases h), fun h => absurd (hZ'.out.trans h.1) hz.out⟩⟩, E.out⟩
    rw [← hZ'.out, if_pos hz.out]; rfl
  have OK := Lib.hid (chkP_ok.1 (hZ'.out.symm.trans h0))
  have p4 := X.out.cell (j := 4) rfl
  have hC : Hid (chkP q = 0) := hZ'.out.symm.trans h0
  subst h0
  have hl12 : n2 ≤ 12 := by rw [hnn.out]; exact OK.out.l12
  have u1 : ¬ (n2 : Int) < 0 := by omega
  have u0 : 0 ≤ (n2 : Int) := by omega
  have um : min n2 64 = n2 := by omega
  by_cases hs : s / 2 ^ n2 = 0
  rotate_left
  · have ts : (s / 2 ^ n2 == 0) = false := by simpa using hs
    have hsH := Lib.hid hs
    go_wp2_with fail
    go_ret2
    refine ⟨⟨false, ?_, ⟨fun h => (by cases h), fun h => absurd (shr_zero12.2 ⟨h.2.1, h.2.2.1⟩) (by rw [← hnn.out]; exact hsH.out)⟩⟩, E.out⟩
    rw [if_neg (fun h => h hC.out), if_neg (fun h => hsH.out (by rw [hnn.out]; exact shr_zero12.2 h))]; rfl
  obtain ⟨hs0, hs1⟩ := shr_zero12.1 hs
  obtain ⟨f, rfl⟩ : ∃ f : Nat, s = f := ⟨s.toNat, by omega⟩
  have hin : Hid (0 ≤ (f : Int) ∧ (f : Int) < 2 ^ q.ch.length) := ⟨hs0, by rw [← hnn.out]; exact hs1⟩
  have ts : ((f : Int) / 2 ^ n2 == 0) = true := by simpa using hs
  clear hs1
  have CL := losers_any q w2 M.out T.out
  rw [hqv.out] at CL
  go_wp2_with (first | (refine wpList_blk_load rfl 27 _ rfl 0 rfl X.out [_, _, _, _, _] rfl _ hun.out rfl hsz.out ?_) | fail)
  refine CL.mono ?_
  rintro e w3 ⟨⟨bp, bk, bm, rfl, hL, hbm⟩, hb⟩
  clear CL
  have hbmE : Hid (w.heap.size ≤ bm) := Nat.le_trans E.out.size hbm
  have C1 := losers1_any q f w3 hL OK.out.l24 OK.out.a60 (by omega)
  replace E : Hid (Below w.heap.size w w3) := E.out.trans (hb.mono E.out.size)
  clear hb hL hbm M T
  go_wp2_with fail
  refine C1.mono ?_
  rintro e w4 ⟨⟨b, rfl, hb⟩, _, hc⟩
  clear C1
  have hb' : Hid (b = true ↔ LosP q f) := hb
  have E2 : Hid (Below w.heap.size w w4) := E.out.trans (hc.below (fun x hx => by rw [List.mem_singleton.1 hx]; exact hbmE.out) E.out.size)
  clear hb hc
  go_wp2_with fail
  go_ret2
  refine ⟨⟨b, ?_, ⟨fun h => ⟨hC.out, hin.out.1, hin.out.2, hb'.out.1 h⟩, fun h => hb'.out.2 h.2.2.2⟩⟩, E2.out⟩
  rw [if_neg (fun h => h hC.out), if_pos hin.out]; rfl
end Go.Proofs.YtgajlgnniidgmaaDoor

namespace Go.Proofs.YtgajlgnniidgmaaDoor
set_option linter.unusedVariables false
set_option linter.unusedSimpArgs false
open Go.RowKit Go.Maps

/-- The chance of a loss out of 16^12. -/
noncomputable def scl (p : Prl) : Int := lsum p (2 ^ p.ch.length) * 16 ^ (12 - p.ch.length)
def cmpE (p q : Prl) : Int := if chkP p = 0 then chkP q else chkP p
set_option maxRecDepth 100000 in
set_option maxHeartbeats 8000000 in
theorem rCompare_any {B : Nat} (p q : Prl) (w : World) (hM : PerM w B p) (hMq : PerM w B q) (ht : PTab 2 w) :
    Calls Tryd.prog 16 #[prv p, prv q] w fun e w' => e = .returned (.tuple #[.int .i64 (if cmpE p q = 0 then cmpI (scl p) (scl q) else 0), .int .i64 (cmpE p q)]) ∧ Below w.heap.size w w' := by
  have hp : Hid (prv p = .agg #[.int .i64 p.D, .slice p.A p.n p.c, .int .i64 p.G, .slice p.A1 p.n1 p.c1, .slice p.A2 p.n2 p.c2]) := (rfl : prv p = prv p)
  have hq : Hid (prv q = .agg #[.int .i64 q.D, .slice q.A q.n q.c, .int .i64 q.G, .slice q.A1 q.n1 q.c1, .slice q.A2 q.n2 q.c2]) := (rfl : prv q = prv q)
  obtain ⟨W1, hW1⟩ : ∃ W1, W1 = w.alloc (.cells #[.int .i64 p.D, .slice p.A p.n p.c, .int .i64 p.G, .slice p.A1 p.n1 p.c1, .slice p.A2 p.n2 p.c2] 27) := ⟨_, rfl⟩
  obtain ⟨W2, hW2⟩ : ∃ W2, W2 = W1.alloc (.cells #[.int .i64 q.D, .slice q.A q.n q.c, .int .i64 q.G, .slice q.A1 q.n1 q.c1, .slice q.A2 q.n2 q.c2] 27) := ⟨_, rfl⟩
  have z1 : Hid (W1.heap.size = w.heap.size + 1) := by show W1.heap.size = w.heap.size + 1; rw [hW1, World.alloc]; simp
  have E1 : Hid (Below w.heap.size w W1) := by show Below _ _ _; rw [hW1]; exact (Below.refl _ _).alloc (Nat.le_refl _) _
  have ha : Below W1.heap.size W1 W2 := by rw [hW2]; exact (Below.refl _ _).alloc (Nat.le_refl _) _
  have X1 : Hid (Blk W1 w.heap.size [.int .i64 p.D, .slice p.A p.n p.c, .int .i64 p.G, .slice p.A1 p.n1 p.c1, .slice p.A2 p.n2 p.c2] 27) := by show Blk _ _ _ _; rw [hW1]; exact Blk.new _ [_, _, _, _, _] _
  have X2 : Hid (Blk W2 (w.heap.size + 1) [.int .i64 q.D, .slice q.A q.n q.c, .int .i64 q.G, .slice q.A1 q.n1 q.c1, .slice q.A2 q.n2 q.c2] 27) := by show Blk _ _ _ _; rw [hW2, ← z1.out]; exact Blk.new _ [_, _, _, _, _] _
  replace X1 := Lib.hid (X1.out.below ha X1.out.lt)
  have E : Hid (Below w.heap.size w W2) := E1.out.trans (ha.mono E1.out.size)
  have M1 := Lib.hid (hM.keep E.out)
  have M2 := Lib.hid (hMq.keep E.out)
  have T := Lib.hid (ht.on E.out)
  have hW1' := Lib.hid hW1
  have hW2' := Lib.hid hW2
  have hsz := Lib.hid size_prl
  have hun : Hid (Tryd.prog.underlying 27 = _) := Tryd.underlying27
  obtain ⟨a, hae⟩ : ∃ a, a = chkP p := ⟨_, rfl⟩
  obtain ⟨b, hbe⟩ : ∃ a, a = chkP q := ⟨_, rfl⟩
  have CA : Hid (∀ W, PerM W B p → Calls Tryd.prog 22 #[prv p] W fun e w' => e = .returned (.int .i64 a) ∧ Below W.heap.size W w') := fun W m => by rw [hae]; exact rcheck_any p W m
  have CB : Hid (∀ W, PerM W B q → Calls Tryd.prog 22 #[prv q] W fun e w' => e = .returned (.int .i64 b) ∧ Below W.heap.size W w') := fun W m => by rw [hbe]; exact rcheck_any q W m
  obtain ⟨F, hF⟩ : ∃ F, F = cmpE p q := ⟨_, rfl⟩
  have hFa : Hid (F = if a = 0 then b else a) := by show F = if a = 0 then b else a; rw [hF, hae, hbe]; rfl
  have hFa' : Hid (a = 0 → b = 0 → F = 0) := fun h1 h2 => by rw [hFa.out, if_pos h1, h2]
  obtain ⟨V, hV⟩ : ∃ V, V = (if F = 0 then cmpI (scl p) (scl q) else 0) := ⟨_, rfl⟩
  rw [← hF, ← hV]
  have haeH := Lib.hid hae
  have hbeH := Lib.hid hbe
  have hVH := Lib.hid hV
  clear ha E1 hM hMq ht hW1 hW2 hae hbe hF hV z1
  rw [hp.out, hq.out]
  go_enter Tryd.func16, Tryd.ntmps16
  go_wp2_with fail
  generalize hg : (w.alloc _).alloc _ = Wg
  have hgW : W2 = Wg := by rw [← hg, hW2'.out, hW1'.out]
  clear hg hW2' hW1' W1
  subst hgW
  refine wp_region_planM [] [(true, 0), (true, 2), (false, 1), (false, 3), (false, 4), (false, 5), (true, 6)] (by decide) (by kernel_rfl) (by kernel_rfl) (by decide) (by intro c a d v w h; cases d <;> exact h) ?_
  change wpPlanM _ _ _ _ _ _ W2.drew
  have hb : Below W2.heap.size W2 W2.drew := (Below.refl _ _).drew
  generalize hgd : W2.drew = w2 at hb ⊢
  replace X1 := Lib.hid (X1.out.below hb X1.out.lt)
  replace X2 := Lib.hid (X2.out.below hb X2.out.lt)
  replace M1 := Lib.hid (M1.out.keep hb)
  replace M2 := Lib.hid (M2.out.keep hb)
  replace T := Lib.hid (T.out.on hb)
  replace E : Hid (Below w.heap.size w w2) := E.out.trans (hb.mono E.out.size)
  clear hb hgd
  refine wpPlanM_runW rfl (by rfl) _ (fun x => load_run 27 _ rfl w.heap.size 0 rfl [.int .i64 p.D, .slice p.A p.n p.c, .int .i64 p.G, .slice p.A1 p.n1 p.c1, .slice p.A2 p.n2 p.c2] _ hun.out rfl hsz.out x.world ((Blk.below X1.out x.ext X1.out.lt).range 0 _ (take_all0 _))) ?_
  refine wpPlanM_runW rfl (by rfl) _ (fun x => load_run 27 _ rfl (w.heap.size + 1) 0 rfl [.int .i64 q.D, .slice q.A q.n q.c, .int .i64 q.G, .slice q.A1 q.n1 q.c1, .slice q.A2 q.n2 q.c2] _ hun.out rfl hsz.out x.world ((Blk.below X2.out x.ext X2.out.lt).range 0 _ (take_all0 _))) ?_
  refine wpPlanM_call rfl (fun K hK => ?_)
  have CT := CA.out w2 M1.out
  rw [hp.out] at CT
  go_wp2_with fail
  refine CT.mono ?_
  rintro e w3 ⟨rfl, hb⟩
  clear CT
  have hbp := Lib.hid hb
  replace X1 := Lib.hid (X1.out.below hb X1.out.lt)
  replace X2 := Lib.hid (X2.out.below hb X2.out.lt)
  replace M1 := Lib.hid (M1.out.keep hb)
  replace M2 := Lib.hid (M2.out.keep hb)
  replace T := Lib.hid (T.out.on hb)
  replace E : Hid (Below w.heap.size w w3) := E.out.trans (hb.mono E.out.size)
  clear hb
  go_wp2_with fail
  refine planPostL_normal ⟨.inr hbp.out, hK _ _ ?_⟩
  clear hK K hbp
  refine wpPlanM_call rfl (fun K hK => ?_)
  have CT := CB.out w3 M2.out
  rw [hq.out] at CT
  go_wp2_with fail
  refine CT.mono ?_
  rintro e w4 ⟨rfl, hb⟩
  clear CT
  have hbp := Lib.hid hb
  replace X1 := Lib.hid (X1.out.below hb X1.out.lt)
  replace X2 := Lib.hid (X2.out.below hb X2.out.lt)
  replace M1 := Lib.hid (M1.out.keep hb)
  replace M2 := Lib.hid (M2.out.keep hb)
  replace T := Lib.hid (T.out.on hb)
  replace E : Hid (Below w.heap.size w w4) := E.out.trans (hb.mono E.out.size)
  clear hb
  go_wp2_with fail
  refine planPostL_normal ⟨.inr hbp.out, hK _ _ ?_⟩
  clear hK K hbp
  refine wpPlanM_call rfl (fun K hK => ?_)
  go_wp2_with fail
  have hb : Below w4.heap.size w4 (w4.alloc (.cells #[.int .i64 a, .int .i64 b] 30)) := (Below.refl _ _).alloc (Nat.le_refl _) _
  have NB : Hid (Blk (w4.alloc (.cells #[.int .i64 a, .int .i64 b] 30)) w4.heap.size [.int .i64 a, .int .i64 b] 30) := Blk.new _ [_, _] _
  have hbp := Lib.hid hb
  replace X1 := Lib.hid (X1.out.below hb X1.out.lt)
  replace X2 := Lib.hid (X2.out.below hb X2.out.lt)
  replace M1 := Lib.hid (M1.out.keep hb)
  replace M2 := Lib.hid (M2.out.keep hb)
  replace T := Lib.hid (T.out.on hb)
  replace E : Hid (Below w.heap.size w (w4.alloc (.cells #[.int .i64 a, .int .i64 b] 30))) := E.out.trans (hb.mono E.out.size)
  clear hb
  refine planPostL_normal ⟨.inr hbp.out, hK _ _ ?_⟩
  clear hK K hbp
  generalize w4.alloc (.cells #[.int .i64 a, .int .i64 b] 30) = w5 at *
  refine wpPlanM_call rfl (fun K hK => ?_)
  have CT := cor12_any a b _ w5 NB.out 2
  rw [← hFa.out] at CT
  go_wp2_with fail
  refine CT.mono ?_
  rintro e w6 ⟨rfl, rfl⟩
  clear CT NB
  go_wp2_with fail
  refine planPostL_normal ⟨.inr (Below.refl _ _), hK _ _ ?_⟩
  clear hK K
  iterate 1 (refine wpPlanM_plain rfl (fun K hK => ?_); go_simp; refine hK _ ?_; clear hK K)
  refine wpPlanM_nil ?_
  by_cases h0 : F = 0
  rotate_left
  · have t0 : (F == 0) = false := by simpa using h0
    have hz : Hid (V = 0) := by show V = 0; rw [hVH.out, if_neg h0]
    go_wp2_with fail
    go_ret2
    exact ⟨(by rw [hz.out]; rfl), E.out⟩
  have ha0 : a = 0 := by
    by_cases h : a = 0
    · exact h
    · have := hFa.out; rw [if_neg h] at this; omega
  have hb0 : b = 0 := by have := hFa.out; rw [if_pos ha0] at this; omega
  have O1 := Lib.hid (chkP_ok.1 (haeH.out.symm.trans ha0))
  have O2 := Lib.hid (chkP_ok.1 (hbeH.out.symm.trans hb0))
  have hz : Hid (V = cmpI (scl p) (scl q)) := by show V = _; rw [hVH.out, if_pos h0]
  have SA : Hid (∀ W, PerM W B p → PTab 2 W → Calls Tryd.prog 36 #[prv p] W fun e w' => e = .returned (.int .i64 (scl p)) ∧ Below W.heap.size W w') := fun W m t => scaled_any p W m t O1.out (lsum_le p O1.out.ch)
  have SB : Hid (∀ W, PerM W B q → PTab 2 W → Calls Tryd.prog 36 #[prv q] W fun e w' => e = .returned (.int .i64 (scl q)) ∧ Below W.heap.size W w') := fun W m t => scaled_any q W m t O2.out (lsum_le q O2.out.ch)
  generalize scl p = sp at *
  generalize scl q = sq at *
  clear ha0 hb0 CA CB hFa hFa' haeH hbeH hVH O1 O2
  subst h0
  go_wp2_with fail
  refine wp_region_planM [] [(true, 0), (true, 2), (false, 1), (false, 3), (false, 4), (true, 5), (true, 6)] (by decide) (by kernel_rfl) (by kernel_rfl) (by decide) (by intro c a d v w h; cases d <;> exact h) ?_
  change wpPlanM _ _ _ _ _ _ (World.drew _)
  have hb : Below w6.heap.size w6 w6.drew := (Below.refl _ _).drew
  generalize hgd : w6.drew = w7 at hb ⊢
  replace X1 := Lib.hid (X1.out.below hb X1.out.lt)
  replace X2 := Lib.hid (X2.out.below hb X2.out.lt)
  replace M1 := Lib.hid (M1.out.keep hb)
  replace M2 := Lib.hid (M2.out.keep hb)
  replace T := Lib.hid (T.out.on hb)
  replace E : Hid (Below w.heap.size w w7) := E.out.trans (hb.mono E.out.size)
  clear hb hgd
  refine wpPlanM_runW rfl (by rfl) _ (fun x => load_run 27 _ rfl w.heap.size 0 rfl [.int .i64 p.D, .slice p.A p.n p.c, .int .i64 p.G, .slice p.A1 p.n1 p.c1, .slice p.A2 p.n2 p.c2] _ hun.out rfl hsz.out x.world ((Blk.below X1.out x.ext X1.out.lt).range 0 _ (take_all0 _))) ?_
  refine wpPlanM_runW rfl (by rfl) _ (fun x => load_run 27 _ rfl (w.heap.size + 1) 0 rfl [.int .i64 q.D, .slice q.A q.n q.c, .int .i64 q.G, .slice q.A1 q.n1 q.c1, .slice q.A2 q.n2 q.c2] _ hun.out rfl hsz.out x.world ((Blk.below X2.out x.ext X2.out.lt).range 0 _ (take_all0 _))) ?_
  refine wpPlanM_call rfl (fun K hK => ?_)
  have CT := SA.out w7 M1.out T.out
  rw [hp.out] at CT
  go_wp2_with fail
  refine CT.mono ?_
  rintro e w8 ⟨rfl, hb⟩
  clear CT
  have hbp := Lib.hid hb
  replace X1 := Lib.hid (X1.out.below hb X1.out.lt)
  replace X2 := Lib.hid (X2.out.below hb X2.out.lt)
  replace M1 := Lib.hid (M1.out.keep hb)
  replace M2 := Lib.hid (M2.out.keep hb)
  replace T := Lib.hid (T.out.on hb)
  replace E : Hid (Below w.heap.size w w8) := E.out.trans (hb.mono E.out.size)
  clear hb
  go_wp2_with fail
  refine planPostL_normal ⟨.inr hbp.out, hK _ _ ?_⟩
  clear hK K hbp
  refine wpPlanM_call rfl (fun K hK => ?_)
  have CT := SB.out w8 M2.out T.out
  rw [hq.out] at CT
  go_wp2_with fail
  refine CT.mono ?_
  rintro e w9 ⟨rfl, hb⟩
  clear CT
  have hbp := Lib.hid hb
  replace X1 := Lib.hid (X1.out.below hb X1.out.lt)
  replace X2 := Lib.hid (X2.out.below hb X2.out.lt)
  replace M1 := Lib.hid (M1.out.keep hb)
  replace M2 := Lib.hid (M2.out.keep hb)
  replace T := Lib.hid (T.out.on hb)
  replace E : Hid (Below w.heap.size w w9) := E.out.trans (hb.mono E.out.size)
  clear hb
  go_wp2_with fail
  refine planPostL_normal ⟨.inr hbp.out, hK _ _ ?_⟩
  clear hK K hbp
  refine wpPlanM_call rfl (fun K hK => ?_)
  have CT := cmp12_any sp sq w9
  rw [← hz.out] at CT
  go_wp2_with fail
  refine CT.mono ?_
  rintro e w10 ⟨rfl, rfl⟩
  clear CT
  go_wp2_with fail
  refine planPostL_normal ⟨.inr (Below.refl _ _), hK _ _ ?_⟩
  clear hK K
  iterate 2 (refine wpPlanM_plain rfl (fun K hK => ?_); go_simp; refine hK _ ?_; clear hK K)
  refine wpPlanM_nil ?_
  go_wp2_with fail
  go_ret2
  exact ⟨rfl, E.out⟩
end Go.Proofs.YtgajlgnniidgmaaDoor
