/-
  How OnesCount64 counts: by pairs, by fours, by bytes (numbers alone).
-/
import Derived.Test.YtlgokfgiemaklaaDoorRows
namespace Go.Proofs.YtlgokfgiemaklaaDoor
namespace Pop
/-- The number that bytes make, the least one first. -/
def val : List Nat → Nat
  | [] => 0
  | b :: bs => b + 256 * val bs
theorem and_split (a b c d : Nat) (hb : b < 256) (hd : d < 256) : (b + 256 * a) &&& (d + 256 * c) = (b &&& d) + 256 * (a &&& c) := by
  have e : ∀ x y : Nat, x < 256 → x + 256 * y = 2 ^ 8 * y + x := fun x y _ => by omega
  have hbd : b &&& d < 256 := Nat.lt_of_le_of_lt Nat.and_le_left hb
  rw [e b a hb, e d c hd, e _ _ hbd]
  apply Nat.eq_of_testBit_eq
  intro i
  rw [Nat.testBit_and, Nat.testBit_two_pow_mul_add _ hb, Nat.testBit_two_pow_mul_add _ hd, Nat.testBit_two_pow_mul_add _ hbd, Nat.testBit_and, Nat.testBit_and]
  split <;> rfl
theorem and_val (m : Nat) (hm : m < 256) : ∀ (bs : List Nat), (∀ b ∈ bs, b < 256) → val bs &&& val (List.replicate bs.length m) = val (bs.map (· &&& m))
  | [], _ => by simp [val]
  | b :: bs, h => by
    rw [List.length_cons, List.replicate_succ, List.map_cons]
    simp only [val]
    rw [and_split _ _ _ _ (h b (by simp)) hm, and_val m hm bs fun x hx => h x (by simp [hx])]
theorem div_val (q : Nat) (hq : 256 % q = 0) (hq0 : 0 < q) : ∀ (bs : List Nat), (∀ b ∈ bs, b % q = 0) → val bs / q = val (bs.map (· / q)) ∧ val bs % q = 0
  | [], _ => by simp [val]
  | b :: bs, h => by
    have ih := div_val q hq hq0 bs fun x hx => h x (by simp [hx])
    have hb := h b (by simp)
    simp only [val, List.map_cons]
    obtain ⟨k, hk⟩ := Nat.dvd_of_mod_eq_zero hq
    obtain ⟨x, hx⟩ := Nat.dvd_of_mod_eq_zero hb
    obtain ⟨y, hy⟩ := Nat.dvd_of_mod_eq_zero ih.2
    rw [← ih.1, hx, hy, Nat.mul_div_cancel_left _ hq0, Nat.mul_div_cancel_left _ hq0]
    rw [show q * x + 256 * (q * y) = q * (x + 256 * y) by rw [Nat.mul_add]; congr 1; rw [← Nat.mul_assoc, ← Nat.mul_assoc, Nat.mul_comm 256 q], Nat.mul_div_cancel_left _ hq0]
    exact ⟨rfl, Nat.mul_mod_right _ _⟩
theorem add_val : ∀ (bs cs : List Nat), bs.length = cs.length → val bs + val cs = val (List.zipWith (· + ·) bs cs)
  | [], [], _ => rfl
  | b :: bs, c :: cs, h => by
    have := add_val bs cs (by simpa using h)
    simp only [val, List.zipWith_cons_cons]
    omega
theorem val_lt : ∀ (bs : List Nat), (∀ b ∈ bs, b < 256) → val bs < 256 ^ bs.length
  | [], _ => by simp [val]
  | b :: bs, h => by
    have := val_lt bs fun x hx => h x (by simp [hx])
    have := h b (by simp)
    simp only [val, List.length_cons, Nat.pow_succ]
    omega
/-- How many ones a byte has. -/
def pc (b : Nat) : Nat := b % 2 + b / 2 % 2 + b / 4 % 2 + b / 8 % 2 + b / 16 % 2 + b / 32 % 2 + b / 64 % 2 + b / 128 % 2
theorem step12 : ∀ b, b < 256 → ((b &&& 170) / 2 + (b &&& 85) < 256) ∧ (((((b &&& 170) / 2 + (b &&& 85)) &&& 204) / 4 + (((b &&& 170) / 2 + (b &&& 85)) &&& 51)) % 16 + ((((b &&& 170) / 2 + (b &&& 85)) &&& 204) / 4 + (((b &&& 170) / 2 + (b &&& 85)) &&& 51)) / 16 = pc b) ∧ ((((b &&& 170) / 2 + (b &&& 85)) &&& 204) / 4 + (((b &&& 170) / 2 + (b &&& 85)) &&& 51)) ≤ 68 ∧ ((((b &&& 170) / 2 + (b &&& 85)) &&& 204) / 4 + (((b &&& 170) / 2 + (b &&& 85)) &&& 51)) % 16 ≤ 4
    ∧ (b &&& 170) % 2 = 0 ∧ (((b &&& 170) / 2 + (b &&& 85)) &&& 204) % 4 = 0 := by decide +kernel
/-- Ones of a number. -/
def ones : Nat → Nat → Nat
  | 0, _ => 0
  | f + 1, n => n % 2 + ones f (n / 2)
theorem ones_byte (f b q : Nat) (hb : b < 256) : ones (f + 8) (b + 256 * q) = pc b + ones f q := by
  simp only [ones]
  have h8 : (b + 256 * q) / 2 / 2 / 2 / 2 / 2 / 2 / 2 / 2 = q := by omega
  rw [h8]
  unfold pc
  omega
theorem and_shift (x m k : Nat) : (x / 2 ^ k) &&& m = (x &&& (m * 2 ^ k)) / 2 ^ k := by
  apply Nat.eq_of_testBit_eq
  intro i
  rw [Nat.testBit_and, Nat.testBit_div_two_pow, Nat.testBit_div_two_pow, Nat.testBit_and, Nat.testBit_mul_two_pow]
  simp
theorem bytes_of : ∀ (n x : Nat), x < 256 ^ n → ∃ bs, bs.length = n ∧ (∀ b ∈ bs, b < 256) ∧ x = val bs
  | 0, x, h => ⟨[], rfl, by simp, by simp [val]; omega⟩
  | n + 1, x, h => by
    obtain ⟨bs, h1, h2, h3⟩ := bytes_of n (x / 256) (by rw [Nat.pow_succ] at h; omega)
    exact ⟨x % 256 :: bs, by simp [h1], fun b hb => by rcases List.mem_cons.1 hb with rfl | hb; exact Nat.mod_lt _ (by decide); exact h2 b hb, by simp only [val]; omega⟩
/-- A byte, its ones counted by pairs, by fours. -/
def s1 (b : Nat) : Nat := (b &&& 170) / 2 + (b &&& 85)
def s2 (b : Nat) : Nat := (s1 b &&& 204) / 4 + (s1 b &&& 51)
theorem step (b : Nat) (h : b < 256) : s1 b < 256 ∧ s2 b % 16 + s2 b / 16 = pc b ∧ s2 b ≤ 68 ∧ s2 b % 16 ≤ 4 ∧ (b &&& 170) % 2 = 0 ∧ (s1 b &&& 204) % 4 = 0 := step12 b h
theorem zip_map (f g h : Nat → Nat) : ∀ (bs : List Nat), (∀ b, f b + g b = h b) → List.zipWith (· + ·) (bs.map f) (bs.map g) = bs.map h
  | [], _ => rfl
  | b :: bs, e => by simp only [List.map_cons, List.zipWith_cons_cons, e b, zip_map f g h bs e]
theorem pairs (m q k : Nat) (f : Nat → Nat) (hq : q = 2 ^ k) (hqq : 256 % q = 0) (hm : m * q < 256) (hm1 : m < 256) (hf : ∀ b, (b &&& (m * q)) / q + (b &&& m) = f b) (bs : List Nat) (hb : ∀ b ∈ bs, b < 256) (hz : ∀ b ∈ bs, (b &&& (m * q)) % q = 0) (M : Nat) (hM : M = val (List.replicate bs.length m)) (hMq : M * q = val (List.replicate bs.length (m * q))) :
    ((val bs / q) &&& M) + (val bs &&& M) = val (bs.map f) := by
  have hq0 : 0 < q := by rw [hq]; exact Nat.two_pow_pos _
  have h1 : (val bs / q) &&& M = (val bs &&& (M * q)) / q := by rw [hq]; exact and_shift _ _ _
  rw [h1, hMq, and_val _ hm bs hb, hM, and_val _ hm1 bs hb, (div_val q hqq hq0 _ (by intro b hb'; obtain ⟨a, ha, rfl⟩ := List.mem_map.1 hb'; exact hz a ha)).1, add_val _ _ (by simp), List.map_map]
  congr 1
  exact zip_map _ _ _ bs hf
set_option maxHeartbeats 2000000 in
theorem swar (x : Nat) (hx : x < 18446744073709551616) (y1 y2 y3 y4 y5 y6 : Nat) (h1 : y1 = ((x / 2) &&& 6148914691236517205) + (x &&& 6148914691236517205)) (h2 : y2 = ((y1 / 4) &&& 3689348814741910323) + (y1 &&& 3689348814741910323)) (h3 : y3 = (y2 / 16 + y2) &&& 1085102592571150095)
    (h4 : y4 = y3 + y3 / 256) (h5 : y5 = y4 + y4 / 65536) (h6 : y6 = y5 + y5 / 4294967296) : y6 % 128 = ones 64 x ∧ y1 < 18446744073709551616 ∧ y2 < 18446744073709551616 ∧ y2 / 16 + y2 < 18446744073709551616 ∧ y4 < 18446744073709551616 ∧ y5 < 18446744073709551616 ∧ y6 < 9223372036854775808 := by
  obtain ⟨bs, hl, hb, rfl⟩ := bytes_of 8 x hx
  have e1 : y1 = val (bs.map s1) := by
    rw [h1]
    exact pairs 85 2 1 s1 rfl (by decide) (by decide) (by decide) (fun b => rfl) bs hb (fun b h => (step b (hb b h)).2.2.2.2.1) _ (by rw [hl]; decide) (by rw [hl]; decide)
  have e2 : y2 = val (bs.map s2) := by
    rw [h2, e1]
    have h := pairs 51 4 2 (fun c => (c &&& 204) / 4 + (c &&& 51)) rfl (by decide) (by decide) (by decide) (fun b => rfl) (bs.map s1) (by intro c hc; obtain ⟨b, hb', rfl⟩ := List.mem_map.1 hc; exact (step b (hb b hb')).1) (by intro c hc; obtain ⟨b, hb', rfl⟩ := List.mem_map.1 hc; exact (step b (hb b hb')).2.2.2.2.2) 3689348814741910323 (by rw [List.length_map, hl]; decide) (by rw [List.length_map, hl]; decide)
    rw [List.map_map] at h
    exact h
  match bs, hl with
  | [b0, b1, b2, b3, b4, b5, b6, b7], _ =>
    have i0 := step b0 (hb b0 (by simp))
    have i1 := step b1 (hb b1 (by simp))
    have i2 := step b2 (hb b2 (by simp))
    have i3 := step b3 (hb b3 (by simp))
    have i4 := step b4 (hb b4 (by simp))
    have i5 := step b5 (hb b5 (by simp))
    have i6 := step b6 (hb b6 (by simp))
    have i7 := step b7 (hb b7 (by simp))
    have ho : ones 64 (val [b0, b1, b2, b3, b4, b5, b6, b7]) = pc b0 + (pc b1 + (pc b2 + (pc b3 + (pc b4 + (pc b5 + (pc b6 + pc b7)))))) := by
      simp only [val]
      rw [ones_byte 56 _ _ (hb b0 (by simp)), ones_byte 48 _ _ (hb b1 (by simp)), ones_byte 40 _ _ (hb b2 (by simp)), ones_byte 32 _ _ (hb b3 (by simp)), ones_byte 24 _ _ (hb b4 (by simp)), ones_byte 16 _ _ (hb b5 (by simp)), ones_byte 8 _ _ (hb b6 (by simp)), ones_byte 0 _ _ (hb b7 (by simp))]
      rfl
    rw [ho, ← i0.2.1, ← i1.2.1, ← i2.2.1, ← i3.2.1, ← i4.2.1, ← i5.2.1, ← i6.2.1, ← i7.2.1]
    simp only [List.map_cons, List.map_nil] at e1 e2
    have l1 : y1 < 18446744073709551616 := by
      rw [e1]
      refine Nat.lt_of_lt_of_le (val_lt _ (by
        intro b hb
        simp only [List.mem_cons, List.not_mem_nil, or_false] at hb
        rcases hb with rfl | rfl | rfl | rfl | rfl | rfl | rfl | rfl
        · exact i0.1
        · exact i1.1
        · exact i2.1
        · exact i3.1
        · exact i4.1
        · exact i5.1
        · exact i6.1
        · exact i7.1)) (by simp only [List.length_cons, List.length_nil]; decide)
    generalize s2 b0 = c0 at *
    generalize s2 b1 = c1 at *
    generalize s2 b2 = c2 at *
    generalize s2 b3 = c3 at *
    generalize s2 b4 = c4 at *
    generalize s2 b5 = c5 at *
    generalize s2 b6 = c6 at *
    generalize s2 b7 = c7 at *
    have j0 := i0.2.2; have j1 := i1.2.2; have j2 := i2.2.2; have j3 := i3.2.2; have j4 := i4.2.2; have j5 := i5.2.2; have j6 := i6.2.2; have j7 := i7.2.2
    clear i0 i1 i2 i3 i4 i5 i6 i7 ho h1 h2 hb
    have e3 : y2 / 16 + y2 = val [c0 / 16 + 16 * (c1 % 16) + c0, c1 / 16 + 16 * (c2 % 16) + c1, c2 / 16 + 16 * (c3 % 16) + c2, c3 / 16 + 16 * (c4 % 16) + c3, c4 / 16 + 16 * (c5 % 16) + c4, c5 / 16 + 16 * (c6 % 16) + c5, c6 / 16 + 16 * (c7 % 16) + c6, c7 / 16 + c7] := by
      rw [e2]; simp only [val]; omega
    have e4 : y3 = val [c0 / 16 + c0 % 16, c1 / 16 + c1 % 16, c2 / 16 + c2 % 16, c3 / 16 + c3 % 16, c4 / 16 + c4 % 16, c5 / 16 + c5 % 16, c6 / 16 + c6 % 16, c7 / 16 + c7 % 16] := by
      rw [h3, e3]
      have h := and_val 15 (by decide) [c0 / 16 + 16 * (c1 % 16) + c0, c1 / 16 + 16 * (c2 % 16) + c1, c2 / 16 + 16 * (c3 % 16) + c2, c3 / 16 + 16 * (c4 % 16) + c3, c4 / 16 + 16 * (c5 % 16) + c4, c5 / 16 + 16 * (c6 % 16) + c5, c6 / 16 + 16 * (c7 % 16) + c6, c7 / 16 + c7] (by
        intro b hb
        simp only [List.mem_cons, List.not_mem_nil, or_false] at hb
        rcases hb with rfl | rfl | rfl | rfl | rfl | rfl | rfl | rfl <;> omega)
      have hm : val (List.replicate 8 15) = 1085102592571150095 := by decide
      simp only [List.length_cons, List.length_nil] at h
      rw [hm] at h
      rw [h]
      have a15 : ∀ z, z &&& 15 = z % 16 := fun z => Nat.and_two_pow_sub_one_eq_mod z 4
      simp only [List.map_cons, List.map_nil, a15]
      congr 1
      have hh : ∀ c d, c ≤ 68 ∧ c % 16 ≤ 4 ∧ d → (c / 16 + c) % 16 = c / 16 + c % 16 := fun c d h => by omega
      have hk : ∀ c d e, c ≤ 68 ∧ c % 16 ≤ 4 ∧ e → (c / 16 + 16 * d + c) % 16 = c / 16 + c % 16 := fun c d e h => by omega
      rw [hk c0 _ _ j0, hk c1 _ _ j1, hk c2 _ _ j2, hk c3 _ _ j3, hk c4 _ _ j4, hk c5 _ _ j5, hk c6 _ _ j6, hh c7 _ j7]
    have k0 : c0 / 16 + c0 % 16 ≤ 8 := by omega
    have k1 : c1 / 16 + c1 % 16 ≤ 8 := by omega
    have k2 : c2 / 16 + c2 % 16 ≤ 8 := by omega
    have k3 : c3 / 16 + c3 % 16 ≤ 8 := by omega
    have k4 : c4 / 16 + c4 % 16 ≤ 8 := by omega
    have k5 : c5 / 16 + c5 % 16 ≤ 8 := by omega
    have k6 : c6 / 16 + c6 % 16 ≤ 8 := by omega
    have k7 : c7 / 16 + c7 % 16 ≤ 8 := by omega
    have l3 : y2 / 16 + y2 < 18446744073709551616 := by rw [e3]; simp only [val]; omega
    have l2 : y2 < 18446744073709551616 := by omega
    have n0 : c0 % 16 + c0 / 16 = c0 / 16 + c0 % 16 := Nat.add_comm _ _
    have n1 : c1 % 16 + c1 / 16 = c1 / 16 + c1 % 16 := Nat.add_comm _ _
    have n2 : c2 % 16 + c2 / 16 = c2 / 16 + c2 % 16 := Nat.add_comm _ _
    have n3 : c3 % 16 + c3 / 16 = c3 / 16 + c3 % 16 := Nat.add_comm _ _
    have n4 : c4 % 16 + c4 / 16 = c4 / 16 + c4 % 16 := Nat.add_comm _ _
    have n5 : c5 % 16 + c5 / 16 = c5 / 16 + c5 % 16 := Nat.add_comm _ _
    have n6 : c6 % 16 + c6 / 16 = c6 / 16 + c6 % 16 := Nat.add_comm _ _
    have n7 : c7 % 16 + c7 / 16 = c7 / 16 + c7 % 16 := Nat.add_comm _ _
    rw [n0, n1, n2, n3, n4, n5, n6, n7]
    generalize c0 / 16 + c0 % 16 = d0 at *
    generalize c1 / 16 + c1 % 16 = d1 at *
    generalize c2 / 16 + c2 % 16 = d2 at *
    generalize c3 / 16 + c3 % 16 = d3 at *
    generalize c4 / 16 + c4 % 16 = d4 at *
    generalize c5 / 16 + c5 % 16 = d5 at *
    generalize c6 / 16 + c6 % 16 = d6 at *
    generalize c7 / 16 + c7 % 16 = d7 at *
    clear e1 e2 e3 h3 j0 j1 j2 j3 j4 j5 j6 j7 n0 n1 n2 n3 n4 n5 n6 n7
    simp only [val] at e4
    have f3 : y3 / 256 = d1 + 256 * (d2 + 256 * (d3 + 256 * (d4 + 256 * (d5 + 256 * (d6 + 256 * d7))))) := by omega
    have f4 : y4 = (d0 + d1) + 256 * ((d1 + d2) + 256 * ((d2 + d3) + 256 * ((d3 + d4) + 256 * ((d4 + d5) + 256 * ((d5 + d6) + 256 * ((d6 + d7) + 256 * d7)))))) := by omega
    have f5 : y4 / 65536 = (d2 + d3) + 256 * ((d3 + d4) + 256 * ((d4 + d5) + 256 * ((d5 + d6) + 256 * ((d6 + d7) + 256 * d7)))) := by omega
    have f6 : y5 / 4294967296 = (d4 + d5 + d6 + d7) + 256 * ((d5 + d6 + d7) + 256 * ((d6 + d7) + 256 * d7)) := by omega
    refine ⟨?_, l1, l2, l3, by omega, by omega, by omega⟩
    omega
end Pop
end Go.Proofs.YtlgokfgiemaklaaDoor
