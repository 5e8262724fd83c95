/-
  The field of 256 elements: powers of 2, logarithms, products; vectors over it.
-/
namespace Go.Proofs.YtgajlgnniidgmaaDoor
namespace Gf

/-- A byte times 2. -/
def xt (a : UInt8) : UInt8 := (a <<< 1) ^^^ (if a < 128 then 0 else 29)
/-- A byte times 2, k times. -/
def xi : Nat → UInt8 → UInt8
  | 0, b => b
  | k + 1, b => xt (xi k b)
/-- The powers of 2. -/
def ex (k : Nat) : UInt8 := xi k 1
def lgGo : Nat → Nat → UInt8 → UInt8 → Nat
  | 0, _, _, _ => 0
  | n + 1, k, x, a => if x = a then k else lgGo n (k + 1) (xt x) a
/-- The logarithm to the base 2. -/
def lg (a : UInt8) : Nat := lgGo 255 0 1 a
/-- The product. -/
def mul (a b : UInt8) : UInt8 := if a = 0 ∨ b = 0 then 0 else ex (lg a + lg b)
/-- A power of 2, of any integer. -/
def exi (n : Int) : UInt8 := ex (n % 255).toNat
/-- A power of a byte. -/
def pw (a : UInt8) (n : Int) : UInt8 := if n = 0 then 1 else if a = 0 then 0 else exi ((lg a : Int) * n)
/-- The inverse; 0 for 0. -/
def inv (a : UInt8) : UInt8 := if a = 0 then 0 else exi (-(lg a : Int))

theorem of_all {p : UInt8 → Bool} (h : (List.range 256).all (fun n => p (UInt8.ofNat n)) = true) (a : UInt8) : p a = true := by
  have := List.all_eq_true.1 h a.toNat (by simpa using UInt8.toNat_lt a)
  simpa using this

theorem lg_ex_lt : ∀ k, k < 255 → lg (ex k) = k := by
  have h : (List.range 255).all (fun k => lg (ex k) == k) = true := by decide +kernel
  intro k hk
  simpa using List.all_eq_true.1 h k (by simpa using hk)
theorem ex_lg {a : UInt8} (h : a ≠ 0) : ex (lg a) = a := by
  have := of_all (p := fun a => a == 0 || ex (lg a) == a) (by decide +kernel) a
  simpa [h] using this
theorem lg_lt (a : UInt8) : lg a < 255 := by
  have := of_all (p := fun a => decide (lg a < 255)) (by decide +kernel) a
  simpa using this
theorem ex_255 : ex 255 = 1 := by decide +kernel
theorem xi_add (i k : Nat) (b : UInt8) : xi (i + k) b = xi i (xi k b) := by
  induction i with
  | zero => simp [xi]
  | succ i ih => rw [Nat.succ_add]; simp [xi, ih]
theorem ex_succ (k : Nat) : ex (k + 1) = xt (ex k) := rfl
theorem ex_add (i k : Nat) : ex (i + k) = xi i (ex k) := xi_add i k 1
theorem ex_period (k : Nat) : ex (k + 255) = ex k := by rw [ex_add, ex_255]; rfl
theorem ex_mod (k : Nat) : ex (k % 255) = ex k := by
  rw [← Nat.div_add_mod k 255]
  generalize k / 255 = q
  have hr : k % 255 < 255 := Nat.mod_lt _ (by decide)
  generalize k % 255 = r at hr
  have : (255 * q + r) % 255 = r := by omega
  rw [this]
  clear this
  induction q with
  | zero => simp
  | succ q ih => rw [show 255 * (q + 1) + r = 255 * q + r + 255 by omega, ex_period, ih]
theorem lg_ex (k : Nat) : lg (ex k) = k % 255 := by rw [← ex_mod, lg_ex_lt _ (Nat.mod_lt _ (by decide))]
theorem ex_ne (k : Nat) : ex k ≠ 0 := by
  have h : (List.range 255).all (fun k => ex k != 0) = true := by decide +kernel
  have := List.all_eq_true.1 h (k % 255) (by simpa using Nat.mod_lt _ (by decide))
  rw [ex_mod] at this
  simpa using this

theorem xt_xor (a b : UInt8) : xt (a ^^^ b) = xt a ^^^ xt b := by
  have h : ∀ a : UInt8, xt a = UInt8.ofBitVec ((a.toBitVec <<< 1) ^^^ (if a.toBitVec.msb then 29#8 else 0#8)) := fun a => by
    have := of_all (p := fun a => xt a == UInt8.ofBitVec ((a.toBitVec <<< 1) ^^^ (if a.toBitVec.msb then 29#8 else 0#8))) (by decide +kernel) a
    simpa using this
  rw [h, h, h]
  apply UInt8.toBitVec_inj.1
  simp only [UInt8.toBitVec_xor, BitVec.shiftLeft_xor_distrib, BitVec.msb_xor]
  generalize a.toBitVec.msb = p
  generalize b.toBitVec.msb = q
  generalize a.toBitVec <<< 1 = x
  generalize b.toBitVec <<< 1 = y
  have e : ∀ z : BitVec 8, x ^^^ y = x ^^^ z ^^^ (y ^^^ z) := fun z => by
    rw [BitVec.xor_assoc, ← BitVec.xor_assoc z, BitVec.xor_comm z y, BitVec.xor_assoc y, BitVec.xor_self, BitVec.xor_zero]
  cases p <;> cases q
  · simp
  · simp [BitVec.xor_assoc]
  · have : x ^^^ y ^^^ 29#8 = x ^^^ 29#8 ^^^ y := by rw [BitVec.xor_assoc, BitVec.xor_assoc, BitVec.xor_comm y]
    simpa using this
  · simpa using e 29#8
theorem xt_zero : xt 0 = 0 := by decide +kernel
theorem xi_zero (i : Nat) : xi i 0 = 0 := by
  induction i with
  | zero => rfl
  | succ i ih => simp [xi, ih, xt_zero]
theorem xi_xor (i : Nat) (a b : UInt8) : xi i (a ^^^ b) = xi i a ^^^ xi i b := by
  induction i with
  | zero => rfl
  | succ i ih => simp [xi, ih, xt_xor]

theorem mul_ex (i : Nat) (b : UInt8) : mul (ex i) b = xi i b := by
  unfold mul
  by_cases hb : b = 0
  · simp [hb, xi_zero]
  · rw [if_neg (by simp [hb, ex_ne]), lg_ex]
    have : ex (i % 255 + lg b) = ex (i + lg b) := by rw [← ex_mod, ← ex_mod (i + lg b)]; congr 1; omega
    rw [this, ex_add, ex_lg hb]
theorem mul_comm (a b : UInt8) : mul a b = mul b a := by
  unfold mul
  simp only [Or.comm (a := a = 0), Nat.add_comm (lg a)]
theorem mul_zero (a : UInt8) : mul a 0 = 0 := by simp [mul]
theorem zero_mul (a : UInt8) : mul 0 a = 0 := by simp [mul]
theorem mul_xor (a b c : UInt8) : mul a (b ^^^ c) = mul a b ^^^ mul a c := by
  by_cases ha : a = 0
  · simp [ha, zero_mul]
  · rw [← ex_lg ha, mul_ex, mul_ex, mul_ex, xi_xor]
theorem xor_mul (a b c : UInt8) : mul (a ^^^ b) c = mul a c ^^^ mul b c := by rw [mul_comm, mul_xor, mul_comm c, mul_comm c]
theorem one_mul (a : UInt8) : mul 1 a = a := mul_ex 0 a
theorem mul_one (a : UInt8) : mul a 1 = a := by rw [mul_comm, one_mul]
theorem two_mul (a : UInt8) : mul 2 a = xt a := mul_ex 1 a
theorem mul_ex_ex (i k : Nat) : mul (ex i) (ex k) = ex (i + k) := by rw [mul_ex, ex_add]
theorem mul_ne {a b : UInt8} (ha : a ≠ 0) (hb : b ≠ 0) : mul a b ≠ 0 := by
  unfold mul
  rw [if_neg (by simp [ha, hb])]
  exact ex_ne _
theorem mul_eq_zero (a b : UInt8) : mul a b = 0 ↔ a = 0 ∨ b = 0 := by
  constructor
  · intro h
    by_cases ha : a = 0
    · exact .inl ha
    · by_cases hb : b = 0
      · exact .inr hb
      · exact absurd h (mul_ne ha hb)
  · rintro (h | h) <;> simp [h, mul_zero, zero_mul]
theorem mul_assoc (a b c : UInt8) : mul (mul a b) c = mul a (mul b c) := by
  by_cases ha : a = 0
  · simp [ha, zero_mul]
  by_cases hb : b = 0
  · simp [hb, zero_mul, mul_zero]
  by_cases hc : c = 0
  · simp [hc, mul_zero]
  · rw [← ex_lg ha, ← ex_lg hb, ← ex_lg hc, mul_ex_ex, mul_ex_ex, mul_ex_ex, mul_ex_ex, Nat.add_assoc]

theorem ex_exi (k : Nat) : ex k = exi k := by
  unfold exi
  rw [show ((k : Int) % 255).toNat = k % 255 by omega, ex_mod]
theorem exi_mod (n : Int) : exi (n % 255) = exi n := by unfold exi; rw [Int.emod_emod]
theorem exi_congr {m n : Int} (h : m % 255 = n % 255) : exi m = exi n := by unfold exi; rw [h]
theorem exi_nat (n : Int) : ∃ k : Nat, k < 255 ∧ (k : Int) = n % 255 ∧ exi n = ex k := ⟨(n % 255).toNat, by omega, by omega, rfl⟩
theorem exi_ne (n : Int) : exi n ≠ 0 := ex_ne _
theorem exi_add (m n : Int) : exi (m + n) = mul (exi m) (exi n) := by
  obtain ⟨i, _, hi, ei⟩ := exi_nat m
  obtain ⟨j, _, hj, ej⟩ := exi_nat n
  rw [ei, ej, mul_ex_ex, ex_exi]
  exact exi_congr (by omega)
theorem lg_exi (n : Int) : (lg (exi n) : Int) = n % 255 := by
  obtain ⟨i, hi, hi2, ei⟩ := exi_nat n
  rw [ei, lg_ex_lt _ hi, hi2]
theorem exi_lg {a : UInt8} (h : a ≠ 0) : exi (lg a) = a := by rw [← ex_exi, ex_lg h]
theorem mul_exi {a b : UInt8} (ha : a ≠ 0) (hb : b ≠ 0) : mul a b = exi ((lg a : Int) + lg b) := by
  rw [exi_add, exi_lg ha, exi_lg hb]
theorem mul_inv {a : UInt8} (h : a ≠ 0) : mul a (inv a) = 1 := by
  unfold inv
  rw [if_neg h]
  have := exi_add (lg a) (-(lg a : Int))
  rw [exi_lg h, show (lg a : Int) + -(lg a : Int) = 0 by omega] at this
  rw [← this]
  rfl
theorem inv_unique {a b : UInt8} (h : mul a b = 1) : b = inv a := by
  have ha : a ≠ 0 := by rintro rfl; rw [zero_mul] at h; exact absurd h (by decide)
  have := congrArg (mul (inv a)) h
  rw [← mul_assoc, mul_comm (inv a) a, mul_inv ha, one_mul, mul_one] at this
  exact this
theorem pw_add {a : UInt8} (h : a ≠ 0) (m n : Int) : pw a (m + n) = mul (pw a m) (pw a n) := by
  have e : ∀ n, pw a n = exi ((lg a : Int) * n) := fun n => by
    unfold pw
    rw [if_neg h]
    split
    · rename_i h0; rw [h0, Int.mul_zero]; rfl
    · rfl
  rw [e, e, e, ← exi_add, Int.mul_add]
theorem pw_eq {a : UInt8} (h : a ≠ 0) (n : Int) : pw a n = exi ((lg a : Int) * n) := by
  unfold pw
  rw [if_neg h]
  split
  · rename_i h0; rw [h0, Int.mul_zero]; rfl
  · rfl
theorem pw_255 {a : UInt8} (h : a ≠ 0) : pw a 255 = 1 := by
  rw [pw_eq h]
  unfold exi
  rw [show ((lg a : Int) * 255 % 255) = 0 by omega]
  rfl
theorem pw_neg {a : UInt8} (h : a ≠ 0) : pw a (-1) = inv a := by
  rw [pw_eq h, inv, if_neg h]
  exact exi_congr (by omega)
theorem lg_two : lg 2 = 1 := by decide +kernel
theorem pw_two (n : Int) : pw 2 n = exi n := by
  rw [pw_eq (by decide), lg_two]
  exact exi_congr (by omega)
/-- Exponents count modulo 255, in the program's way. -/
theorem pw_tmod {a : UInt8} (h : a ≠ 0) (n : Int) : pw a n = exi ((lg a : Int) * (n.tmod 255)) := by
  rw [pw_eq h]
  apply exi_congr
  have h1 : ∃ q, n.tmod 255 = n - 255 * q := ⟨n.tdiv 255, by have := Int.tmod_def n 255; omega⟩
  obtain ⟨q, hq⟩ := h1
  rw [hq, Int.mul_sub, Int.sub_emod, show (lg a : Int) * (255 * q) = 255 * ((lg a : Int) * q) by rw [← Int.mul_assoc, Int.mul_comm (lg a : Int) 255, Int.mul_assoc], Int.mul_emod_right]
  simp

/-- One step of the product bit by bit. -/
theorem mul_step (x y : UInt8) : mul x y = (if y &&& (1 : UInt8) = 0 then 0 else x) ^^^ mul (xt x) (y >>> (1 : UInt8)) := by
  have h : y = (y &&& (1 : UInt8)) ^^^ xt (y >>> (1 : UInt8)) := by
    have := of_all (p := fun y => y == (y &&& (1 : UInt8)) ^^^ xt (y >>> (1 : UInt8))) (by decide +kernel) y
    simpa using this
  have h1 : y &&& (1 : UInt8) = 0 ∨ y &&& (1 : UInt8) = 1 := by
    have := of_all (p := fun y => (y &&& (1 : UInt8)) == 0 || (y &&& (1 : UInt8)) == 1) (by decide +kernel) y
    simpa using this
  have h2 : mul x (xt (y >>> (1 : UInt8))) = mul (xt x) (y >>> (1 : UInt8)) := by
    rw [← two_mul, ← mul_assoc, mul_comm x 2, two_mul]
  conv => lhs; rw [h]
  rw [mul_xor, h2]
  rcases h1 with h1 | h1
  · rw [h1, mul_zero, if_pos rfl]
  · rw [h1, mul_one, if_neg (by decide)]
theorem xt_toNat (x : UInt8) : (xt x).toNat = (if 255 < 2 * x.toNat then (2 * x.toNat) ^^^ 285 else 2 * x.toNat) := by
  have := of_all (p := fun x => (xt x).toNat == (if 255 < 2 * x.toNat then (2 * x.toNat) ^^^ 285 else 2 * x.toNat)) (by decide +kernel) x
  simpa using this
theorem odd_iff (y : UInt8) : (y &&& 1 = 0) ↔ y.toNat % 2 = 0 := by
  have := of_all (p := fun y => decide ((y &&& (1 : UInt8)) = 0) == decide (y.toNat % 2 = 0)) (by decide +kernel) y
  simpa using this
theorem half_toNat (y : UInt8) : (y >>> 1).toNat = y.toNat / 2 := by
  have := of_all (p := fun y => (y >>> (1 : UInt8)).toNat == y.toNat / 2) (by decide +kernel) y
  simpa using this
/-- Powers of 2 in the program's way: shifted, or out of the table. -/
theorem ex_low : ∀ k, k < 8 → (ex k).toNat = 2 ^ k := by decide +kernel

/-- The sum of two vectors; the shorter one is filled up with zeros. -/
def vsum (a b : List UInt8) : List UInt8 := (List.range (max a.length b.length)).map fun i => a.getD i 0 ^^^ b.getD i 0
/-- The multiple of a vector. -/
def scale (c : UInt8) (s : List UInt8) : List UInt8 := s.map (mul c)
/-- The byte at a position of a combination. -/
def combAt (coef : List UInt8) (parts : List (List UInt8)) (i : Nat) : UInt8 := (List.zip coef parts).foldl (fun s p => s ^^^ mul p.1 (p.2.getD i 0)) 0
def combN (n : Nat) (coef : List UInt8) (parts : List (List UInt8)) : List UInt8 := (List.range n).map (combAt coef parts)
/-- All parts have one length, and there are as many coefficients. -/
def Fit (coef : List UInt8) (parts : List (List UInt8)) : Prop := coef.length = parts.length ∧ ∀ x ∈ parts, x.length = (parts.headD []).length
instance (c : List UInt8) (p : List (List UInt8)) : Decidable (Fit c p) := by unfold Fit; infer_instance
/-- The combination, where it is one. -/
def comb (coef : List UInt8) (parts : List (List UInt8)) : List UInt8 := combN (parts.headD []).length coef parts
theorem vsum_len (a b : List UInt8) : (vsum a b).length = max a.length b.length := by simp [vsum]
theorem scale_len (c : UInt8) (s : List UInt8) : (scale c s).length = s.length := by simp [scale]
theorem vsum_comm (a b : List UInt8) : vsum a b = vsum b a := by
  unfold vsum
  rw [Nat.max_comm]
  simp only [UInt8.xor_comm]
theorem getD_vsum (a b : List UInt8) (i : Nat) : (vsum a b).getD i 0 = a.getD i 0 ^^^ b.getD i 0 := by
  unfold vsum
  by_cases h : i < max a.length b.length
  · simp [List.getD_eq_getElem?_getD, List.getElem?_map, List.getElem?_range h]
  · have h1 : a.length ≤ i := by omega
    have h2 : b.length ≤ i := by omega
    simp [List.getD_eq_getElem?_getD, List.getElem?_eq_none h1, List.getElem?_eq_none h2]
    rw [List.getElem?_eq_none (by simpa using h)]
    rfl
theorem getD_scale (c : UInt8) (s : List UInt8) (i : Nat) : (scale c s).getD i 0 = mul c (s.getD i 0) := by
  unfold scale
  simp only [List.getD_eq_getElem?_getD, List.getElem?_map]
  cases s[i]? <;> simp [mul_zero]
theorem ext_getD {a b : List UInt8} (hl : a.length = b.length) (h : ∀ i, a.getD i 0 = b.getD i 0) : a = b := by
  apply List.ext_getElem hl
  intro i h1 h2
  have := h i
  simpa [List.getD_eq_getElem?_getD, h1, h2] using this
end Gf
end Go.Proofs.YtgajlgnniidgmaaDoor
