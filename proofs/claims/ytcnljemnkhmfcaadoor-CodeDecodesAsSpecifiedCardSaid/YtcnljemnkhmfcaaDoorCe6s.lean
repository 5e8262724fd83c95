/-
  Stage 7: the next greater number with as many bits (maths), and the contract of next. Stage 7: the iterator over the sets of so many pieces. How OnesCount64 counts: by pairs, by fours, by bytes (numbers alone). Stage 7: bits.OnesCount (as for stage 3); what is left of a set. Contracts of stage 7: Distance. (Written by tools/gences.py.).
-/
import Derived.Test.YtcnljemnkhmfcaaDoorCd2
import Derived.Test.YtcnljemnkhmfcaaDoorCd1
import Derived.RangeFuncBox
import Derived.RangeFuncLeaves
import Derived.RangeFuncBound
import Derived.RangeFuncNested
import Derived.RangeFuncCalls
import Derived.RangeFuncWrites
import Derived.WalkKit
import Derived.OwnWalkIn
import Derived.TacticsInMore
import Derived.LoopNIn
import Derived.LoopIn
import Derived.Test.YtcnljemnkhmfcaaDoorRows
import Derived.Laws.Bits64b
import Derived.Test.YtcnljemnkhmfcaaDoorCe45
import Derived.Test.YtcnljemnkhmfcaaDoorCe3
import Derived.Deep.CutRange
namespace Go.Proofs.YtcnljemnkhmfcaaDoor
set_option linter.unusedVariables false
set_option linter.unusedSimpArgs false
open Go.RowKit

theorem cnt7_even (n : Nat) : cnt7 (2 * n) = cnt7 n := by
  rcases Nat.eq_zero_or_pos n with rfl | h
  · rfl
  · rw [cnt7_pos (by omega), show 2 * n % 2 = 0 by omega, show 2 * n / 2 = n by omega, Nat.zero_add]
theorem cnt7_odd (n : Nat) : cnt7 (2 * n + 1) = cnt7 n + 1 := by
  rw [cnt7_pos (by omega), show (2 * n + 1) % 2 = 1 by omega, show (2 * n + 1) / 2 = n by omega, Nat.add_comm]
theorem half7 (n : Nat) : ∃ q, n = 2 * q ∨ n = 2 * q + 1 := ⟨n / 2, by omega⟩
theorem cnt7_split : ∀ (k u v : Nat), v < 2 ^ k → cnt7 (2 ^ k * u + v) = cnt7 u + cnt7 v
  | 0, u, v, h => by
    have : v = 0 := by simpa using h
    rw [this, Nat.pow_zero, Nat.one_mul, Nat.add_zero, cnt7_zero, Nat.add_zero]
  | k + 1, u, v, h => by
    have hp : 2 ^ (k + 1) = 2 * 2 ^ k := by rw [Nat.pow_succ, Nat.mul_comm]
    rw [hp] at h ⊢
    obtain ⟨q, hq | hq⟩ := half7 v
    · rw [hq, show 2 * 2 ^ k * u + 2 * q = 2 * (2 ^ k * u + q) by rw [Nat.mul_add, Nat.mul_assoc], cnt7_even, cnt7_even, cnt7_split k u q (by omega)]
    · rw [hq, show 2 * 2 ^ k * u + (2 * q + 1) = 2 * (2 ^ k * u + q) + 1 by rw [Nat.mul_add, Nat.mul_assoc]; omega, cnt7_odd, cnt7_odd, cnt7_split k u q (by omega)]
      omega
theorem cnt7_ones : ∀ k, cnt7 (2 ^ k - 1) = k
  | 0 => cnt7_zero
  | k + 1 => by
    have hp : 2 ^ (k + 1) = 2 * 2 ^ k := by rw [Nat.pow_succ, Nat.mul_comm]
    have h1 := Nat.one_le_two_pow (n := k)
    rw [hp, show 2 * 2 ^ k - 1 = 2 * (2 ^ k - 1) + 1 by omega, cnt7_odd, cnt7_ones k]
theorem cnt7_shift (v t : Nat) : cnt7 (2 ^ t * v) = cnt7 v := by
  have := cnt7_split t v 0 (Nat.two_pow_pos t)
  rw [Nat.add_zero, cnt7_zero, Nat.add_zero] at this
  exact this
theorem cnt7_two (k : Nat) : cnt7 (2 ^ k) = 1 := by
  have := cnt7_shift 1 k
  rw [Nat.mul_one] at this
  rw [this]
  exact cnt7_ones 1
/-- The least number with so many bits. -/
theorem cnt7_low : ∀ N v, v ≤ N → 2 ^ cnt7 v - 1 ≤ v
  | 0, v, h => by rw [Nat.le_zero.1 h, cnt7_zero]; exact Nat.le_refl 0
  | N + 1, v, h => by
    obtain ⟨q, hq | hq⟩ := half7 v
    · rcases Nat.eq_zero_or_pos q with h0 | h0
      · rw [hq, h0, Nat.mul_zero, cnt7_zero]; exact Nat.le_refl 0
      · have := cnt7_low N q (by omega)
        rw [hq, cnt7_even]; omega
    · have := cnt7_low N q (by omega)
      rw [hq, cnt7_odd, Nat.pow_succ]
      omega
/-- The greatest number of m bits with so many bits. -/
theorem cnt7_high : ∀ (m v : Nat), v < 2 ^ m → cnt7 v ≤ m ∧ v + 2 ^ (m - cnt7 v) ≤ 2 ^ m
  | 0, v, h => by
    have : v = 0 := by simpa using h
    rw [this, cnt7_zero]
    exact ⟨Nat.le_refl 0, Nat.le_refl 1⟩
  | m + 1, v, h => by
    have hp : 2 ^ (m + 1) = 2 * 2 ^ m := by rw [Nat.pow_succ, Nat.mul_comm]
    rw [hp] at h ⊢
    obtain ⟨q, hq | hq⟩ := half7 v
    · obtain ⟨h1, h2⟩ := cnt7_high m q (by omega)
      rw [hq, cnt7_even, show m + 1 - cnt7 q = m - cnt7 q + 1 by omega, Nat.pow_succ]
      exact ⟨by omega, by omega⟩
    · obtain ⟨h1, h2⟩ := cnt7_high m q (by omega)
      have := Nat.one_le_two_pow (n := m - cnt7 q)
      rw [hq, cnt7_odd, show m + 1 - (cnt7 q + 1) = m - cnt7 q by omega]
      exact ⟨by omega, by omega⟩
/-- A number with its lowest run of bits. -/
structure Run7 (x u t r : Nat) : Prop where
  pos : 1 ≤ r
  eq : x = 2 ^ (t + r + 1) * u + 2 ^ t * (2 ^ r - 1)
theorem run_odd : ∀ N q, q ≤ N → ∃ u r, 1 ≤ r ∧ 2 * q + 1 = 2 ^ (r + 1) * u + (2 ^ r - 1)
  | N, q, h => by
    obtain ⟨p, hp | hp⟩ := half7 q
    · exact ⟨p, 1, Nat.le_refl 1, by omega⟩
    · cases N with
      | zero => omega
      | succ N =>
        obtain ⟨u, r, h1, h2⟩ := run_odd N p (by omega)
        have h3 := Nat.one_le_two_pow (n := r)
        refine ⟨u, r + 1, by omega, ?_⟩
        have e1 : 2 ^ (r + 1 + 1) = 2 * 2 ^ (r + 1) := by rw [Nat.pow_succ, Nat.mul_comm]
        have e2 : 2 ^ (r + 1) = 2 * 2 ^ r := by rw [Nat.pow_succ, Nat.mul_comm]
        rw [hp, h2, e1, Nat.mul_assoc]
        omega
theorem run_any : ∀ N x, x ≤ N → 0 < x → ∃ u t r, Run7 x u t r
  | 0, x, h, h0 => by omega
  | N + 1, x, h, h0 => by
    obtain ⟨q, hq | hq⟩ := half7 x
    · obtain ⟨u, t, r, hr⟩ := run_any N q (by omega) (by omega)
      refine ⟨u, t + 1, r, hr.pos, ?_⟩
      have e1 : 2 ^ (t + r + 1 + 1) = 2 * 2 ^ (t + r + 1) := by rw [Nat.pow_succ, Nat.mul_comm]
      have e2 : 2 ^ (t + 1) = 2 * 2 ^ t := by rw [Nat.pow_succ, Nat.mul_comm]
      rw [hq, hr.eq, show t + 1 + r + 1 = t + r + 1 + 1 by omega, e1, e2, Nat.mul_assoc, Nat.mul_assoc, Nat.mul_add]
    · obtain ⟨u, r, h1, h2⟩ := run_odd q q (Nat.le_refl _)
      refine ⟨u, 0, r, h1, ?_⟩
      rw [hq, h2, Nat.zero_add, Nat.pow_zero, Nat.one_mul]
/-- The next greater number with as many bits. -/
def nxtV (u t r : Nat) : Nat := 2 ^ (t + r + 1) * u + (2 ^ (t + r) + (2 ^ (r - 1) - 1))
theorem run_cnt {x u t r : Nat} (h : Run7 x u t r) : cnt7 x = cnt7 u + r := by
  have h1 := Nat.one_le_two_pow (n := r)
  have h2 : 2 ^ t * (2 ^ r - 1) < 2 ^ (t + r + 1) := by
    rw [Nat.pow_succ, Nat.pow_add, Nat.mul_assoc]
    exact Nat.mul_lt_mul_of_pos_left (by omega) (Nat.two_pow_pos t)
  rw [h.eq, cnt7_split _ _ _ h2, cnt7_shift, cnt7_ones]
theorem low_lt {t r : Nat} (hr : 1 ≤ r) : 2 ^ (r - 1) - 1 < 2 ^ (t + r) := by
  have h1 : 2 ^ (r - 1) ≤ 2 ^ (t + r) := Nat.pow_le_pow_right (by omega) (by omega)
  have := Nat.one_le_two_pow (n := r - 1)
  omega
theorem nxt_cnt {u t r : Nat} (hr : 1 ≤ r) : cnt7 (nxtV u t r) = cnt7 u + r := by
  have h1 := low_lt (t := t) hr
  unfold nxtV
  rw [cnt7_split _ _ _ (by rw [Nat.pow_succ]; omega)]
  have h2 := cnt7_split (t + r) 1 (2 ^ (r - 1) - 1) h1
  rw [Nat.mul_one] at h2
  rw [h2, cnt7_ones]
  have : cnt7 1 = 1 := cnt7_ones 1
  omega
theorem run_lt {x u t r : Nat} (h : Run7 x u t r) : x < nxtV u t r := by
  have h1 := Nat.one_le_two_pow (n := r)
  have h2 : 2 ^ t * (2 ^ r - 1) < 2 ^ (t + r) := by
    rw [Nat.pow_add]
    exact Nat.mul_lt_mul_of_pos_left (by omega) (Nat.two_pow_pos t)
  rw [h.eq]
  unfold nxtV
  omega
/-- Nothing lies between. -/
theorem nxt_least {x u t r y : Nat} (h : Run7 x u t r) (h1 : x < y) (h2 : y < nxtV u t r) : cnt7 y ≠ cnt7 x := fun hc => by
  have hr := h.pos
  have hp := Nat.one_le_two_pow (n := r)
  have hl := low_lt (t := t) hr
  obtain ⟨v, hv⟩ : ∃ v, y = 2 ^ (t + r + 1) * u + v := ⟨y - 2 ^ (t + r + 1) * u, by have := h.eq; omega⟩
  have hv1 : 2 ^ t * (2 ^ r - 1) < v := by have := h.eq; omega
  have hv2 : v < 2 ^ (t + r) + (2 ^ (r - 1) - 1) := by unfold nxtV at h2; omega
  have hcv : cnt7 v = r := by
    have h3 := cnt7_split (t + r + 1) u v (by rw [Nat.pow_succ]; omega)
    rw [← hv, hc, run_cnt h] at h3
    omega
  have hm : 2 ^ t * (2 ^ r - 1) + 2 ^ t = 2 ^ (t + r) := by
    rw [Nat.pow_add, Nat.mul_sub, Nat.mul_one]
    have : 2 ^ t ≤ 2 ^ t * 2 ^ r := Nat.le_mul_of_pos_right _ (by omega)
    omega
  rcases Nat.lt_or_ge v (2 ^ (t + r)) with hlt | hge
  · have h4 := (cnt7_high (t + r) v hlt).2
    rw [hcv, show t + r - r = t by omega] at h4
    omega
  · obtain ⟨q, hq⟩ : ∃ q, v = 2 ^ (t + r) + q := ⟨v - 2 ^ (t + r), by omega⟩
    have h5 := cnt7_split (t + r) 1 q (by omega)
    rw [Nat.mul_one, ← hq, hcv] at h5
    have h6 : cnt7 1 = 1 := cnt7_ones 1
    have h7 := cnt7_low q q (Nat.le_refl _)
    rw [show cnt7 q = r - 1 by omega] at h7
    omega
theorem ofInt_nat {a : Nat} (h : a < 4294967296) : (BitVec.ofInt 64 (a : Int)).toNat = a := by
  rw [BitVec.ofInt_natCast, BitVec.toNat_ofNat]; exact Nat.mod_eq_of_lt (by omega)
theorem i64_xor (a b : Nat) (ha : a < 4294967296) (hb : b < 4294967296) : bits BinOp.xor IntKind.i64 (a : Int) (b : Int) = ((a ^^^ b : Nat) : Int) := by
  have hx : a ^^^ b < 2 ^ 32 := Nat.xor_lt_two_pow (by omega) (by omega)
  show IntKind.i64.wrap ((BitVec.ofInt 64 (a : Int) ^^^ BitVec.ofInt 64 (b : Int)).toNat : Int) = _
  rw [BitVec.toNat_xor, ofInt_nat ha, ofInt_nat hb, IntKind.wrap_i64]
  omega
theorem i64_and (a : Nat) (c : Int) (b : Nat) (ha : a < 4294967296) (hb : (BitVec.ofInt 64 c).toNat = b) : bits BinOp.and IntKind.i64 (a : Int) c = ((a &&& b : Nat) : Int) := by
  have hx : a &&& b ≤ a := Nat.and_le_left
  show IntKind.i64.wrap ((BitVec.ofInt 64 (a : Int) &&& BitVec.ofInt 64 c).toNat : Int) = _
  rw [BitVec.toNat_and, ofInt_nat ha, hb, IntKind.wrap_i64]
  omega
theorem ofInt_neg {x : Nat} (h0 : 0 < x) (h : x < 4294967296) : (BitVec.ofInt 64 (-(x : Int))).toNat = 2 ^ 64 - x := by
  rw [BitVec.toNat_ofInt]
  have : (-(x : Int)) % ((2 ^ 64 : Nat) : Int) = ((2 ^ 64 - x : Nat) : Int) := by
    have e : ((2 ^ 64 - x : Nat) : Int) = -(x : Int) + ((2 ^ 64 : Nat) : Int) := by omega
    rw [e, Int.emod_eq_iff (by decide)]
    have : ((2 ^ 64 : Nat) : Int) = 18446744073709551616 := rfl
    refine ⟨by omega, by rw [this] at *; simp; omega, ⟨1, by omega⟩⟩
  rw [this]
  simp
theorem low_bit {x u t r : Nat} (h : Run7 x u t r) (hx : x < 4294967296) : x &&& (2 ^ 64 - x) = 2 ^ t := by
  have hr := Nat.one_le_two_pow (n := r - 1)
  have hpr : 2 ^ r = 2 * 2 ^ (r - 1) := by
    have := h.pos
    rw [show r = (r - 1) + 1 by omega, Nat.pow_succ, Nat.mul_comm]; rfl
  have ht := Nat.one_le_two_pow (n := t)
  obtain ⟨q, hq⟩ : ∃ q, x = 2 ^ t * (2 * q + 1) := ⟨2 ^ r * u + (2 ^ (r - 1) - 1), by
    rw [h.eq, Nat.add_assoc, Nat.pow_add, Nat.mul_assoc, ← Nat.mul_add]
    congr 1
    rw [Nat.pow_succ, hpr, Nat.mul_comm _ 2, Nat.mul_assoc 2]
    omega⟩
  have hx0 : 0 < x := by rw [hq]; exact Nat.mul_pos (by omega) (by omega)
  obtain ⟨y, hy⟩ : ∃ y, y = x - 1 := ⟨_, rfl⟩
  have hyq : y = 2 ^ t * (2 * q) + (2 ^ t - 1) := by rw [hy, hq, Nat.mul_add]; omega
  have hxq : x = 2 ^ t * (2 * q + 1) + 0 := by omega
  rw [show 2 ^ 64 - x = 2 ^ 64 - (y + 1) by omega]
  apply Nat.eq_of_testBit_eq
  intro i
  rw [Nat.testBit_and, Nat.testBit_two_pow_sub_succ (by omega), Nat.testBit_two_pow]
  have h1 : x.testBit i = if i < t then false else (2 * q + 1).testBit (i - t) := by
    rw [hxq, Nat.testBit_two_pow_mul_add _ (Nat.two_pow_pos t)]; simp
  have h2 : y.testBit i = if i < t then (2 ^ t - 1).testBit i else (2 * q).testBit (i - t) := by
    rw [hyq, Nat.testBit_two_pow_mul_add _ (by omega)]
  rw [h1, h2]
  by_cases hit : i < t
  · rw [if_pos hit, if_pos hit]; simp <;> omega
  · rw [if_neg hit, if_neg hit]
    by_cases e : i = t
    · subst e
      have h64 : i < 64 := by
        rcases Nat.lt_or_ge i 64 with h | h
        · exact h
        · have : 2 ^ 64 ≤ 2 ^ i := Nat.pow_le_pow_right (by omega) h
          have h3 : 2 ^ i * 1 ≤ 2 ^ i * (2 * q + 1) := Nat.mul_le_mul_left _ (by omega)
          omega
      rw [Nat.sub_self]
      simp [h64]
    · obtain ⟨j, hj⟩ : ∃ j, i - t = j + 1 := ⟨i - t - 1, by omega⟩
      rw [hj, Nat.testBit_succ, Nat.testBit_succ, show (2 * q + 1) / 2 = q by omega, show 2 * q / 2 = q by omega]
      have : decide (t = i) = false := decide_eq_false (by omega)
      rw [this]
      cases q.testBit j <;> simp
theorem xor_up {x u t r : Nat} (h : Run7 x u t r) : x ^^^ (2 ^ (t + r + 1) * u + 2 ^ (t + r)) = 2 ^ t * (2 ^ (r + 1) - 1) := by
  have hr := Nat.one_le_two_pow (n := r)
  have hlow : 2 ^ t * (2 ^ r - 1) < 2 ^ (t + r + 1) := by
    rw [Nat.pow_succ, Nat.pow_add, Nat.mul_assoc]
    exact Nat.mul_lt_mul_of_pos_left (by omega) (Nat.two_pow_pos t)
  apply Nat.eq_of_testBit_eq
  intro i
  rw [Nat.testBit_xor, h.eq, Nat.testBit_two_pow_mul_add _ hlow, Nat.testBit_two_pow_mul_add _ (by rw [Nat.pow_succ]; have := Nat.two_pow_pos (t + r); omega), Nat.testBit_two_pow_mul, Nat.testBit_two_pow_mul, Nat.testBit_two_pow_sub_one, Nat.testBit_two_pow_sub_one, Nat.testBit_two_pow]
  by_cases h1 : i < t + r + 1
  · rw [if_pos h1, if_pos h1]
    by_cases h2 : t ≤ i
    · by_cases h3 : i = t + r
      · subst h3; simp <;> omega
      · have a1 : decide (i - t < r) = true := decide_eq_true (by omega)
        have a2 : decide (i - t < r + 1) = true := decide_eq_true (by omega)
        have a3 : decide (t + r = i) = false := decide_eq_false (by omega)
        rw [a1, a2, a3]; simp
    · have a0 : decide (i ≥ t) = false := decide_eq_false (by omega)
      have a3 : decide (t + r = i) = false := decide_eq_false (by omega)
      rw [a0, a3]; simp
  · rw [if_neg h1, if_neg h1]
    have a2 : decide (i - t < r + 1) = false := decide_eq_false (by omega)
    rw [a2]; simp
theorem or_nxt {u t r : Nat} (hr : 1 ≤ r) : (2 ^ (t + r + 1) * u + 2 ^ (t + r)) ||| (2 ^ (r - 1) - 1) = nxtV u t r := by
  have h1 := low_lt (t := t) hr
  have e : 2 ^ (t + r + 1) * u + 2 ^ (t + r) = 2 ^ (t + r) * (2 * u + 1) := by rw [Nat.pow_succ, Nat.mul_add, Nat.mul_one, Nat.mul_assoc]
  unfold nxtV
  rw [e, ← Nat.two_pow_add_eq_or_of_lt h1]
  rw [← Nat.add_assoc, e]
set_option maxRecDepth 100000 in
set_option maxHeartbeats 2000000 in
theorem next_any {x u t r : Nat} (w : World) (h : Run7 x u t r) (hx : x < 16777216) (hn : nxtV u t r < 67108864) :
    Calls Tryd.prog 76 #[.int .i64 x] w fun e w' => e = .returned (.int .i64 (nxtV u t r : Nat)) ∧ w' = w := by
  have hx0 : 0 < x := by
    rcases Nat.eq_zero_or_pos x with h0 | h0
    · have h1 := run_cnt h
      rw [h0, cnt7_zero] at h1
      have := h.pos
      omega
    · exact h0
  obtain ⟨L, hL⟩ : ∃ L, L = 2 ^ t := ⟨_, rfl⟩
  obtain ⟨U, hU⟩ : ∃ U, U = 2 ^ (t + r + 1) * u + 2 ^ (t + r) := ⟨_, rfl⟩
  obtain ⟨Q, hQ⟩ : ∃ Q, Q = 2 ^ (r + 1) - 1 := ⟨_, rfl⟩
  obtain ⟨Z, hZ⟩ : ∃ Z, Z = 2 ^ (r - 1) - 1 := ⟨_, rfl⟩
  obtain ⟨V, hV⟩ : ∃ V, V = nxtV u t r := ⟨_, rfl⟩
  have hL0 : 0 < L := by rw [hL]; exact Nat.two_pow_pos t
  have hUV : U ≤ V := by rw [hU, hV]; unfold nxtV; omega
  have hrun : x + L = U := by
    rw [h.eq, hL, hU, Nat.pow_add 2 t r, Nat.mul_sub, Nat.mul_one]
    have : 2 ^ t ≤ 2 ^ t * 2 ^ r := Nat.le_mul_of_pos_right _ (Nat.two_pow_pos r)
    omega
  have b1 : bits BinOp.and IntKind.i64 (x : Int) (-(x : Int)) = (L : Int) := by
    rw [i64_and x _ _ (by omega) (ofInt_neg hx0 (by omega)), low_bit h (by omega), hL]
  have hX : x ^^^ U = L * Q := by rw [hU, xor_up h, hL, hQ]
  have b2 : bits BinOp.xor IntKind.i64 (x : Int) (U : Int) = ((L * Q : Nat) : Int) := by rw [i64_xor x U (by omega) (by rw [← hV] at hn; omega), hX]
  have b3 : bits BinOp.or IntKind.i64 (U : Int) (Z : Int) = (V : Int) := by
    have hZU : Z < 4294967296 := by
      have := low_lt (t := t) h.pos
      have h2 : 2 ^ (t + r) ≤ U := by rw [hU]; omega
      rw [← hV] at hn
      omega
    rw [i64_or U Z (by rw [← hV] at hn; omega) hZU, hU, hZ, or_nxt h.pos, hV]
  have hLQ : L * Q < 2 ^ 26 := by rw [← hX]; exact Nat.xor_lt_two_pow (by omega) (by rw [← hV] at hn; omega)
  have b4 : ((L * Q : Nat) : Int).tdiv (L : Int) = (Q : Int) := by
    rw [Int.natCast_mul, Int.mul_tdiv_cancel_left _ (by omega)]
  have b5 : (Q : Int) / 4 = (Z : Int) := by
    have h1 := Nat.one_le_two_pow (n := r - 1)
    have h2 : 2 ^ (r + 1) = 4 * 2 ^ (r - 1) := by
      have := h.pos
      rw [show r + 1 = (r - 1) + 1 + 1 by omega, Nat.pow_succ, Nat.pow_succ]; omega
    rw [hQ, hZ]; omega
  have hsum : (x : Int) + (L : Int) = (U : Int) := by omega
  have hwr : IntKind.i64.wrap (-(x : Int)) = -(x : Int) := by rw [IntKind.wrap_i64]; omega
  have hne : ¬ (L : Int) = 0 := by omega
  have hQs : Q ≤ L * Q := Nat.le_mul_of_pos_left _ hL0
  rw [← hV] at hn ⊢
  generalize L * Q = E at b2 b4 hLQ hQs
  clear h hx0 hL hU hQ hZ hV hrun hX
  go_enter Tryd.func76, Tryd.ntmps76
  go_wp2_with fail
  go_ret
  exact ⟨rfl, rfl⟩
end Go.Proofs.YtcnljemnkhmfcaaDoor

namespace Go.Proofs.YtcnljemnkhmfcaaDoor
set_option linter.unusedVariables false
set_option linter.unusedSimpArgs false
open Go.RowKit
attribute [local go_sem] Oper.semAt_some

theorem nxt_three {x u t r : Nat} (h : Run7 x u t r) : nxtV u t r ≤ 3 * x := by
  have hr := h.pos
  have ha := Nat.one_le_two_pow (n := t)
  have hb := Nat.one_le_two_pow (n := r - 1)
  have e1 : 2 ^ r = 2 * 2 ^ (r - 1) := by rw [show r = (r - 1) + 1 by omega, Nat.pow_succ, Nat.mul_comm]; rfl
  have hx := h.eq
  unfold nxtV
  have e2 : 2 ^ (t + r) = 2 * (2 ^ t * 2 ^ (r - 1)) := by rw [Nat.pow_add, e1, Nat.mul_left_comm]
  have e3 : 2 ^ t * (2 ^ r - 1) = 2 * (2 ^ t * 2 ^ (r - 1)) - 2 ^ t := by rw [Nat.mul_sub, Nat.mul_one, e1, Nat.mul_left_comm]
  have h1 : 2 ^ t * 1 ≤ 2 ^ t * 2 ^ (r - 1) := Nat.mul_le_mul_left _ hb
  have h2 : 1 * 2 ^ (r - 1) ≤ 2 ^ t * 2 ^ (r - 1) := Nat.mul_le_mul_right _ ha
  rw [e3] at hx
  rw [e2]
  omega
/-- A set of some of p pieces. -/
abbrev LS (p : Nat) := {x : Nat // 0 < x ∧ x < 2 ^ p}
/-- Those of m pieces below x. -/
def seg7 (p m x : Nat) : List (LS p) := (List.range x).filterMap fun y => if h : (0 < y ∧ y < 2 ^ p) ∧ cnt7 y = m then some ⟨y, h.1⟩ else none
/-- Those of at most m pieces. -/
def los7 (p : Nat) : Nat → List (LS p)
  | 0 => []
  | m + 1 => los7 p m ++ seg7 p (m + 1) (2 ^ p)
theorem seg7_succ (p m x : Nat) : seg7 p m (x + 1) = seg7 p m x ++ if h : (0 < x ∧ x < 2 ^ p) ∧ cnt7 x = m then [⟨x, h.1⟩] else [] := by
  unfold seg7
  rw [List.range_succ, List.filterMap_append]
  congr 1
  by_cases h : (0 < x ∧ x < 2 ^ p) ∧ cnt7 x = m
  · rw [dif_pos h]; simp [h]
  · rw [dif_neg h]; simp [h]
theorem seg7_up {p m a : Nat} : ∀ b, a ≤ b → (∀ y, a ≤ y → y < b → 0 < y → y < 2 ^ p → cnt7 y ≠ m) → seg7 p m b = seg7 p m a
  | 0, h, _ => by rw [Nat.le_zero.1 h]
  | b + 1, h, hn => by
    by_cases e : a = b + 1
    · rw [e]
    · rw [seg7_succ, seg7_up b (by omega) (fun y h1 h2 => hn y h1 (by omega)), dif_neg (fun hh => hn b (by omega) (by omega) hh.1.1 hh.1.2 hh.2), List.append_nil]
theorem seg7_one {p m x : Nat} (h0 : 0 < x) (h1 : x < 2 ^ p) (h2 : cnt7 x = m) : seg7 p m (x + 1) = seg7 p m x ++ [⟨x, h0, h1⟩] := by
  rw [seg7_succ, dif_pos ⟨⟨h0, h1⟩, h2⟩]
theorem seg7_first {p m : Nat} (hm : 0 < m) : seg7 p m (2 ^ m - 1) = [] := by
  rw [seg7_up (a := 0) _ (Nat.zero_le _) (fun y _ h2 _ _ hc => by have := cnt7_low y y (Nat.le_refl _); rw [hc] at this; omega)]
  rfl
theorem seg7_last {p m x : Nat} (h : 2 ^ p ≤ x) : seg7 p m x = seg7 p m (2 ^ p) := seg7_up _ h (fun y h1 _ _ h3 _ => by omega)
theorem seg7_len (p m x : Nat) : (seg7 p m x).length ≤ x := by
  unfold seg7
  have := List.length_filterMap_le (fun y => if h : (0 < y ∧ y < 2 ^ p) ∧ cnt7 y = m then some (⟨y, h.1⟩ : LS p) else none) (List.range x)
  rw [List.length_range] at this
  exact this
theorem los7_len (p : Nat) : ∀ m, (los7 p m).length ≤ m * 2 ^ p
  | 0 => by simp [los7]
  | m + 1 => by
    have h1 := los7_len p m
    have h2 := seg7_len p (m + 1) (2 ^ p)
    rw [los7, List.length_append, Nat.succ_mul]
    omega
theorem seg7_mem {p m x : Nat} {s : LS p} (h : s ∈ seg7 p m x) : cnt7 s.1 = m ∧ s.1 < x := by
  unfold seg7 at h
  obtain ⟨y, hy, he⟩ := List.mem_filterMap.1 h
  split at he
  · rename_i hh
    injection he with he
    subst he
    exact ⟨hh.2, List.mem_range.1 hy⟩
  · cases he
theorem mem_seg7 {p m x y : Nat} (h0 : 0 < y) (h1 : y < 2 ^ p) (h2 : cnt7 y = m) (h3 : y < x) : (⟨y, h0, h1⟩ : LS p) ∈ seg7 p m x := by
  unfold seg7
  refine List.mem_filterMap.2 ⟨y, List.mem_range.2 h3, ?_⟩
  rw [dif_pos ⟨⟨h0, h1⟩, h2⟩]
theorem los7_mem {p : Nat} : ∀ {m : Nat} {s : LS p}, s ∈ los7 p m → cnt7 s.1 ≤ m
  | 0, s, h => by cases h
  | m + 1, s, h => by
    rcases List.mem_append.1 h with h | h
    · exact Nat.le_succ_of_le (los7_mem h)
    · exact Nat.le_of_eq (seg7_mem h).1
theorem mem_los7 {p y : Nat} (h0 : 0 < y) (h1 : y < 2 ^ p) : ∀ {m : Nat}, cnt7 y ≤ m → (⟨y, h0, h1⟩ : LS p) ∈ los7 p m
  | 0, h => by
    have := cnt7_low y y (Nat.le_refl _)
    have h2 : cnt7 y = 0 := by omega
    exfalso
    obtain ⟨u, t, r, hr⟩ := run_any y y (Nat.le_refl _) h0
    have := run_cnt hr
    have := hr.pos
    omega
  | m + 1, h => by
    rw [los7]
    by_cases e : cnt7 y = m + 1
    · exact List.mem_append_right _ (mem_seg7 h0 h1 e h1)
    · exact List.mem_append_left _ (mem_los7 h0 h1 (by omega))

/-- Where a walk over the sets was left. -/
def Left7 (p : Nat) (pre : List (LS p)) : Prop := ∃ m, ∃ x : LS p, pre = (los7 p m ++ seg7 p (m + 1) x.1) ++ [x] ∧ cnt7 x.1 = m + 1 ∧ m < p
/-- What a round keeps: the blocks below, and a named block. -/
def KeepC (B b : Nat) (W W' : World) : Prop := Below B W W' ∧ W'.heap[b]? = W.heap[b]?
theorem KeepC.refl (B b : Nat) (W : World) : KeepC B b W W := ⟨Below.refl _ _, rfl⟩
theorem KeepC.trans {B b : Nat} {X Y Z : World} (h : KeepC B b X Y) (k : KeepC B b Y Z) : KeepC B b X Z := ⟨h.1.trans k.1, k.2.trans h.2⟩
theorem keepC_t {B b : Nat} {X Y Z : World} (h : KeepC B b X Y) (k : KeepC B b Y Z) : KeepC B b X Z := h.trans k
theorem keepC_b {B b : Nat} {w : World} (hb : b < w.heap.size) (hB : B ≤ w.heap.size) (W : World) (l : Nat) (o o' : Obj) (hl : w.heap.size ≤ l) (h : W.heap[l]? = some o) (ho : o.isCells = false) (hw : o.isWalk = false) : KeepC B b W (W.putObj l o') :=
  ⟨belowK_b hB W l o o' hl h ho hw, World.putObj_heap_other (by omega)⟩
theorem KeepC.of {B b : Nat} {W W' : World} (h : Below W.heap.size W W') (hB : B ≤ W.heap.size) (hb : b < W.heap.size) : KeepC B b W W' := ⟨h.mono hB, h.block b hb⟩

theorem yieldOne7 {F : Fence} {m : Nat} {P : Program} {l : Nat} {args : Array Value} {W : World} {A C : World → Prop}
    (h : YieldAt F m P l args W fun e W' => (e = .returned (.bool true) ∧ A W') ∨ (e = .returned (.bool false) ∧ C W')) :
    YieldAt F m P l args W fun e W' => ∃ b, e = .returned (.bool b) ∧ Hid (if b = true then A W' else C W') := by
  obtain ⟨fn, tmps, assign, body, h1, h2⟩ := h
  refine ⟨fn, tmps, assign, body, h1, RoundIn.mono h2 fun e W' hh => ?_⟩
  rcases hh with ⟨h1, h2⟩ | ⟨h1, h2⟩
  · exact ⟨true, h1, by show (if true = true then A W' else C W'); rw [if_pos rfl]; exact h2⟩
  · exact ⟨false, h1, by show (if false = true then A W' else C W'); rw [if_neg (by simp)]; exact h2⟩

set_option maxRecDepth 100000 in
theorem losses_any (p : Int) (w : World) : Calls Tryd.prog 50 #[.int .i64 p] w fun e w' => e = .returned (.func (.func 75) #[] #[.pointer (some ⟨w.heap.size, 0, none⟩)]) ∧ w' = w.alloc (.cells #[.int .i64 p] 3) := by
  go_enter Tryd.func50, Tryd.ntmps50
  go_wp2_with fail
  go_ret
  exact ⟨rfl, rfl⟩

theorem two_wrap {m : Nat} (hm : m ≤ 24) : wrap64 ((2 : Int) ^ m) = ((2 ^ m : Nat) : Int) ∧ 2 ^ m ≤ 16777216 := by
  have h : 2 ^ m ≤ 2 ^ 24 := Nat.pow_le_pow_right (by omega) hm
  have e : (2 : Int) ^ m = ((2 ^ m : Nat) : Int) := by rw [Int.natCast_pow]; rfl
  rw [e]
  generalize 2 ^ m = q at *
  exact ⟨by unfold wrap64; omega, h⟩

set_option maxRecDepth 100000 in
set_option maxHeartbeats 4000000 in
theorem losses1_in {B : Nat} (n : Nat) (l b p : Nat) (J Jx : List (LS p) → World → Prop) (hp : p ≤ 24)
    (hJ : ∀ pre A C, J pre A → Below A.heap.size A C → J pre C)
    (hY : ∀ pre x W, J pre W → pre.length < p * 2 ^ p → YieldAt Fence.wide (n - 1) Tryd.prog l #[.int .i64 (x.1 : Int)] W fun e W' =>
      (e = .returned (.bool true) ∧ J (pre ++ [x]) W' ∧ KeepC B b W W') ∨ (e = .returned (.bool false) ∧ Jx (pre ++ [x]) W'))
    (W : World) (kb : Blk W b [.int .i64 (p : Int)] 3) (h0 : J [] W) :
    CallsIn Fence.wide n Tryd.prog 75 #[.func (.yield l) #[] #[], .pointer (some ⟨b, 0, none⟩)] W fun e W' => (∃ v, e = .returned v) ∧
      ((∃ ys, ys = los7 p p ∧ J ys W') ∨ (∃ pre, Left7 p pre ∧ Jx pre W')) := by
  have hro : Fence.wide.round = none := rfl
  have hJ' := Lib.hid hJ
  have hY' := Lib.hid hY
  have h0' := Lib.hid h0
  have kb' := Lib.hid kb
  obtain ⟨P, hP⟩ : ∃ P, P = 2 ^ p := ⟨_, rfl⟩
  obtain ⟨hP1, hP2⟩ := two_wrap hp
  rw [← hP] at hP1 hP2
  have hPH := Lib.hid hP
  clear hJ hY kb h0 hP
  refine callsIn_of_wp Tryd.func75 rfl trivial ?_ hro
  simp only [Tryd.ntmps75, List.size_toArray, List.length_cons, List.length_nil, Nat.reduceAdd, Nat.reduceSub, Array.replicate_succ, Array.replicate_zero, List.push_toArray, List.append_toArray, List.nil_append, List.cons_append]
  gi_wp2_with fail
  gi_loopw [3] (fun i wr => ∃ m : Nat, m ≤ p ∧ i = .int .i64 ((m + 1 : Nat) : Int) ∧ Hid (J (los7 p m) wr) ∧ Hid (KeepC B b W wr)) (fun i _ => p + 1 - (intOf i).toNat)
  case atStart => exact ⟨0, by omega, rfl, h0', KeepC.refl _ _ _⟩
  case round =>
    obtain ⟨m, hm, rfl, hJm, hK⟩ := hrel
    have q1 : wr.cell? ⟨b, 0, none⟩ = some (.int .i64 (p : Int)) := by
      have : Blk wr b [.int .i64 (p : Int)] 3 := hK.out.2.trans kb'.out
      exact this.cell (j := 0) rfl
    by_cases hlt : m < p
    · have t : ((m + 1 : Nat) : Int) ≤ (p : Int) := by omega
      obtain ⟨M, hM⟩ : ∃ M, M = m + 1 := ⟨_, rfl⟩
      rw [← hM] at t ⊢
      obtain ⟨hS1, hS2⟩ := two_wrap (m := M) (by omega)
      have u1 : ¬ (M : Int) < 0 := by omega
      have u0 : 0 ≤ (M : Int) := by omega
      have hmin : min M 64 = M := by omega
      have v1 : ¬ (p : Int) < 0 := by omega
      have v0 : 0 ≤ (p : Int) := by omega
      have hminp : min p 64 = p := by omega
      have hMH := Lib.hid hM
      have hs1 := Nat.one_le_two_pow (n := M)
      have h7 : Hid (seg7 p M (2 ^ M - 1) = []) := seg7_first (by omega)
      have h8 : Hid (cnt7 (2 ^ M - 1) = M) := cnt7_ones M
      generalize 2 ^ M = S at hS1 hS2 hs1 h7 h8
      have hSS : ((S : Int) - 1) = ((S - 1 : Nat) : Int) := by omega
      have hSw : wrap64 ((S : Int) - 1) = ((S - 1 : Nat) : Int) := by unfold wrap64; omega
      clear hM
      gi_wp2_with fail
      gi_loopw [4] (fun i wq => ∃ x : Nat, i = .int .i64 (x : Int) ∧ 0 < x ∧ x < 67108864 ∧ Hid (cnt7 x = M) ∧ Hid (J (los7 p m ++ seg7 p M x) wq) ∧ Hid (KeepC B b W wq)) (fun i _ => 67108864 - (intOf i).toNat)
      case atStart => exact ⟨S - 1, rfl, by have := h8.out; have := hMH.out; rcases Nat.eq_zero_or_pos (S - 1) with h | h; (rw [h, cnt7_zero] at h8; have := h8.out; omega); exact h, by omega, h8, by show J _ _; rw [h7.out, List.append_nil]; exact hJm.out, hK⟩
      case round =>
        clear q1 hSS hSw hS1 hS2 hs1 h7 h8
        obtain ⟨x, rfl, hx0, hx26, hcx, hJx, hKx⟩ := hrel
        have kr : Hid (Blk wr b [.int .i64 (p : Int)] 3) := hKx.out.2.trans kb'.out
        have q1 : wr.cell? ⟨b, 0, none⟩ = some (.int .i64 (p : Int)) := kr.out.cell (j := 0) rfl
        by_cases hxP : x < P
        · have t2 : (x : Int) < (P : Int) := by omega
          have hxp : x < 2 ^ p := by rw [← hPH.out]; exact hxP
          have hlen : (los7 p m ++ seg7 p M x).length < p * 2 ^ p := by
            have h1 := los7_len p m
            have h2 := seg7_len p M x
            have h3 : (m + 1) * 2 ^ p ≤ p * 2 ^ p := Nat.mul_le_mul_right _ hlt
            rw [Nat.succ_mul] at h3
            rw [List.length_append]
            omega
          have HY1 := yieldOne7 (hY'.out _ ⟨x, hx0, hxp⟩ wr hJx.out hlen)
          dsimp only at HY1
          obtain ⟨u, tt, r, hr⟩ := run_any x x (Nat.le_refl _) hx0
          have hn3 := nxt_three hr
          have CN := Lib.hid (fun W => next_any W hr (by omega) (by omega))
          have hgt := run_lt hr
          have hnc : Hid (cnt7 (nxtV u tt r) = M) := by show _ = _; rw [nxt_cnt hr.pos, ← run_cnt hr]; exact hcx.out
          have hseg : Hid (seg7 p M (nxtV u tt r) = seg7 p M x ++ [⟨x, hx0, hxp⟩]) := by
            show _ = _
            rw [seg7_up (a := x + 1) _ hgt (fun y h1 h2 _ _ => by rw [← hcx.out]; exact nxt_least hr (by omega) h2)]
            exact seg7_one hx0 hxp hcx.out
          obtain ⟨V, hV⟩ : ∃ V, V = nxtV u tt r := ⟨_, rfl⟩
          rw [← hV] at hn3 CN hgt hnc hseg
          clear hr hV
          obtain ⟨fn, tmps, assign, body, hy, hR⟩ := HY1
          have hleft : Hid (Left7 p ((los7 p m ++ seg7 p M x) ++ [⟨x, hx0, hxp⟩])) := ⟨m, ⟨x, hx0, hxp⟩, by rw [← hMH.out], by rw [← hMH.out]; exact hcx.out, hlt⟩
          have hnt : (!true) = false := rfl
          have hnf : (!false) = true := rfl
          gi_wp2_with (refine ⟨(fun hh => (by cases hh)), RoundIn.mono hR ?_⟩; rintro e w6 ⟨_ | _, rfl, hb⟩)
          · have hbb := hb.out
            refine bodyPost_ret (results_none rfl _ _ _) rfl ?_
            exact ⟨⟨_, rfl⟩, .inr ⟨_, hleft.out, by simpa using hbb⟩⟩
          · have hbb := hb.out
            simp only [if_true] at hbb
            gi_wp2_with (refine ⟨trivial, (fun hh => (by cases hh)), ?_⟩; refine (callsIn_wide.2 (CN.out _)).mono ?_; rintro e w7 ⟨rfl, rfl⟩)
            exact ⟨⟨V, rfl, by omega, by omega, hnc, by show J _ _; rw [hseg.out, ← List.append_assoc]; exact hbb.1, hKx.out.trans hbb.2⟩, by simp [intOf]; omega⟩
        · have t2 : ¬ (x : Int) < (P : Int) := by omega
          have hfin : Hid (los7 p m ++ seg7 p M x = los7 p M) := by
            show _ = _
            have hh := hMH.out
            subst hh
            rw [los7, seg7_last (by rw [← hPH.out]; omega)]
          gi_wp2_with fail
          go_roundw
          case rel => exact ⟨m + 1, by omega, by have := hMH.out; go_num, by rw [← hMH.out, ← hfin.out]; exact hJx, hKx⟩
          case measure => have := hMH.out; simp [intOf]; omega
    · have t : ¬ ((m + 1 : Nat) : Int) ≤ (p : Int) := by omega
      obtain rfl : m = p := by omega
      gi_wp2_with fail
      go_end0
      first | exact ⟨⟨_, rfl⟩, .inl hJm.out⟩ | exact ⟨⟨_, rfl⟩, .inl ⟨_, rfl, hJm.out⟩⟩

theorem losses_stops {B : Nat} (n b p : Nat) (hp : p ≤ 24) (w : World) (kb : Blk w b [.int .i64 (p : Int)] 3) :
    SeqStopsK Fence.wide n Tryd.prog 75 #[.pointer (some ⟨b, 0, none⟩)] (fun x : LS p => #[Value.int .i64 (x.1 : Int)]) (KeepC B b) (fun ys => ys = los7 p p) (Left7 p) (p * 2 ^ p) w := fun l J Jx W hW hJ _ hY h0 =>
  losses1_in n l b p J Jx hp (fun pre A C hA hb => hJ pre A C none hA (⟨hb.os, hb.tape, hb.output, hb.size, fun i hi _ => hb.block i hi⟩) (fun r e => by cases e)) hY W (kb.below hW kb.lt) h0
end Go.Proofs.YtcnljemnkhmfcaaDoor

namespace Go.Proofs.YtcnljemnkhmfcaaDoor
namespace Pop
/-- The number that bytes make, the least one first. -/
def val : List Nat → Nat
  | [] => 0
  | b :: bs => b + 256 * val bs
theorem and_split (a b c d : Nat) (hb : b < 256) (hd : d < 256) : (b + 256 * a) &&& (d + 256 * c) = (b &&& d) + 256 * (a &&& c) := by
  have e : ∀ x y : Nat, x < 256 → x + 256 * y = 2 ^ 8 * y + x := fun x y _ => by omega
  have hbd : b &&& d < 256 := Nat.lt_of_le_of_lt Nat.and_le_left hb
  rw [e b a hb, e d c hd, e _ _ hbd]
  apply Nat.eq_of_testBit_eq
  intro i
  rw [Nat.testBit_and, Nat.testBit_two_pow_mul_add _ hb, Nat.testBit_two_pow_mul_add _ hd, Nat.testBit_two_pow_mul_add _ hbd, Nat.testBit_and, Nat.testBit_and]
  split <;> rfl
theorem and_val (m : Nat) (hm : m < 256) : ∀ (bs : List Nat), (∀ b ∈ bs, b < 256) → val bs &&& val (List.replicate bs.length m) = val (bs.map (· &&& m))
  | [], _ => by simp [val]
  | b :: bs, h => by
    rw [List.length_cons, List.replicate_succ, List.map_cons]
    simp only [val]
    rw [and_split _ _ _ _ (h b (by simp)) hm, and_val m hm bs fun x hx => h x (by simp [hx])]
theorem div_val (q : Nat) (hq : 256 % q = 0) (hq0 : 0 < q) : ∀ (bs : List Nat), (∀ b ∈ bs, b % q = 0) → val bs / q = val (bs.map (· / q)) ∧ val bs % q = 0
  | [], _ => by simp [val]
  | b :: bs, h => by
    have ih := div_val q hq hq0 bs fun x hx => h x (by simp [hx])
    have hb := h b (by simp)
    simp only [val, List.map_cons]
    obtain ⟨k, hk⟩ := Nat.dvd_of_mod_eq_zero hq
    obtain ⟨x, hx⟩ := Nat.dvd_of_mod_eq_zero hb
    obtain ⟨y, hy⟩ := Nat.dvd_of_mod_eq_zero ih.2
    rw [← ih.1, hx, hy, Nat.mul_div_cancel_left _ hq0, Nat.mul_div_cancel_left _ hq0]
    rw [show q * x + 256 * (q * y) = q * (x + 256 * y) by rw [Nat.mul_add]; congr 1; rw [← Nat.mul_assoc, ← Nat.mul_assoc, Nat.mul_comm 256 q], Nat.mul_div_cancel_left _ hq0]
    exact ⟨rfl, Nat.mul_mod_right _ _⟩
theorem add_val : ∀ (bs cs : List Nat), bs.length = cs.length → val bs + val cs = val (List.zipWith (· + ·) bs cs)
  | [], [], _ => rfl
  | b :: bs, c :: cs, h => by
    have := add_val bs cs (by simpa using h)
    simp only [val, List.zipWith_cons_cons]
    omega
theorem val_lt : ∀ (bs : List Nat), (∀ b ∈ bs, b < 256) → val bs < 256 ^ bs.length
  | [], _ => by simp [val]
  | b :: bs, h => by
    have := val_lt bs fun x hx => h x (by simp [hx])
    have := h b (by simp)
    simp only [val, List.length_cons, Nat.pow_succ]
    omega
/-- How many ones a byte has. -/
def pc (b : Nat) : Nat := b % 2 + b / 2 % 2 + b / 4 % 2 + b / 8 % 2 + b / 16 % 2 + b / 32 % 2 + b / 64 % 2 + b / 128 % 2
theorem step12 : ∀ b, b < 256 → ((b &&& 170) / 2 + (b &&& 85) < 256) ∧ (((((b &&& 170) / 2 + (b &&& 85)) &&& 204) / 4 + (((b &&& 170) / 2 + (b &&& 85)) &&& 51)) % 16 + ((((b &&& 170) / 2 + (b &&& 85)) &&& 204) / 4 + (((b &&& 170) / 2 + (b &&& 85)) &&& 51)) / 16 = pc b) ∧ ((((b &&& 170) / 2 + (b &&& 85)) &&& 204) / 4 + (((b &&& 170) / 2 + (b &&& 85)) &&& 51)) ≤ 68 ∧ ((((b &&& 170) / 2 + (b &&& 85)) &&& 204) / 4 + (((b &&& 170) / 2 + (b &&& 85)) &&& 51)) % 16 ≤ 4
    ∧ (b &&& 170) % 2 = 0 ∧ (((b &&& 170) / 2 + (b &&& 85)) &&& 204) % 4 = 0 := by decide +kernel
/-- Ones of a number. -/
def ones : Nat → Nat → Nat
  | 0, _ => 0
  | f + 1, n => n % 2 + ones f (n / 2)
theorem ones_byte (f b q : Nat) (hb : b < 256) : ones (f + 8) (b + 256 * q) = pc b + ones f q := by
  simp only [ones]
  have h8 : (b + 256 * q) / 2 / 2 / 2 / 2 / 2 / 2 / 2 / 2 = q := by omega
  rw [h8]
  unfold pc
  omega
theorem and_shift (x m k : Nat) : (x / 2 ^ k) &&& m = (x &&& (m * 2 ^ k)) / 2 ^ k := by
  apply Nat.eq_of_testBit_eq
  intro i
  rw [Nat.testBit_and, Nat.testBit_div_two_pow, Nat.testBit_div_two_pow, Nat.testBit_and, Nat.testBit_mul_two_pow]
  simp
theorem bytes_of : ∀ (n x : Nat), x < 256 ^ n → ∃ bs, bs.length = n ∧ (∀ b ∈ bs, b < 256) ∧ x = val bs
  | 0, x, h => ⟨[], rfl, by simp, by simp [val]; omega⟩
  | n + 1, x, h => by
    obtain ⟨bs, h1, h2, h3⟩ := bytes_of n (x / 256) (by rw [Nat.pow_succ] at h; omega)
    exact ⟨x % 256 :: bs, by simp [h1], fun b hb => by rcases List.mem_cons.1 hb with rfl | hb; exact Nat.mod_lt _ (by decide); exact h2 b hb, by simp only [val]; omega⟩
/-- A byte, its ones counted by pairs, by fours. -/
def s1 (b : Nat) : Nat := (b &&& 170) / 2 + (b &&& 85)
def s2 (b : Nat) : Nat := (s1 b &&& 204) / 4 + (s1 b &&& 51)
theorem step (b : Nat) (h : b < 256) : s1 b < 256 ∧ s2 b % 16 + s2 b / 16 = pc b ∧ s2 b ≤ 68 ∧ s2 b % 16 ≤ 4 ∧ (b &&& 170) % 2 = 0 ∧ (s1 b &&& 204) % 4 = 0 := step12 b h
theorem zip_map (f g h : Nat → Nat) : ∀ (bs : List Nat), (∀ b, f b + g b = h b) → List.zipWith (· + ·) (bs.map f) (bs.map g) = bs.map h
  | [], _ => rfl
  | b :: bs, e => by simp only [List.map_cons, List.zipWith_cons_cons, e b, zip_map f g h bs e]
theorem pairs (m q k : Nat) (f : Nat → Nat) (hq : q = 2 ^ k) (hqq : 256 % q = 0) (hm : m * q < 256) (hm1 : m < 256) (hf : ∀ b, (b &&& (m * q)) / q + (b &&& m) = f b) (bs : List Nat) (hb : ∀ b ∈ bs, b < 256) (hz : ∀ b ∈ bs, (b &&& (m * q)) % q = 0) (M : Nat) (hM : M = val (List.replicate bs.length m)) (hMq : M * q = val (List.replicate bs.length (m * q))) :
    ((val bs / q) &&& M) + (val bs &&& M) = val (bs.map f) := by
  have hq0 : 0 < q := by rw [hq]; exact Nat.two_pow_pos _
  have h1 : (val bs / q) &&& M = (val bs &&& (M * q)) / q := by rw [hq]; exact and_shift _ _ _
  rw [h1, hMq, and_val _ hm bs hb, hM, and_val _ hm1 bs hb, (div_val q hqq hq0 _ (by intro b hb'; obtain ⟨a, ha, rfl⟩ := List.mem_map.1 hb'; exact hz a ha)).1, add_val _ _ (by simp), List.map_map]
  congr 1
  exact zip_map _ _ _ bs hf
set_option maxHeartbeats 2000000 in
theorem swar (x : Nat) (hx : x < 18446744073709551616) (y1 y2 y3 y4 y5 y6 : Nat) (h1 : y1 = ((x / 2) &&& 6148914691236517205) + (x &&& 6148914691236517205)) (h2 : y2 = ((y1 / 4) &&& 3689348814741910323) + (y1 &&& 3689348814741910323)) (h3 : y3 = (y2 / 16 + y2) &&& 1085102592571150095)
    (h4 : y4 = y3 + y3 / 256) (h5 : y5 = y4 + y4 / 65536) (h6 : y6 = y5 + y5 / 4294967296) : y6 % 128 = ones 64 x ∧ y1 < 18446744073709551616 ∧ y2 < 18446744073709551616 ∧ y2 / 16 + y2 < 18446744073709551616 ∧ y4 < 18446744073709551616 ∧ y5 < 18446744073709551616 ∧ y6 < 9223372036854775808 := by
  obtain ⟨bs, hl, hb, rfl⟩ := bytes_of 8 x hx
  have e1 : y1 = val (bs.map s1) := by
    rw [h1]
    exact pairs 85 2 1 s1 rfl (by decide) (by decide) (by decide) (fun b => rfl) bs hb (fun b h => (step b (hb b h)).2.2.2.2.1) _ (by rw [hl]; decide) (by rw [hl]; decide)
  have e2 : y2 = val (bs.map s2) := by
    rw [h2, e1]
    have h := pairs 51 4 2 (fun c => (c &&& 204) / 4 + (c &&& 51)) rfl (by decide) (by decide) (by decide) (fun b => rfl) (bs.map s1) (by intro c hc; obtain ⟨b, hb', rfl⟩ := List.mem_map.1 hc; exact (step b (hb b hb')).1) (by intro c hc; obtain ⟨b, hb', rfl⟩ := List.mem_map.1 hc; exact (step b (hb b hb')).2.2.2.2.2) 3689348814741910323 (by rw [List.length_map, hl]; decide) (by rw [List.length_map, hl]; decide)
    rw [List.map_map] at h
    exact h
  match bs, hl with
  | [b0, b1, b2, b3, b4, b5, b6, b7], _ =>
    have i0 := step b0 (hb b0 (by simp))
    have i1 := step b1 (hb b1 (by simp))
    have i2 := step b2 (hb b2 (by simp))
    have i3 := step b3 (hb b3 (by simp))
    have i4 := step b4 (hb b4 (by simp))
    have i5 := step b5 (hb b5 (by simp))
    have i6 := step b6 (hb b6 (by simp))
    have i7 := step b7 (hb b7 (by simp))
    have ho : ones 64 (val [b0, b1, b2, b3, b4, b5, b6, b7]) = pc b0 + (pc b1 + (pc b2 + (pc b3 + (pc b4 + (pc b5 + (pc b6 + pc b7)))))) := by
      simp only [val]
      rw [ones_byte 56 _ _ (hb b0 (by simp)), ones_byte 48 _ _ (hb b1 (by simp)), ones_byte 40 _ _ (hb b2 (by simp)), ones_byte 32 _ _ (hb b3 (by simp)), ones_byte 24 _ _ (hb b4 (by simp)), ones_byte 16 _ _ (hb b5 (by simp)), ones_byte 8 _ _ (hb b6 (by simp)), ones_byte 0 _ _ (hb b7 (by simp))]
      rfl
    rw [ho, ← i0.2.1, ← i1.2.1, ← i2.2.1, ← i3.2.1, ← i4.2.1, ← i5.2.1, ← i6.2.1, ← i7.2.1]
    simp only [List.map_cons, List.map_nil] at e1 e2
    have l1 : y1 < 18446744073709551616 := by
      rw [e1]
      refine Nat.lt_of_lt_of_le (val_lt _ (by
        intro b hb
        simp only [List.mem_cons, List.not_mem_nil, or_false] at hb
        rcases hb with rfl | rfl | rfl | rfl | rfl | rfl | rfl | rfl
        · exact i0.1
        · exact i1.1
        · exact i2.1
        · exact i3.1
        · exact i4.1
        · exact i5.1
        · exact i6.1
        · exact i7.1)) (by simp only [List.length_cons, List.length_nil]; decide)
    generalize s2 b0 = c0 at *
    generalize s2 b1 = c1 at *
    generalize s2 b2 = c2 at *
    generalize s2 b3 = c3 at *
    generalize s2 b4 = c4 at *
    generalize s2 b5 = c5 at *
    generalize s2 b6 = c6 at *
    generalize s2 b7 = c7 at *
    have j0 := i0.2.2; have j1 := i1.2.2; have j2 := i2.2.2; have j3 := i3.2.2; have j4 := i4.2.2; have j5 := i5.2.2; have j6 := i6.2.2; have j7 := i7.2.2
    clear i0 i1 i2 i3 i4 i5 i6 i7 ho h1 h2 hb
    have e3 : y2 / 16 + y2 = val [c0 / 16 + 16 * (c1 % 16) + c0, c1 / 16 + 16 * (c2 % 16) + c1, c2 / 16 + 16 * (c3 % 16) + c2, c3 / 16 + 16 * (c4 % 16) + c3, c4 / 16 + 16 * (c5 % 16) + c4, c5 / 16 + 16 * (c6 % 16) + c5, c6 / 16 + 16 * (c7 % 16) + c6, c7 / 16 + c7] := by
      rw [e2]; simp only [val]; omega
    have e4 : y3 = val [c0 / 16 + c0 % 16, c1 / 16 + c1 % 16, c2 / 16 + c2 % 16, c3 / 16 + c3 % 16, c4 / 16 + c4 % 16, c5 / 16 + c5 % 16, c6 / 16 + c6 % 16, c7 / 16 + c7 % 16] := by
      rw [h3, e3]
      have h := and_val 15 (by decide) [c0 / 16 + 16 * (c1 % 16) + c0, c1 / 16 + 16 * (c2 % 16) + c1, c2 / 16 + 16 * (c3 % 16) + c2, c3 / 16 + 16 * (c4 % 16) + c3, c4 / 16 + 16 * (c5 % 16) + c4, c5 / 16 + 16 * (c6 % 16) + c5, c6 / 16 + 16 * (c7 % 16) + c6, c7 / 16 + c7] (by
        intro b hb
        simp only [List.mem_cons, List.not_mem_nil, or_false] at hb
        rcases hb with rfl | rfl | rfl | rfl | rfl | rfl | rfl | rfl <;> omega)
      have hm : val (List.replicate 8 15) = 1085102592571150095 := by decide
      simp only [List.length_cons, List.length_nil] at h
      rw [hm] at h
      rw [h]
      have a15 : ∀ z, z &&& 15 = z % 16 := fun z => Nat.and_two_pow_sub_one_eq_mod z 4
      simp only [List.map_cons, List.map_nil, a15]
      congr 1
      have hh : ∀ c d, c ≤ 68 ∧ c % 16 ≤ 4 ∧ d → (c / 16 + c) % 16 = c / 16 + c % 16 := fun c d h => by omega
      have hk : ∀ c d e, c ≤ 68 ∧ c % 16 ≤ 4 ∧ e → (c / 16 + 16 * d + c) % 16 = c / 16 + c % 16 := fun c d e h => by omega
      rw [hk c0 _ _ j0, hk c1 _ _ j1, hk c2 _ _ j2, hk c3 _ _ j3, hk c4 _ _ j4, hk c5 _ _ j5, hk c6 _ _ j6, hh c7 _ j7]
    have k0 : c0 / 16 + c0 % 16 ≤ 8 := by omega
    have k1 : c1 / 16 + c1 % 16 ≤ 8 := by omega
    have k2 : c2 / 16 + c2 % 16 ≤ 8 := by omega
    have k3 : c3 / 16 + c3 % 16 ≤ 8 := by omega
    have k4 : c4 / 16 + c4 % 16 ≤ 8 := by omega
    have k5 : c5 / 16 + c5 % 16 ≤ 8 := by omega
    have k6 : c6 / 16 + c6 % 16 ≤ 8 := by omega
    have k7 : c7 / 16 + c7 % 16 ≤ 8 := by omega
    have l3 : y2 / 16 + y2 < 18446744073709551616 := by rw [e3]; simp only [val]; omega
    have l2 : y2 < 18446744073709551616 := by omega
    have n0 : c0 % 16 + c0 / 16 = c0 / 16 + c0 % 16 := Nat.add_comm _ _
    have n1 : c1 % 16 + c1 / 16 = c1 / 16 + c1 % 16 := Nat.add_comm _ _
    have n2 : c2 % 16 + c2 / 16 = c2 / 16 + c2 % 16 := Nat.add_comm _ _
    have n3 : c3 % 16 + c3 / 16 = c3 / 16 + c3 % 16 := Nat.add_comm _ _
    have n4 : c4 % 16 + c4 / 16 = c4 / 16 + c4 % 16 := Nat.add_comm _ _
    have n5 : c5 % 16 + c5 / 16 = c5 / 16 + c5 % 16 := Nat.add_comm _ _
    have n6 : c6 % 16 + c6 / 16 = c6 / 16 + c6 % 16 := Nat.add_comm _ _
    have n7 : c7 % 16 + c7 / 16 = c7 / 16 + c7 % 16 := Nat.add_comm _ _
    rw [n0, n1, n2, n3, n4, n5, n6, n7]
    generalize c0 / 16 + c0 % 16 = d0 at *
    generalize c1 / 16 + c1 % 16 = d1 at *
    generalize c2 / 16 + c2 % 16 = d2 at *
    generalize c3 / 16 + c3 % 16 = d3 at *
    generalize c4 / 16 + c4 % 16 = d4 at *
    generalize c5 / 16 + c5 % 16 = d5 at *
    generalize c6 / 16 + c6 % 16 = d6 at *
    generalize c7 / 16 + c7 % 16 = d7 at *
    clear e1 e2 e3 h3 j0 j1 j2 j3 j4 j5 j6 j7 n0 n1 n2 n3 n4 n5 n6 n7
    simp only [val] at e4
    have f3 : y3 / 256 = d1 + 256 * (d2 + 256 * (d3 + 256 * (d4 + 256 * (d5 + 256 * (d6 + 256 * d7))))) := by omega
    have f4 : y4 = (d0 + d1) + 256 * ((d1 + d2) + 256 * ((d2 + d3) + 256 * ((d3 + d4) + 256 * ((d4 + d5) + 256 * ((d5 + d6) + 256 * ((d6 + d7) + 256 * d7)))))) := by omega
    have f5 : y4 / 65536 = (d2 + d3) + 256 * ((d3 + d4) + 256 * ((d4 + d5) + 256 * ((d5 + d6) + 256 * ((d6 + d7) + 256 * d7)))) := by omega
    have f6 : y5 / 4294967296 = (d4 + d5 + d6 + d7) + 256 * ((d5 + d6 + d7) + 256 * ((d6 + d7) + 256 * d7)) := by omega
    refine ⟨?_, l1, l2, l3, by omega, by omega, by omega⟩
    omega
end Pop
end Go.Proofs.YtcnljemnkhmfcaaDoor

namespace Go.Proofs.YtcnljemnkhmfcaaDoor
set_option linter.unusedVariables false
set_option linter.unusedSimpArgs false
open Go.RowKit

theorem i64_and7 (a b : Nat) (ha : a < 9223372036854775808) (hb : b < 9223372036854775808) : bits BinOp.and IntKind.i64 (a : Int) (b : Int) = ((a &&& b : Nat) : Int) := by
  have hx : a &&& b < 9223372036854775808 := Nat.lt_of_le_of_lt Nat.and_le_left ha
  have h1 : (BitVec.ofInt 64 (a : Int)).toNat = a := by
    rw [BitVec.ofInt_natCast, BitVec.toNat_ofNat]; exact Nat.mod_eq_of_lt (by omega)
  have h2 : (BitVec.ofInt 64 (b : Int)).toNat = b := by
    rw [BitVec.ofInt_natCast, BitVec.toNat_ofNat]; exact Nat.mod_eq_of_lt (by omega)
  show IntKind.i64.wrap ((BitVec.ofInt 64 (a : Int) &&& BitVec.ofInt 64 (b : Int)).toNat : Int) = _
  rw [BitVec.toNat_and, h1, h2, IntKind.wrap_i64]
  omega

set_option maxRecDepth 100000 in
set_option maxHeartbeats 2000000 in
theorem onesCount64_any (x : Nat) (hx : x < 18446744073709551616) (w : World) :
    Calls Tryd.prog 78 #[.int .u64 x] w fun e w' => e = .returned (.int .i64 (Pop.ones 64 x)) ∧ w' = w := by
  obtain ⟨y1, h1⟩ : ∃ y, y = ((x / 2) &&& 6148914691236517205) + (x &&& 6148914691236517205) := ⟨_, rfl⟩
  obtain ⟨y2, h2⟩ : ∃ y, y = ((y1 / 4) &&& 3689348814741910323) + (y1 &&& 3689348814741910323) := ⟨_, rfl⟩
  obtain ⟨y3, h3⟩ : ∃ y, y = (y2 / 16 + y2) &&& 1085102592571150095 := ⟨_, rfl⟩
  obtain ⟨y4, h4⟩ : ∃ y, y = y3 + y3 / 256 := ⟨_, rfl⟩
  obtain ⟨y5, h5⟩ : ∃ y, y = y4 + y4 / 65536 := ⟨_, rfl⟩
  obtain ⟨y6, h6⟩ : ∃ y, y = y5 + y5 / 4294967296 := ⟨_, rfl⟩
  obtain ⟨hr, l1, l2, l3, l4, l5, l6⟩ := Pop.swar x hx y1 y2 y3 y4 y5 y6 h1 h2 h3 h4 h5 h6
  have hr' := Lib.hid hr
  have hones : Hid (y6 % 128 = Pop.ones 64 x) := hr
  clear hr hr'
  generalize Pop.ones 64 x = r at hones ⊢
  have k1 : IntKind.u64.wrap (bits BinOp.and IntKind.u64 ((x : Int) / 2) 6148914691236517205 + bits BinOp.and IntKind.u64 (x : Int) 6148914691236517205) = (y1 : Int) := by
    rw [show (x : Int) / 2 = ((x / 2 : Nat) : Int) by omega, show (6148914691236517205 : Int) = ((6148914691236517205 : Nat) : Int) from rfl, bits_and_u64_nat _ _ (by omega) (by omega), bits_and_u64_nat _ _ hx (by omega), IntKind.wrap_u64]
    omega
  have k2 : IntKind.u64.wrap (bits BinOp.and IntKind.u64 ((y1 : Int) / 4) 3689348814741910323 + bits BinOp.and IntKind.u64 (y1 : Int) 3689348814741910323) = (y2 : Int) := by
    rw [show (y1 : Int) / 4 = ((y1 / 4 : Nat) : Int) by omega, show (3689348814741910323 : Int) = ((3689348814741910323 : Nat) : Int) from rfl, bits_and_u64_nat _ _ (by omega) (by omega), bits_and_u64_nat _ _ l1 (by omega), IntKind.wrap_u64]
    omega
  have k3 : bits BinOp.and IntKind.u64 (IntKind.u64.wrap ((y2 : Int) / 16 + (y2 : Int))) 1085102592571150095 = (y3 : Int) := by
    rw [show IntKind.u64.wrap ((y2 : Int) / 16 + (y2 : Int)) = ((y2 / 16 + y2 : Nat) : Int) by rw [IntKind.wrap_u64]; omega, show (1085102592571150095 : Int) = ((1085102592571150095 : Nat) : Int) from rfl, bits_and_u64_nat _ _ l3 (by omega), h3]
  have k4 : IntKind.u64.wrap ((y3 : Int) + (y3 : Int) / 256) = (y4 : Int) := by rw [IntKind.wrap_u64]; omega
  have k5 : IntKind.u64.wrap ((y4 : Int) + (y4 : Int) / 65536) = (y5 : Int) := by rw [IntKind.wrap_u64]; omega
  have k6 : IntKind.u64.wrap ((y5 : Int) + (y5 : Int) / 4294967296) = (y6 : Int) := by rw [IntKind.wrap_u64]; omega
  clear h1 h2 h3 h4 h5 h6 l1 l2 l3 l4 l5 hx
  go_enter Tryd.func78, Tryd.ntmps78
  go_wp2_with (first | simp only [k1] | simp only [k2] | simp only [k3] | simp only [k4] | simp only [k5] | simp only [k6])
  go_ret
  refine ⟨?_, rfl⟩
  rw [← hones.out]
  show Ending.returned (Value.int IntKind.i64 (bits BinOp.and IntKind.i64 (y6 : Int) 127)) = _
  rw [show (127 : Int) = ((127 : Nat) : Int) from rfl, i64_and7 _ _ l6 (by omega), Nat.and_two_pow_sub_one_eq_mod y6 7]
theorem onesCount_any (x : Nat) (hx : x < 18446744073709551616) (w : World) :
    Calls Tryd.prog 51 #[.int .u64 x] w fun e w' => e = .returned (.int .i64 (Pop.ones 64 x)) ∧ w' = w := by
  have H := Lib.hid (onesCount64_any x hx w)
  generalize Pop.ones 64 x = r at H ⊢
  go_enter Tryd.func51, Tryd.ntmps51
  go_wp2_with fail
  refine H.out.mono ?_
  rintro e w' ⟨rfl, rfl⟩
  go_wp2_with fail
  go_ret
  exact ⟨rfl, rfl⟩

theorem ones_cnt7 : ∀ (f x : Nat), x < 2 ^ f → Pop.ones f x = cnt7 x
  | 0, x, h => by
    have : x = 0 := by simpa using h
    rw [this, cnt7_zero]; rfl
  | f + 1, x, h => by
    rw [Nat.pow_succ] at h
    rw [Pop.ones, ones_cnt7 f (x / 2) (by omega)]
    rcases Nat.eq_zero_or_pos x with h0 | h0
    · rw [h0, Nat.zero_div, cnt7_zero]
    · rw [cnt7_pos h0]
/-- All pieces but those lost. -/
theorem andNot_all {p x : Nat} (hp : p ≤ 24) (hx : x < 2 ^ p) : bits BinOp.andNot IntKind.i64 ((2 ^ p - 1 : Nat) : Int) (x : Int) = ((2 ^ p - (x + 1) : Nat) : Int) := by
  have h24 : 2 ^ p ≤ 2 ^ 24 := Nat.pow_le_pow_right (by omega) hp
  have h1 : ∀ a : Nat, a < 4294967296 → (BitVec.ofInt 64 (a : Int)).toNat = a := fun a h => by
    rw [BitVec.ofInt_natCast, BitVec.toNat_ofNat]; exact Nat.mod_eq_of_lt (by omega)
  have e : (2 ^ p - 1) &&& (2 ^ 64 - (x + 1)) = 2 ^ p - (x + 1) := by
    apply Nat.eq_of_testBit_eq
    intro i
    rw [Nat.testBit_and, Nat.testBit_two_pow_sub_one, Nat.testBit_two_pow_sub_succ (n := 64) (x := x) (by omega), Nat.testBit_two_pow_sub_succ hx]
    by_cases hi : i < p
    · have : i < 64 := by omega
      simp [hi, this]
    · simp [hi]
  show IntKind.i64.wrap ((BitVec.ofInt 64 ((2 ^ p - 1 : Nat) : Int) &&& ~~~ BitVec.ofInt 64 (x : Int)).toNat : Int) = _
  rw [BitVec.toNat_and, BitVec.toNat_not, h1 _ (by omega), h1 _ (by omega), show 2 ^ 64 - 1 - x = 2 ^ 64 - (x + 1) by omega, e, IntKind.wrap_i64]
  omega
end Go.Proofs.YtcnljemnkhmfcaaDoor

namespace Go.Proofs.YtcnljemnkhmfcaaDoor
set_option linter.unusedVariables false
set_option linter.unusedSimpArgs false
open Go.RowKit
attribute [local go_sem] Oper.semAt_some

theorem size_int7 : (Tryd.prog.info? 3).map (·.size) = some 1 := by kernel_rfl
theorem one_int7 (k : IntKind) (z : Int) : ∀ u ∈ (Value.int k z).cells.toList, u.oneCell' = true := by
  intro u hu
  simp [Value.cells] at hu
  subst hu
  rfl
/-- What remains of p pieces where those of y are lost. -/
def lef7 (p y : Nat) : Nat := 2 ^ p - (y + 1)
/-- What Distance says of a code in order. -/
def DisR (D p : Nat) (Gs : List (List Int)) (d : Nat) : Prop :=
  (∀ y, 0 < y → y < 2 ^ p → cnt7 y < d → Full7 (pcL D Gs (lef7 p y) p) D) ∧ d ≤ p ∧ (d = p ∨ ∃ y, 0 < y ∧ y < 2 ^ p ∧ cnt7 y = d ∧ ¬ Full7 (pcL D Gs (lef7 p y) p) D)
/-- What Distance ends with. -/
def DisEnd (w : World) (D G : Int) (Gs : List (List Int)) (e : Ending) (w' : World) : Prop :=
  (∃ d : Nat, ∃ er : Int, e = .returned (.tuple #[.int .i64 (d : Int), .int .i64 er]) ∧ ((chkE D Gs G ≠ 0 ∧ er = chkE D Gs G ∧ d = 0) ∨ (chkE D Gs G = 0 ∧ er = 0 ∧ DisR D.toNat (D.toNat + (Gs.length + G.toNat)) Gs d))) ∧ Below w.heap.size w w'
/-- What stands behind Distance's drawing region. -/
def DisC (W1 : World) (D N p : Nat) (Gs : List (List Int)) (v5 v6 : Value) (W : World) : Prop :=
  ∃ gR gL x bl, v5 = .pointer (some ⟨gR, 0, none⟩) ∧ v6 = .pointer (some ⟨gL, 0, none⟩) ∧ W1.heap.size ≤ gR ∧ W1.heap.size ≤ gL ∧ gR ≠ gL ∧ x ≠ gL ∧ (∀ b ∈ bl, b ≠ gL) ∧ Blk W gR [.slice (some ⟨x, 0, none⟩) N N] 29 ∧ Blk W gL [.int .i64 (p : Int)] 3 ∧ Om W W1.heap.size x bl (PM (par D Gs) N) [] ∧ Below W1.heap.size W1 W
theorem Om.lts7 {w : World} {base g : Nat} {bs : List Nat} {M : List (List UInt8)} {rest : List Value} (h : Om w base g bs M rest) : g < w.heap.size ∧ ∀ b ∈ bs, b < w.heap.size := ⟨h.out.lt, fun b hb' => by
  obtain ⟨j, hj⟩ := List.getElem?_of_mem hb'
  have hjl := (List.getElem?_eq_some_iff.1 hj).1
  exact (h.row j b _ hj (List.getElem?_eq_getElem (by rw [← h.len]; exact hjl))).lt⟩
set_option maxRecDepth 100000 in
set_option maxHeartbeats 1000000 in
theorem distance_bad {B : Nat} (D G : Int) (Gs : List (List Int)) (n c : Nat) (A : Option Addr) (w : World) (hM : CodM w B D A n c G Gs) (h0 : chkE D Gs G ≠ 0) :
    Calls Tryd.prog 26 #[cdv D A n c G] w (DisEnd w D G Gs) := by
  obtain ⟨W1, hW1⟩ : ∃ W1, W1 = w.alloc (.cells #[.int .i64 D, .slice A n c, .int .i64 G] 24) := ⟨_, rfl⟩
  have hB1 : Hid (Below w.heap.size w W1) := by show Below _ _ _; rw [hW1]; exact (Below.refl _ _).alloc (Nat.le_refl _) _
  have hC1 : Hid (Blk W1 w.heap.size [.int .i64 D, .slice A n c, .int .i64 G] 24) := by show Blk _ _ _ _; rw [hW1]; exact Blk.new _ [_, _, _] _
  have CC := Lib.hid (ccheck_any D G Gs n c A W1 (hM.keep hB1.out))
  have p0 := hC1.out.cell (j := 0) rfl
  have p1 := hC1.out.cell (j := 1) rfl
  have p2 := hC1.out.cell (j := 2) rfl
  have h0H := Lib.hid h0
  have t0 : (chkE D Gs G != 0) = true := by simpa using h0
  have hans : Hid (DisEnd w D G Gs = DisEnd w D G Gs) := rfl
  obtain ⟨Ck, hCk⟩ : ∃ x, x = chkE D Gs G := ⟨_, rfl⟩
  have hCkH := Lib.hid hCk
  rw [← hCk] at CC t0
  unfold cdv at CC ⊢
  subst hW1
  clear hM h0 hCk
  go_enter Tryd.func26, Tryd.ntmps26
  go_wp2_with fail
  refine CC.out.mono ?_
  rintro e w2 ⟨rfl, hb⟩
  have hB2 : Hid (Below w.heap.size w w2) := hB1.out.trans (hb.mono hB1.out.size)
  clear hb
  go_wp2_with fail
  go_ret2
  exact ⟨⟨0, Ck, rfl, .inl ⟨h0H.out, hCkH.out, rfl⟩⟩, hB2.out⟩
set_option maxRecDepth 100000 in
set_option maxHeartbeats 16000000 in
theorem distance_ok {B D n c G : Nat} {Gs : List (List Int)} {A : Option Addr} (w : World) (hM : CodM w B (D : Int) A n c (G : Int) Gs) (h0 : chkE D Gs G = 0) (ht : PTab 0 w) :
    Calls Tryd.prog 26 #[cdv D A n c G] w (DisEnd w D G Gs) := by
  refine (callsIn_wide (n := 5)).1 ?_
  have hro : Fence.wide.round = none := rfl
  have hun : Hid (Tryd.prog.underlying 24 = _) := Tryd.underlying24
  have hszc := Lib.hid size_cod
  have h0H := Lib.hid h0
  obtain ⟨b1, b2, b3, b4, b5, b6⟩ := cchk_ok h0
  have hin := grpE_rng Gs 0 b6
  rw [Int.toNat_natCast] at hin
  have hnl := hM.len
  have hD16 : D ≤ 16 := by omega
  have hD1 : 1 ≤ D := by omega
  have hG4 : G ≤ 4 := by omega
  obtain ⟨N, hN⟩ : ∃ N, N = n + G := ⟨_, rfl⟩
  obtain ⟨p, hp⟩ : ∃ p, p = D + N := ⟨_, rfl⟩
  have hp24 : p ≤ 24 := by omega
  have hN24 : N ≤ 24 := by omega
  obtain ⟨W1, hW1⟩ : ∃ W1, W1 = w.alloc (.cells #[.int .i64 D, .slice A n c, .int .i64 G] 24) := ⟨_, rfl⟩
  have hB1 : Hid (Below w.heap.size w W1) := by show Below _ _ _; rw [hW1]; exact (Below.refl _ _).alloc (Nat.le_refl _) _
  have hC1 : Hid (Blk W1 w.heap.size [.int .i64 D, .slice A n c, .int .i64 G] 24) := by show Blk _ _ _ _; rw [hW1]; exact Blk.new _ [_, _, _] _
  have M1 := Lib.hid (hM.keep hB1.out)
  have T1 := Lib.hid (ht.on hB1.out)
  have hW' := Lib.hid hW1
  have CC := Lib.hid (ccheck_any D G Gs n c A W1 M1.out)
  rw [h0] at CC
  have CP : Hid (∀ W, CodM W B (D : Int) A n c (G : Int) Gs → PTab 0 W → Calls Tryd.prog 34 #[.agg #[.int .i64 D, .slice A n c, .int .i64 G]] W fun e w' => (∃ x bs, e = .returned (.slice (some ⟨x, 0, none⟩) N N) ∧ Om w' W.heap.size x bs (PM (par D Gs) N) []) ∧ Below W.heap.size W w') := fun W m t => by rw [hN]; exact parities_any D n c G Gs A W m hD16 hG4 (by omega) hin t
  have CN : Hid (∀ W, Calls Tryd.prog 33 #[.agg #[.int .i64 D, .slice A n c, .int .i64 G]] W fun e w' => e = .returned (.int .i64 (p : Int)) ∧ Below W.heap.size W w') := fun W => by
    have := count_any D n G c A W hD16 hG4 (by omega)
    rw [show D + n + G = p by omega] at this
    exact this
  have CS : Hid (∀ W base x bl y, Om W base x bl (PM (par D Gs) N) [] → PTab 0 W → y < 2 ^ p → Calls Tryd.prog 48 #[.agg #[.int .i64 D, .slice A n c, .int .i64 G], .slice (some ⟨x, 0, none⟩) N N, .int .i64 ((lef7 p y : Nat) : Int)] W (SayEnd W (Full7 (pcL D Gs (lef7 p y) p) D))) := fun W base x bl y hO hT hy => by
    have h24 : 2 ^ p ≤ 2 ^ 24 := Nat.pow_le_pow_right (by omega) hp24
    have := suffices_any (B := W.heap.size) (D := D) (n := n) (c := c) (N := N) (nc := N) (s := lef7 p y) (G := (G : Int)) (A := A) W hO.mat (Nat.le_refl _) (by simp [PM]) par_rows (by omega) rfl hD16 (by unfold lef7; omega) hT
    rw [lost_full, ← hp] at this
    exact this
  have hans : Hid (∀ d : Nat, DisR D p Gs d → ∀ w', Below w.heap.size w w' → DisEnd w D G Gs (.returned (.tuple #[.int .i64 (d : Int), .int .i64 0])) w') := fun d hd w' hb => ⟨⟨d, 0, rfl, .inr ⟨h0, rfl, by rw [Int.toNat_natCast, Int.toNat_natCast, ← hnl, ← hN, ← hp]; exact hd⟩⟩, hb⟩
  have hpH := Lib.hid hp
  have s1 : W1.heap.size = w.heap.size + 1 := by rw [hW1]; simp
  unfold cdv at CC ⊢
  clear hM ht h0 b1 b2 b3 b4 b5 b6 hin hnl hN hW1 hp
  refine callsIn_of_wp_marks Tryd.func26 rfl trivial ?_ hro
  simp only [Tryd.ntmps26, List.size_toArray, List.length_cons, List.length_nil, Nat.reduceAdd, Nat.reduceSub, Array.replicate_succ, Array.replicate_zero, List.push_toArray, List.append_toArray, List.nil_append, List.cons_append]
  gi_wp2_with fail
  generalize hg : w.alloc _ = Wg
  have hgW : W1 = Wg := by rw [← hg, hW'.out]
  clear hg hW'
  subst hgW
  have hc0 := hC1.out.cell (j := 0) rfl
  have hc1 := hC1.out.cell (j := 1) rfl
  have hc2 := hC1.out.cell (j := 2) rfl
  refine ⟨trivial, (callsIn_wide.2 CC.out).mono ?_⟩
  rintro e w2 ⟨rfl, hb⟩
  have hB2 : Hid (Below w.heap.size w w2) := hB1.out.trans (hb.mono hB1.out.size)
  have hC2 := Lib.hid (hC1.out.below hb hC1.out.lt)
  have M2 := Lib.hid (M1.out.keep hb)
  have T2 := Lib.hid (T1.out.on hb)
  have hs2 : w.heap.size < w2.heap.size := hC2.out.lt
  clear hb hc0 hc1 hc2 hC1 M1 T1 hB1 CC
  have t0 : ((0 : Int) != 0) = false := rfl
  gi_wp2_with fail
  refine wpIn_wide.2 ?_
  go_cut [5, 6] from 14 to 20 (fun v5 v6 W => Hid (DisC w2 D N p Gs v5 v6 W))
  case first J KK hJ hKK =>
    refine wp_mono (Q := Exit.then KK fun _ _ _ => False) ?_ (fun e a w h => by cases e <;> first | exact h | exact h.elim)
    refine wp_region_planH (fun W => Below w2.heap.size w2 W) [0, 2] 6 (by kernel_rfl) (by kernel_rfl) (by kernel_rfl) (by kernel_rfl) (by intro c a d v w h; cases d <;> exact h) ((Below.refl _ _).drew) ?_
    change wpPlanH _ _ _ _ _ _ _ _ _ w2.drew
    iterate 2 (refine wpPlanH_runW rfl (by rfl) _ (fun q => load_run 24 _ rfl w.heap.size 0 rfl [.int .i64 D, .slice A n c, .int .i64 G] _ hun.out rfl hszc.out q.world ((Blk.below hC2.out q.meets hC2.out.lt).range 0 _ (take_all0 _))) ?_)
    have E : Hid (Below w2.heap.size w2 w2.drew) := (Below.refl _ _).drew
    generalize w2.drew = v0 at E ⊢
    refine wpAnyH_each (rs := [1, 4, 5]) (by kernel_rfl) (by decide) (fun K hK i hi => ?_)
    simp only [List.mem_cons, List.not_mem_nil, or_false] at hi
    rcases hi with rfl | rfl | rfl
    · skip
      refine wpOp_listed rfl ?_
      go_wp2_with fail
      refine (CP.out v0 (M2.out.keep E.out) (T2.out.on E.out)).mono ?_
      rintro e v1 ⟨⟨x, bl, rfl, hOm⟩, hb⟩
      have OMn := Lib.hid (hOm.up7 E.out.size)
      replace E : Hid (Below w2.heap.size w2 v1) := E.out.trans (hb.mono E.out.size)
      have OM := OMn; clear OMn
      clear hOm
      go_wp2_with fail
      refine postH_normal (hK _ _ _ E.out ?_)
      clear hK K hb
      refine wpAnyH_each (rs := [3, 4, 5]) (by kernel_rfl) (by decide) (fun K hK i hi => ?_)
      simp only [List.mem_cons, List.not_mem_nil, or_false] at hi
      rcases hi with rfl | rfl | rfl
      · skip
        refine wpOp_listed rfl ?_
        go_wp2_with fail
        refine (CN.out v1).mono ?_
        rintro e v2 ⟨rfl, hb⟩
        replace E : Hid (Below w2.heap.size w2 v2) := E.out.trans (hb.mono E.out.size)
        replace OM := Lib.hid (OM.out.keep hb)
        go_wp2_with fail
        refine postH_normal (hK _ _ _ E.out ?_)
        clear hK K hb
        refine wpAnyH_each (rs := [4, 5]) (by kernel_rfl) (by decide) (fun K hK i hi => ?_)
        simp only [List.mem_cons, List.not_mem_nil, or_false] at hi
        rcases hi with rfl | rfl
        · skip
          refine wpOp_listed rfl ?_
          go_wp2_with fail
          obtain ⟨gR, hg⟩ : ∃ x, x = v2.heap.size := ⟨_, rfl⟩
          have hb : Below v2.heap.size v2 (v2.alloc (.cells #[.slice none 0 0] 29)) := (Below.refl _ _).alloc (Nat.le_refl _) _
          have Bn : Hid (Blk (v2.alloc (.cells #[.slice none 0 0] 29)) gR [.slice none 0 0] 29) := by show Blk _ _ _ _; rw [hg]; exact Blk.new _ [_] _
          have hlgR : Hid (w2.heap.size ≤ gR) := by show _ ≤ _; rw [hg]; exact E.out.size
          have NR : Hid (x ≠ gR ∧ ∀ b ∈ bl, b ≠ gR) := ⟨by have := OM.out.lts7.1; omega, fun b hb' => by have := OM.out.lts7.2 b hb'; omega⟩
          replace E : Hid (Below w2.heap.size w2 (v2.alloc (.cells #[.slice none 0 0] 29))) := E.out.trans (hb.mono E.out.size)
          replace OM := Lib.hid (OM.out.keep hb)
          have BR := Bn; clear Bn
          rw [← hg]
          refine postH_normal (hK _ _ _ E.out ?_)
          clear hK K hb hg
          generalize v2.alloc _ = v3 at E BR OM ⊢
          refine wpAnyH_each (rs := [5]) (by kernel_rfl) (by decide) (fun K hK i hi => ?_)
          obtain rfl := List.mem_singleton.1 hi
          refine wpOp_listed rfl ?_
          go_wp2_with fail
          obtain ⟨gL, hg⟩ : ∃ x, x = v3.heap.size := ⟨_, rfl⟩
          have hb : Below v3.heap.size v3 (v3.alloc (.cells #[.int .i64 0] 3)) := (Below.refl _ _).alloc (Nat.le_refl _) _
          have Bn : Hid (Blk (v3.alloc (.cells #[.int .i64 0] 3)) gL [.int .i64 0] 3) := by show Blk _ _ _ _; rw [hg]; exact Blk.new _ [_] _
          have hlgL : Hid (w2.heap.size ≤ gL) := by show _ ≤ _; rw [hg]; exact E.out.size
          have NL : Hid (x ≠ gL ∧ ∀ b ∈ bl, b ≠ gL) := ⟨by have := OM.out.lts7.1; omega, fun b hb' => by have := OM.out.lts7.2 b hb'; omega⟩
          have NG : Hid (gR ≠ gL) := by have := BR.out.lt; show _ ≠ _; omega
          replace E : Hid (Below w2.heap.size w2 (v3.alloc (.cells #[.int .i64 0] 3))) := E.out.trans (hb.mono E.out.size)
          replace OM := Lib.hid (OM.out.keep hb)
          replace BR := Lib.hid (BR.out.below hb BR.out.lt)
          have BL := Bn; clear Bn
          rw [← hg]
          refine postH_normal (hK _ _ _ E.out ?_)
          clear hK K hb hg
          generalize v3.alloc _ = v4 at E BR BL OM ⊢
          refine wpAnyH_each (rs := [6]) (by kernel_rfl) (by decide) (fun K hK i hi => ?_)
          obtain rfl := List.mem_singleton.1 hi
          refine wpOp_listed rfl ?_
          refine wpList_blk_store rfl 29 _ _ rfl 0 (.slice (some ⟨x, 0, none⟩) N N) rfl rfl BR.out size_rows7 (Nat.le_refl 1) (one_slice _ _ _) ?_
          intro v5 hw6 ho6
          have Bn : Hid (Blk v5 gR [.slice (some ⟨x, 0, none⟩) N N] 29) := hw6.out
          replace E : Hid (Below w2.heap.size w2 v5) := E.out.trans (ho6.below hlgR.out)
          replace OM := Lib.hid (OM.out.only7 ho6 NR.out.1 NR.out.2)
          replace BL := Lib.hid (BL.out.only ho6 (Ne.symm NG.out))
          clear BR; have BR := Bn; clear Bn
          refine wpList_end (postH_normal (hK _ _ _ E.out ?_))
          clear hK K hw6 ho6
          refine wpAnyH_each (rs := [7]) (by kernel_rfl) (by decide) (fun K hK i hi => ?_)
          obtain rfl := List.mem_singleton.1 hi
          refine wpOp_listed rfl ?_
          refine wpList_blk_store rfl 3 _ _ rfl 0 (.int .i64 (p : Int)) rfl rfl BL.out size_int7 (Nat.le_refl 1) (one_int7 _ _) ?_
          intro v6 hw6 ho6
          have Bn : Hid (Blk v6 gL [.int .i64 (p : Int)] 3) := hw6.out
          replace E : Hid (Below w2.heap.size w2 v6) := E.out.trans (ho6.below hlgL.out)
          replace OM := Lib.hid (OM.out.only7 ho6 NL.out.1 NL.out.2)
          replace BR := Lib.hid (BR.out.only ho6 NG.out)
          clear BL; have BL := Bn; clear Bn
          refine wpList_end (postH_normal (hK _ _ _ E.out ?_))
          clear hK K hw6 ho6
          refine wpAnyH_done (by kernel_rfl) ?_ _
          try go_wp2_with fail
          go_meet
          exact ⟨gR, gL, x, bl, by first | rfl | (go_simp; done), by first | rfl | (go_simp; done), hlgR.out, hlgL.out, NG.out, NL.out.1, NL.out.2, BR.out, BL.out, OM.out, E.out⟩
        · skip
          refine wpOp_listed rfl ?_
          go_wp2_with fail
          obtain ⟨gL, hg⟩ : ∃ x, x = v2.heap.size := ⟨_, rfl⟩
          have hb : Below v2.heap.size v2 (v2.alloc (.cells #[.int .i64 0] 3)) := (Below.refl _ _).alloc (Nat.le_refl _) _
          have Bn : Hid (Blk (v2.alloc (.cells #[.int .i64 0] 3)) gL [.int .i64 0] 3) := by show Blk _ _ _ _; rw [hg]; exact Blk.new _ [_] _
          have hlgL : Hid (w2.heap.size ≤ gL) := by show _ ≤ _; rw [hg]; exact E.out.size
          have NL : Hid (x ≠ gL ∧ ∀ b ∈ bl, b ≠ gL) := ⟨by have := OM.out.lts7.1; omega, fun b hb' => by have := OM.out.lts7.2 b hb'; omega⟩
          replace E : Hid (Below w2.heap.size w2 (v2.alloc (.cells #[.int .i64 0] 3))) := E.out.trans (hb.mono E.out.size)
          replace OM := Lib.hid (OM.out.keep hb)
          have BL := Bn; clear Bn
          rw [← hg]
          refine postH_normal (hK _ _ _ E.out ?_)
          clear hK K hb hg
          generalize v2.alloc _ = v3 at E BL OM ⊢
          refine wpAnyH_each (rs := [4]) (by kernel_rfl) (by decide) (fun K hK i hi => ?_)
          obtain rfl := List.mem_singleton.1 hi
          refine wpOp_listed rfl ?_
          go_wp2_with fail
          obtain ⟨gR, hg⟩ : ∃ x, x = v3.heap.size := ⟨_, rfl⟩
          have hb : Below v3.heap.size v3 (v3.alloc (.cells #[.slice none 0 0] 29)) := (Below.refl _ _).alloc (Nat.le_refl _) _
          have Bn : Hid (Blk (v3.alloc (.cells #[.slice none 0 0] 29)) gR [.slice none 0 0] 29) := by show Blk _ _ _ _; rw [hg]; exact Blk.new _ [_] _
          have hlgR : Hid (w2.heap.size ≤ gR) := by show _ ≤ _; rw [hg]; exact E.out.size
          have NR : Hid (x ≠ gR ∧ ∀ b ∈ bl, b ≠ gR) := ⟨by have := OM.out.lts7.1; omega, fun b hb' => by have := OM.out.lts7.2 b hb'; omega⟩
          have NG : Hid (gR ≠ gL) := by have := BL.out.lt; show _ ≠ _; omega
          replace E : Hid (Below w2.heap.size w2 (v3.alloc (.cells #[.slice none 0 0] 29))) := E.out.trans (hb.mono E.out.size)
          replace OM := Lib.hid (OM.out.keep hb)
          replace BL := Lib.hid (BL.out.below hb BL.out.lt)
          have BR := Bn; clear Bn
          rw [← hg]
          refine postH_normal (hK _ _ _ E.out ?_)
          clear hK K hb hg
          generalize v3.alloc _ = v4 at E BR BL OM ⊢
          refine wpAnyH_each (rs := [6]) (by kernel_rfl) (by decide) (fun K hK i hi => ?_)
          obtain rfl := List.mem_singleton.1 hi
          refine wpOp_listed rfl ?_
          refine wpList_blk_store rfl 29 _ _ rfl 0 (.slice (some ⟨x, 0, none⟩) N N) rfl rfl BR.out size_rows7 (Nat.le_refl 1) (one_slice _ _ _) ?_
          intro v5 hw6 ho6
          have Bn : Hid (Blk v5 gR [.slice (some ⟨x, 0, none⟩) N N] 29) := hw6.out
          replace E : Hid (Below w2.heap.size w2 v5) := E.out.trans (ho6.below hlgR.out)
          replace OM := Lib.hid (OM.out.only7 ho6 NR.out.1 NR.out.2)
          replace BL := Lib.hid (BL.out.only ho6 (Ne.symm NG.out))
          clear BR; have BR := Bn; clear Bn
          refine wpList_end (postH_normal (hK _ _ _ E.out ?_))
          clear hK K hw6 ho6
          refine wpAnyH_each (rs := [7]) (by kernel_rfl) (by decide) (fun K hK i hi => ?_)
          obtain rfl := List.mem_singleton.1 hi
          refine wpOp_listed rfl ?_
          refine wpList_blk_store rfl 3 _ _ rfl 0 (.int .i64 (p : Int)) rfl rfl BL.out size_int7 (Nat.le_refl 1) (one_int7 _ _) ?_
          intro v6 hw6 ho6
          have Bn : Hid (Blk v6 gL [.int .i64 (p : Int)] 3) := hw6.out
          replace E : Hid (Below w2.heap.size w2 v6) := E.out.trans (ho6.below hlgL.out)
          replace OM := Lib.hid (OM.out.only7 ho6 NL.out.1 NL.out.2)
          replace BR := Lib.hid (BR.out.only ho6 NG.out)
          clear BL; have BL := Bn; clear Bn
          refine wpList_end (postH_normal (hK _ _ _ E.out ?_))
          clear hK K hw6 ho6
          refine wpAnyH_done (by kernel_rfl) ?_ _
          try go_wp2_with fail
          go_meet
          exact ⟨gR, gL, x, bl, by first | rfl | (go_simp; done), by first | rfl | (go_simp; done), hlgR.out, hlgL.out, NG.out, NL.out.1, NL.out.2, BR.out, BL.out, OM.out, E.out⟩
      · skip
        refine wpOp_listed rfl ?_
        go_wp2_with fail
        obtain ⟨gR, hg⟩ : ∃ x, x = v1.heap.size := ⟨_, rfl⟩
        have hb : Below v1.heap.size v1 (v1.alloc (.cells #[.slice none 0 0] 29)) := (Below.refl _ _).alloc (Nat.le_refl _) _
        have Bn : Hid (Blk (v1.alloc (.cells #[.slice none 0 0] 29)) gR [.slice none 0 0] 29) := by show Blk _ _ _ _; rw [hg]; exact Blk.new _ [_] _
        have hlgR : Hid (w2.heap.size ≤ gR) := by show _ ≤ _; rw [hg]; exact E.out.size
        have NR : Hid (x ≠ gR ∧ ∀ b ∈ bl, b ≠ gR) := ⟨by have := OM.out.lts7.1; omega, fun b hb' => by have := OM.out.lts7.2 b hb'; omega⟩
        replace E : Hid (Below w2.heap.size w2 (v1.alloc (.cells #[.slice none 0 0] 29))) := E.out.trans (hb.mono E.out.size)
        replace OM := Lib.hid (OM.out.keep hb)
        have BR := Bn; clear Bn
        rw [← hg]
        refine postH_normal (hK _ _ _ E.out ?_)
        clear hK K hb hg
        generalize v1.alloc _ = v2 at E BR OM ⊢
        refine wpAnyH_each (rs := [3, 5]) (by kernel_rfl) (by decide) (fun K hK i hi => ?_)
        simp only [List.mem_cons, List.not_mem_nil, or_false] at hi
        rcases hi with rfl | rfl
        · skip
          refine wpOp_listed rfl ?_
          go_wp2_with fail
          refine (CN.out v2).mono ?_
          rintro e v3 ⟨rfl, hb⟩
          replace E : Hid (Below w2.heap.size w2 v3) := E.out.trans (hb.mono E.out.size)
          replace OM := Lib.hid (OM.out.keep hb)
          replace BR := Lib.hid (BR.out.below hb BR.out.lt)
          go_wp2_with fail
          refine postH_normal (hK _ _ _ E.out ?_)
          clear hK K hb
          refine wpAnyH_each (rs := [5]) (by kernel_rfl) (by decide) (fun K hK i hi => ?_)
          obtain rfl := List.mem_singleton.1 hi
          refine wpOp_listed rfl ?_
          go_wp2_with fail
          obtain ⟨gL, hg⟩ : ∃ x, x = v3.heap.size := ⟨_, rfl⟩
          have hb : Below v3.heap.size v3 (v3.alloc (.cells #[.int .i64 0] 3)) := (Below.refl _ _).alloc (Nat.le_refl _) _
          have Bn : Hid (Blk (v3.alloc (.cells #[.int .i64 0] 3)) gL [.int .i64 0] 3) := by show Blk _ _ _ _; rw [hg]; exact Blk.new _ [_] _
          have hlgL : Hid (w2.heap.size ≤ gL) := by show _ ≤ _; rw [hg]; exact E.out.size
          have NL : Hid (x ≠ gL ∧ ∀ b ∈ bl, b ≠ gL) := ⟨by have := OM.out.lts7.1; omega, fun b hb' => by have := OM.out.lts7.2 b hb'; omega⟩
          have NG : Hid (gR ≠ gL) := by have := BR.out.lt; show _ ≠ _; omega
          replace E : Hid (Below w2.heap.size w2 (v3.alloc (.cells #[.int .i64 0] 3))) := E.out.trans (hb.mono E.out.size)
          replace OM := Lib.hid (OM.out.keep hb)
          replace BR := Lib.hid (BR.out.below hb BR.out.lt)
          have BL := Bn; clear Bn
          rw [← hg]
          refine postH_normal (hK _ _ _ E.out ?_)
          clear hK K hb hg
          generalize v3.alloc _ = v4 at E BR BL OM ⊢
          refine wpAnyH_each (rs := [6]) (by kernel_rfl) (by decide) (fun K hK i hi => ?_)
          obtain rfl := List.mem_singleton.1 hi
          refine wpOp_listed rfl ?_
          refine wpList_blk_store rfl 29 _ _ rfl 0 (.slice (some ⟨x, 0, none⟩) N N) rfl rfl BR.out size_rows7 (Nat.le_refl 1) (one_slice _ _ _) ?_
          intro v5 hw6 ho6
          have Bn : Hid (Blk v5 gR [.slice (some ⟨x, 0, none⟩) N N] 29) := hw6.out
          replace E : Hid (Below w2.heap.size w2 v5) := E.out.trans (ho6.below hlgR.out)
          replace OM := Lib.hid (OM.out.only7 ho6 NR.out.1 NR.out.2)
          replace BL := Lib.hid (BL.out.only ho6 (Ne.symm NG.out))
          clear BR; have BR := Bn; clear Bn
          refine wpList_end (postH_normal (hK _ _ _ E.out ?_))
          clear hK K hw6 ho6
          refine wpAnyH_each (rs := [7]) (by kernel_rfl) (by decide) (fun K hK i hi => ?_)
          obtain rfl := List.mem_singleton.1 hi
          refine wpOp_listed rfl ?_
          refine wpList_blk_store rfl 3 _ _ rfl 0 (.int .i64 (p : Int)) rfl rfl BL.out size_int7 (Nat.le_refl 1) (one_int7 _ _) ?_
          intro v6 hw6 ho6
          have Bn : Hid (Blk v6 gL [.int .i64 (p : Int)] 3) := hw6.out
          replace E : Hid (Below w2.heap.size w2 v6) := E.out.trans (ho6.below hlgL.out)
          replace OM := Lib.hid (OM.out.only7 ho6 NL.out.1 NL.out.2)
          replace BR := Lib.hid (BR.out.only ho6 NG.out)
          clear BL; have BL := Bn; clear Bn
          refine wpList_end (postH_normal (hK _ _ _ E.out ?_))
          clear hK K hw6 ho6
          refine wpAnyH_done (by kernel_rfl) ?_ _
          try go_wp2_with fail
          go_meet
          exact ⟨gR, gL, x, bl, by first | rfl | (go_simp; done), by first | rfl | (go_simp; done), hlgR.out, hlgL.out, NG.out, NL.out.1, NL.out.2, BR.out, BL.out, OM.out, E.out⟩
        · skip
          refine wpOp_listed rfl ?_
          go_wp2_with fail
          obtain ⟨gL, hg⟩ : ∃ x, x = v2.heap.size := ⟨_, rfl⟩
          have hb : Below v2.heap.size v2 (v2.alloc (.cells #[.int .i64 0] 3)) := (Below.refl _ _).alloc (Nat.le_refl _) _
          have Bn : Hid (Blk (v2.alloc (.cells #[.int .i64 0] 3)) gL [.int .i64 0] 3) := by show Blk _ _ _ _; rw [hg]; exact Blk.new _ [_] _
          have hlgL : Hid (w2.heap.size ≤ gL) := by show _ ≤ _; rw [hg]; exact E.out.size
          have NL : Hid (x ≠ gL ∧ ∀ b ∈ bl, b ≠ gL) := ⟨by have := OM.out.lts7.1; omega, fun b hb' => by have := OM.out.lts7.2 b hb'; omega⟩
          have NG : Hid (gR ≠ gL) := by have := BR.out.lt; show _ ≠ _; omega
          replace E : Hid (Below w2.heap.size w2 (v2.alloc (.cells #[.int .i64 0] 3))) := E.out.trans (hb.mono E.out.size)
          replace OM := Lib.hid (OM.out.keep hb)
          replace BR := Lib.hid (BR.out.below hb BR.out.lt)
          have BL := Bn; clear Bn
          rw [← hg]
          refine postH_normal (hK _ _ _ E.out ?_)
          clear hK K hb hg
          generalize v2.alloc _ = v3 at E BR BL OM ⊢
          refine wpAnyH_each (rs := [3]) (by kernel_rfl) (by decide) (fun K hK i hi => ?_)
          obtain rfl := List.mem_singleton.1 hi
          refine wpOp_listed rfl ?_
          go_wp2_with fail
          refine (CN.out v3).mono ?_
          rintro e v4 ⟨rfl, hb⟩
          replace E : Hid (Below w2.heap.size w2 v4) := E.out.trans (hb.mono E.out.size)
          replace OM := Lib.hid (OM.out.keep hb)
          replace BR := Lib.hid (BR.out.below hb BR.out.lt)
          replace BL := Lib.hid (BL.out.below hb BL.out.lt)
          go_wp2_with fail
          refine postH_normal (hK _ _ _ E.out ?_)
          clear hK K hb
          refine wpAnyH_each (rs := [6]) (by kernel_rfl) (by decide) (fun K hK i hi => ?_)
          obtain rfl := List.mem_singleton.1 hi
          refine wpOp_listed rfl ?_
          refine wpList_blk_store rfl 29 _ _ rfl 0 (.slice (some ⟨x, 0, none⟩) N N) rfl rfl BR.out size_rows7 (Nat.le_refl 1) (one_slice _ _ _) ?_
          intro v5 hw6 ho6
          have Bn : Hid (Blk v5 gR [.slice (some ⟨x, 0, none⟩) N N] 29) := hw6.out
          replace E : Hid (Below w2.heap.size w2 v5) := E.out.trans (ho6.below hlgR.out)
          replace OM := Lib.hid (OM.out.only7 ho6 NR.out.1 NR.out.2)
          replace BL := Lib.hid (BL.out.only ho6 (Ne.symm NG.out))
          clear BR; have BR := Bn; clear Bn
          refine wpList_end (postH_normal (hK _ _ _ E.out ?_))
          clear hK K hw6 ho6
          refine wpAnyH_each (rs := [7]) (by kernel_rfl) (by decide) (fun K hK i hi => ?_)
          obtain rfl := List.mem_singleton.1 hi
          refine wpOp_listed rfl ?_
          refine wpList_blk_store rfl 3 _ _ rfl 0 (.int .i64 (p : Int)) rfl rfl BL.out size_int7 (Nat.le_refl 1) (one_int7 _ _) ?_
          intro v6 hw6 ho6
          have Bn : Hid (Blk v6 gL [.int .i64 (p : Int)] 3) := hw6.out
          replace E : Hid (Below w2.heap.size w2 v6) := E.out.trans (ho6.below hlgL.out)
          replace OM := Lib.hid (OM.out.only7 ho6 NL.out.1 NL.out.2)
          replace BR := Lib.hid (BR.out.only ho6 NG.out)
          clear BL; have BL := Bn; clear Bn
          refine wpList_end (postH_normal (hK _ _ _ E.out ?_))
          clear hK K hw6 ho6
          refine wpAnyH_done (by kernel_rfl) ?_ _
          try go_wp2_with fail
          go_meet
          exact ⟨gR, gL, x, bl, by first | rfl | (go_simp; done), by first | rfl | (go_simp; done), hlgR.out, hlgL.out, NG.out, NL.out.1, NL.out.2, BR.out, BL.out, OM.out, E.out⟩
      · skip
        refine wpOp_listed rfl ?_
        go_wp2_with fail
        obtain ⟨gL, hg⟩ : ∃ x, x = v1.heap.size := ⟨_, rfl⟩
        have hb : Below v1.heap.size v1 (v1.alloc (.cells #[.int .i64 0] 3)) := (Below.refl _ _).alloc (Nat.le_refl _) _
        have Bn : Hid (Blk (v1.alloc (.cells #[.int .i64 0] 3)) gL [.int .i64 0] 3) := by show Blk _ _ _ _; rw [hg]; exact Blk.new _ [_] _
        have hlgL : Hid (w2.heap.size ≤ gL) := by show _ ≤ _; rw [hg]; exact E.out.size
        have NL : Hid (x ≠ gL ∧ ∀ b ∈ bl, b ≠ gL) := ⟨by have := OM.out.lts7.1; omega, fun b hb' => by have := OM.out.lts7.2 b hb'; omega⟩
        replace E : Hid (Below w2.heap.size w2 (v1.alloc (.cells #[.int .i64 0] 3))) := E.out.trans (hb.mono E.out.size)
        replace OM := Lib.hid (OM.out.keep hb)
        have BL := Bn; clear Bn
        rw [← hg]
        refine postH_normal (hK _ _ _ E.out ?_)
        clear hK K hb hg
        generalize v1.alloc _ = v2 at E BL OM ⊢
        refine wpAnyH_each (rs := [3, 4]) (by kernel_rfl) (by decide) (fun K hK i hi => ?_)
        simp only [List.mem_cons, List.not_mem_nil, or_false] at hi
        rcases hi with rfl | rfl
        · skip
          refine wpOp_listed rfl ?_
          go_wp2_with fail
          refine (CN.out v2).mono ?_
          rintro e v3 ⟨rfl, hb⟩
          replace E : Hid (Below w2.heap.size w2 v3) := E.out.trans (hb.mono E.out.size)
          replace OM := Lib.hid (OM.out.keep hb)
          replace BL := Lib.hid (BL.out.below hb BL.out.lt)
          go_wp2_with fail
          refine postH_normal (hK _ _ _ E.out ?_)
          clear hK K hb
          refine wpAnyH_each (rs := [4]) (by kernel_rfl) (by decide) (fun K hK i hi => ?_)
          obtain rfl := List.mem_singleton.1 hi
          refine wpOp_listed rfl ?_
          go_wp2_with fail
          obtain ⟨gR, hg⟩ : ∃ x, x = v3.heap.size := ⟨_, rfl⟩
          have hb : Below v3.heap.size v3 (v3.alloc (.cells #[.slice none 0 0] 29)) := (Below.refl _ _).alloc (Nat.le_refl _) _
          have Bn : Hid (Blk (v3.alloc (.cells #[.slice none 0 0] 29)) gR [.slice none 0 0] 29) := by show Blk _ _ _ _; rw [hg]; exact Blk.new _ [_] _
          have hlgR : Hid (w2.heap.size ≤ gR) := by show _ ≤ _; rw [hg]; exact E.out.size
          have NR : Hid (x ≠ gR ∧ ∀ b ∈ bl, b ≠ gR) := ⟨by have := OM.out.lts7.1; omega, fun b hb' => by have := OM.out.lts7.2 b hb'; omega⟩
          have NG : Hid (gR ≠ gL) := by have := BL.out.lt; show _ ≠ _; omega
          replace E : Hid (Below w2.heap.size w2 (v3.alloc (.cells #[.slice none 0 0] 29))) := E.out.trans (hb.mono E.out.size)
          replace OM := Lib.hid (OM.out.keep hb)
          replace BL := Lib.hid (BL.out.below hb BL.out.lt)
          have BR := Bn; clear Bn
          rw [← hg]
          refine postH_normal (hK _ _ _ E.out ?_)
          clear hK K hb hg
          generalize v3.alloc _ = v4 at E BR BL OM ⊢
          refine wpAnyH_each (rs := [6]) (by kernel_rfl) (by decide) (fun K hK i hi => ?_)
          obtain rfl := List.mem_singleton.1 hi
          refine wpOp_listed rfl ?_
          refine wpList_blk_store rfl 29 _ _ rfl 0 (.slice (some ⟨x, 0, none⟩) N N) rfl rfl BR.out size_rows7 (Nat.le_refl 1) (one_slice _ _ _) ?_
          intro v5 hw6 ho6
          have Bn : Hid (Blk v5 gR [.slice (some ⟨x, 0, none⟩) N N] 29) := hw6.out
          replace E : Hid (Below w2.heap.size w2 v5) := E.out.trans (ho6.below hlgR.out)
          replace OM := Lib.hid (OM.out.only7 ho6 NR.out.1 NR.out.2)
          replace BL := Lib.hid (BL.out.only ho6 (Ne.symm NG.out))
          clear BR; have BR := Bn; clear Bn
          refine wpList_end (postH_normal (hK _ _ _ E.out ?_))
          clear hK K hw6 ho6
          refine wpAnyH_each (rs := [7]) (by kernel_rfl) (by decide) (fun K hK i hi => ?_)
          obtain rfl := List.mem_singleton.1 hi
          refine wpOp_listed rfl ?_
          refine wpList_blk_store rfl 3 _ _ rfl 0 (.int .i64 (p : Int)) rfl rfl BL.out size_int7 (Nat.le_refl 1) (one_int7 _ _) ?_
          intro v6 hw6 ho6
          have Bn : Hid (Blk v6 gL [.int .i64 (p : Int)] 3) := hw6.out
          replace E : Hid (Below w2.heap.size w2 v6) := E.out.trans (ho6.below hlgL.out)
          replace OM := Lib.hid (OM.out.only7 ho6 NL.out.1 NL.out.2)
          replace BR := Lib.hid (BR.out.only ho6 NG.out)
          clear BL; have BL := Bn; clear Bn
          refine wpList_end (postH_normal (hK _ _ _ E.out ?_))
          clear hK K hw6 ho6
          refine wpAnyH_done (by kernel_rfl) ?_ _
          try go_wp2_with fail
          go_meet
          exact ⟨gR, gL, x, bl, by first | rfl | (go_simp; done), by first | rfl | (go_simp; done), hlgR.out, hlgL.out, NG.out, NL.out.1, NL.out.2, BR.out, BL.out, OM.out, E.out⟩
        · skip
          refine wpOp_listed rfl ?_
          go_wp2_with fail
          obtain ⟨gR, hg⟩ : ∃ x, x = v2.heap.size := ⟨_, rfl⟩
          have hb : Below v2.heap.size v2 (v2.alloc (.cells #[.slice none 0 0] 29)) := (Below.refl _ _).alloc (Nat.le_refl _) _
          have Bn : Hid (Blk (v2.alloc (.cells #[.slice none 0 0] 29)) gR [.slice none 0 0] 29) := by show Blk _ _ _ _; rw [hg]; exact Blk.new _ [_] _
          have hlgR : Hid (w2.heap.size ≤ gR) := by show _ ≤ _; rw [hg]; exact E.out.size
          have NR : Hid (x ≠ gR ∧ ∀ b ∈ bl, b ≠ gR) := ⟨by have := OM.out.lts7.1; omega, fun b hb' => by have := OM.out.lts7.2 b hb'; omega⟩
          have NG : Hid (gR ≠ gL) := by have := BL.out.lt; show _ ≠ _; omega
          replace E : Hid (Below w2.heap.size w2 (v2.alloc (.cells #[.slice none 0 0] 29))) := E.out.trans (hb.mono E.out.size)
          replace OM := Lib.hid (OM.out.keep hb)
          replace BL := Lib.hid (BL.out.below hb BL.out.lt)
          have BR := Bn; clear Bn
          rw [← hg]
          refine postH_normal (hK _ _ _ E.out ?_)
          clear hK K hb hg
          generalize v2.alloc _ = v3 at E BR BL OM ⊢
          refine wpAnyH_each (rs := [3]) (by kernel_rfl) (by decide) (fun K hK i hi => ?_)
          obtain rfl := List.mem_singleton.1 hi
          refine wpOp_listed rfl ?_
          go_wp2_with fail
          refine (CN.out v3).mono ?_
          rintro e v4 ⟨rfl, hb⟩
          replace E : Hid (Below w2.heap.size w2 v4) := E.out.trans (hb.mono E.out.size)
          replace OM := Lib.hid (OM.out.keep hb)
          replace BR := Lib.hid (BR.out.below hb BR.out.lt)
          replace BL := Lib.hid (BL.out.below hb BL.out.lt)
          go_wp2_with fail
          refine postH_normal (hK _ _ _ E.out ?_)
          clear hK K hb
          refine wpAnyH_each (rs := [6]) (by kernel_rfl) (by decide) (fun K hK i hi => ?_)
          obtain rfl := List.mem_singleton.1 hi
          refine wpOp_listed rfl ?_
          refine wpList_blk_store rfl 29 _ _ rfl 0 (.slice (some ⟨x, 0, none⟩) N N) rfl rfl BR.out size_rows7 (Nat.le_refl 1) (one_slice _ _ _) ?_
          intro v5 hw6 ho6
          have Bn : Hid (Blk v5 gR [.slice (some ⟨x, 0, none⟩) N N] 29) := hw6.out
          replace E : Hid (Below w2.heap.size w2 v5) := E.out.trans (ho6.below hlgR.out)
          replace OM := Lib.hid (OM.out.only7 ho6 NR.out.1 NR.out.2)
          replace BL := Lib.hid (BL.out.only ho6 (Ne.symm NG.out))
          clear BR; have BR := Bn; clear Bn
          refine wpList_end (postH_normal (hK _ _ _ E.out ?_))
          clear hK K hw6 ho6
          refine wpAnyH_each (rs := [7]) (by kernel_rfl) (by decide) (fun K hK i hi => ?_)
          obtain rfl := List.mem_singleton.1 hi
          refine wpOp_listed rfl ?_
          refine wpList_blk_store rfl 3 _ _ rfl 0 (.int .i64 (p : Int)) rfl rfl BL.out size_int7 (Nat.le_refl 1) (one_int7 _ _) ?_
          intro v6 hw6 ho6
          have Bn : Hid (Blk v6 gL [.int .i64 (p : Int)] 3) := hw6.out
          replace E : Hid (Below w2.heap.size w2 v6) := E.out.trans (ho6.below hlgL.out)
          replace OM := Lib.hid (OM.out.only7 ho6 NL.out.1 NL.out.2)
          replace BR := Lib.hid (BR.out.only ho6 NG.out)
          clear BL; have BL := Bn; clear Bn
          refine wpList_end (postH_normal (hK _ _ _ E.out ?_))
          clear hK K hw6 ho6
          refine wpAnyH_done (by kernel_rfl) ?_ _
          try go_wp2_with fail
          go_meet
          exact ⟨gR, gL, x, bl, by first | rfl | (go_simp; done), by first | rfl | (go_simp; done), hlgR.out, hlgL.out, NG.out, NL.out.1, NL.out.2, BR.out, BL.out, OM.out, E.out⟩
    · skip
      refine wpOp_listed rfl ?_
      go_wp2_with fail
      obtain ⟨gR, hg⟩ : ∃ x, x = v0.heap.size := ⟨_, rfl⟩
      have hb : Below v0.heap.size v0 (v0.alloc (.cells #[.slice none 0 0] 29)) := (Below.refl _ _).alloc (Nat.le_refl _) _
      have Bn : Hid (Blk (v0.alloc (.cells #[.slice none 0 0] 29)) gR [.slice none 0 0] 29) := by show Blk _ _ _ _; rw [hg]; exact Blk.new _ [_] _
      have hlgR : Hid (w2.heap.size ≤ gR) := by show _ ≤ _; rw [hg]; exact E.out.size
      replace E : Hid (Below w2.heap.size w2 (v0.alloc (.cells #[.slice none 0 0] 29))) := E.out.trans (hb.mono E.out.size)
      have BR := Bn; clear Bn
      rw [← hg]
      refine postH_normal (hK _ _ _ E.out ?_)
      clear hK K hb hg
      generalize v0.alloc _ = v1 at E BR ⊢
      refine wpAnyH_each (rs := [1, 5]) (by kernel_rfl) (by decide) (fun K hK i hi => ?_)
      simp only [List.mem_cons, List.not_mem_nil, or_false] at hi
      rcases hi with rfl | rfl
      · skip
        refine wpOp_listed rfl ?_
        go_wp2_with fail
        refine (CP.out v1 (M2.out.keep E.out) (T2.out.on E.out)).mono ?_
        rintro e v2 ⟨⟨x, bl, rfl, hOm⟩, hb⟩
        have NR : Hid (x ≠ gR ∧ ∀ b ∈ bl, b ≠ gR) := ⟨by have := hOm.low; have := BR.out.lt; omega, fun b hb' => by have := hOm.lows b hb'; have := BR.out.lt; omega⟩
        have OMn := Lib.hid (hOm.up7 E.out.size)
        replace E : Hid (Below w2.heap.size w2 v2) := E.out.trans (hb.mono E.out.size)
        replace BR := Lib.hid (BR.out.below hb BR.out.lt)
        have OM := OMn; clear OMn
        clear hOm
        go_wp2_with fail
        refine postH_normal (hK _ _ _ E.out ?_)
        clear hK K hb
        refine wpAnyH_each (rs := [3, 5]) (by kernel_rfl) (by decide) (fun K hK i hi => ?_)
        simp only [List.mem_cons, List.not_mem_nil, or_false] at hi
        rcases hi with rfl | rfl
        · skip
          refine wpOp_listed rfl ?_
          go_wp2_with fail
          refine (CN.out v2).mono ?_
          rintro e v3 ⟨rfl, hb⟩
          replace E : Hid (Below w2.heap.size w2 v3) := E.out.trans (hb.mono E.out.size)
          replace OM := Lib.hid (OM.out.keep hb)
          replace BR := Lib.hid (BR.out.below hb BR.out.lt)
          go_wp2_with fail
          refine postH_normal (hK _ _ _ E.out ?_)
          clear hK K hb
          refine wpAnyH_each (rs := [5]) (by kernel_rfl) (by decide) (fun K hK i hi => ?_)
          obtain rfl := List.mem_singleton.1 hi
          refine wpOp_listed rfl ?_
          go_wp2_with fail
          obtain ⟨gL, hg⟩ : ∃ x, x = v3.heap.size := ⟨_, rfl⟩
          have hb : Below v3.heap.size v3 (v3.alloc (.cells #[.int .i64 0] 3)) := (Below.refl _ _).alloc (Nat.le_refl _) _
          have Bn : Hid (Blk (v3.alloc (.cells #[.int .i64 0] 3)) gL [.int .i64 0] 3) := by show Blk _ _ _ _; rw [hg]; exact Blk.new _ [_] _
          have hlgL : Hid (w2.heap.size ≤ gL) := by show _ ≤ _; rw [hg]; exact E.out.size
          have NL : Hid (x ≠ gL ∧ ∀ b ∈ bl, b ≠ gL) := ⟨by have := OM.out.lts7.1; omega, fun b hb' => by have := OM.out.lts7.2 b hb'; omega⟩
          have NG : Hid (gR ≠ gL) := by have := BR.out.lt; show _ ≠ _; omega
          replace E : Hid (Below w2.heap.size w2 (v3.alloc (.cells #[.int .i64 0] 3))) := E.out.trans (hb.mono E.out.size)
          replace OM := Lib.hid (OM.out.keep hb)
          replace BR := Lib.hid (BR.out.below hb BR.out.lt)
          have BL := Bn; clear Bn
          rw [← hg]
          refine postH_normal (hK _ _ _ E.out ?_)
          clear hK K hb hg
          generalize v3.alloc _ = v4 at E BR BL OM ⊢
          refine wpAnyH_each (rs := [6]) (by kernel_rfl) (by decide) (fun K hK i hi => ?_)
          obtain rfl := List.mem_singleton.1 hi
          refine wpOp_listed rfl ?_
          refine wpList_blk_store rfl 29 _ _ rfl 0 (.slice (some ⟨x, 0, none⟩) N N) rfl rfl BR.out size_rows7 (Nat.le_refl 1) (one_slice _ _ _) ?_
          intro v5 hw6 ho6
          have Bn : Hid (Blk v5 gR [.slice (some ⟨x, 0, none⟩) N N] 29) := hw6.out
          replace E : Hid (Below w2.heap.size w2 v5) := E.out.trans (ho6.below hlgR.out)
          replace OM := Lib.hid (OM.out.only7 ho6 NR.out.1 NR.out.2)
          replace BL := Lib.hid (BL.out.only ho6 (Ne.symm NG.out))
          clear BR; have BR := Bn; clear Bn
          refine wpList_end (postH_normal (hK _ _ _ E.out ?_))
          clear hK K hw6 ho6
          refine wpAnyH_each (rs := [7]) (by kernel_rfl) (by decide) (fun K hK i hi => ?_)
          obtain rfl := List.mem_singleton.1 hi
          refine wpOp_listed rfl ?_
          refine wpList_blk_store rfl 3 _ _ rfl 0 (.int .i64 (p : Int)) rfl rfl BL.out size_int7 (Nat.le_refl 1) (one_int7 _ _) ?_
          intro v6 hw6 ho6
          have Bn : Hid (Blk v6 gL [.int .i64 (p : Int)] 3) := hw6.out
          replace E : Hid (Below w2.heap.size w2 v6) := E.out.trans (ho6.below hlgL.out)
          replace OM := Lib.hid (OM.out.only7 ho6 NL.out.1 NL.out.2)
          replace BR := Lib.hid (BR.out.only ho6 NG.out)
          clear BL; have BL := Bn; clear Bn
          refine wpList_end (postH_normal (hK _ _ _ E.out ?_))
          clear hK K hw6 ho6
          refine wpAnyH_done (by kernel_rfl) ?_ _
          try go_wp2_with fail
          go_meet
          exact ⟨gR, gL, x, bl, by first | rfl | (go_simp; done), by first | rfl | (go_simp; done), hlgR.out, hlgL.out, NG.out, NL.out.1, NL.out.2, BR.out, BL.out, OM.out, E.out⟩
        · skip
          refine wpOp_listed rfl ?_
          go_wp2_with fail
          obtain ⟨gL, hg⟩ : ∃ x, x = v2.heap.size := ⟨_, rfl⟩
          have hb : Below v2.heap.size v2 (v2.alloc (.cells #[.int .i64 0] 3)) := (Below.refl _ _).alloc (Nat.le_refl _) _
          have Bn : Hid (Blk (v2.alloc (.cells #[.int .i64 0] 3)) gL [.int .i64 0] 3) := by show Blk _ _ _ _; rw [hg]; exact Blk.new _ [_] _
          have hlgL : Hid (w2.heap.size ≤ gL) := by show _ ≤ _; rw [hg]; exact E.out.size
          have NL : Hid (x ≠ gL ∧ ∀ b ∈ bl, b ≠ gL) := ⟨by have := OM.out.lts7.1; omega, fun b hb' => by have := OM.out.lts7.2 b hb'; omega⟩
          have NG : Hid (gR ≠ gL) := by have := BR.out.lt; show _ ≠ _; omega
          replace E : Hid (Below w2.heap.size w2 (v2.alloc (.cells #[.int .i64 0] 3))) := E.out.trans (hb.mono E.out.size)
          replace OM := Lib.hid (OM.out.keep hb)
          replace BR := Lib.hid (BR.out.below hb BR.out.lt)
          have BL := Bn; clear Bn
          rw [← hg]
          refine postH_normal (hK _ _ _ E.out ?_)
          clear hK K hb hg
          generalize v2.alloc _ = v3 at E BR BL OM ⊢
          refine wpAnyH_each (rs := [3]) (by kernel_rfl) (by decide) (fun K hK i hi => ?_)
          obtain rfl := List.mem_singleton.1 hi
          refine wpOp_listed rfl ?_
          go_wp2_with fail
          refine (CN.out v3).mono ?_
          rintro e v4 ⟨rfl, hb⟩
          replace E : Hid (Below w2.heap.size w2 v4) := E.out.trans (hb.mono E.out.size)
          replace OM := Lib.hid (OM.out.keep hb)
          replace BR := Lib.hid (BR.out.below hb BR.out.lt)
          replace BL := Lib.hid (BL.out.below hb BL.out.lt)
          go_wp2_with fail
          refine postH_normal (hK _ _ _ E.out ?_)
          clear hK K hb
          refine wpAnyH_each (rs := [6]) (by kernel_rfl) (by decide) (fun K hK i hi => ?_)
          obtain rfl := List.mem_singleton.1 hi
          refine wpOp_listed rfl ?_
          refine wpList_blk_store rfl 29 _ _ rfl 0 (.slice (some ⟨x, 0, none⟩) N N) rfl rfl BR.out size_rows7 (Nat.le_refl 1) (one_slice _ _ _) ?_
          intro v5 hw6 ho6
          have Bn : Hid (Blk v5 gR [.slice (some ⟨x, 0, none⟩) N N] 29) := hw6.out
          replace E : Hid (Below w2.heap.size w2 v5) := E.out.trans (ho6.below hlgR.out)
          replace OM := Lib.hid (OM.out.only7 ho6 NR.out.1 NR.out.2)
          replace BL := Lib.hid (BL.out.only ho6 (Ne.symm NG.out))
          clear BR; have BR := Bn; clear Bn
          refine wpList_end (postH_normal (hK _ _ _ E.out ?_))
          clear hK K hw6 ho6
          refine wpAnyH_each (rs := [7]) (by kernel_rfl) (by decide) (fun K hK i hi => ?_)
          obtain rfl := List.mem_singleton.1 hi
          refine wpOp_listed rfl ?_
          refine wpList_blk_store rfl 3 _ _ rfl 0 (.int .i64 (p : Int)) rfl rfl BL.out size_int7 (Nat.le_refl 1) (one_int7 _ _) ?_
          intro v6 hw6 ho6
          have Bn : Hid (Blk v6 gL [.int .i64 (p : Int)] 3) := hw6.out
          replace E : Hid (Below w2.heap.size w2 v6) := E.out.trans (ho6.below hlgL.out)
          replace OM := Lib.hid (OM.out.only7 ho6 NL.out.1 NL.out.2)
          replace BR := Lib.hid (BR.out.only ho6 NG.out)
          clear BL; have BL := Bn; clear Bn
          refine wpList_end (postH_normal (hK _ _ _ E.out ?_))
          clear hK K hw6 ho6
          refine wpAnyH_done (by kernel_rfl) ?_ _
          try go_wp2_with fail
          go_meet
          exact ⟨gR, gL, x, bl, by first | rfl | (go_simp; done), by first | rfl | (go_simp; done), hlgR.out, hlgL.out, NG.out, NL.out.1, NL.out.2, BR.out, BL.out, OM.out, E.out⟩
      · skip
        refine wpOp_listed rfl ?_
        go_wp2_with fail
        obtain ⟨gL, hg⟩ : ∃ x, x = v1.heap.size := ⟨_, rfl⟩
        have hb : Below v1.heap.size v1 (v1.alloc (.cells #[.int .i64 0] 3)) := (Below.refl _ _).alloc (Nat.le_refl _) _
        have Bn : Hid (Blk (v1.alloc (.cells #[.int .i64 0] 3)) gL [.int .i64 0] 3) := by show Blk _ _ _ _; rw [hg]; exact Blk.new _ [_] _
        have hlgL : Hid (w2.heap.size ≤ gL) := by show _ ≤ _; rw [hg]; exact E.out.size
        have NG : Hid (gR ≠ gL) := by have := BR.out.lt; show _ ≠ _; omega
        replace E : Hid (Below w2.heap.size w2 (v1.alloc (.cells #[.int .i64 0] 3))) := E.out.trans (hb.mono E.out.size)
        replace BR := Lib.hid (BR.out.below hb BR.out.lt)
        have BL := Bn; clear Bn
        rw [← hg]
        refine postH_normal (hK _ _ _ E.out ?_)
        clear hK K hb hg
        generalize v1.alloc _ = v2 at E BR BL ⊢
        refine wpAnyH_each (rs := [1]) (by kernel_rfl) (by decide) (fun K hK i hi => ?_)
        obtain rfl := List.mem_singleton.1 hi
        refine wpOp_listed rfl ?_
        go_wp2_with fail
        refine (CP.out v2 (M2.out.keep E.out) (T2.out.on E.out)).mono ?_
        rintro e v3 ⟨⟨x, bl, rfl, hOm⟩, hb⟩
        have NR : Hid (x ≠ gR ∧ ∀ b ∈ bl, b ≠ gR) := ⟨by have := hOm.low; have := BR.out.lt; omega, fun b hb' => by have := hOm.lows b hb'; have := BR.out.lt; omega⟩
        have NL : Hid (x ≠ gL ∧ ∀ b ∈ bl, b ≠ gL) := ⟨by have := hOm.low; have := BL.out.lt; omega, fun b hb' => by have := hOm.lows b hb'; have := BL.out.lt; omega⟩
        have OMn := Lib.hid (hOm.up7 E.out.size)
        replace E : Hid (Below w2.heap.size w2 v3) := E.out.trans (hb.mono E.out.size)
        replace BR := Lib.hid (BR.out.below hb BR.out.lt)
        replace BL := Lib.hid (BL.out.below hb BL.out.lt)
        have OM := OMn; clear OMn
        clear hOm
        go_wp2_with fail
        refine postH_normal (hK _ _ _ E.out ?_)
        clear hK K hb
        refine wpAnyH_each (rs := [3]) (by kernel_rfl) (by decide) (fun K hK i hi => ?_)
        obtain rfl := List.mem_singleton.1 hi
        refine wpOp_listed rfl ?_
        go_wp2_with fail
        refine (CN.out v3).mono ?_
        rintro e v4 ⟨rfl, hb⟩
        replace E : Hid (Below w2.heap.size w2 v4) := E.out.trans (hb.mono E.out.size)
        replace OM := Lib.hid (OM.out.keep hb)
        replace BR := Lib.hid (BR.out.below hb BR.out.lt)
        replace BL := Lib.hid (BL.out.below hb BL.out.lt)
        go_wp2_with fail
        refine postH_normal (hK _ _ _ E.out ?_)
        clear hK K hb
        refine wpAnyH_each (rs := [6]) (by kernel_rfl) (by decide) (fun K hK i hi => ?_)
        obtain rfl := List.mem_singleton.1 hi
        refine wpOp_listed rfl ?_
        refine wpList_blk_store rfl 29 _ _ rfl 0 (.slice (some ⟨x, 0, none⟩) N N) rfl rfl BR.out size_rows7 (Nat.le_refl 1) (one_slice _ _ _) ?_
        intro v5 hw6 ho6
        have Bn : Hid (Blk v5 gR [.slice (some ⟨x, 0, none⟩) N N] 29) := hw6.out
        replace E : Hid (Below w2.heap.size w2 v5) := E.out.trans (ho6.below hlgR.out)
        replace OM := Lib.hid (OM.out.only7 ho6 NR.out.1 NR.out.2)
        replace BL := Lib.hid (BL.out.only ho6 (Ne.symm NG.out))
        clear BR; have BR := Bn; clear Bn
        refine wpList_end (postH_normal (hK _ _ _ E.out ?_))
        clear hK K hw6 ho6
        refine wpAnyH_each (rs := [7]) (by kernel_rfl) (by decide) (fun K hK i hi => ?_)
        obtain rfl := List.mem_singleton.1 hi
        refine wpOp_listed rfl ?_
        refine wpList_blk_store rfl 3 _ _ rfl 0 (.int .i64 (p : Int)) rfl rfl BL.out size_int7 (Nat.le_refl 1) (one_int7 _ _) ?_
        intro v6 hw6 ho6
        have Bn : Hid (Blk v6 gL [.int .i64 (p : Int)] 3) := hw6.out
        replace E : Hid (Below w2.heap.size w2 v6) := E.out.trans (ho6.below hlgL.out)
        replace OM := Lib.hid (OM.out.only7 ho6 NL.out.1 NL.out.2)
        replace BR := Lib.hid (BR.out.only ho6 NG.out)
        clear BL; have BL := Bn; clear Bn
        refine wpList_end (postH_normal (hK _ _ _ E.out ?_))
        clear hK K hw6 ho6
        refine wpAnyH_done (by kernel_rfl) ?_ _
        try go_wp2_with fail
        go_meet
        exact ⟨gR, gL, x, bl, by first | rfl | (go_simp; done), by first | rfl | (go_simp; done), hlgR.out, hlgL.out, NG.out, NL.out.1, NL.out.2, BR.out, BL.out, OM.out, E.out⟩
    · skip
      refine wpOp_listed rfl ?_
      go_wp2_with fail
      obtain ⟨gL, hg⟩ : ∃ x, x = v0.heap.size := ⟨_, rfl⟩
      have hb : Below v0.heap.size v0 (v0.alloc (.cells #[.int .i64 0] 3)) := (Below.refl _ _).alloc (Nat.le_refl _) _
      have Bn : Hid (Blk (v0.alloc (.cells #[.int .i64 0] 3)) gL [.int .i64 0] 3) := by show Blk _ _ _ _; rw [hg]; exact Blk.new _ [_] _
      have hlgL : Hid (w2.heap.size ≤ gL) := by show _ ≤ _; rw [hg]; exact E.out.size
      replace E : Hid (Below w2.heap.size w2 (v0.alloc (.cells #[.int .i64 0] 3))) := E.out.trans (hb.mono E.out.size)
      have BL := Bn; clear Bn
      rw [← hg]
      refine postH_normal (hK _ _ _ E.out ?_)
      clear hK K hb hg
      generalize v0.alloc _ = v1 at E BL ⊢
      refine wpAnyH_each (rs := [1, 4]) (by kernel_rfl) (by decide) (fun K hK i hi => ?_)
      simp only [List.mem_cons, List.not_mem_nil, or_false] at hi
      rcases hi with rfl | rfl
      · skip
        refine wpOp_listed rfl ?_
        go_wp2_with fail
        refine (CP.out v1 (M2.out.keep E.out) (T2.out.on E.out)).mono ?_
        rintro e v2 ⟨⟨x, bl, rfl, hOm⟩, hb⟩
        have NL : Hid (x ≠ gL ∧ ∀ b ∈ bl, b ≠ gL) := ⟨by have := hOm.low; have := BL.out.lt; omega, fun b hb' => by have := hOm.lows b hb'; have := BL.out.lt; omega⟩
        have OMn := Lib.hid (hOm.up7 E.out.size)
        replace E : Hid (Below w2.heap.size w2 v2) := E.out.trans (hb.mono E.out.size)
        replace BL := Lib.hid (BL.out.below hb BL.out.lt)
        have OM := OMn; clear OMn
        clear hOm
        go_wp2_with fail
        refine postH_normal (hK _ _ _ E.out ?_)
        clear hK K hb
        refine wpAnyH_each (rs := [3, 4]) (by kernel_rfl) (by decide) (fun K hK i hi => ?_)
        simp only [List.mem_cons, List.not_mem_nil, or_false] at hi
        rcases hi with rfl | rfl
        · skip
          refine wpOp_listed rfl ?_
          go_wp2_with fail
          refine (CN.out v2).mono ?_
          rintro e v3 ⟨rfl, hb⟩
          replace E : Hid (Below w2.heap.size w2 v3) := E.out.trans (hb.mono E.out.size)
          replace OM := Lib.hid (OM.out.keep hb)
          replace BL := Lib.hid (BL.out.below hb BL.out.lt)
          go_wp2_with fail
          refine postH_normal (hK _ _ _ E.out ?_)
          clear hK K hb
          refine wpAnyH_each (rs := [4]) (by kernel_rfl) (by decide) (fun K hK i hi => ?_)
          obtain rfl := List.mem_singleton.1 hi
          refine wpOp_listed rfl ?_
          go_wp2_with fail
          obtain ⟨gR, hg⟩ : ∃ x, x = v3.heap.size := ⟨_, rfl⟩
          have hb : Below v3.heap.size v3 (v3.alloc (.cells #[.slice none 0 0] 29)) := (Below.refl _ _).alloc (Nat.le_refl _) _
          have Bn : Hid (Blk (v3.alloc (.cells #[.slice none 0 0] 29)) gR [.slice none 0 0] 29) := by show Blk _ _ _ _; rw [hg]; exact Blk.new _ [_] _
          have hlgR : Hid (w2.heap.size ≤ gR) := by show _ ≤ _; rw [hg]; exact E.out.size
          have NR : Hid (x ≠ gR ∧ ∀ b ∈ bl, b ≠ gR) := ⟨by have := OM.out.lts7.1; omega, fun b hb' => by have := OM.out.lts7.2 b hb'; omega⟩
          have NG : Hid (gR ≠ gL) := by have := BL.out.lt; show _ ≠ _; omega
          replace E : Hid (Below w2.heap.size w2 (v3.alloc (.cells #[.slice none 0 0] 29))) := E.out.trans (hb.mono E.out.size)
          replace OM := Lib.hid (OM.out.keep hb)
          replace BL := Lib.hid (BL.out.below hb BL.out.lt)
          have BR := Bn; clear Bn
          rw [← hg]
          refine postH_normal (hK _ _ _ E.out ?_)
          clear hK K hb hg
          generalize v3.alloc _ = v4 at E BR BL OM ⊢
          refine wpAnyH_each (rs := [6]) (by kernel_rfl) (by decide) (fun K hK i hi => ?_)
          obtain rfl := List.mem_singleton.1 hi
          refine wpOp_listed rfl ?_
          refine wpList_blk_store rfl 29 _ _ rfl 0 (.slice (some ⟨x, 0, none⟩) N N) rfl rfl BR.out size_rows7 (Nat.le_refl 1) (one_slice _ _ _) ?_
          intro v5 hw6 ho6
          have Bn : Hid (Blk v5 gR [.slice (some ⟨x, 0, none⟩) N N] 29) := hw6.out
          replace E : Hid (Below w2.heap.size w2 v5) := E.out.trans (ho6.below hlgR.out)
          replace OM := Lib.hid (OM.out.only7 ho6 NR.out.1 NR.out.2)
          replace BL := Lib.hid (BL.out.only ho6 (Ne.symm NG.out))
          clear BR; have BR := Bn; clear Bn
          refine wpList_end (postH_normal (hK _ _ _ E.out ?_))
          clear hK K hw6 ho6
          refine wpAnyH_each (rs := [7]) (by kernel_rfl) (by decide) (fun K hK i hi => ?_)
          obtain rfl := List.mem_singleton.1 hi
          refine wpOp_listed rfl ?_
          refine wpList_blk_store rfl 3 _ _ rfl 0 (.int .i64 (p : Int)) rfl rfl BL.out size_int7 (Nat.le_refl 1) (one_int7 _ _) ?_
          intro v6 hw6 ho6
          have Bn : Hid (Blk v6 gL [.int .i64 (p : Int)] 3) := hw6.out
          replace E : Hid (Below w2.heap.size w2 v6) := E.out.trans (ho6.below hlgL.out)
          replace OM := Lib.hid (OM.out.only7 ho6 NL.out.1 NL.out.2)
          replace BR := Lib.hid (BR.out.only ho6 NG.out)
          clear BL; have BL := Bn; clear Bn
          refine wpList_end (postH_normal (hK _ _ _ E.out ?_))
          clear hK K hw6 ho6
          refine wpAnyH_done (by kernel_rfl) ?_ _
          try go_wp2_with fail
          go_meet
          exact ⟨gR, gL, x, bl, by first | rfl | (go_simp; done), by first | rfl | (go_simp; done), hlgR.out, hlgL.out, NG.out, NL.out.1, NL.out.2, BR.out, BL.out, OM.out, E.out⟩
        · skip
          refine wpOp_listed rfl ?_
          go_wp2_with fail
          obtain ⟨gR, hg⟩ : ∃ x, x = v2.heap.size := ⟨_, rfl⟩
          have hb : Below v2.heap.size v2 (v2.alloc (.cells #[.slice none 0 0] 29)) := (Below.refl _ _).alloc (Nat.le_refl _) _
          have Bn : Hid (Blk (v2.alloc (.cells #[.slice none 0 0] 29)) gR [.slice none 0 0] 29) := by show Blk _ _ _ _; rw [hg]; exact Blk.new _ [_] _
          have hlgR : Hid (w2.heap.size ≤ gR) := by show _ ≤ _; rw [hg]; exact E.out.size
          have NR : Hid (x ≠ gR ∧ ∀ b ∈ bl, b ≠ gR) := ⟨by have := OM.out.lts7.1; omega, fun b hb' => by have := OM.out.lts7.2 b hb'; omega⟩
          have NG : Hid (gR ≠ gL) := by have := BL.out.lt; show _ ≠ _; omega
          replace E : Hid (Below w2.heap.size w2 (v2.alloc (.cells #[.slice none 0 0] 29))) := E.out.trans (hb.mono E.out.size)
          replace OM := Lib.hid (OM.out.keep hb)
          replace BL := Lib.hid (BL.out.below hb BL.out.lt)
          have BR := Bn; clear Bn
          rw [← hg]
          refine postH_normal (hK _ _ _ E.out ?_)
          clear hK K hb hg
          generalize v2.alloc _ = v3 at E BR BL OM ⊢
          refine wpAnyH_each (rs := [3]) (by kernel_rfl) (by decide) (fun K hK i hi => ?_)
          obtain rfl := List.mem_singleton.1 hi
          refine wpOp_listed rfl ?_
          go_wp2_with fail
          refine (CN.out v3).mono ?_
          rintro e v4 ⟨rfl, hb⟩
          replace E : Hid (Below w2.heap.size w2 v4) := E.out.trans (hb.mono E.out.size)
          replace OM := Lib.hid (OM.out.keep hb)
          replace BR := Lib.hid (BR.out.below hb BR.out.lt)
          replace BL := Lib.hid (BL.out.below hb BL.out.lt)
          go_wp2_with fail
          refine postH_normal (hK _ _ _ E.out ?_)
          clear hK K hb
          refine wpAnyH_each (rs := [6]) (by kernel_rfl) (by decide) (fun K hK i hi => ?_)
          obtain rfl := List.mem_singleton.1 hi
          refine wpOp_listed rfl ?_
          refine wpList_blk_store rfl 29 _ _ rfl 0 (.slice (some ⟨x, 0, none⟩) N N) rfl rfl BR.out size_rows7 (Nat.le_refl 1) (one_slice _ _ _) ?_
          intro v5 hw6 ho6
          have Bn : Hid (Blk v5 gR [.slice (some ⟨x, 0, none⟩) N N] 29) := hw6.out
          replace E : Hid (Below w2.heap.size w2 v5) := E.out.trans (ho6.below hlgR.out)
          replace OM := Lib.hid (OM.out.only7 ho6 NR.out.1 NR.out.2)
          replace BL := Lib.hid (BL.out.only ho6 (Ne.symm NG.out))
          clear BR; have BR := Bn; clear Bn
          refine wpList_end (postH_normal (hK _ _ _ E.out ?_))
          clear hK K hw6 ho6
          refine wpAnyH_each (rs := [7]) (by kernel_rfl) (by decide) (fun K hK i hi => ?_)
          obtain rfl := List.mem_singleton.1 hi
          refine wpOp_listed rfl ?_
          refine wpList_blk_store rfl 3 _ _ rfl 0 (.int .i64 (p : Int)) rfl rfl BL.out size_int7 (Nat.le_refl 1) (one_int7 _ _) ?_
          intro v6 hw6 ho6
          have Bn : Hid (Blk v6 gL [.int .i64 (p : Int)] 3) := hw6.out
          replace E : Hid (Below w2.heap.size w2 v6) := E.out.trans (ho6.below hlgL.out)
          replace OM := Lib.hid (OM.out.only7 ho6 NL.out.1 NL.out.2)
          replace BR := Lib.hid (BR.out.only ho6 NG.out)
          clear BL; have BL := Bn; clear Bn
          refine wpList_end (postH_normal (hK _ _ _ E.out ?_))
          clear hK K hw6 ho6
          refine wpAnyH_done (by kernel_rfl) ?_ _
          try go_wp2_with fail
          go_meet
          exact ⟨gR, gL, x, bl, by first | rfl | (go_simp; done), by first | rfl | (go_simp; done), hlgR.out, hlgL.out, NG.out, NL.out.1, NL.out.2, BR.out, BL.out, OM.out, E.out⟩
      · skip
        refine wpOp_listed rfl ?_
        go_wp2_with fail
        obtain ⟨gR, hg⟩ : ∃ x, x = v1.heap.size := ⟨_, rfl⟩
        have hb : Below v1.heap.size v1 (v1.alloc (.cells #[.slice none 0 0] 29)) := (Below.refl _ _).alloc (Nat.le_refl _) _
        have Bn : Hid (Blk (v1.alloc (.cells #[.slice none 0 0] 29)) gR [.slice none 0 0] 29) := by show Blk _ _ _ _; rw [hg]; exact Blk.new _ [_] _
        have hlgR : Hid (w2.heap.size ≤ gR) := by show _ ≤ _; rw [hg]; exact E.out.size
        have NG : Hid (gR ≠ gL) := by have := BL.out.lt; show _ ≠ _; omega
        replace E : Hid (Below w2.heap.size w2 (v1.alloc (.cells #[.slice none 0 0] 29))) := E.out.trans (hb.mono E.out.size)
        replace BL := Lib.hid (BL.out.below hb BL.out.lt)
        have BR := Bn; clear Bn
        rw [← hg]
        refine postH_normal (hK _ _ _ E.out ?_)
        clear hK K hb hg
        generalize v1.alloc _ = v2 at E BR BL ⊢
        refine wpAnyH_each (rs := [1]) (by kernel_rfl) (by decide) (fun K hK i hi => ?_)
        obtain rfl := List.mem_singleton.1 hi
        refine wpOp_listed rfl ?_
        go_wp2_with fail
        refine (CP.out v2 (M2.out.keep E.out) (T2.out.on E.out)).mono ?_
        rintro e v3 ⟨⟨x, bl, rfl, hOm⟩, hb⟩
        have NR : Hid (x ≠ gR ∧ ∀ b ∈ bl, b ≠ gR) := ⟨by have := hOm.low; have := BR.out.lt; omega, fun b hb' => by have := hOm.lows b hb'; have := BR.out.lt; omega⟩
        have NL : Hid (x ≠ gL ∧ ∀ b ∈ bl, b ≠ gL) := ⟨by have := hOm.low; have := BL.out.lt; omega, fun b hb' => by have := hOm.lows b hb'; have := BL.out.lt; omega⟩
        have OMn := Lib.hid (hOm.up7 E.out.size)
        replace E : Hid (Below w2.heap.size w2 v3) := E.out.trans (hb.mono E.out.size)
        replace BR := Lib.hid (BR.out.below hb BR.out.lt)
        replace BL := Lib.hid (BL.out.below hb BL.out.lt)
        have OM := OMn; clear OMn
        clear hOm
        go_wp2_with fail
        refine postH_normal (hK _ _ _ E.out ?_)
        clear hK K hb
        refine wpAnyH_each (rs := [3]) (by kernel_rfl) (by decide) (fun K hK i hi => ?_)
        obtain rfl := List.mem_singleton.1 hi
        refine wpOp_listed rfl ?_
        go_wp2_with fail
        refine (CN.out v3).mono ?_
        rintro e v4 ⟨rfl, hb⟩
        replace E : Hid (Below w2.heap.size w2 v4) := E.out.trans (hb.mono E.out.size)
        replace OM := Lib.hid (OM.out.keep hb)
        replace BR := Lib.hid (BR.out.below hb BR.out.lt)
        replace BL := Lib.hid (BL.out.below hb BL.out.lt)
        go_wp2_with fail
        refine postH_normal (hK _ _ _ E.out ?_)
        clear hK K hb
        refine wpAnyH_each (rs := [6]) (by kernel_rfl) (by decide) (fun K hK i hi => ?_)
        obtain rfl := List.mem_singleton.1 hi
        refine wpOp_listed rfl ?_
        refine wpList_blk_store rfl 29 _ _ rfl 0 (.slice (some ⟨x, 0, none⟩) N N) rfl rfl BR.out size_rows7 (Nat.le_refl 1) (one_slice _ _ _) ?_
        intro v5 hw6 ho6
        have Bn : Hid (Blk v5 gR [.slice (some ⟨x, 0, none⟩) N N] 29) := hw6.out
        replace E : Hid (Below w2.heap.size w2 v5) := E.out.trans (ho6.below hlgR.out)
        replace OM := Lib.hid (OM.out.only7 ho6 NR.out.1 NR.out.2)
        replace BL := Lib.hid (BL.out.only ho6 (Ne.symm NG.out))
        clear BR; have BR := Bn; clear Bn
        refine wpList_end (postH_normal (hK _ _ _ E.out ?_))
        clear hK K hw6 ho6
        refine wpAnyH_each (rs := [7]) (by kernel_rfl) (by decide) (fun K hK i hi => ?_)
        obtain rfl := List.mem_singleton.1 hi
        refine wpOp_listed rfl ?_
        refine wpList_blk_store rfl 3 _ _ rfl 0 (.int .i64 (p : Int)) rfl rfl BL.out size_int7 (Nat.le_refl 1) (one_int7 _ _) ?_
        intro v6 hw6 ho6
        have Bn : Hid (Blk v6 gL [.int .i64 (p : Int)] 3) := hw6.out
        replace E : Hid (Below w2.heap.size w2 v6) := E.out.trans (ho6.below hlgL.out)
        replace OM := Lib.hid (OM.out.only7 ho6 NL.out.1 NL.out.2)
        replace BR := Lib.hid (BR.out.only ho6 NG.out)
        clear BL; have BL := Bn; clear Bn
        refine wpList_end (postH_normal (hK _ _ _ E.out ?_))
        clear hK K hw6 ho6
        refine wpAnyH_done (by kernel_rfl) ?_ _
        try go_wp2_with fail
        go_meet
        exact ⟨gR, gL, x, bl, by first | rfl | (go_simp; done), by first | rfl | (go_simp; done), hlgR.out, hlgL.out, NG.out, NL.out.1, NL.out.2, BR.out, BL.out, OM.out, E.out⟩
  case rest =>
    obtain ⟨gR, gL, xr, bl, rfl, rfl, l1, l2, n1, n2, n3, BR0, BL0, OM0, E0⟩ := hcut.out
    have BR := Lib.hid BR0
    have BL := Lib.hid BL0
    have OM := Lib.hid OM0
    have E := Lib.hid E0
    have NE : Hid (gR ≠ gL ∧ xr ≠ gL ∧ ∀ b ∈ bl, b ≠ gL) := ⟨n1, n2, n3⟩
    have hlL : Hid (w2.heap.size ≤ gL) := l2
    have q1 := BL0.cell (j := 0) rfl
    clear l1 l2 n1 n2 n3 BR0 BL0 OM0 E0 hcut
    obtain ⟨hP1, hP2⟩ := two_wrap hp24
    obtain ⟨PP, hPP⟩ : ∃ P, P = 2 ^ p := ⟨_, rfl⟩
    have hPPH := Lib.hid hPP
    rw [← hPP] at hP1 hP2
    have hPPpos : 1 ≤ PP := by rw [hPP]; exact Nat.one_le_two_pow
    have v1 : ¬ (p : Int) < 0 := by omega
    have v0 : 0 ≤ (p : Int) := by omega
    have hminp : min p 64 = p := by omega
    have hSS : ((PP : Int) - 1) = ((PP - 1 : Nat) : Int) := by omega
    have hSw : wrap64 ((PP : Int) - 1) = ((PP - 1 : Nat) : Int) := by unfold wrap64; omega
    clear hPP
    obtain ⟨W3, hW3⟩ : ∃ W3, W3 = wc.alloc (.cells #[.int .i64 ((PP - 1 : Nat) : Int)] 3) := ⟨_, rfl⟩
    have hb3 : Below wc.heap.size wc W3 := by rw [hW3]; exact (Below.refl _ _).alloc (Nat.le_refl _) _
    have BA : Hid (Blk W3 wc.heap.size [.int .i64 ((PP - 1 : Nat) : Int)] 3) := by show Blk _ _ _ _; rw [hW3]; exact Blk.new _ [_] _
    have q2 : (wc.alloc (.cells #[.int .i64 ((PP - 1 : Nat) : Int)] 3)).cell? ⟨gL, 0, none⟩ = some (.int .i64 (p : Int)) := by rw [← hW3]; exact (BL.out.below hb3 BL.out.lt).cell (j := 0) rfl
    have CL : Hid (Calls Tryd.prog 50 #[.int .i64 (p : Int)] (wc.alloc (.cells #[.int .i64 ((PP - 1 : Nat) : Int)] 3)) fun e w' => e = .returned (.func (.func 75) #[] #[.pointer (some ⟨W3.heap.size, 0, none⟩)]) ∧ w' = W3.alloc (.cells #[.int .i64 p] 3)) := by rw [← hW3]; exact losses_any (p : Int) W3
    gi_wp2_with (refine ⟨trivial, ?_⟩; gi_at_call 50; refine (callsIn_wide.2 CL.out).mono ?_; rintro e W4 ⟨rfl, hW4⟩)
    rw [show wc.heap.size + 1 = W3.heap.size by rw [hW3]; simp]
    rw [← hW3]
    obtain ⟨W4, hW4⟩ : ∃ W4, W4 = W3.alloc (.cells #[.int .i64 (p : Int)] 3) := ⟨_, rfl⟩
    rw [← hW4]
    have hb4 : Below wc.heap.size wc W4 := by rw [hW4]; exact hb3.alloc hb3.size _
    have X4 : Blk W4 W3.heap.size [.int .i64 (p : Int)] 3 := by rw [hW4]; exact Blk.new _ [_] _
    have h34 : Below W3.heap.size W3 W4 := by rw [hW4]; exact (Below.refl _ _).alloc (Nat.le_refl _) _
    have hE4 : Below w2.heap.size w2 W4 := E.out.trans (hb4.mono E.out.size)
    have hlt3 : W3.heap.size < W4.heap.size := X4.lt
    have A4 := Lib.hid (BA.out.below h34 BA.out.lt)
    have R4 := Lib.hid (BR.out.below hb4 BR.out.lt)
    have L4 := Lib.hid (BL.out.below hb4 BL.out.lt)
    have O4 := Lib.hid (OM.out.keep hb4)
    have C4 := Lib.hid (hC2.out.below hE4 hC2.out.lt)
    have T4 := Lib.hid (T2.out.on hE4)
    have hB4 : Hid (Below w.heap.size w W4) := hB2.out.trans (hE4.mono hB2.out.size)
    have hlLw : Hid (w.heap.size ≤ gL) := Nat.le_trans hB2.out.size hlL.out
    have hgL4 : Hid (gL < W4.heap.size) := L4.out.lt
    have hS := losses_stops (B := W4.heap.size) 4 W3.heap.size p hp24 W4 X4
    have han : ∀ x : LS p, bits BinOp.andNot IntKind.i64 ((PP - 1 : Nat) : Int) (x.1 : Int) = ((lef7 p x.1 : Nat) : Int) := fun x => by rw [hPPH.out]; exact andNot_all hp24 x.2.2
    have hanH := Lib.hid han
    have hans' := Lib.hid hans
    have E4 := Lib.hid hE4
    have hpH4 := Lib.hid hp24
    have hwcH : Hid (wc.heap.size < W4.heap.size) := A4.out.lt
    clear hW3 hW4 hb3 BA q2 q1 CL hb4 X4 h34 hE4 han hans hP1 hP2 v1 v0 hSS hSw hminp BR BL OM E
    refine wpIn_rangeFunc_ownG hro (by omega) (gf := 75) (lb := #[.pointer (some ⟨W3.heap.size, 0, none⟩)]) rfl trivial (enters_of Tryd.func75 (by kernel_rfl) rfl)
      hS keepC_t (keepC_b hlt3 (Nat.le_refl _)) (Below.refl _ _) (fun _ => rfl)
      (fun (pre : List (LS p)) W => (∀ z ∈ pre, Full7 (pcL D Gs (lef7 p z.1) p) D) ∧ Below W4.heap.size W4 W)
      (fun c pre W => (c = Code.exit 0 ∧ ∃ pre' y, pre = pre' ++ [y] ∧ (∀ z ∈ pre', Full7 (pcL D Gs (lef7 p z.1) p) D) ∧ ¬ Full7 (pcL D Gs (lef7 p y.1) p) D ∧ Boxed W gL 3 (.int .i64 (cnt7 y.1 : Nat))) ∧ Below w.heap.size w W)
      (OwnFrom.and (Own.from (fun s X Y row hs hg hr => hs) _) (ownFrom_below (Nat.le_refl _) (Nat.le_refl _)))
      (fun c => OwnFrom.and (Own.from (fun s X Y row hs hg hr => ⟨hs.1, by obtain ⟨_, pre', y, h1, h2, h3, h4⟩ := hs; exact ⟨pre', y, h1, h2, h3, (grownBy_keeps_cells hg hr h4 rfl).trans h4⟩⟩) _) (ownFrom_below (Nat.le_refl _) hB4.out.size))
      ⟨fun _ h => (by cases h), Below.refl _ _⟩
      (fun x => { tmps := #[.agg #[.int .i64 D, .slice A n c, .int .i64 G], .pointer (some ⟨w.heap.size, 0, none⟩), .int .i64 0, .int .i64 0, .int .i64 0, .pointer (some ⟨gR, 0, none⟩), .pointer (some ⟨gL, 0, none⟩), .pointer (some ⟨wc.heap.size, 0, none⟩), .int .i64 (x.1 : Int), .agg #[.int .i64 D, .slice A n c, .int .i64 G], .int .i64 0, .int .i64 0, .bool false, undef, u14, u15, u16, u17, .int .i64 (p : Int), .int .i64 (PP : Int), .int .i64 ((PP - 1 : Nat) : Int), .int .i64 (p : Int), .func (.func 75) #[] #[.pointer (some ⟨W3.heap.size, 0, none⟩)], .int .i64 (x.1 : Int), undef, undef, undef, undef, undef, undef, undef, undef, undef, undef, undef], defers := [] }) ?assign ?body ?done ?stop
    case assign =>
      intro l x W K hK
      gi_wp2
      exact hK
    case body =>
      rintro l pre x W ⟨hpre, hB⟩ hlt
      have hpreH := Lib.hid hpre
      have hBH := Lib.hid hB
      have C5 := C4.out.below hB C4.out.lt
      have R5 := R4.out.below hB R4.out.lt
      have A5 := A4.out.below hB A4.out.lt
      have c0 := C5.cell (j := 0) rfl
      have c1 := C5.cell (j := 1) rfl
      have c2 := C5.cell (j := 2) rfl
      have r0 := R5.cell (j := 0) rfl
      have a0 := A5.cell (j := 0) rfl
      have hx := hanH.out x
      have HC := Lib.hid (CS.out W _ xr bl x.1 (O4.out.keep hB) (T4.out.on hB) x.2.2)
      have hxl := x.2.2
      have hx24 : (x.1 : Nat) < 16777216 := by have h := Nat.pow_le_pow_right (n := 2) (by omega) hpH4.out; omega
      have L5 : Hid (Blk W gL [.int .i64 (p : Int)] 3) := L4.out.below hB L4.out.lt
      have hgLW : Hid (gL < W.heap.size) := L5.out.lt
      clear C5 R5 A5 hpre hB
      gi_wp2_with (refine ⟨trivial, ?_⟩; gi_at_call 48; refine (CallsIn.inRound l (callsIn_wide.2 HC.out)).mono ?_; rintro e w3 ⟨⟨bb, rfl, hq⟩, hb⟩; have hqH := Lib.hid hq; have hbH := Lib.hid hb; clear hq hb; cases bb)
      · have hno : Hid (¬ Full7 (pcL D Gs (lef7 p x.1) p) D) := fun h => by have := hqH.out.2 h; simp at this
        have L6 : Boxed w3 gL 3 (.int .i64 (p : Int)) := L5.out.below hbH.out L5.out.lt
        have g0 := L6.cell
        have L6H := Lib.hid L6
        have CO := Lib.hid (fun W => onesCount_any x.1 (by omega) W)
        rw [ones_cnt7 64 x.1 (by omega)] at CO
        have hw : IntKind.u64.wrap (x.1 : Int) = (x.1 : Int) := by rw [IntKind.wrap_u64]; omega
        have gz := L6.frozen
        clear hqH L6
        gi_wp2_with (refine ⟨trivial, ?_⟩; gi_at_call 51; refine (CallsIn.inRound l (callsIn_wide.2 (CO.out _))).mono ?_; rintro e w4 ⟨rfl, rfl⟩)
        exact ⟨⟨by rw [World.size_setCell]; exact hbH.out.size, fun k o _ hk ho => by
          have hne : k ≠ gL := fun e => by
            rw [e] at hk
            have := hk.symm.trans L5.out
            injection this with this
            rw [this] at ho
            cases ho
          exact (Below.heap_setCell _ _ _ _ hne).trans ((hbH.out.block k (Array.getElem?_eq_some_iff.1 hk).1).trans hk)⟩, ⟨rfl, pre, x, rfl, hpreH.out, hno.out, L6H.out.set _⟩, (hB4.out.trans ((hBH.out.mono hB4.out.size).trans (hbH.out.mono (Nat.le_trans hB4.out.size hBH.out.size)))).trans ((Below.refl _ _).setCell (p := ⟨gL, 0, none⟩) hlLw.out _)⟩
      · have hyes : Hid (Full7 (pcL D Gs (lef7 p x.1) p) D) := hqH.out.1 (by first | rfl | trivial)
        clear hqH
        gi_wp2_with fail
        exact ⟨⟨hbH.out.size, fun k o _ hk ho => (hbH.out.block k (Array.getElem?_eq_some_iff.1 hk).1).trans hk⟩, ⟨hbH.out.mono hBH.out.size, hbH.out.block _ (Nat.lt_of_lt_of_le hlt3 hBH.out.size)⟩, fun z hz => by
          rcases List.mem_append.1 hz with h | h
          · exact hpreH.out z h
          · rw [List.mem_singleton.1 h]; exact hyes.out, hBH.out.trans (hbH.out.mono hBH.out.size)⟩
    case done =>
      rintro Dd ys W hDd rfl ⟨hall, hB⟩ hK
      have L5 := L4.out.below hB L4.out.lt
      have g0 := L5.cell (j := 0) rfl
      have hdis : Hid (DisR D p Gs p) := ⟨fun y h0 h1 h2 => hall _ (mem_los7 h0 h1 (Nat.le_of_lt h2)), Nat.le_refl _, .inl rfl⟩
      have hfin : Hid (Below w.heap.size w W) := hB4.out.trans (hB.mono hB4.out.size)
      clear hall
      gi_wp2
      refine ⟨by simp, .inl ⟨_, _, rfl, run_takeDeferred hK, ?_⟩⟩
      exact ⟨_, results_tmp2 (t := 2) (u := 3) rfl _ _ _, hans'.out p hdis.out _ (hfin.out.trans (belowK_b (w := w) (Nat.le_refl _) W Dd _ _ (Nat.le_trans hB4.out.size hDd) hK rfl rfl))⟩
    case stop =>
      rintro Dd cc pre W hDd hleft ⟨⟨rfl, pre', y, hpe, h1, h2, h3⟩, hB⟩ hK
      have g0 := h3.cell
      have hdis : Hid (DisR D p Gs (cnt7 y.1)) := by
        obtain ⟨m, x, e1, e2, hm⟩ := hleft
        rw [e1] at hpe
        obtain ⟨e3, e4⟩ := List.append_inj' hpe rfl
        have e5 : x = y := by injection e4
        rw [← e5]
        refine ⟨fun z h0 hz1 hz2 => ?_, by omega, .inr ⟨x.1, x.2.1, x.2.2, rfl, by rw [e5]; exact h2⟩⟩
        have := h1 ⟨z, h0, hz1⟩ (by rw [← e3]; exact List.mem_append_left _ (mem_los7 h0 hz1 (by omega)))
        exact this
      have hfin := Lib.hid hB
      clear hleft hpe h1 h2
      gi_wp2
      refine ⟨by simp, .inl ⟨_, _, rfl, run_takeDeferred hK, ?_⟩⟩
      exact ⟨_, results_tmp2 (t := 2) (u := 3) rfl _ _ _, hans'.out _ hdis.out _ (hfin.out.trans (belowK_b (w := w) (Nat.le_refl _) W Dd _ _ (Nat.le_trans hB4.out.size hDd) hK rfl rfl))⟩

end Go.Proofs.YtcnljemnkhmfcaaDoor
