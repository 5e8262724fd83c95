/-
  Contracts of the functions that encode and decode one integer.
-/
import Derived.Test.YthnbiegpfjnadaaRows
import Derived.Test.YthnbiegpfjnadaaWm
import Derived.Test.YthnbiegpfjnadaaMem
import Derived.Deep.LoopGhost
namespace Go.Proofs.Ythnbiegpfjnadaa
open Go.RowKit

theorem xor_max (x : Int) (h0 : 0 ≤ x) (h1 : x < 18446744073709551616) : bits BinOp.xor IntKind.u64 IntKind.u64.max x = 18446744073709551615 - x := by
  obtain ⟨a, rfl⟩ := Int.eq_ofNat_of_zero_le h0
  have ha : a < 18446744073709551616 := by omega
  rw [show IntKind.u64.max = ((18446744073709551615 : Nat) : Int) from rfl, u64_xor_nat _ a (by omega) ha]
  have : (18446744073709551615 : Nat) ^^^ a = 18446744073709551615 - a := by
    apply Nat.eq_of_testBit_eq
    intro i
    rw [show 18446744073709551615 - a = 2 ^ 64 - (a + 1) from by omega, Nat.testBit_two_pow_sub_succ (by omega)]
    rw [show (18446744073709551615 : Nat) = 2 ^ 64 - 1 from rfl, Nat.testBit_xor, Nat.testBit_two_pow_sub_one]
    by_cases hi : i < 64
    · simp [hi]
    · have : a.testBit i = false := Nat.testBit_lt_two_pow (Nat.lt_of_lt_of_le (show a < 2 ^ 64 by omega) (Nat.pow_le_pow_right (by omega) (by omega)))
      simp [hi, this]
  rw [this]; omega

set_option maxHeartbeats 400000 in
theorem fold_any (n : Int) (hn : Wm.Fits n) (w : World) :
    Calls Try.prog 52 #[.int .i64 n] w fun e w' => e = .returned (.int .u64 (Wm.zig n : Int)) ∧ w = w' := by
  obtain ⟨h1, h2⟩ := hn
  by_cases h : n < 0
  · have e1 : IntKind.u64.wrap n = n + 18446744073709551616 := by rw [IntKind.wrap_u64]; omega
    have e2 : IntKind.u64.wrap (IntKind.u64.wrap n * 2) = n * 2 + 18446744073709551616 := by rw [e1, IntKind.wrap_u64]; omega
    have e3 := xor_max (n * 2 + 18446744073709551616) (by omega) (by omega)
    have E : Hid (bits BinOp.xor IntKind.u64 IntKind.u64.max (IntKind.u64.wrap (IntKind.u64.wrap n * 2)) = (Wm.zig n : Int)) := by
      show _ = _
      rw [e2, e3]; unfold Wm.zig; rw [if_pos h]; omega
    clear e1 e2 e3
    go_enter Try.func52, Try.ntmps52
    go_wp2
    go_ret
    exact ⟨ret_eq (by rw [← E.out]; rfl), rfl⟩
  · have E : Hid (n * 2 = (Wm.zig n : Int)) := by
      show _ = _
      unfold Wm.zig; rw [if_neg h]; omega
    go_enter Try.func52, Try.ntmps52
    go_wp2
    go_ret
    exact ⟨ret_eq (by rw [← E.out]; rfl), rfl⟩

set_option maxHeartbeats 400000 in
theorem unfold_any (z : Nat) (hz : z < 18446744073709551616) (w : World) :
    Calls Try.prog 45 #[.int .u64 z] w fun e w' => e = .returned (.int .i64 (Wm.zag z)) ∧ w = w' := by
  have ea : bits BinOp.and IntKind.u64 (z : Int) 1 = ((z % 2 : Nat) : Int) := by rw [and_one_u64 z (by omega) (by omega)]; omega
  by_cases h : z % 2 = 1
  · have E : Hid (bits BinOp.xor IntKind.i64 (-1) ((z : Int) / 2) = Wm.zag z) := by
      show _ = _
      rw [show ((z : Int) / 2) = ((z / 2 : Nat) : Int) from by omega, i64_not _ (by omega)]
      unfold Wm.zag; rw [if_pos h]
    have t : (bits BinOp.and IntKind.u64 (z : Int) 1 == 1) = true := by rw [ea, h]; rfl
    clear ea
    go_enter Try.func45, Try.ntmps45
    go_wp2
    go_ret
    exact ⟨ret_eq (by rw [← E.out]; rfl), rfl⟩
  · have E : Hid ((z : Int) / 2 = Wm.zag z) := by
      show _ = _
      unfold Wm.zag; rw [if_neg h]; omega
    have t : (bits BinOp.and IntKind.u64 (z : Int) 1 == 1) = false := by rw [ea, show z % 2 = 0 from by omega]; rfl
    clear ea
    go_enter Try.func45, Try.ntmps45
    go_wp2
    go_ret
    exact ⟨ret_eq (by rw [← E.out]; rfl), rfl⟩

theorem or_step (v k d : Nat) (hk : k ≤ 9) (hv : v < 128 ^ k) (hd : d * 128 ^ k < 18446744073709551616) :
    bits BinOp.or IntKind.u64 (v : Int) (IntKind.u64.wrap ((d : Int) * 2 ^ (7 * k))) = ((v + d * 128 ^ k : Nat) : Int) := by
  have e2 : (2 : Nat) ^ (7 * k) = 128 ^ k := by rw [Nat.pow_mul]
  have e : ((d : Int) * 2 ^ (7 * k)) = ((d * 128 ^ k : Nat) : Int) := by rw [Int.natCast_mul, ← e2, Int.natCast_pow]; rfl
  rw [e, IntKind.wrap_u64, show (((d * 128 ^ k : Nat) : Int) % 18446744073709551616) = ((d * 128 ^ k : Nat) : Int) from by omega]
  have hp : 128 ^ k ≤ 128 ^ 9 := Nat.pow_le_pow_right (by omega) hk
  rw [u64_or_nat _ _ (by omega) hd, Nat.or_comm, nat_join (7 * k) _ v (by rw [e2]; exact Nat.mul_mod_left _ _) (by rw [e2]; exact hv), Nat.add_comm]

theorem or_nn (a b : Int) : 0 ≤ bits BinOp.or IntKind.u64 a b := by
  show 0 ≤ IntKind.u64.wrap ((BitVec.ofInt 64 a ||| BitVec.ofInt 64 b).toNat : Int)
  rw [IntKind.wrap_u64]; omega
theorem tuple3 {a b c a' b' c' : Value} (h1 : a = a') (h2 : b = b') (h3 : c = c') : Ending.returned (.tuple #[a, b, c]) = .returned (.tuple #[a', b', c']) := by rw [h1, h2, h3]

/-- What 'digits' returns. -/
def DigEnd (l : List UInt8) (w : World) (e : Ending) (w' : World) : Prop :=
  e = .returned (.tuple #[.int .u64 ((Wm.dig l).1 : Int), .int .i64 ((Wm.dig l).2.1 : Int), .int .i64 (Wm.dig l).2.2]) ∧ w = w'
theorem digEnd {l : List UInt8} {w : World} {z u : Nat} {x : Int} {a b c : Value} (h : Wm.dig l = (z, u, x)) (ha : a = .int .u64 z) (hb : b = .int .i64 u) (hc : c = .int .i64 x) : DigEnd l w (.returned (.tuple #[a, b, c])) w := by
  subst ha; subst hb; subst hc
  unfold DigEnd
  rw [h]
  exact ⟨rfl, rfl⟩

set_option maxRecDepth 100000 in
set_option maxHeartbeats 1000000 in
theorem digits_any (l : List UInt8) (A : Option Addr) (c : Nat) (w : World) (hr : Rds w w.heap.size A (l.map bv)) (hl : l.length ≤ maxLen) :
    Calls Try.prog 44 #[.slice A l.length c] w (DigEnd l w) := by
  unfold maxLen at hl
  go_enter Try.func44, Try.ntmps44
  go_wp2
  go_step3
  go_wp2
  go_step3
  go_wp2
  go_loop [5, 6] (fun z i => ∃ k zz : Nat, k ≤ l.length ∧ k ≤ 10 ∧ i = .int .i64 k ∧ z = .int .u64 zz ∧ (k ≤ 9 → zz = Wm.val (l.take k)) ∧ ∀ j, j < k → 128 ≤ (l.getD j 0).toNat) (fun _ i => (20 - intOf i).toNat)
  case atStart => exact ⟨0, 0, by omega, by omega, rfl, rfl, by simp [Wm.val], by omega⟩
  case round =>
    obtain ⟨k, zz, hk, hk10, rfl, rfl, hz0, hh0⟩ := hrel
    have hh := Lib.hid hh0
    have hz := Lib.hid hz0
    clear hh0 hz0
    by_cases h10 : k = 10
    · have t : ((k : Int) == 10) = true := by simp; omega
      have R := Lib.hid (Wm.dig_ten (l := l) (by omega) (by rw [← h10]; exact hh.out))
      clear h10
      go_wp2
      go_ret3
      exact digEnd R.out rfl rfl rfl
    have t : ((k : Int) == 10) = false := by simp; omega
    by_cases hkl : k = l.length
    · have t : ((k : Int) == (l.length : Int)) = true := by simp; omega
      have R := Lib.hid (Wm.dig_short (l := l) (by omega) (by omega) (by rw [← hkl]; exact hh.out))
      clear hkl
      go_wp2
      go_ret3
      exact digEnd R.out rfl rfl rfl
    have t2 : ((k : Int) == (l.length : Int)) = false := by simp; omega
    have hlt : k < l.length := by omega
    obtain rfl : zz = Wm.val (l.take k) := hz.out (by omega)
    obtain ⟨ad, rfl, hab, hcell⟩ := hr.look (k := k) (u := bv (l.getD k 0)) (by simp [List.getD_eq_getElem?_getD, hlt])
    unfold bv at hcell
    have hb := UInt8.toNat_lt (l.getD k 0)
    have hvs := Lib.hid (Wm.val_step hlt)
    have hvl := Lib.hid (Wm.val_take_lt (l := l) (k := k) hk)
    have hbad := Lib.hid (Wm.dig_bad (l := l) hlt (by omega) hh.out)
    have hgood := Lib.hid (Wm.dig_good (l := l) hlt (by omega) hh.out)
    generalize hB : (l.getD k 0).toNat = b at hcell hb hvs hbad hgood
    have HB := Lib.hid hB
    have hk9 : k ≤ 9 := by omega
    clear hB h10 hkl
    by_cases hhi : 128 ≤ b
    · have E : Hid (k < 9 → bits BinOp.or IntKind.u64 ((Wm.val (l.take k) : Nat) : Int) (IntKind.u64.wrap (((b : Int) - 128) * 2 ^ (7 * k))) = ((Wm.val (l.take (k + 1)) : Nat) : Int)) := by
        show _ → _ = _
        intro hk9
        have hp : 128 ^ k ≤ 128 ^ 8 := Nat.pow_le_pow_right (by omega) (by omega)
        have hm : (b - 128) * 128 ^ k ≤ 128 * 128 ^ 8 := Nat.mul_le_mul (by omega) hp
        have := or_step (Wm.val (l.take k)) k (b - 128) (by omega) hvl.out (by omega)
        rw [show ((b - 128 : Nat) : Int) = (b : Int) - 128 from by omega] at this
        rw [this, hvs.out hhi]
      go_wp2
      refine ⟨⟨k + 1, (bits BinOp.or IntKind.u64 ((Wm.val (l.take k) : Nat) : Int) (IntKind.u64.wrap (((b : Int) - 128) * 2 ^ (7 * k)))).toNat, by omega, by omega, by go_num, ?_, ?_, ?_⟩, by simp [intOf]; omega⟩
      · by_cases h9 : k < 9
        · rw [E.out h9]; rfl
        · exact congrArg (Value.int .u64) (Int.toNat_of_nonneg (or_nn _ _)).symm
      · intro h; rw [E.out (by omega)]; rfl
      · intro j hj
        by_cases hjk : j < k
        · exact hh.out j hjk
        · obtain rfl : j = k := by omega
          rw [HB.out]; exact hhi
    · have low : b < 128 := by omega
      clear hvs hhi
      by_cases h0 : k = 0
      · have t9 : ((k : Int) == 9) = false := by simp; omega
        have t0 : ¬ 0 < k := by omega
        have R := Lib.hid (hgood.out low (fun h => absurd h (by omega)) (fun h => absurd h (by omega)))
        have E := Lib.hid (or_step (Wm.val (l.take k)) k b (by omega) hvl.out (by rw [h0]; omega))
        clear hbad hgood h0
        go_wp2
        go_ret3
        exact digEnd R.out (by rw [← E.out]; rfl) (by go_num) rfl
      have h0' : 0 < k := by omega
      by_cases hb0 : b = 0
      · have R := Lib.hid (hbad.out low (.inr ⟨h0', hb0⟩))
        have t3 : ((b : Int) == 0) = true := by simp; omega
        clear hb0 hbad hgood
        by_cases h9 : k = 9
        · have t9 : ((k : Int) == 9) = true := by simp; omega
          have t1 : ¬ (1 < (b : Int)) := by simp at t3; omega
          clear h9
          go_wp2
          go_ret3
          exact digEnd R.out rfl rfl rfl
        · have t9 : ((k : Int) == 9) = false := by simp; omega
          clear h9
          go_wp2
          go_ret3
          exact digEnd R.out rfl rfl rfl
      have t3 : ((b : Int) == 0) = false := by simp; omega
      by_cases h9 : k = 9
      · have t9 : ((k : Int) == 9) = true := by simp; omega
        by_cases h1 : 1 < b
        · have R := Lib.hid (hbad.out low (.inl ⟨h9, h1⟩))
          clear hb0 hbad hgood h9
          go_wp2
          go_ret3
          exact digEnd R.out rfl rfl rfl
        · have R := Lib.hid (hgood.out low (fun _ => by omega) (fun _ => hb0))
          have E := Lib.hid (or_step (Wm.val (l.take k)) k b (by omega) hvl.out (by rw [h9]; omega))
          clear hb0 hbad hgood h9
          go_wp2
          go_ret3
          exact digEnd R.out (by rw [← E.out]; rfl) (by go_num) rfl
      · have t9 : ((k : Int) == 9) = false := by simp; omega
        have R := Lib.hid (hgood.out low (fun h => absurd h h9) (fun _ => hb0))
        have E := Lib.hid (or_step (Wm.val (l.take k)) k b (by omega) hvl.out (by
          have hp : 128 ^ k ≤ 128 ^ 8 := Nat.pow_le_pow_right (by omega) (by omega)
          have hm : b * 128 ^ k ≤ 128 * 128 ^ 8 := Nat.mul_le_mul (by omega) hp
          omega))
        clear hb0 hbad hgood h9
        go_wp2
        go_ret3
        exact digEnd R.out (by rw [← E.out]; rfl) (by go_num) rfl
end Go.Proofs.Ythnbiegpfjnadaa
