/-
  Contracts of stage 2: rotr.
-/
import Derived.Test.YtlgokfgiemaklaaDoorSt
import Derived.Test.YtlgokfgiemaklaaDoorBk
import Derived.Test.YtlgokfgiemaklaaDoorChecked
import Derived.WalkSpells
import Derived.WalkLawsBesides
import Derived.Laws.DeepNot64
import Derived.IntWalk
import Derived.Lib.Hide
import Derived.Deep.QuietTactic
import Derived.BigQuiet
namespace Go.Proofs.YtlgokfgiemaklaaDoor
/-- A word as a value. -/
def uv (n : Nat) : Value := .int .u32 (n : Int)

theorem and31 (n : Nat) (h1 : 1 ≤ n) (h2 : n ≤ 31) : bits BinOp.and IntKind.u64 (IntKind.u64.wrap (-(n : Int))) 31 = 32 - n := by
  rw [show IntKind.u64.wrap (-(n : Int)) = ((18446744073709551616 - n : Nat) : Int) by rw [IntKind.wrap_u64]; omega, show (31 : Int) = ((31 : Nat) : Int) from rfl, u64_and_nat (18446744073709551616 - n) 31 (by omega) (by decide), show (31 : Nat) = 2 ^ 5 - 1 from rfl, Nat.and_two_pow_sub_one_eq_mod]
  omega
theorem rotl_val (x n : Nat) (hx : x < 4294967296) : bits BinOp.or IntKind.u32 ((x : Int) * 2 ^ (32 - n) % 4294967296) ((x : Int) / 2 ^ n) = (Sha.rotr x n : Nat) := by
  rw [← Sha.rotr_val x n hx]
  have e1 : ((x : Int) / 2 ^ n) = ((x >>> n : Nat) : Int) := by rw [Nat.shiftRight_eq_div_pow]; simp
  have e2 : ((x : Int) * 2 ^ (32 - n) % 4294967296) = ((x <<< (32 - n) % 4294967296 : Nat) : Int) := by rw [Nat.shiftLeft_eq]; simp
  have l1 : x >>> n < 4294967296 := Nat.lt_of_le_of_lt (Nat.shiftRight_le x n) hx
  rw [e1, e2, u32_or_nat _ _ l1 (Nat.mod_lt _ (by decide)), u32_or_nat _ _ (Nat.mod_lt _ (by decide)) l1, Nat.or_comm]

theorem rotl_any (x n : Nat) (w : World) (hx : x < 4294967296) (h1 : 1 ≤ n) (h2 : n ≤ 31) : Calls Tryd.prog 99 #[.int .u32 x, .int .i64 (-n)] w fun e w' => e = .returned (.int .u32 (Sha.rotr x n : Nat)) ∧ w' = w := by
  have a1 := and31 n h1 h2
  have b0 : (0 : Int) ≤ n := by omega
  have b1 : (0 : Int) ≤ 32 - n := by omega
  have b2 : (32 : Int) - (32 - n) = n := by omega
  have b3 : (n : Int) ≤ 31 := by omega
  have b4 : (1 : Int) ≤ n := by omega
  go_enter Tryd.func99, Tryd.ntmps99
  go_wp2
  go_ret
  exact ⟨by rw [← rotl_val x n hx]; rfl, rfl⟩
theorem rotr_any (x n : Nat) (w : World) (hx : x < 4294967296) (h1 : 1 ≤ n) (h2 : n ≤ 31) : Calls Tryd.prog 93 #[.int .u32 x, .int .i64 n] w fun e w' => e = .returned (.int .u32 (Sha.rotr x n : Nat)) ∧ w' = w := by
  have H := Lib.hid (rotl_any x n w hx h1 h2)
  go_enter Tryd.func93, Tryd.ntmps93
  go_wp2_with fail
  refine H.out.mono ?_
  rintro e w' ⟨rfl, rfl⟩
  go_wp2
  go_ret
  exact ⟨rfl, rfl⟩
theorem refRotr_any (x n : Nat) (w : World) (hx : x < 4294967296) (h1 : 1 ≤ n) (h2 : n ≤ 31) : Calls Tryd.prog 96 #[.int .u32 x, .int .i64 n] w fun e w' => e = .returned (.int .u32 (Sha.rotr x n : Nat)) ∧ ∃ k, w' = w.drewN k := by
  have b0 : (0 : Int) ≤ n := by omega
  have b1 : (0 : Int) ≤ 32 - n := by omega
  have b2 : (n : Int) ≤ 31 := by omega
  go_enter Tryd.func96, Tryd.ntmps96
  go_wp2
  go_quiet (fail)
  go_wp2
  go_ret
  exact ⟨by rw [← Sha.rotr_val x n hx]; rfl, _, rfl⟩
end Go.Proofs.YtlgokfgiemaklaaDoor
