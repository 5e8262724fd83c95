/-
  Contracts of stage 2: the reference's Of, Hmac, Mac and Expand.
-/
import Derived.Test.YtlgokfgiemaklaaDoorRsm
import Derived.Test.YtlgokfgiemaklaaDoorRhm
import Derived.Test.YtlgokfgiemaklaaDoorFwc
namespace Go.Proofs.YtlgokfgiemaklaaDoor
set_option linter.unusedVariables false
open Go.RowKit
theorem i64_and255 (n : Int) : bits .and .i64 n 255 = n % 256 := by
  have h255 : (BitVec.ofInt 64 255).toNat = 2 ^ 8 - 1 := by decide
  have key : (BitVec.ofInt 64 n &&& BitVec.ofInt 64 255).toNat = (n % ((2 ^ 64 : Nat) : Int)).toNat % 2 ^ 8 := by
    rw [BitVec.toNat_and, BitVec.toNat_ofInt, h255, Nat.and_two_pow_sub_one_eq_mod]
  show IntKind.i64.wrap ((BitVec.ofInt 64 n &&& BitVec.ofInt 64 255).toNat : Nat) = n % 256
  rw [key, IntKind.wrap_i64]
  omega
theorem hashOf_255 (n : Int) (parts : List (List UInt8)) : Sha.hashOf (n % 256) parts = Sha.hashOf n parts := by
  unfold Sha.hashOf Sha.input
  rw [Int.emod_emod]
end Go.Proofs.YtlgokfgiemaklaaDoor
