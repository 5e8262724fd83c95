/-
  Contracts of stage 2: the reference's Of, Hmac, Mac and Expand.
-/
import Derived.Test.YtedhjjlnionckaaDoorRsm
import Derived.Test.YtedhjjlnionckaaDoorRhm
import Derived.Test.YtedhjjlnionckaaDoorCvr
namespace Go.Proofs.YtedhjjlnionckaaDoor
set_option linter.unusedVariables false
open Go.RowKit

theorem refBlock : RefBlock := refBlock_of refSum
theorem refHmac_any (key msg : List UInt8) (w : World) (hk : key.length ≤ 900000) (hm : msg.length ≤ 900000) (ht : Tab 0 w) :
    Calls Tryd.prog 21 #[sv key, sv msg] w fun e w' => e = .returned (av (Sha.hmac key msg)) ∧ Below w.heap.size w w' := refHmac_of refSum refBlock key msg w hk hm ht
theorem i64_and255 (n : Int) : bits .and .i64 n 255 = n % 256 := by
  have h255 : (BitVec.ofInt 64 255).toNat = 2 ^ 8 - 1 := by decide
  have key : (BitVec.ofInt 64 n &&& BitVec.ofInt 64 255).toNat = (n % ((2 ^ 64 : Nat) : Int)).toNat % 2 ^ 8 := by
    rw [BitVec.toNat_and, BitVec.toNat_ofInt, h255, Nat.and_two_pow_sub_one_eq_mod]
  show IntKind.i64.wrap ((BitVec.ofInt 64 n &&& BitVec.ofInt 64 255).toNat : Nat) = n % 256
  rw [key, IntKind.wrap_i64]
  omega
theorem hashOf_255 (n : Int) (parts : List (List UInt8)) : Sha.hashOf (n % 256) parts = Sha.hashOf n parts := by
  unfold Sha.hashOf Sha.input
  rw [Int.emod_emod]
end Go.Proofs.YtedhjjlnionckaaDoor
