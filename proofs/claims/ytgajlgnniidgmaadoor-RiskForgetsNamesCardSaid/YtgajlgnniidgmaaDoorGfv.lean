/-
  Contracts of stage 4: vectors that a closure builds byte by byte; Sum, Scale, Combine.
-/
import Derived.Test.YtgajlgnniidgmaaDoorGfa
namespace Go.Proofs.YtgajlgnniidgmaaDoor
set_option linter.unusedVariables false
set_option linter.unusedSimpArgs false
open Go.RowKit

theorem u8_xor_bv (x y : UInt8) : bits .xor .u8 (x.toNat : Int) (y.toNat : Int) = ((x ^^^ y).toNat : Int) := by
  have hx := UInt8.toNat_lt x
  have hy := UInt8.toNat_lt y
  rw [u8_xor_nat _ _ (by omega) (by omega), UInt8.toNat_xor]
theorem one_u8 (b : UInt8) : ∀ u ∈ (bv b).cells.toList, u.oneCell' = true := one_int .u8 _

theorem sv_get {l : List UInt8} {k : Nat} {z : UInt8} (h : l[k]? = some z) : ∀ (hk : k < (bs l).size), (bs l)[k]'hk = z := bs_get ((bs_at l k).trans h)
theorem getD_of {l : List UInt8} {k : Nat} {z : UInt8} (h : l[k]? = some z) : l.getD k 0 = z := by rw [List.getD_eq_getElem?_getD, h]; rfl

end Go.Proofs.YtgajlgnniidgmaaDoor
