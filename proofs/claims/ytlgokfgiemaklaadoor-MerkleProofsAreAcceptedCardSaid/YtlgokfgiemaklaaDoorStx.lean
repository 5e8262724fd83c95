/-
  Contracts of stage 2: hashes, digests and digits as strings.
-/
import Derived.Test.YtlgokfgiemaklaaDoorMca
namespace Go.Proofs.YtlgokfgiemaklaaDoor
set_option linter.unusedVariables false
open Go.RowKit
def digits16 : List UInt8 := [48, 49, 50, 51, 52, 53, 54, 55, 56, 57, 97, 98, 99, 100, 101, 102]
def hexs (l : List UInt8) : List UInt8 := l.flatMap fun b => [digits16.getD (b.toNat / 16) 0, digits16.getD (b.toNat % 16) 0]
theorem hexs_len (l : List UInt8) : (hexs l).length = 2 * l.length := by
  unfold hexs
  induction l with
  | nil => rfl
  | cons b l ih => rw [List.flatMap_cons, List.length_append, ih, List.length_cons]; simp only [List.length_cons, List.length_nil]; omega
end Go.Proofs.YtlgokfgiemaklaaDoor
