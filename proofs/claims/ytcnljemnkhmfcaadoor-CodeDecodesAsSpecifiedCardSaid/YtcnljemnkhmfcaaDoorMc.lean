/-
  Contracts of stage 5: columns, ContainsFunc, Check.
-/
import Derived.Test.YtcnljemnkhmfcaaDoorMt
import Derived.Test.YtcnljemnkhmfcaaDoorMch
namespace Go.Proofs.YtcnljemnkhmfcaaDoor
set_option linter.unusedVariables false
set_option linter.unusedSimpArgs false
open Go.RowKit
/-- What Check returns. -/
def chk (M : List (List UInt8)) : Int := if 48 < M.length ∨ (M.any fun m => decide (48 < m.length)) = true then 2 else if (M.any fun m => decide (m.length ≠ cols M)) = true then 1 else 0

end Go.Proofs.YtcnljemnkhmfcaaDoor
