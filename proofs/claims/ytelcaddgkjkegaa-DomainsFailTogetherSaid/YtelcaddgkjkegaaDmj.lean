/-
  Stage 10 (domain): the reference's Size, Of, Relate, Few.
-/
import Derived.Test.YtelcaddgkjkegaaDmi
import Derived.Test.YtelcaddgkjkegaaDmh
namespace Go.Proofs.Ytelcaddgkjkegaa
set_option linter.unusedVariables false
set_option linter.unusedSimpArgs false
open Go.RowKit
end Go.Proofs.Ytelcaddgkjkegaa
