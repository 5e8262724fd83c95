/-
  Stage 14 (clock): Sync of the specification. (Written by tools/genup.py.)
-/
import Derived.Test.YtbkgbjimooobbaaUo
namespace Go.Proofs.Ytbkgbjimooobbaa
set_option linter.unusedVariables false
set_option linter.unusedSimpArgs false
open Go.RowKit
theorem oneS (a : Int) (A : Option Addr) (n c : Nat) (e : Int) : ∀ u ∈ [Value.int .i64 a, .slice A n c, .int .i64 e], u.oneCell' = true := by
  intro u hu
  simp only [List.mem_cons, List.not_mem_nil, or_false] at hu
  rcases hu with rfl | rfl | rfl <;> rfl

end Go.Proofs.Ytbkgbjimooobbaa
