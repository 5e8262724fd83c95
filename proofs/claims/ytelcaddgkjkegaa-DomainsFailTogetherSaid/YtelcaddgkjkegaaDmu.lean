/-
  Stage 10 (domain): the reference's Sell and Ship.
-/
import Derived.Test.YtelcaddgkjkegaaDmt
namespace Go.Proofs.Ytelcaddgkjkegaa
set_option linter.unusedVariables false
set_option linter.unusedSimpArgs false
open Go.RowKit
theorem five_one (a1 a2 a3 : Option Addr) (n1 n2 n3 c1 c2 c3 : Nat) (o e : Int) : ∀ u ∈ ([.slice a1 n1 c1, .slice a2 n2 c2, .slice a3 n3 c3, .int .i64 o, .int .i64 e] : List Value), u.oneCell' = true := by
  intro u hu
  simp at hu
  rcases hu with rfl | rfl | rfl | rfl | rfl <;> rfl

end Go.Proofs.Ytelcaddgkjkegaa
