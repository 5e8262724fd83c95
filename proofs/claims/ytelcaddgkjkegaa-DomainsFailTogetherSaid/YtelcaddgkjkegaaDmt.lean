/-
  Stage 10 (domain): the reference's Copy.
-/
import Derived.Test.YtelcaddgkjkegaaDms
namespace Go.Proofs.Ytelcaddgkjkegaa
set_option linter.unusedVariables false
set_option linter.unusedSimpArgs false
open Go.RowKit

theorem keptNone {w w' : World} {base size n : Nat} {e : TypeId} {v : Value} {xs : List Value} (h : w.ownsRow base e size v n xs) (hg : w.grownBy w' none) : w'.ownsRow base e size v n xs := by
  cases hk : v.ownBlock with
  | none => exact h.kept hg (.inl hk)
  | some k => exact h.kept hg (.inr (by rw [hk]; simp))
set_option maxRecDepth 100000 in
theorem build_owners (o : Int) (w : World) : (Instr.build 25 #[(3, .int .i64 o)]).run Try.prog w = .ok (.agg #[.slice none 0 0, .slice none 0 0, .slice none 0 0, .int .i64 o]) w := by
  first | rfl | kernel_rfl

end Go.Proofs.Ytelcaddgkjkegaa
