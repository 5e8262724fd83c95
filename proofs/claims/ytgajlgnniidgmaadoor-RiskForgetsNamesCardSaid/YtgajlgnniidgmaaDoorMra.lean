/-
  Contracts of stage 5: the reference's Columns, Check, has, lead.
-/
import Derived.Test.YtgajlgnniidgmaaDoorMq
namespace Go.Proofs.YtgajlgnniidgmaaDoor
set_option linter.unusedVariables false
set_option linter.unusedSimpArgs false
open Go.RowKit
theorem any_no_next {α : Type} {l : List α} {k : Nat} {x : α} {P : α → Bool} (h : (l.take k).any P = false) (hx : l[k]? = some x) (hp : P x = false) : (l.take (k + 1)).any P = false := by
  rw [List.take_add_one, hx, List.any_append, h]
  simp [hp]

end Go.Proofs.YtgajlgnniidgmaaDoor
