/-
  Contracts of stage 5: the reference's lead, column, Sum.
-/
import Derived.Test.YtgajlgnniidgmaaDoorMra
import Derived.Test.YtgajlgnniidgmaaDoorGfr
namespace Go.Proofs.YtgajlgnniidgmaaDoor
set_option linter.unusedVariables false
set_option linter.unusedSimpArgs false
open Go.RowKit

/-- What lead returns. -/
def leadI (M : List (List UInt8)) (top col : Nat) : Int := match findP M col top with | none => -1 | some i => i

theorem take_snoc {α : Type} {l : List α} {k : Nat} {x : α} (h : l[k]? = some x) : l.take (k + 1) = l.take k ++ [x] := by
  obtain ⟨h1, e1⟩ := List.getElem?_eq_some_iff.1 h
  rw [List.take_succ_eq_append_getElem h1, e1]
/-- A column of a matrix. -/
def colF (M : List (List UInt8)) (col : Nat) : List UInt8 := rowF (fun i => el M i col) M.length
theorem colF_len (M : List (List UInt8)) (col : Nat) : (colF M col).length = M.length := rowF_len _ _

end Go.Proofs.YtgajlgnniidgmaaDoor
