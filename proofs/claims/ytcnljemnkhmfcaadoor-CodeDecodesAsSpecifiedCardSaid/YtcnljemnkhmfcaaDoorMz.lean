/-
  Contracts of stage 5: Express.
-/
import Derived.Test.YtcnljemnkhmfcaaDoorMy
namespace Go.Proofs.YtcnljemnkhmfcaaDoor
set_option linter.unusedVariables false
set_option linter.unusedSimpArgs false
open Go.RowKit

theorem matF_rect (F : Nat → Nat → UInt8) (r c : Nat) : Rect (matF F r c) c := fun x hx => by
  unfold matF at hx
  obtain ⟨i, _, rfl⟩ := List.mem_map.1 hx
  exact rowF_len _ _
/-- The system of equations for the coefficients. -/
def expS (R : List (List UInt8)) (row : List UInt8) : List (List UInt8) := matF (fun j k => if k = R.length then row.getD j 0 else el R k j) row.length (R.length + 1)
/-- What Express answers. -/
def expE (R : List (List UInt8)) (row : List UInt8) : Int := if chk R ≠ 0 then chk R else if 48 < row.length then 2 else if 0 < R.length ∧ row.length ≠ cols R then 1 else if badS (expS R row) R.length then 8 else 0
def expL (R : List (List UInt8)) (row : List UInt8) : List UInt8 := if expE R row = 0 then solX (expS R row) R.length else []
/-- What a call that returns a row and an error ends with. -/
def RowRet (w : World) (X : List UInt8) (E : Int) (e : Ending) (w' : World) : Prop :=
  (∃ xv, e = .returned (.tuple #[xv, .int .i64 E]) ∧ RowAt w' w'.heap.size xv X) ∧ Below w.heap.size w w'
theorem RowRet.nothing {w w' : World} {E : Int} (h : Below w.heap.size w w') : RowRet w [] E (.returned (.tuple #[.slice none 0 0, .int .i64 E])) w' :=
  ⟨⟨_, rfl, none, 0, rfl, by simp, by unfold maxLen; decide, fun _ => rfl, Rds.empty⟩, h⟩

end Go.Proofs.YtcnljemnkhmfcaaDoor
