/-
  What operations of a plan yield: minimum, maximum, a cell's value, the beginning of a text, two texts compared.
-/
import Derived.Test.YtedhjjlnionckaaDoorPlw
import Derived.Laws.Strings2
import Derived.Laws.Small
namespace Go.Proofs.YtedhjjlnionckaaDoor
set_option linter.unusedVariables false
set_option linter.unusedSimpArgs false
open Go.RowKit

section
variable {P : Program}
theorem min_run {o : Oper} {a : Act} (x y : Operand) (ts : Array TypeId) (hop : o.op = .call { callee := .builtin .min, args := #[x, y], argTypes := ts }) (k : IntKind) (b c : Nat) (hx : a.eval x = .int k b) (hy : a.eval y = .int k c) (W : World) :
    (execOp a.eval o).run P W = .ok (.value (.int k ((min b c : Nat) : Int))) W := by
  unfold execOp
  simp only [hop]
  generalize a.eval = ρ at *
  simp [go_sem, resolve, invoke, hx, hy, run_min_int2]
  split <;> omega
theorem max_run {o : Oper} {a : Act} (x y : Operand) (ts : Array TypeId) (hop : o.op = .call { callee := .builtin .max, args := #[x, y], argTypes := ts }) (k : IntKind) (b c : Nat) (hx : a.eval x = .int k b) (hy : a.eval y = .int k c) (W : World) :
    (execOp a.eval o).run P W = .ok (.value (.int k ((max b c : Nat) : Int))) W := by
  unfold execOp
  simp only [hop]
  generalize a.eval = ρ at *
  simp [go_sem, resolve, invoke, hx, hy, run_max_int2]
  split <;> omega
theorem cut_run {o : Oper} {a : Act} (t : TypeId) (x y : Operand) (hop : o.op = .slice t x none (some y) none) (hu : P.underlying t = some .string) (S : ByteArray) (m : Nat) (hx : a.eval x = .string S) (hy : a.eval y = .int .i64 m) (hm : m ≤ S.size) (W : World) :
    (execOp a.eval o).run P W = .ok (.value (.string (S.extract 0 m))) W := by
  unfold execOp
  simp only [hop]
  generalize a.eval = ρ at *
  have h2 : (m : Int) ≤ S.size := by omega
  simp [go_sem, Instr.sliceAt, hx, hy, Instr.slice, Instr.sliceBounds, Instr.sliceBound, asIntOf, run_underlying hu, hm]
theorem eqs_run {o : Oper} {a : Act} (t : TypeId) (x y : Operand) (k : TypeId) (hop : o.op = .binOp .eql t x y k) (hu : P.underlying t = some .string) (S S2 : ByteArray) (r : Bool) (hr : (S.toList == S2.toList) = r) (hx : a.eval x = .string S) (hy : a.eval y = .string S2) (W : World) :
    (execOp a.eval o).run P W = .ok (.value (.bool r)) W := by
  subst hr
  unfold execOp
  simp only [hop]
  generalize a.eval = ρ at *
  simp [go_sem, hx, hy, hu]
end
end Go.Proofs.YtedhjjlnionckaaDoor
