/-
  In a plan: operations that are guarded and carried out.
-/
import Derived.Test.YtedhjjlnionckaaDoorSan2
namespace Go.Proofs.YtedhjjlnionckaaDoor
set_option linter.unusedVariables false
open Go.RowKit

section
variable {P : Program} {ops : Array Oper} {Q : Exit → Act → World → Prop} {L : Nat}
theorem wpPlanL_runW {i : Nat} {o : Oper} {rest : List (Bool × Nat)} {a : Act} {w : World} (ho : ops[i]? = some o) (hw : Region.wanted o (yielded ops a.tmps) = true) (v : Value) (hv : ∀ x : ExtOf w, (execOp a.eval o).run P x.world = .ok (.value v) x.world)
    (h : wpPlanL P ops Q L rest (a.put o.dst v) w) : wpPlanL P ops Q L ((true, i) :: rest) a w := by
  unfold wpPlanL
  simp only [ho]
  rw [if_pos hw]
  exact ⟨_, hv, h⟩
theorem load_run {o : Oper} {a : Act} (ty : TypeId) (y : Operand) (hop : o.op = .load ty y) (g off : Nat) (hy : a.eval y = .pointer (some ⟨g, off, none⟩)) (cs : List Value) (d : TypeDesc)
    (hu : P.underlying ty = some d) (hd : d.isRow = true) (hi : (P.info? ty).map (·.size) = some cs.length) (W : World) (hc : W.rangeAt g off cs) : (execOp a.eval o).run P W = .ok (.value (.agg cs.toArray)) W := by
  unfold execOp
  simp only [hop, hy, Instr.loadAt, Instr.sureAddr, Sem.run_bind, Sem.run_pure, Result.andThen_ok, run_loadVar_mid W g off ty cs d hc hu hd hi]
end
theorem eql_run {o : Oper} {a : Act} (t : TypeId) (x y : Operand) (k : TypeId) (ho : o.op = .binOp .eql t x y k)
    (n : Nat) (harr : Tryd.prog.underlying t = some (.array n 5)) (hg : Tryd.prog.eqGuardType Tryd.prog.depth t = false) (la lb : List UInt8) (ha : la.length = n) (hb : lb.length = n) (hx : a.eval x = .agg (la.map bv).toArray) (hy : a.eval y = .agg (lb.map bv).toArray) (r : Bool) (hr0 : (la == lb) = r) (W : World) :
    (execOp a.eval o).run Tryd.prog W = .ok (.value (.bool r)) W := by
  have hr := run_eql_bytes t n harr la lb ha hb W
  rw [hr0] at hr
  have hg : (eqGuard .eql t x y (.agg (la.map bv).toArray) (.agg (lb.map bv).toArray)).run Tryd.prog W = .ok () W := run_eqGuard_agg W .eql t x y _ _ hg
  unfold execOp
  simp only [ho, hx, hy, Sem.run_bind, Sem.run_pure, Result.andThen_ok, hr, hg]
end Go.Proofs.YtedhjjlnionckaaDoor
