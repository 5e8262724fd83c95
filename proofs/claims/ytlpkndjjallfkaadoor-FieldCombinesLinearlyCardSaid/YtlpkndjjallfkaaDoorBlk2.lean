/-
  More steps of a walk over blocks: slices of arrays, copies out of rows.
-/
import Derived.Test.YtlpkndjjallfkaaDoorBlk
namespace Go.Proofs.YtlpkndjjallfkaaDoor
open Go.RowKit

set_option linter.unusedSimpArgs false
section
variable {P : Program} {ops : Array Oper} {rest : List Oper} {op : Oper} {a : Act} {w : World} {Q : Exit → Act → World → Prop}

theorem run_sliceAt_arr (W : World) (ty : TypeId) (n : Nat) (e : TypeId) (ad : Addr) (hu : P.underlying ty = some (.array n e)) (hi : (P.info? e).map (·.size) = some 1) (lo hv : Option Value) (l h : Nat) (hlo : (lo = none ∧ l = 0) ∨ ∃ k, lo = some (.int k l)) (hhi : (hv = none ∧ h = n) ∨ ∃ k, hv = some (.int k h)) (h1 : l ≤ h) (h2 : h ≤ n) :
    (Instr.sliceAt ty (.pointer (some ad)) lo hv none).run P W = .ok (.slice (some (if n = l then ad else ad.add l)) (h - l) (n - l)) W := by
  cases hq : P.info? e with
  | none => simp [hq] at hi
  | some i =>
    have hs : i.size = 1 := by simpa [hq] using hi
    have i1 : (l : Int) ≤ h := by omega
    have i2 : (h : Int) ≤ n := by omega
    rcases hlo with ⟨rfl, rfl⟩ | ⟨k, rfl⟩ <;> rcases hhi with ⟨rfl, rfl⟩ | ⟨k', rfl⟩ <;>
      simp [Instr.sliceAt, Instr.sureAddr, run_underlying hu, Instr.sliceBounds, run_sliceBound, i1, i2, sizeOf, typeInfo, hq, hs, h1, h2]

/-- 'b[l:h]', b an array. -/
theorem wpList_slice_arr (hgd : op.guard = none) (ty : TypeId) (x : Operand) (lo hi : Option Operand) (ho : op.op = .slice ty x lo hi none) (ad : Addr) (hx : a.eval x = .pointer (some ad)) (n : Nat) (e : TypeId) (hu : P.underlying ty = some (.array n e)) (hs : (P.info? e).map (·.size) = some 1)
    (l h : Nat) (hlo : (lo = none ∧ l = 0) ∨ ∃ o k, lo = some o ∧ a.eval o = .int k l) (hhi : (hi = none ∧ h = n) ∨ ∃ o k, hi = some o ∧ a.eval o = .int k h) (h1 : l ≤ h) (h2 : h ≤ n) (v : Value) (hv : v = .slice (some (if n = l then ad else ad.add l)) (h - l) (n - l))
    (hk : wpList P ops Q rest (a.put op.dst v) w) : wpList P ops Q (op :: rest) a w := by
  refine wpList_plain hgd fun K hK => ?_
  have hrun := fun lo hv a1 a2 => run_sliceAt_arr (P := P) w ty n e ad hu hs lo hv l h a1 a2 h1 h2
  subst hv
  unfold Oper.wp execOp
  rcases hlo with ⟨rfl, hl0⟩ | ⟨o, k, rfl, hl⟩ <;> rcases hhi with ⟨rfl, hh0⟩ | ⟨o', k', rfl, hh⟩
  · simp only [ho, hx, Option.map_none, Sem.run_bind, Sem.run_pure, hrun none none (.inl ⟨rfl, hl0⟩) (.inl ⟨rfl, hh0⟩), Result.andThen_ok]
    exact hK _ _ hk
  · simp only [ho, hx, Option.map_none, Option.map_some, hh, Sem.run_bind, Sem.run_pure, hrun none (some (.int k' h)) (.inl ⟨rfl, hl0⟩) (.inr ⟨k', rfl⟩), Result.andThen_ok]
    exact hK _ _ hk
  · simp only [ho, hx, Option.map_none, Option.map_some, hl, Sem.run_bind, Sem.run_pure, hrun (some (.int k l)) none (.inr ⟨k, rfl⟩) (.inl ⟨rfl, hh0⟩), Result.andThen_ok]
    exact hK _ _ hk
  · simp only [ho, hx, Option.map_none, Option.map_some, hl, hh, Sem.run_bind, Sem.run_pure, hrun (some (.int k l)) (some (.int k' h)) (.inr ⟨k, rfl⟩) (.inr ⟨k', rfl⟩), Result.andThen_ok]
    exact hK _ _ hk
end
end Go.Proofs.YtlpkndjjallfkaaDoor
