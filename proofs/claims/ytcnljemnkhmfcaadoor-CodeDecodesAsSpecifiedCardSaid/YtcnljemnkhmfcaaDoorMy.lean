/-
  Contracts of stage 5: solution.
-/
import Derived.Test.YtcnljemnkhmfcaaDoorMx
namespace Go.Proofs.YtcnljemnkhmfcaaDoor
set_option linter.unusedVariables false
set_option linter.unusedSimpArgs false
open Go.RowKit

/-- In the row x the elements in the pivots' columns are set to those of a column. -/
def setP (Mr : List (List UInt8)) (col : Nat) : List Nat → Nat → List UInt8 → List UInt8
  | [], _, x => x
  | p :: ps, i, x => setP Mr col ps (i + 1) (x.set p (el Mr i col))
theorem setP_len (Mr : List (List UInt8)) (col : Nat) : ∀ (ps : List Nat) (i : Nat) (x : List UInt8), (setP Mr col ps i x).length = x.length
  | [], _, _ => rfl
  | p :: ps, i, x => by unfold setP; rw [setP_len Mr col ps]; simp
/-- Has a reduced system no solution? -/
def badS (S : List (List UInt8)) (n : Nat) : Bool := ((red S n).1.drop (red S n).2.length).any fun r => r.getD n 0 != 0
/-- The solution of a system whose unknowns without a pivot are 0. -/
def solX (S : List (List UInt8)) (n : Nat) : List UInt8 := setP (red S n).1 n (red S n).2 0 (List.replicate n 0)
/-- What solution ends with. -/
def SolEnd (w : World) (base g : Nat) (bs : List Nat) (S : List (List UInt8)) (n : Nat) (e : Ending) (w' : World) : Prop :=
  ∃ bs', bs'.Perm bs ∧ Om w' base g bs' (red S n).1 [] ∧ Chg (g :: bs) w w' ∧
    ((badS S n = true ∧ e = .returned (.tuple #[.slice none 0 0, .slice none 0 0, .int .i64 8])) ∨
     (badS S n = false ∧ ∃ xb vp, e = .returned (.tuple #[.slice (some ⟨xb, 0, none⟩) n n, vp, .int .i64 0]) ∧ OwnP w' w.heap.size vp (red S n).2 ∧ w.heap.size ≤ xb ∧ Blk w' xb ((solX S n).map bv) 5 ∧ vp.ownBlock ≠ some xb))

end Go.Proofs.YtcnljemnkhmfcaaDoor
