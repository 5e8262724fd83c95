/-
  Contracts of stage 5: kernelRow, Contains.
-/
import Derived.Test.YtcnljemnkhmfcaaDoorMy
namespace Go.Proofs.YtcnljemnkhmfcaaDoor
set_option linter.unusedVariables false
set_option linter.unusedSimpArgs false
open Go.RowKit

/-- Does a list contain a number? -/
def hasB (l : List Nat) (v : Nat) : Bool := l.contains v
/-- A row of the kernel. -/
def kerX (Mr : List (List UInt8)) (piv : List Nat) (n free : Nat) : List UInt8 := setP Mr free piv 0 ((List.replicate n 0).set free 1)
theorem kerX_len (Mr : List (List UInt8)) (piv : List Nat) (n free : Nat) : (kerX Mr piv n free).length = n := by
  unfold kerX; rw [setP_len]; simp
/-- What kernelRow ends with. -/
def KerEnd (w : World) (n : Nat) (l : List UInt8) (e : Ending) (w' : World) : Prop :=
  ∃ xb, e = .returned (.slice (some ⟨xb, 0, none⟩) n n) ∧ w.heap.size ≤ xb ∧ Blk w' xb (l.map bv) 5 ∧ Below w.heap.size w w'

end Go.Proofs.YtcnljemnkhmfcaaDoor
