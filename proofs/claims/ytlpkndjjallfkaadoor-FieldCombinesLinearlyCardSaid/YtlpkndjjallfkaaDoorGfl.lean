/-
  The law that bytes are a field: its walk.
-/
import Derived.Test.YtlpkndjjallfkaaDoorGfs
namespace Go.Proofs.YtlpkndjjallfkaaDoor
set_option linter.unusedVariables false
set_option linter.unusedSimpArgs false
open Go.RowKit

theorem mul_to (x y z : UInt8) (h : Gf.mul x y = z) : Hid (∀ W, PTab 0 W → Calls Tryd.prog 12 #[.int .u8 x.toNat, .int .u8 y.toNat] W fun e w' => e = .returned (.int .u8 z.toNat) ∧ ∃ n, w' = W.drewN n) := fun W hT => by
  have := mul_any x y W hT
  rw [h] at this
  exact this
theorem sanity_to (w : World) (n : Nat) (hT : PTab 0 w) : Calls Tryd.prog 11 #[] (w.drewN n) fun e w' => e = .returned (.bool true) ∧ Below w.heap.size w w' :=
  (sanity_any (w.drewN n) hT).mono fun e w' h => ⟨h.1, ⟨h.2.os, h.2.tape, h.2.output, h.2.size, h.2.block⟩⟩
theorem int_ne {x y : UInt8} (h : x ≠ y) : ((x.toNat : Int) == (y.toNat : Int)) = false := by
  simp only [beq_eq_false_iff_ne, ne_eq]
  intro e
  exact h (UInt8.toNat_inj.1 (by omega))
theorem zero_int {x : UInt8} (h : x = 0) : (x.toNat : Int) = 0 := by rw [h]; rfl

end Go.Proofs.YtlpkndjjallfkaaDoor
