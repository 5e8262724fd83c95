/-
  Arguments of stage 14, opened: numbers of 16 bits.
-/
import Derived.Test.YtbkgbjimooobbaaOpl
import Derived.Test.YtbkgbjimooobbaaUzd
namespace Go.Proofs.Ytbkgbjimooobbaa
set_option linter.unusedVariables false
open Go.ChangeShapes Go.WideShapes Go.ChangeAt Go.RowKit
theorem b_i16 {x : Int} (h : (Lit.int .i16 x).wf = true) : -32768 ≤ x ∧ x ≤ 32767 := by simpa [Lit.wf, IntKind.min, IntKind.max, IntKind.signed, IntKind.bits] using h
theorem open_i16s {H : Type} {enc : TypeId × Value → H} {P : Program} {w : World} {base : Nat} {spare : Nat → Bool} {held : Bool} {t e : TypeId} {A : Option Addr} {n c : Nat} {d : DataW H} {ps : List MemPlace} (ht : P.underlying t = some (.slice e)) (he : P.underlying e = some (.int .i16)) (hce : P.cellsOf e = 1)
    (h : DataW.Trod enc P w base spare held t (.slice A n c) d ps) : I16M w w.heap.size A n := by
  obtain ⟨fuel, hf⟩ := h
  rcases Go.Deep.open_slice ht hf with ⟨hcs, _⟩ | ⟨ad, len, cap, m, k, D, Pl, hcs, _, hl, hm, hmm, _, hel⟩
  · simp [Value.cells] at hcs
    obtain ⟨rfl, rfl, rfl⟩ := hcs
    exact fun i hi => absurd hi (Nat.not_lt_zero _)
  · simp [Value.cells] at hcs
    obtain ⟨rfl, rfl, rfl⟩ := hcs
    have hlen : n ≤ m := by rw [hmm]; split <;> omega
    intro i hi
    obtain ⟨cs', hcell, htrod⟩ := hel i (by omega)
    rw [hce] at hcell
    obtain ⟨hcl1, hcl, hcat⟩ := World.cells?_some hcell
    match cs', hcl1 with
    | [u], _ =>
      obtain ⟨x, k0, _, w0⟩ := DataW.trod_int he htrod
      have e0 : u = .int .i16 x := by simpa using k0
      subst e0
      have z := hcat 0 (by simp)
      rw [show i * 1 = i by omega] at z
      refine ⟨ad, rfl, ?_, x, b_i16 w0, ?_⟩
      · have := World.block_lt_of_cell? w _ z
        rw [add_block, add_block] at this
        exact this
      · have z2 : w.cell? ((ad.add i).add 0) = some (.int .i16 x) := z
        rwa [add_twice] at z2
end Go.Proofs.Ytbkgbjimooobbaa
