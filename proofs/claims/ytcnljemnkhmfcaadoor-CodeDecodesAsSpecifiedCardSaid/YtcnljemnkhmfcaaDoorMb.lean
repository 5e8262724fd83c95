/-
  Contracts of stage 5: build.
-/
import Derived.Test.YtcnljemnkhmfcaaDoorMo
namespace Go.Proofs.YtcnljemnkhmfcaaDoor
set_option linter.unusedVariables false
set_option linter.unusedSimpArgs false
open Go.RowKit

theorem infoRow : (Tryd.prog.info? 57).map (fun i => (i.zero, i.size, i.bytes)) = some (some (.slice none 0 0), 1, 24) := by kernel_rfl
theorem size_row : (Tryd.prog.info? 57).map (·.size) = some 1 := by kernel_rfl
theorem one_slice (A : Option Addr) (n c : Nat) : ∀ u ∈ (Value.slice A n c).cells.toList, u.oneCell' = true := by
  intro u hu
  have hu' : u ∈ [Value.slice A n c] := hu
  rw [List.mem_singleton.1 hu']
  rfl
theorem made_nils (n : Nat) : madeCells #[Value.slice none 0 0] n = (List.replicate n (Value.slice none 0 0)).toArray := by
  unfold madeCells
  apply Array.ext'
  simp [Nat.mod_one]
  apply List.ext_getElem <;> simp
theorem zeros_row (n : Nat) : (List.replicate n (Value.int .u8 0)) = (List.replicate n (0 : UInt8)).map bv := by
  rw [List.map_replicate]; rfl
/-- What a call that builds a matrix ends with. -/
def MatEnd (w : World) (rows : Nat) (M : List (List UInt8)) (e : Ending) (w' : World) : Prop :=
  (∃ g bs, e = .returned (.slice (some ⟨g, 0, none⟩) rows rows) ∧ Om w' w.heap.size g bs M []) ∧ Below w.heap.size w w'
theorem size_int5 : (Tryd.prog.info? 3).map (·.size) = some 1 := by kernel_rfl

end Go.Proofs.YtcnljemnkhmfcaaDoor
