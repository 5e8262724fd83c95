/-
  CodeEncodesAsSpecified: the frame of the proof: arguments opened, the walk, the arguments shut; the tables tied to the program's text.
-/
import Derived.Test.YtcnljemnkhmfcaaDoorRows
import Derived.Test.YtcnljemnkhmfcaaDoorCards
import Derived.Test.YtcnljemnkhmfcaaDoorTie
import Derived.Test.YtcnljemnkhmfcaaDoorPtb
import Derived.Test.YtcnljemnkhmfcaaDoorCf4
import Derived.Test.YtcnljemnkhmfcaaDoorOpgw
import Derived.SizedLaws
import Derived.JoinedCond
import Derived.Deep.DeepHandedRow
import Derived.Deep.DeepWitnessRowRef
import Derived.LaidMore
import Derived.Lay
import Derived.SevenTiedAt
namespace Go.Proofs.YtcnljemnkhmfcaaDoor.lCodeEncodesAsSpecified
open Go.ChangeShapes Go.WideShapes Go.ChangeAt Go.RowKit
open Go.ChangeMaps (open_string shut_string)
set_option linter.unusedVariables false
theorem own : ownKnob Tryd.prog.godebug = none := by kernel_rfl
theorem laidOut : laidOutB Tryd.prog = true := by kernel_rfl
set_option maxRecDepth 100000 in
theorem witness_row (os : Os) {H : Type} (enc : TypeId × Value → H) : (OpenSpec.ofChange Rows.codeEncodesAsSpecifiedSpec).preRow enc Tryd.prog Tryd.f3 Rows.codeEncodesAsSpecifiedRow.domain false Rows.codeEncodesAsSpecifiedRow.laid ((World.laidAll Tryd.prog os Rows.codeEncodesAsSpecifiedRow.laid).forCall (fun _ _ => 0) ⟨#[], #[.agg #[.int .i64 0, .slice none 0 0, .int .i64 0], .string ⟨#[]⟩, .int .i64 0], []⟩).memory #[.agg #[.int .i64 0, .slice none 0 0, .int .i64 0], .string ⟨#[]⟩, .int .i64 0] := by
  have hw : (DataW.whole enc Tryd.prog ((World.laidAll Tryd.prog os Rows.codeEncodesAsSpecifiedRow.laid).forCall (fun _ _ => 0) ⟨#[], #[.agg #[.int .i64 0, .slice none 0 0, .int .i64 0], .string ⟨#[]⟩, .int .i64 0], []⟩).memory Tryd.f3.params.toList (OpenSpec.ofChange Rows.codeEncodesAsSpecifiedSpec).vars false (#[.agg #[.int .i64 0, .slice none 0 0, .int .i64 0], .string ⟨#[]⟩, .int .i64 0] : Array Value).toList 8).map (fun x => (x.1, x.2.1)) = some ([.agg [.lit (.int .i64 0), .nil, .lit (.int .i64 0)], .lit (.string []), .lit (.int .i64 0)], []) := by kernel_rfl
  obtain ⟨⟨x1, x2, x3⟩, hx, hx1⟩ := Option.map_eq_some_iff.1 hw
  simp only [Prod.mk.injEq] at hx1
  obtain ⟨rfl, rfl⟩ := hx1
  exact OpenSpec.preRow_of_cond 8 hx (by kernel_rfl) (fun k hk => by cases hk) (by kernel_rfl) (by rw [MakeChecks.laidMetH_plain _ _ _ (by kernel_rfl)]; exact laidMet_laidAll _ (by kernel_rfl) (by kernel_rfl))
end Go.Proofs.YtcnljemnkhmfcaaDoor.lCodeEncodesAsSpecified
