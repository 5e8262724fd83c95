/-
  DERIVED. GIVEN WITH THE SEED: THE CARDS: each row of YtcnljemnkhmfcaaDoorRows.lean that lists a variable, with what it lists TIED to the program's text (the seventh form; the later family's looks); each row that meets fmt, with fmt's text TOLD by the authors' own Lean function (tested against real Go, not proved from fmt's source: count such statements apart). THE CARD IS WHAT COUNTS. Prove the row's statement (the work); the ties are given (YtcnljemnkhmfcaaDoorTie.lean); close each card by the builder's one call (the guide's Derived/Test/ToyasCard.lean, 'card_holds'). Laid BY PROGRAM, IN A SANDBOX (cutbox-door.mjs). By AI agents, Wed Nov 11 2026. No macro, syntax, notation, axiom, sorry.
-/
import Derived.Test.YtcnljemnkhmfcaaDoorRows
import GoSem.ClaimSeven
namespace Go.Proofs.YtcnljemnkhmfcaaDoor
namespace Rows

/-- THE TIED CARD OF 'quietuslaw07.CodeEncodesAsSpecified'. -/
def codeEncodesAsSpecifiedCard : Claim7 := { stood := { row := codeEncodesAsSpecifiedRow, standIns := [], harness := (true, "d55d31c1258b8eb47358cf4a50c142490061afda8ddd3603bea089dcaff148e1"), looks := false }, kinds := [], alts := [], laidByText := true, laidKinds := [.data], laidTests := true, laidLooks := .later }
def CodeEncodesAsSpecifiedCardSaid : Prop := Claim7.holds Tryd.pinned (.plain (OpenSpec.ofChange codeEncodesAsSpecifiedSpec)) codeEncodesAsSpecifiedCard

/-- THE TIED CARD OF 'quietuslaw07.CodeDecodesAsSpecified'. -/
def codeDecodesAsSpecifiedCard : Claim7 := { stood := { row := codeDecodesAsSpecifiedRow, standIns := [], harness := (true, "d55d31c1258b8eb47358cf4a50c142490061afda8ddd3603bea089dcaff148e1"), looks := false }, kinds := [], alts := [], laidByText := true, laidKinds := [.data], laidTests := true, laidLooks := .later }
def CodeDecodesAsSpecifiedCardSaid : Prop := Claim7.holds Tryd.pinned (.plain (OpenSpec.ofChange codeDecodesAsSpecifiedSpec)) codeDecodesAsSpecifiedCard

/-- THE TIED CARD OF 'quietuslaw07.CodeDistanceIsLeast'. -/
def codeDistanceIsLeastCard : Claim7 := { stood := { row := codeDistanceIsLeastRow, standIns := [], harness := (true, "d55d31c1258b8eb47358cf4a50c142490061afda8ddd3603bea089dcaff148e1"), looks := false }, kinds := [], alts := [], laidByText := true, laidKinds := [.data], laidTests := true, laidLooks := .later }
def CodeDistanceIsLeastCardSaid : Prop := Claim7.holds Tryd.pinned (.plain (OpenSpec.ofChange codeDistanceIsLeastSpec)) codeDistanceIsLeastCard

/-- THE TIED CARD OF 'quietuslaw07.CodeRoundTrips'. -/
def codeRoundTripsCard : Claim7 := { stood := { row := codeRoundTripsRow, standIns := [], harness := (true, "d55d31c1258b8eb47358cf4a50c142490061afda8ddd3603bea089dcaff148e1"), looks := false }, kinds := [], alts := [], laidByText := true, laidKinds := [.data], laidTests := true, laidLooks := .later }
def CodeRoundTripsCardSaid : Prop := Claim7.holds Tryd.pinned (.plain (OpenSpec.ofChange codeRoundTripsSpec)) codeRoundTripsCard

/-- THE TIED CARD OF 'quietuslaw07.CodeRepairsLocally'. -/
def codeRepairsLocallyCard : Claim7 := { stood := { row := codeRepairsLocallyRow, standIns := [], harness := (true, "d55d31c1258b8eb47358cf4a50c142490061afda8ddd3603bea089dcaff148e1"), looks := false }, kinds := [], alts := [], laidByText := true, laidKinds := [.data], laidTests := true, laidLooks := .later }
def CodeRepairsLocallyCardSaid : Prop := Claim7.holds Tryd.pinned (.plain (OpenSpec.ofChange codeRepairsLocallySpec)) codeRepairsLocallyCard

/-- THE SECOND FORM's CARD OF 'quietuslaw07.CodeEncodesAsSpecified'. -/
def codeEncodesAsSpecifiedUptoCard : Claim7 := { stood := { row := codeEncodesAsSpecifiedUptoRow, standIns := [], harness := (true, "d55d31c1258b8eb47358cf4a50c142490061afda8ddd3603bea089dcaff148e1"), looks := false }, kinds := [], alts := [], laidByText := true, laidKinds := [.data], laidTests := true, laidLooks := .later }
def CodeEncodesAsSpecifiedUptoCardSaid : Prop := Claim7.holds Tryd.pinned (.plain (OpenSpec.upto codeEncodesAsSpecifiedSpec)) codeEncodesAsSpecifiedUptoCard

/-- THE SECOND FORM's CARD OF 'quietuslaw07.CodeDecodesAsSpecified'. -/
def codeDecodesAsSpecifiedUptoCard : Claim7 := { stood := { row := codeDecodesAsSpecifiedUptoRow, standIns := [], harness := (true, "d55d31c1258b8eb47358cf4a50c142490061afda8ddd3603bea089dcaff148e1"), looks := false }, kinds := [], alts := [], laidByText := true, laidKinds := [.data], laidTests := true, laidLooks := .later }
def CodeDecodesAsSpecifiedUptoCardSaid : Prop := Claim7.holds Tryd.pinned (.plain (OpenSpec.upto codeDecodesAsSpecifiedSpec)) codeDecodesAsSpecifiedUptoCard

/-- THE SECOND FORM's CARD OF 'quietuslaw07.CodeDistanceIsLeast'. -/
def codeDistanceIsLeastUptoCard : Claim7 := { stood := { row := codeDistanceIsLeastUptoRow, standIns := [], harness := (true, "d55d31c1258b8eb47358cf4a50c142490061afda8ddd3603bea089dcaff148e1"), looks := false }, kinds := [], alts := [], laidByText := true, laidKinds := [.data], laidTests := true, laidLooks := .later }
def CodeDistanceIsLeastUptoCardSaid : Prop := Claim7.holds Tryd.pinned (.plain (OpenSpec.upto codeDistanceIsLeastSpec)) codeDistanceIsLeastUptoCard

/-- THE SECOND FORM's CARD OF 'quietuslaw07.CodeRoundTrips'. -/
def codeRoundTripsUptoCard : Claim7 := { stood := { row := codeRoundTripsUptoRow, standIns := [], harness := (true, "d55d31c1258b8eb47358cf4a50c142490061afda8ddd3603bea089dcaff148e1"), looks := false }, kinds := [], alts := [], laidByText := true, laidKinds := [.data], laidTests := true, laidLooks := .later }
def CodeRoundTripsUptoCardSaid : Prop := Claim7.holds Tryd.pinned (.plain (OpenSpec.upto codeRoundTripsSpec)) codeRoundTripsUptoCard

/-- THE SECOND FORM's CARD OF 'quietuslaw07.CodeRepairsLocally'. -/
def codeRepairsLocallyUptoCard : Claim7 := { stood := { row := codeRepairsLocallyUptoRow, standIns := [], harness := (true, "d55d31c1258b8eb47358cf4a50c142490061afda8ddd3603bea089dcaff148e1"), looks := false }, kinds := [], alts := [], laidByText := true, laidKinds := [.data], laidTests := true, laidLooks := .later }
def CodeRepairsLocallyUptoCardSaid : Prop := Claim7.holds Tryd.pinned (.plain (OpenSpec.upto codeRepairsLocallySpec)) codeRepairsLocallyUptoCard
end Rows
end Go.Proofs.YtcnljemnkhmfcaaDoor
