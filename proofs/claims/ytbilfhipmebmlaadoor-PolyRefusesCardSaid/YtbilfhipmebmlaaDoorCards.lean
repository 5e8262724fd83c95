/-
  DERIVED. GIVEN WITH THE SEED: THE CARDS: each row of YtbilfhipmebmlaaDoorRows.lean that lists a variable, with what it lists TIED to the program's text (the seventh form; the later family's looks); each row that meets fmt, with fmt's text TOLD by the authors' own Lean function (tested against real Go, not proved from fmt's source: count such statements apart). THE CARD IS WHAT COUNTS. Prove the row's statement (the work); the ties are given (YtbilfhipmebmlaaDoorTie.lean); close each card by the builder's one call (the guide's Derived/Test/ToyasCard.lean, 'card_holds'). Laid BY PROGRAM, IN A SANDBOX (cutbox-door.mjs). By AI agents, Wed Nov 11 2026. No macro, syntax, notation, axiom, sorry.
-/
import Derived.Test.YtbilfhipmebmlaaDoorRows
import GoSem.ClaimSeven
namespace Go.Proofs.YtbilfhipmebmlaaDoor
namespace Rows

/-- THE TIED CARD OF 'quietuslaw06.PolyMatchesSpec'. -/
def polyMatchesSpecCard : Claim7 := { stood := { row := polyMatchesSpecRow, standIns := [], harness := (true, "deaea867d137ecb0e623b0ae9fe1f905d4bd7323111e93887f1a246423e16ee8"), looks := false }, kinds := [], alts := [], laidByText := true, laidKinds := [.data], laidTests := true, laidLooks := .later }
def PolyMatchesSpecCardSaid : Prop := Claim7.holds Tryd.pinned (.plain (OpenSpec.ofChange polyMatchesSpecSpec)) polyMatchesSpecCard

/-- THE TIED CARD OF 'quietuslaw06.PolyInterpolatesAsSpecified'. -/
def polyInterpolatesAsSpecifiedCard : Claim7 := { stood := { row := polyInterpolatesAsSpecifiedRow, standIns := [], harness := (true, "deaea867d137ecb0e623b0ae9fe1f905d4bd7323111e93887f1a246423e16ee8"), looks := false }, kinds := [], alts := [], laidByText := true, laidKinds := [.data], laidTests := true, laidLooks := .later }
def PolyInterpolatesAsSpecifiedCardSaid : Prop := Claim7.holds Tryd.pinned (.plain (OpenSpec.ofChange polyInterpolatesAsSpecifiedSpec)) polyInterpolatesAsSpecifiedCard

/-- THE TIED CARD OF 'quietuslaw06.PolyDecodesAsSpecified'. -/
def polyDecodesAsSpecifiedCard : Claim7 := { stood := { row := polyDecodesAsSpecifiedRow, standIns := [], harness := (true, "deaea867d137ecb0e623b0ae9fe1f905d4bd7323111e93887f1a246423e16ee8"), looks := false }, kinds := [], alts := [], laidByText := true, laidKinds := [.data], laidTests := true, laidLooks := .later }
def PolyDecodesAsSpecifiedCardSaid : Prop := Claim7.holds Tryd.pinned (.plain (OpenSpec.ofChange polyDecodesAsSpecifiedSpec)) polyDecodesAsSpecifiedCard

/-- THE TIED CARD OF 'quietuslaw06.PolyIsARing'. -/
def polyIsARingCard : Claim7 := { stood := { row := polyIsARingRow, standIns := [], harness := (true, "deaea867d137ecb0e623b0ae9fe1f905d4bd7323111e93887f1a246423e16ee8"), looks := false }, kinds := [], alts := [], laidByText := true, laidKinds := [.data], laidTests := true, laidLooks := .later }
def PolyIsARingCardSaid : Prop := Claim7.holds Tryd.pinned (.plain (OpenSpec.ofChange polyIsARingSpec)) polyIsARingCard

/-- THE TIED CARD OF 'quietuslaw06.PolyInterpolates'. -/
def polyInterpolatesCard : Claim7 := { stood := { row := polyInterpolatesRow, standIns := [], harness := (true, "deaea867d137ecb0e623b0ae9fe1f905d4bd7323111e93887f1a246423e16ee8"), looks := false }, kinds := [], alts := [], laidByText := true, laidKinds := [.data], laidTests := true, laidLooks := .later }
def PolyInterpolatesCardSaid : Prop := Claim7.holds Tryd.pinned (.plain (OpenSpec.ofChange polyInterpolatesSpec)) polyInterpolatesCard

/-- THE TIED CARD OF 'quietuslaw06.PolyCorrects'. -/
def polyCorrectsCard : Claim7 := { stood := { row := polyCorrectsRow, standIns := [], harness := (true, "deaea867d137ecb0e623b0ae9fe1f905d4bd7323111e93887f1a246423e16ee8"), looks := false }, kinds := [], alts := [], laidByText := true, laidKinds := [.data], laidTests := true, laidLooks := .later }
def PolyCorrectsCardSaid : Prop := Claim7.holds Tryd.pinned (.plain (OpenSpec.ofChange polyCorrectsSpec)) polyCorrectsCard

/-- THE TIED CARD OF 'quietuslaw06.PolyRefuses'. -/
def polyRefusesCard : Claim7 := { stood := { row := polyRefusesRow, standIns := [], harness := (true, "deaea867d137ecb0e623b0ae9fe1f905d4bd7323111e93887f1a246423e16ee8"), looks := false }, kinds := [], alts := [], laidByText := true, laidKinds := [.data], laidTests := true, laidLooks := .later }
def PolyRefusesCardSaid : Prop := Claim7.holds Tryd.pinned (.plain (OpenSpec.ofChange polyRefusesSpec)) polyRefusesCard

/-- THE TIED CARD OF 'quietuslaw07.CodeEncodesAsSpecified'. -/
def codeEncodesAsSpecifiedCard : Claim7 := { stood := { row := codeEncodesAsSpecifiedRow, standIns := [], harness := (true, "deaea867d137ecb0e623b0ae9fe1f905d4bd7323111e93887f1a246423e16ee8"), looks := false }, kinds := [], alts := [], laidByText := true, laidKinds := [.data], laidTests := true, laidLooks := .later }
def CodeEncodesAsSpecifiedCardSaid : Prop := Claim7.holds Tryd.pinned (.plain (OpenSpec.ofChange codeEncodesAsSpecifiedSpec)) codeEncodesAsSpecifiedCard

/-- THE TIED CARD OF 'quietuslaw07.CodeDecodesAsSpecified'. -/
def codeDecodesAsSpecifiedCard : Claim7 := { stood := { row := codeDecodesAsSpecifiedRow, standIns := [], harness := (true, "deaea867d137ecb0e623b0ae9fe1f905d4bd7323111e93887f1a246423e16ee8"), looks := false }, kinds := [], alts := [], laidByText := true, laidKinds := [.data], laidTests := true, laidLooks := .later }
def CodeDecodesAsSpecifiedCardSaid : Prop := Claim7.holds Tryd.pinned (.plain (OpenSpec.ofChange codeDecodesAsSpecifiedSpec)) codeDecodesAsSpecifiedCard

/-- THE TIED CARD OF 'quietuslaw07.CodeDistanceIsLeast'. -/
def codeDistanceIsLeastCard : Claim7 := { stood := { row := codeDistanceIsLeastRow, standIns := [], harness := (true, "deaea867d137ecb0e623b0ae9fe1f905d4bd7323111e93887f1a246423e16ee8"), looks := false }, kinds := [], alts := [], laidByText := true, laidKinds := [.data], laidTests := true, laidLooks := .later }
def CodeDistanceIsLeastCardSaid : Prop := Claim7.holds Tryd.pinned (.plain (OpenSpec.ofChange codeDistanceIsLeastSpec)) codeDistanceIsLeastCard

/-- THE TIED CARD OF 'quietuslaw07.CodeRoundTrips'. -/
def codeRoundTripsCard : Claim7 := { stood := { row := codeRoundTripsRow, standIns := [], harness := (true, "deaea867d137ecb0e623b0ae9fe1f905d4bd7323111e93887f1a246423e16ee8"), looks := false }, kinds := [], alts := [], laidByText := true, laidKinds := [.data], laidTests := true, laidLooks := .later }
def CodeRoundTripsCardSaid : Prop := Claim7.holds Tryd.pinned (.plain (OpenSpec.ofChange codeRoundTripsSpec)) codeRoundTripsCard

/-- THE TIED CARD OF 'quietuslaw07.CodeRepairsLocally'. -/
def codeRepairsLocallyCard : Claim7 := { stood := { row := codeRepairsLocallyRow, standIns := [], harness := (true, "deaea867d137ecb0e623b0ae9fe1f905d4bd7323111e93887f1a246423e16ee8"), looks := false }, kinds := [], alts := [], laidByText := true, laidKinds := [.data], laidTests := true, laidLooks := .later }
def CodeRepairsLocallyCardSaid : Prop := Claim7.holds Tryd.pinned (.plain (OpenSpec.ofChange codeRepairsLocallySpec)) codeRepairsLocallyCard

/-- THE SECOND FORM's CARD OF 'quietuslaw06.PolyMatchesSpec'. -/
def polyMatchesSpecUptoCard : Claim7 := { stood := { row := polyMatchesSpecUptoRow, standIns := [], harness := (true, "deaea867d137ecb0e623b0ae9fe1f905d4bd7323111e93887f1a246423e16ee8"), looks := false }, kinds := [], alts := [], laidByText := true, laidKinds := [.data], laidTests := true, laidLooks := .later }
def PolyMatchesSpecUptoCardSaid : Prop := Claim7.holds Tryd.pinned (.plain (OpenSpec.upto polyMatchesSpecSpec)) polyMatchesSpecUptoCard

/-- THE SECOND FORM's CARD OF 'quietuslaw06.PolyInterpolatesAsSpecified'. -/
def polyInterpolatesAsSpecifiedUptoCard : Claim7 := { stood := { row := polyInterpolatesAsSpecifiedUptoRow, standIns := [], harness := (true, "deaea867d137ecb0e623b0ae9fe1f905d4bd7323111e93887f1a246423e16ee8"), looks := false }, kinds := [], alts := [], laidByText := true, laidKinds := [.data], laidTests := true, laidLooks := .later }
def PolyInterpolatesAsSpecifiedUptoCardSaid : Prop := Claim7.holds Tryd.pinned (.plain (OpenSpec.upto polyInterpolatesAsSpecifiedSpec)) polyInterpolatesAsSpecifiedUptoCard

/-- THE SECOND FORM's CARD OF 'quietuslaw06.PolyDecodesAsSpecified'. -/
def polyDecodesAsSpecifiedUptoCard : Claim7 := { stood := { row := polyDecodesAsSpecifiedUptoRow, standIns := [], harness := (true, "deaea867d137ecb0e623b0ae9fe1f905d4bd7323111e93887f1a246423e16ee8"), looks := false }, kinds := [], alts := [], laidByText := true, laidKinds := [.data], laidTests := true, laidLooks := .later }
def PolyDecodesAsSpecifiedUptoCardSaid : Prop := Claim7.holds Tryd.pinned (.plain (OpenSpec.upto polyDecodesAsSpecifiedSpec)) polyDecodesAsSpecifiedUptoCard

/-- THE SECOND FORM's CARD OF 'quietuslaw06.PolyIsARing'. -/
def polyIsARingUptoCard : Claim7 := { stood := { row := polyIsARingUptoRow, standIns := [], harness := (true, "deaea867d137ecb0e623b0ae9fe1f905d4bd7323111e93887f1a246423e16ee8"), looks := false }, kinds := [], alts := [], laidByText := true, laidKinds := [.data], laidTests := true, laidLooks := .later }
def PolyIsARingUptoCardSaid : Prop := Claim7.holds Tryd.pinned (.plain (OpenSpec.upto polyIsARingSpec)) polyIsARingUptoCard

/-- THE SECOND FORM's CARD OF 'quietuslaw06.PolyInterpolates'. -/
def polyInterpolatesUptoCard : Claim7 := { stood := { row := polyInterpolatesUptoRow, standIns := [], harness := (true, "deaea867d137ecb0e623b0ae9fe1f905d4bd7323111e93887f1a246423e16ee8"), looks := false }, kinds := [], alts := [], laidByText := true, laidKinds := [.data], laidTests := true, laidLooks := .later }
def PolyInterpolatesUptoCardSaid : Prop := Claim7.holds Tryd.pinned (.plain (OpenSpec.upto polyInterpolatesSpec)) polyInterpolatesUptoCard

/-- THE SECOND FORM's CARD OF 'quietuslaw06.PolyCorrects'. -/
def polyCorrectsUptoCard : Claim7 := { stood := { row := polyCorrectsUptoRow, standIns := [], harness := (true, "deaea867d137ecb0e623b0ae9fe1f905d4bd7323111e93887f1a246423e16ee8"), looks := false }, kinds := [], alts := [], laidByText := true, laidKinds := [.data], laidTests := true, laidLooks := .later }
def PolyCorrectsUptoCardSaid : Prop := Claim7.holds Tryd.pinned (.plain (OpenSpec.upto polyCorrectsSpec)) polyCorrectsUptoCard

/-- THE SECOND FORM's CARD OF 'quietuslaw06.PolyRefuses'. -/
def polyRefusesUptoCard : Claim7 := { stood := { row := polyRefusesUptoRow, standIns := [], harness := (true, "deaea867d137ecb0e623b0ae9fe1f905d4bd7323111e93887f1a246423e16ee8"), looks := false }, kinds := [], alts := [], laidByText := true, laidKinds := [.data], laidTests := true, laidLooks := .later }
def PolyRefusesUptoCardSaid : Prop := Claim7.holds Tryd.pinned (.plain (OpenSpec.upto polyRefusesSpec)) polyRefusesUptoCard

/-- THE SECOND FORM's CARD OF 'quietuslaw07.CodeEncodesAsSpecified'. -/
def codeEncodesAsSpecifiedUptoCard : Claim7 := { stood := { row := codeEncodesAsSpecifiedUptoRow, standIns := [], harness := (true, "deaea867d137ecb0e623b0ae9fe1f905d4bd7323111e93887f1a246423e16ee8"), looks := false }, kinds := [], alts := [], laidByText := true, laidKinds := [.data], laidTests := true, laidLooks := .later }
def CodeEncodesAsSpecifiedUptoCardSaid : Prop := Claim7.holds Tryd.pinned (.plain (OpenSpec.upto codeEncodesAsSpecifiedSpec)) codeEncodesAsSpecifiedUptoCard

/-- THE SECOND FORM's CARD OF 'quietuslaw07.CodeDecodesAsSpecified'. -/
def codeDecodesAsSpecifiedUptoCard : Claim7 := { stood := { row := codeDecodesAsSpecifiedUptoRow, standIns := [], harness := (true, "deaea867d137ecb0e623b0ae9fe1f905d4bd7323111e93887f1a246423e16ee8"), looks := false }, kinds := [], alts := [], laidByText := true, laidKinds := [.data], laidTests := true, laidLooks := .later }
def CodeDecodesAsSpecifiedUptoCardSaid : Prop := Claim7.holds Tryd.pinned (.plain (OpenSpec.upto codeDecodesAsSpecifiedSpec)) codeDecodesAsSpecifiedUptoCard

/-- THE SECOND FORM's CARD OF 'quietuslaw07.CodeDistanceIsLeast'. -/
def codeDistanceIsLeastUptoCard : Claim7 := { stood := { row := codeDistanceIsLeastUptoRow, standIns := [], harness := (true, "deaea867d137ecb0e623b0ae9fe1f905d4bd7323111e93887f1a246423e16ee8"), looks := false }, kinds := [], alts := [], laidByText := true, laidKinds := [.data], laidTests := true, laidLooks := .later }
def CodeDistanceIsLeastUptoCardSaid : Prop := Claim7.holds Tryd.pinned (.plain (OpenSpec.upto codeDistanceIsLeastSpec)) codeDistanceIsLeastUptoCard

/-- THE SECOND FORM's CARD OF 'quietuslaw07.CodeRoundTrips'. -/
def codeRoundTripsUptoCard : Claim7 := { stood := { row := codeRoundTripsUptoRow, standIns := [], harness := (true, "deaea867d137ecb0e623b0ae9fe1f905d4bd7323111e93887f1a246423e16ee8"), looks := false }, kinds := [], alts := [], laidByText := true, laidKinds := [.data], laidTests := true, laidLooks := .later }
def CodeRoundTripsUptoCardSaid : Prop := Claim7.holds Tryd.pinned (.plain (OpenSpec.upto codeRoundTripsSpec)) codeRoundTripsUptoCard

/-- THE SECOND FORM's CARD OF 'quietuslaw07.CodeRepairsLocally'. -/
def codeRepairsLocallyUptoCard : Claim7 := { stood := { row := codeRepairsLocallyUptoRow, standIns := [], harness := (true, "deaea867d137ecb0e623b0ae9fe1f905d4bd7323111e93887f1a246423e16ee8"), looks := false }, kinds := [], alts := [], laidByText := true, laidKinds := [.data], laidTests := true, laidLooks := .later }
def CodeRepairsLocallyUptoCardSaid : Prop := Claim7.holds Tryd.pinned (.plain (OpenSpec.upto codeRepairsLocallySpec)) codeRepairsLocallyUptoCard
end Rows
end Go.Proofs.YtbilfhipmebmlaaDoor
