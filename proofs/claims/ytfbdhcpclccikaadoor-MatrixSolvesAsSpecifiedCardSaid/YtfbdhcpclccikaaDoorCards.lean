/-
  DERIVED. GIVEN WITH THE SEED: THE CARDS: each row of YtfbdhcpclccikaaDoorRows.lean that lists a variable, with what it lists TIED to the program's text (the seventh form; the later family's looks); each row that meets fmt, with fmt's text TOLD by the authors' own Lean function (tested against real Go, not proved from fmt's source: count such statements apart). THE CARD IS WHAT COUNTS. Prove the row's statement (the work); the ties are given (YtfbdhcpclccikaaDoorTie.lean); close each card by the builder's one call (the guide's Derived/Test/ToyasCard.lean, 'card_holds'). Laid BY PROGRAM, IN A SANDBOX (cutbox-door.mjs). By AI agents, Wed Nov 11 2026. No macro, syntax, notation, axiom, sorry.
-/
import Derived.Test.YtfbdhcpclccikaaDoorRows
import GoSem.ClaimSeven
namespace Go.Proofs.YtfbdhcpclccikaaDoor
namespace Rows

/-- THE TIED CARD OF 'quietuslaw05.MatrixReducesAsSpecified'. -/
def matrixReducesAsSpecifiedCard : Claim7 := { stood := { row := matrixReducesAsSpecifiedRow, standIns := [], harness := (true, "faafc1af8699f5bdf4997fe60bee3ac737e85e842ac8f76fb13a10722b10e989"), looks := false }, kinds := [], alts := [], laidByText := true, laidKinds := [.data], laidTests := true, laidLooks := .later }
def MatrixReducesAsSpecifiedCardSaid : Prop := Claim7.holds Tryd.pinned (.plain (OpenSpec.ofChange matrixReducesAsSpecifiedSpec)) matrixReducesAsSpecifiedCard

/-- THE TIED CARD OF 'quietuslaw05.MatrixSolvesAsSpecified'. -/
def matrixSolvesAsSpecifiedCard : Claim7 := { stood := { row := matrixSolvesAsSpecifiedRow, standIns := [], harness := (true, "faafc1af8699f5bdf4997fe60bee3ac737e85e842ac8f76fb13a10722b10e989"), looks := false }, kinds := [], alts := [], laidByText := true, laidKinds := [.data], laidTests := true, laidLooks := .later }
def MatrixSolvesAsSpecifiedCardSaid : Prop := Claim7.holds Tryd.pinned (.plain (OpenSpec.ofChange matrixSolvesAsSpecifiedSpec)) matrixSolvesAsSpecifiedCard

/-- THE TIED CARD OF 'quietuslaw05.MatrixProductsAsSpecified'. -/
def matrixProductsAsSpecifiedCard : Claim7 := { stood := { row := matrixProductsAsSpecifiedRow, standIns := [], harness := (true, "faafc1af8699f5bdf4997fe60bee3ac737e85e842ac8f76fb13a10722b10e989"), looks := false }, kinds := [], alts := [], laidByText := true, laidKinds := [.data], laidTests := true, laidLooks := .later }
def MatrixProductsAsSpecifiedCardSaid : Prop := Claim7.holds Tryd.pinned (.plain (OpenSpec.ofChange matrixProductsAsSpecifiedSpec)) matrixProductsAsSpecifiedCard

/-- THE TIED CARD OF 'quietuslaw05.MatrixSolutionsAreAll'. -/
def matrixSolutionsAreAllCard : Claim7 := { stood := { row := matrixSolutionsAreAllRow, standIns := [], harness := (true, "faafc1af8699f5bdf4997fe60bee3ac737e85e842ac8f76fb13a10722b10e989"), looks := false }, kinds := [], alts := [], laidByText := true, laidKinds := [.data], laidTests := true, laidLooks := .later }
def MatrixSolutionsAreAllCardSaid : Prop := Claim7.holds Tryd.pinned (.plain (OpenSpec.ofChange matrixSolutionsAreAllSpec)) matrixSolutionsAreAllCard

/-- THE TIED CARD OF 'quietuslaw05.MatrixInverts'. -/
def matrixInvertsCard : Claim7 := { stood := { row := matrixInvertsRow, standIns := [], harness := (true, "faafc1af8699f5bdf4997fe60bee3ac737e85e842ac8f76fb13a10722b10e989"), looks := false }, kinds := [], alts := [], laidByText := true, laidKinds := [.data], laidTests := true, laidLooks := .later }
def MatrixInvertsCardSaid : Prop := Claim7.holds Tryd.pinned (.plain (OpenSpec.ofChange matrixInvertsSpec)) matrixInvertsCard

/-- THE TIED CARD OF 'quietuslaw05.MatrixExpresses'. -/
def matrixExpressesCard : Claim7 := { stood := { row := matrixExpressesRow, standIns := [], harness := (true, "faafc1af8699f5bdf4997fe60bee3ac737e85e842ac8f76fb13a10722b10e989"), looks := false }, kinds := [], alts := [], laidByText := true, laidKinds := [.data], laidTests := true, laidLooks := .later }
def MatrixExpressesCardSaid : Prop := Claim7.holds Tryd.pinned (.plain (OpenSpec.ofChange matrixExpressesSpec)) matrixExpressesCard

/-- THE TIED CARD OF 'quietuslaw05.MatrixRanks'. -/
def matrixRanksCard : Claim7 := { stood := { row := matrixRanksRow, standIns := [], harness := (true, "faafc1af8699f5bdf4997fe60bee3ac737e85e842ac8f76fb13a10722b10e989"), looks := false }, kinds := [], alts := [], laidByText := true, laidKinds := [.data], laidTests := true, laidLooks := .later }
def MatrixRanksCardSaid : Prop := Claim7.holds Tryd.pinned (.plain (OpenSpec.ofChange matrixRanksSpec)) matrixRanksCard

/-- THE TIED CARD OF 'quietuslaw06.PolyMatchesSpec'. -/
def polyMatchesSpecCard : Claim7 := { stood := { row := polyMatchesSpecRow, standIns := [], harness := (true, "faafc1af8699f5bdf4997fe60bee3ac737e85e842ac8f76fb13a10722b10e989"), looks := false }, kinds := [], alts := [], laidByText := true, laidKinds := [.data], laidTests := true, laidLooks := .later }
def PolyMatchesSpecCardSaid : Prop := Claim7.holds Tryd.pinned (.plain (OpenSpec.ofChange polyMatchesSpecSpec)) polyMatchesSpecCard

/-- THE TIED CARD OF 'quietuslaw06.PolyInterpolatesAsSpecified'. -/
def polyInterpolatesAsSpecifiedCard : Claim7 := { stood := { row := polyInterpolatesAsSpecifiedRow, standIns := [], harness := (true, "faafc1af8699f5bdf4997fe60bee3ac737e85e842ac8f76fb13a10722b10e989"), looks := false }, kinds := [], alts := [], laidByText := true, laidKinds := [.data], laidTests := true, laidLooks := .later }
def PolyInterpolatesAsSpecifiedCardSaid : Prop := Claim7.holds Tryd.pinned (.plain (OpenSpec.ofChange polyInterpolatesAsSpecifiedSpec)) polyInterpolatesAsSpecifiedCard

/-- THE TIED CARD OF 'quietuslaw06.PolyDecodesAsSpecified'. -/
def polyDecodesAsSpecifiedCard : Claim7 := { stood := { row := polyDecodesAsSpecifiedRow, standIns := [], harness := (true, "faafc1af8699f5bdf4997fe60bee3ac737e85e842ac8f76fb13a10722b10e989"), looks := false }, kinds := [], alts := [], laidByText := true, laidKinds := [.data], laidTests := true, laidLooks := .later }
def PolyDecodesAsSpecifiedCardSaid : Prop := Claim7.holds Tryd.pinned (.plain (OpenSpec.ofChange polyDecodesAsSpecifiedSpec)) polyDecodesAsSpecifiedCard

/-- THE TIED CARD OF 'quietuslaw06.PolyIsARing'. -/
def polyIsARingCard : Claim7 := { stood := { row := polyIsARingRow, standIns := [], harness := (true, "faafc1af8699f5bdf4997fe60bee3ac737e85e842ac8f76fb13a10722b10e989"), looks := false }, kinds := [], alts := [], laidByText := true, laidKinds := [.data], laidTests := true, laidLooks := .later }
def PolyIsARingCardSaid : Prop := Claim7.holds Tryd.pinned (.plain (OpenSpec.ofChange polyIsARingSpec)) polyIsARingCard

/-- THE TIED CARD OF 'quietuslaw06.PolyInterpolates'. -/
def polyInterpolatesCard : Claim7 := { stood := { row := polyInterpolatesRow, standIns := [], harness := (true, "faafc1af8699f5bdf4997fe60bee3ac737e85e842ac8f76fb13a10722b10e989"), looks := false }, kinds := [], alts := [], laidByText := true, laidKinds := [.data], laidTests := true, laidLooks := .later }
def PolyInterpolatesCardSaid : Prop := Claim7.holds Tryd.pinned (.plain (OpenSpec.ofChange polyInterpolatesSpec)) polyInterpolatesCard

/-- THE TIED CARD OF 'quietuslaw06.PolyCorrects'. -/
def polyCorrectsCard : Claim7 := { stood := { row := polyCorrectsRow, standIns := [], harness := (true, "faafc1af8699f5bdf4997fe60bee3ac737e85e842ac8f76fb13a10722b10e989"), looks := false }, kinds := [], alts := [], laidByText := true, laidKinds := [.data], laidTests := true, laidLooks := .later }
def PolyCorrectsCardSaid : Prop := Claim7.holds Tryd.pinned (.plain (OpenSpec.ofChange polyCorrectsSpec)) polyCorrectsCard

/-- THE TIED CARD OF 'quietuslaw06.PolyRefuses'. -/
def polyRefusesCard : Claim7 := { stood := { row := polyRefusesRow, standIns := [], harness := (true, "faafc1af8699f5bdf4997fe60bee3ac737e85e842ac8f76fb13a10722b10e989"), looks := false }, kinds := [], alts := [], laidByText := true, laidKinds := [.data], laidTests := true, laidLooks := .later }
def PolyRefusesCardSaid : Prop := Claim7.holds Tryd.pinned (.plain (OpenSpec.ofChange polyRefusesSpec)) polyRefusesCard

/-- THE SECOND FORM's CARD OF 'quietuslaw05.MatrixReducesAsSpecified'. -/
def matrixReducesAsSpecifiedUptoCard : Claim7 := { stood := { row := matrixReducesAsSpecifiedUptoRow, standIns := [], harness := (true, "faafc1af8699f5bdf4997fe60bee3ac737e85e842ac8f76fb13a10722b10e989"), looks := false }, kinds := [], alts := [], laidByText := true, laidKinds := [.data], laidTests := true, laidLooks := .later }
def MatrixReducesAsSpecifiedUptoCardSaid : Prop := Claim7.holds Tryd.pinned (.plain (OpenSpec.upto matrixReducesAsSpecifiedSpec)) matrixReducesAsSpecifiedUptoCard

/-- THE SECOND FORM's CARD OF 'quietuslaw05.MatrixSolvesAsSpecified'. -/
def matrixSolvesAsSpecifiedUptoCard : Claim7 := { stood := { row := matrixSolvesAsSpecifiedUptoRow, standIns := [], harness := (true, "faafc1af8699f5bdf4997fe60bee3ac737e85e842ac8f76fb13a10722b10e989"), looks := false }, kinds := [], alts := [], laidByText := true, laidKinds := [.data], laidTests := true, laidLooks := .later }
def MatrixSolvesAsSpecifiedUptoCardSaid : Prop := Claim7.holds Tryd.pinned (.plain (OpenSpec.upto matrixSolvesAsSpecifiedSpec)) matrixSolvesAsSpecifiedUptoCard

/-- THE SECOND FORM's CARD OF 'quietuslaw05.MatrixProductsAsSpecified'. -/
def matrixProductsAsSpecifiedUptoCard : Claim7 := { stood := { row := matrixProductsAsSpecifiedUptoRow, standIns := [], harness := (true, "faafc1af8699f5bdf4997fe60bee3ac737e85e842ac8f76fb13a10722b10e989"), looks := false }, kinds := [], alts := [], laidByText := true, laidKinds := [.data], laidTests := true, laidLooks := .later }
def MatrixProductsAsSpecifiedUptoCardSaid : Prop := Claim7.holds Tryd.pinned (.plain (OpenSpec.upto matrixProductsAsSpecifiedSpec)) matrixProductsAsSpecifiedUptoCard

/-- THE SECOND FORM's CARD OF 'quietuslaw05.MatrixSolutionsAreAll'. -/
def matrixSolutionsAreAllUptoCard : Claim7 := { stood := { row := matrixSolutionsAreAllUptoRow, standIns := [], harness := (true, "faafc1af8699f5bdf4997fe60bee3ac737e85e842ac8f76fb13a10722b10e989"), looks := false }, kinds := [], alts := [], laidByText := true, laidKinds := [.data], laidTests := true, laidLooks := .later }
def MatrixSolutionsAreAllUptoCardSaid : Prop := Claim7.holds Tryd.pinned (.plain (OpenSpec.upto matrixSolutionsAreAllSpec)) matrixSolutionsAreAllUptoCard

/-- THE SECOND FORM's CARD OF 'quietuslaw05.MatrixInverts'. -/
def matrixInvertsUptoCard : Claim7 := { stood := { row := matrixInvertsUptoRow, standIns := [], harness := (true, "faafc1af8699f5bdf4997fe60bee3ac737e85e842ac8f76fb13a10722b10e989"), looks := false }, kinds := [], alts := [], laidByText := true, laidKinds := [.data], laidTests := true, laidLooks := .later }
def MatrixInvertsUptoCardSaid : Prop := Claim7.holds Tryd.pinned (.plain (OpenSpec.upto matrixInvertsSpec)) matrixInvertsUptoCard

/-- THE SECOND FORM's CARD OF 'quietuslaw05.MatrixExpresses'. -/
def matrixExpressesUptoCard : Claim7 := { stood := { row := matrixExpressesUptoRow, standIns := [], harness := (true, "faafc1af8699f5bdf4997fe60bee3ac737e85e842ac8f76fb13a10722b10e989"), looks := false }, kinds := [], alts := [], laidByText := true, laidKinds := [.data], laidTests := true, laidLooks := .later }
def MatrixExpressesUptoCardSaid : Prop := Claim7.holds Tryd.pinned (.plain (OpenSpec.upto matrixExpressesSpec)) matrixExpressesUptoCard

/-- THE SECOND FORM's CARD OF 'quietuslaw05.MatrixRanks'. -/
def matrixRanksUptoCard : Claim7 := { stood := { row := matrixRanksUptoRow, standIns := [], harness := (true, "faafc1af8699f5bdf4997fe60bee3ac737e85e842ac8f76fb13a10722b10e989"), looks := false }, kinds := [], alts := [], laidByText := true, laidKinds := [.data], laidTests := true, laidLooks := .later }
def MatrixRanksUptoCardSaid : Prop := Claim7.holds Tryd.pinned (.plain (OpenSpec.upto matrixRanksSpec)) matrixRanksUptoCard

/-- THE SECOND FORM's CARD OF 'quietuslaw06.PolyMatchesSpec'. -/
def polyMatchesSpecUptoCard : Claim7 := { stood := { row := polyMatchesSpecUptoRow, standIns := [], harness := (true, "faafc1af8699f5bdf4997fe60bee3ac737e85e842ac8f76fb13a10722b10e989"), looks := false }, kinds := [], alts := [], laidByText := true, laidKinds := [.data], laidTests := true, laidLooks := .later }
def PolyMatchesSpecUptoCardSaid : Prop := Claim7.holds Tryd.pinned (.plain (OpenSpec.upto polyMatchesSpecSpec)) polyMatchesSpecUptoCard

/-- THE SECOND FORM's CARD OF 'quietuslaw06.PolyInterpolatesAsSpecified'. -/
def polyInterpolatesAsSpecifiedUptoCard : Claim7 := { stood := { row := polyInterpolatesAsSpecifiedUptoRow, standIns := [], harness := (true, "faafc1af8699f5bdf4997fe60bee3ac737e85e842ac8f76fb13a10722b10e989"), looks := false }, kinds := [], alts := [], laidByText := true, laidKinds := [.data], laidTests := true, laidLooks := .later }
def PolyInterpolatesAsSpecifiedUptoCardSaid : Prop := Claim7.holds Tryd.pinned (.plain (OpenSpec.upto polyInterpolatesAsSpecifiedSpec)) polyInterpolatesAsSpecifiedUptoCard

/-- THE SECOND FORM's CARD OF 'quietuslaw06.PolyDecodesAsSpecified'. -/
def polyDecodesAsSpecifiedUptoCard : Claim7 := { stood := { row := polyDecodesAsSpecifiedUptoRow, standIns := [], harness := (true, "faafc1af8699f5bdf4997fe60bee3ac737e85e842ac8f76fb13a10722b10e989"), looks := false }, kinds := [], alts := [], laidByText := true, laidKinds := [.data], laidTests := true, laidLooks := .later }
def PolyDecodesAsSpecifiedUptoCardSaid : Prop := Claim7.holds Tryd.pinned (.plain (OpenSpec.upto polyDecodesAsSpecifiedSpec)) polyDecodesAsSpecifiedUptoCard

/-- THE SECOND FORM's CARD OF 'quietuslaw06.PolyIsARing'. -/
def polyIsARingUptoCard : Claim7 := { stood := { row := polyIsARingUptoRow, standIns := [], harness := (true, "faafc1af8699f5bdf4997fe60bee3ac737e85e842ac8f76fb13a10722b10e989"), looks := false }, kinds := [], alts := [], laidByText := true, laidKinds := [.data], laidTests := true, laidLooks := .later }
def PolyIsARingUptoCardSaid : Prop := Claim7.holds Tryd.pinned (.plain (OpenSpec.upto polyIsARingSpec)) polyIsARingUptoCard

/-- THE SECOND FORM's CARD OF 'quietuslaw06.PolyInterpolates'. -/
def polyInterpolatesUptoCard : Claim7 := { stood := { row := polyInterpolatesUptoRow, standIns := [], harness := (true, "faafc1af8699f5bdf4997fe60bee3ac737e85e842ac8f76fb13a10722b10e989"), looks := false }, kinds := [], alts := [], laidByText := true, laidKinds := [.data], laidTests := true, laidLooks := .later }
def PolyInterpolatesUptoCardSaid : Prop := Claim7.holds Tryd.pinned (.plain (OpenSpec.upto polyInterpolatesSpec)) polyInterpolatesUptoCard

/-- THE SECOND FORM's CARD OF 'quietuslaw06.PolyCorrects'. -/
def polyCorrectsUptoCard : Claim7 := { stood := { row := polyCorrectsUptoRow, standIns := [], harness := (true, "faafc1af8699f5bdf4997fe60bee3ac737e85e842ac8f76fb13a10722b10e989"), looks := false }, kinds := [], alts := [], laidByText := true, laidKinds := [.data], laidTests := true, laidLooks := .later }
def PolyCorrectsUptoCardSaid : Prop := Claim7.holds Tryd.pinned (.plain (OpenSpec.upto polyCorrectsSpec)) polyCorrectsUptoCard

/-- THE SECOND FORM's CARD OF 'quietuslaw06.PolyRefuses'. -/
def polyRefusesUptoCard : Claim7 := { stood := { row := polyRefusesUptoRow, standIns := [], harness := (true, "faafc1af8699f5bdf4997fe60bee3ac737e85e842ac8f76fb13a10722b10e989"), looks := false }, kinds := [], alts := [], laidByText := true, laidKinds := [.data], laidTests := true, laidLooks := .later }
def PolyRefusesUptoCardSaid : Prop := Claim7.holds Tryd.pinned (.plain (OpenSpec.upto polyRefusesSpec)) polyRefusesUptoCard
end Rows
end Go.Proofs.YtfbdhcpclccikaaDoor
