/-
  DERIVED. GIVEN WITH THE SEED: THE CARDS: each row of YtedhjjlnionckaaDoorRows.lean that lists a variable, with what it lists TIED to the program's text (the seventh form; the later family's looks); each row that meets fmt, with fmt's text TOLD by the authors' own Lean function (tested against real Go, not proved from fmt's source: count such statements apart). THE CARD IS WHAT COUNTS. Prove the row's statement (the work); the ties are given (YtedhjjlnionckaaDoorTie.lean); close each card by the builder's one call (the guide's Derived/Test/ToyasCard.lean, 'card_holds'). Laid BY PROGRAM, IN A SANDBOX (cutbox-door.mjs). By AI agents, Wed Nov 11 2026. No macro, syntax, notation, axiom, sorry.
-/
import Derived.Test.YtedhjjlnionckaaDoorRows
import GoSem.ClaimSeven
namespace Go.Proofs.YtedhjjlnionckaaDoor
namespace Rows

/-- THE TIED CARD OF 'quietuslaw02.HashSumMatchesSpec'. -/
def hashSumMatchesSpecCard : Claim7 := { stood := { row := hashSumMatchesSpecRow, standIns := [], harness := (true, "0614c71abe369dc6a8480b1c2d6aea5118600c5f92bc14f7b65908c3db7aecca"), looks := false }, kinds := [], alts := [], laidByText := true, laidKinds := [.data, .data], laidTests := true, laidLooks := .later }
def HashSumMatchesSpecCardSaid : Prop := Claim7.holds Tryd.pinned (.plain (OpenSpec.ofChange hashSumMatchesSpecSpec)) hashSumMatchesSpecCard

/-- THE TIED CARD OF 'quietuslaw02.HashOfMatchesSpec'. -/
def hashOfMatchesSpecCard : Claim7 := { stood := { row := hashOfMatchesSpecRow, standIns := [], harness := (true, "0614c71abe369dc6a8480b1c2d6aea5118600c5f92bc14f7b65908c3db7aecca"), looks := false }, kinds := [], alts := [], laidByText := true, laidKinds := [.data, .data], laidTests := true, laidLooks := .later }
def HashOfMatchesSpecCardSaid : Prop := Claim7.holds Tryd.pinned (.plain (OpenSpec.ofChange hashOfMatchesSpecSpec)) hashOfMatchesSpecCard

/-- THE TIED CARD OF 'quietuslaw02.HashHmacMatchesSpec'. -/
def hashHmacMatchesSpecCard : Claim7 := { stood := { row := hashHmacMatchesSpecRow, standIns := [], harness := (true, "0614c71abe369dc6a8480b1c2d6aea5118600c5f92bc14f7b65908c3db7aecca"), looks := false }, kinds := [], alts := [], laidByText := true, laidKinds := [.data, .data], laidTests := true, laidLooks := .later }
def HashHmacMatchesSpecCardSaid : Prop := Claim7.holds Tryd.pinned (.plain (OpenSpec.ofChange hashHmacMatchesSpecSpec)) hashHmacMatchesSpecCard

/-- THE TIED CARD OF 'quietuslaw02.HashMacMatchesSpec'. -/
def hashMacMatchesSpecCard : Claim7 := { stood := { row := hashMacMatchesSpecRow, standIns := [], harness := (true, "0614c71abe369dc6a8480b1c2d6aea5118600c5f92bc14f7b65908c3db7aecca"), looks := false }, kinds := [], alts := [], laidByText := true, laidKinds := [.data, .data], laidTests := true, laidLooks := .later }
def HashMacMatchesSpecCardSaid : Prop := Claim7.holds Tryd.pinned (.plain (OpenSpec.ofChange hashMacMatchesSpecSpec)) hashMacMatchesSpecCard

/-- THE TIED CARD OF 'quietuslaw02.HashExpandMatchesSpec'. -/
def hashExpandMatchesSpecCard : Claim7 := { stood := { row := hashExpandMatchesSpecRow, standIns := [], harness := (true, "0614c71abe369dc6a8480b1c2d6aea5118600c5f92bc14f7b65908c3db7aecca"), looks := false }, kinds := [], alts := [], laidByText := true, laidKinds := [.data, .data], laidTests := true, laidLooks := .later }
def HashExpandMatchesSpecCardSaid : Prop := Claim7.holds Tryd.pinned (.plain (OpenSpec.ofChange hashExpandMatchesSpecSpec)) hashExpandMatchesSpecCard

/-- THE TIED CARD OF 'quietuslaw03.MerkleProofsMatchSpec'. -/
def merkleProofsMatchSpecCard : Claim7 := { stood := { row := merkleProofsMatchSpecRow, standIns := [], harness := (true, "0614c71abe369dc6a8480b1c2d6aea5118600c5f92bc14f7b65908c3db7aecca"), looks := false }, kinds := [], alts := [], laidByText := true, laidKinds := [.data, .data, .data, .data], laidTests := true, laidLooks := .later }
def MerkleProofsMatchSpecCardSaid : Prop := Claim7.holds Tryd.pinned (.plain (OpenSpec.ofChange merkleProofsMatchSpecSpec)) merkleProofsMatchSpecCard

/-- THE TIED CARD OF 'quietuslaw03.MerkleManyAsSpecified'. -/
def merkleManyAsSpecifiedCard : Claim7 := { stood := { row := merkleManyAsSpecifiedRow, standIns := [], harness := (true, "0614c71abe369dc6a8480b1c2d6aea5118600c5f92bc14f7b65908c3db7aecca"), looks := false }, kinds := [], alts := [], laidByText := true, laidKinds := [.data, .data, .data, .data], laidTests := true, laidLooks := .later }
def MerkleManyAsSpecifiedCardSaid : Prop := Claim7.holds Tryd.pinned (.plain (OpenSpec.ofChange merkleManyAsSpecifiedSpec)) merkleManyAsSpecifiedCard

/-- THE TIED CARD OF 'quietuslaw03.MerklePeaksMatchSpec'. -/
def merklePeaksMatchSpecCard : Claim7 := { stood := { row := merklePeaksMatchSpecRow, standIns := [], harness := (true, "0614c71abe369dc6a8480b1c2d6aea5118600c5f92bc14f7b65908c3db7aecca"), looks := false }, kinds := [], alts := [], laidByText := true, laidKinds := [.data, .data, .data, .data], laidTests := true, laidLooks := .later }
def MerklePeaksMatchSpecCardSaid : Prop := Claim7.holds Tryd.pinned (.plain (OpenSpec.ofChange merklePeaksMatchSpecSpec)) merklePeaksMatchSpecCard

/-- THE TIED CARD OF 'quietuslaw03.MerkleProofsAreAccepted'. -/
def merkleProofsAreAcceptedCard : Claim7 := { stood := { row := merkleProofsAreAcceptedRow, standIns := [], harness := (true, "0614c71abe369dc6a8480b1c2d6aea5118600c5f92bc14f7b65908c3db7aecca"), looks := false }, kinds := [], alts := [], laidByText := true, laidKinds := [.data, .data, .data, .data], laidTests := true, laidLooks := .later }
def MerkleProofsAreAcceptedCardSaid : Prop := Claim7.holds Tryd.pinned (.plain (OpenSpec.ofChange merkleProofsAreAcceptedSpec)) merkleProofsAreAcceptedCard

/-- THE TIED CARD OF 'quietuslaw03.MerklePeaksGrow'. -/
def merklePeaksGrowCard : Claim7 := { stood := { row := merklePeaksGrowRow, standIns := [], harness := (true, "0614c71abe369dc6a8480b1c2d6aea5118600c5f92bc14f7b65908c3db7aecca"), looks := false }, kinds := [], alts := [], laidByText := true, laidKinds := [.data, .data, .data, .data], laidTests := true, laidLooks := .later }
def MerklePeaksGrowCardSaid : Prop := Claim7.holds Tryd.pinned (.plain (OpenSpec.ofChange merklePeaksGrowSpec)) merklePeaksGrowCard

/-- THE TIED CARD OF 'quietuslaw03.MerkleProofsBind'. -/
def merkleProofsBindCard : Claim7 := { stood := { row := merkleProofsBindRow, standIns := [], harness := (true, "0614c71abe369dc6a8480b1c2d6aea5118600c5f92bc14f7b65908c3db7aecca"), looks := false }, kinds := [], alts := [], laidByText := true, laidKinds := [.data, .data, .data, .data], laidTests := true, laidLooks := .later }
def MerkleProofsBindCardSaid : Prop := Claim7.holds Tryd.pinned (.plain (OpenSpec.ofChange merkleProofsBindSpec)) merkleProofsBindCard

/-- THE SECOND FORM's CARD OF 'quietuslaw02.HashSumMatchesSpec'. -/
def hashSumMatchesSpecUptoCard : Claim7 := { stood := { row := hashSumMatchesSpecUptoRow, standIns := [], harness := (true, "0614c71abe369dc6a8480b1c2d6aea5118600c5f92bc14f7b65908c3db7aecca"), looks := false }, kinds := [], alts := [], laidByText := true, laidKinds := [.data, .data], laidTests := true, laidLooks := .later }
def HashSumMatchesSpecUptoCardSaid : Prop := Claim7.holds Tryd.pinned (.plain (OpenSpec.upto hashSumMatchesSpecSpec)) hashSumMatchesSpecUptoCard

/-- THE SECOND FORM's CARD OF 'quietuslaw02.HashOfMatchesSpec'. -/
def hashOfMatchesSpecUptoCard : Claim7 := { stood := { row := hashOfMatchesSpecUptoRow, standIns := [], harness := (true, "0614c71abe369dc6a8480b1c2d6aea5118600c5f92bc14f7b65908c3db7aecca"), looks := false }, kinds := [], alts := [], laidByText := true, laidKinds := [.data, .data], laidTests := true, laidLooks := .later }
def HashOfMatchesSpecUptoCardSaid : Prop := Claim7.holds Tryd.pinned (.plain (OpenSpec.upto hashOfMatchesSpecSpec)) hashOfMatchesSpecUptoCard

/-- THE SECOND FORM's CARD OF 'quietuslaw02.HashHmacMatchesSpec'. -/
def hashHmacMatchesSpecUptoCard : Claim7 := { stood := { row := hashHmacMatchesSpecUptoRow, standIns := [], harness := (true, "0614c71abe369dc6a8480b1c2d6aea5118600c5f92bc14f7b65908c3db7aecca"), looks := false }, kinds := [], alts := [], laidByText := true, laidKinds := [.data, .data], laidTests := true, laidLooks := .later }
def HashHmacMatchesSpecUptoCardSaid : Prop := Claim7.holds Tryd.pinned (.plain (OpenSpec.upto hashHmacMatchesSpecSpec)) hashHmacMatchesSpecUptoCard

/-- THE SECOND FORM's CARD OF 'quietuslaw02.HashMacMatchesSpec'. -/
def hashMacMatchesSpecUptoCard : Claim7 := { stood := { row := hashMacMatchesSpecUptoRow, standIns := [], harness := (true, "0614c71abe369dc6a8480b1c2d6aea5118600c5f92bc14f7b65908c3db7aecca"), looks := false }, kinds := [], alts := [], laidByText := true, laidKinds := [.data, .data], laidTests := true, laidLooks := .later }
def HashMacMatchesSpecUptoCardSaid : Prop := Claim7.holds Tryd.pinned (.plain (OpenSpec.upto hashMacMatchesSpecSpec)) hashMacMatchesSpecUptoCard

/-- THE SECOND FORM's CARD OF 'quietuslaw02.HashExpandMatchesSpec'. -/
def hashExpandMatchesSpecUptoCard : Claim7 := { stood := { row := hashExpandMatchesSpecUptoRow, standIns := [], harness := (true, "0614c71abe369dc6a8480b1c2d6aea5118600c5f92bc14f7b65908c3db7aecca"), looks := false }, kinds := [], alts := [], laidByText := true, laidKinds := [.data, .data], laidTests := true, laidLooks := .later }
def HashExpandMatchesSpecUptoCardSaid : Prop := Claim7.holds Tryd.pinned (.plain (OpenSpec.upto hashExpandMatchesSpecSpec)) hashExpandMatchesSpecUptoCard

/-- THE SECOND FORM's CARD OF 'quietuslaw03.MerkleProofsMatchSpec'. -/
def merkleProofsMatchSpecUptoCard : Claim7 := { stood := { row := merkleProofsMatchSpecUptoRow, standIns := [], harness := (true, "0614c71abe369dc6a8480b1c2d6aea5118600c5f92bc14f7b65908c3db7aecca"), looks := false }, kinds := [], alts := [], laidByText := true, laidKinds := [.data, .data, .data, .data], laidTests := true, laidLooks := .later }
def MerkleProofsMatchSpecUptoCardSaid : Prop := Claim7.holds Tryd.pinned (.plain (OpenSpec.upto merkleProofsMatchSpecSpec)) merkleProofsMatchSpecUptoCard

/-- THE SECOND FORM's CARD OF 'quietuslaw03.MerkleManyAsSpecified'. -/
def merkleManyAsSpecifiedUptoCard : Claim7 := { stood := { row := merkleManyAsSpecifiedUptoRow, standIns := [], harness := (true, "0614c71abe369dc6a8480b1c2d6aea5118600c5f92bc14f7b65908c3db7aecca"), looks := false }, kinds := [], alts := [], laidByText := true, laidKinds := [.data, .data, .data, .data], laidTests := true, laidLooks := .later }
def MerkleManyAsSpecifiedUptoCardSaid : Prop := Claim7.holds Tryd.pinned (.plain (OpenSpec.upto merkleManyAsSpecifiedSpec)) merkleManyAsSpecifiedUptoCard

/-- THE SECOND FORM's CARD OF 'quietuslaw03.MerklePeaksMatchSpec'. -/
def merklePeaksMatchSpecUptoCard : Claim7 := { stood := { row := merklePeaksMatchSpecUptoRow, standIns := [], harness := (true, "0614c71abe369dc6a8480b1c2d6aea5118600c5f92bc14f7b65908c3db7aecca"), looks := false }, kinds := [], alts := [], laidByText := true, laidKinds := [.data, .data, .data, .data], laidTests := true, laidLooks := .later }
def MerklePeaksMatchSpecUptoCardSaid : Prop := Claim7.holds Tryd.pinned (.plain (OpenSpec.upto merklePeaksMatchSpecSpec)) merklePeaksMatchSpecUptoCard

/-- THE SECOND FORM's CARD OF 'quietuslaw03.MerkleProofsAreAccepted'. -/
def merkleProofsAreAcceptedUptoCard : Claim7 := { stood := { row := merkleProofsAreAcceptedUptoRow, standIns := [], harness := (true, "0614c71abe369dc6a8480b1c2d6aea5118600c5f92bc14f7b65908c3db7aecca"), looks := false }, kinds := [], alts := [], laidByText := true, laidKinds := [.data, .data, .data, .data], laidTests := true, laidLooks := .later }
def MerkleProofsAreAcceptedUptoCardSaid : Prop := Claim7.holds Tryd.pinned (.plain (OpenSpec.upto merkleProofsAreAcceptedSpec)) merkleProofsAreAcceptedUptoCard

/-- THE SECOND FORM's CARD OF 'quietuslaw03.MerklePeaksGrow'. -/
def merklePeaksGrowUptoCard : Claim7 := { stood := { row := merklePeaksGrowUptoRow, standIns := [], harness := (true, "0614c71abe369dc6a8480b1c2d6aea5118600c5f92bc14f7b65908c3db7aecca"), looks := false }, kinds := [], alts := [], laidByText := true, laidKinds := [.data, .data, .data, .data], laidTests := true, laidLooks := .later }
def MerklePeaksGrowUptoCardSaid : Prop := Claim7.holds Tryd.pinned (.plain (OpenSpec.upto merklePeaksGrowSpec)) merklePeaksGrowUptoCard

/-- THE SECOND FORM's CARD OF 'quietuslaw03.MerkleProofsBind'. -/
def merkleProofsBindUptoCard : Claim7 := { stood := { row := merkleProofsBindUptoRow, standIns := [], harness := (true, "0614c71abe369dc6a8480b1c2d6aea5118600c5f92bc14f7b65908c3db7aecca"), looks := false }, kinds := [], alts := [], laidByText := true, laidKinds := [.data, .data, .data, .data], laidTests := true, laidLooks := .later }
def MerkleProofsBindUptoCardSaid : Prop := Claim7.holds Tryd.pinned (.plain (OpenSpec.upto merkleProofsBindSpec)) merkleProofsBindUptoCard
end Rows
end Go.Proofs.YtedhjjlnionckaaDoor
