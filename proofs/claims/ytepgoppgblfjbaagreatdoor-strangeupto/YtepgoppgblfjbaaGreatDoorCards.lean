/-
  DERIVED. GIVEN WITH THE SEED: THE CARDS: each row of YtepgoppgblfjbaaGreatDoorRows.lean that lists a variable, with what it lists TIED to the program's text (the seventh form; the later family's looks); each row that meets fmt, with fmt's text TOLD by the authors' own Lean function (tested against real Go, not proved from fmt's source: count such statements apart). THE CARD IS WHAT COUNTS. Prove the row's statement (the work); the ties are given (YtepgoppgblfjbaaGreatDoorTie.lean); close each card by the builder's one call (the guide's Derived/Test/ToyasCard.lean, 'card_holds'). Laid BY PROGRAM, IN A SANDBOX (cutbox-door.mjs). By AI agents, Wed Nov 11 2026. No macro, syntax, notation, axiom, sorry.
-/
import Derived.Test.YtepgoppgblfjbaaGreatDoorRows
import GoSem.ClaimSeven
namespace Go.Proofs.YtepgoppgblfjbaaGreatDoor
namespace Rows

/-- THE TIED CARD OF 'braidlaw.Streams'. -/
def streamsCard : Claim7 := { stood := { row := streamsRow, standIns := [], harness := (true, "3ffb902cc267673ff7afacdf831eeea2525cecfa24b7b02629b6e6d28014c398"), looks := false }, kinds := [], alts := [], laidByText := true, laidKinds := [.data, .data, .data, .data, .data, .pinned], laidTests := true, laidLooks := .later }
def StreamsCardSaid : Prop := Claim7.holds Tryz.pinned (.plain (OpenSpec.ofChange streamsSpec)) streamsCard

/-- THE TIED CARD OF 'braidkeep.Cut'. -/
def cutCard : Claim7 := { stood := { row := cutRow, standIns := [], harness := (true, "3ffb902cc267673ff7afacdf831eeea2525cecfa24b7b02629b6e6d28014c398"), looks := false }, kinds := [], alts := [], laidByText := true, laidKinds := [.data, .data, .data, .data, .data, .pinned], laidTests := true, laidLooks := .later }
def CutCardSaid : Prop := Claim7.holds Tryz.pinned (.plain (OpenSpec.ofChange cutSpec)) cutCard

/-- THE TIED CARD OF 'braidlaw.Imports'. -/
def importsCard : Claim7 := { stood := { row := importsRow, standIns := [], harness := (true, "3ffb902cc267673ff7afacdf831eeea2525cecfa24b7b02629b6e6d28014c398"), looks := false }, kinds := [], alts := [], laidByText := true, laidKinds := [.data, .data, .data, .data, .data, .pinned], laidTests := true, laidLooks := .later }
def ImportsCardSaid : Prop := Claim7.holds Tryz.pinned (.plain (OpenSpec.ofChange importsSpec)) importsCard

/-- THE TIED CARD OF 'braidkeep.Followed'. -/
def followedCard : Claim7 := { stood := { row := followedRow, standIns := [], harness := (true, "3ffb902cc267673ff7afacdf831eeea2525cecfa24b7b02629b6e6d28014c398"), looks := false }, kinds := [], alts := [], laidByText := true, laidKinds := [.data, .data, .data, .data, .data, .pinned], laidTests := true, laidLooks := .later }
def FollowedCardSaid : Prop := Claim7.holds Tryz.pinned (.plain (OpenSpec.ofChange followedSpec)) followedCard

/-- THE TIED CARD OF 'braidkeep.Merkle'. -/
def merkleCard : Claim7 := { stood := { row := merkleRow, standIns := [], harness := (true, "3ffb902cc267673ff7afacdf831eeea2525cecfa24b7b02629b6e6d28014c398"), looks := false }, kinds := [], alts := [], laidByText := true, laidKinds := [.data, .data, .data, .data, .data, .pinned], laidTests := true, laidLooks := .later }
def MerkleCardSaid : Prop := Claim7.holds Tryz.pinned (.plain (OpenSpec.ofChange merkleSpec)) merkleCard

/-- THE TIED CARD OF 'braidkeep.Linked'. -/
def linkedCard : Claim7 := { stood := { row := linkedRow, standIns := [], harness := (true, "3ffb902cc267673ff7afacdf831eeea2525cecfa24b7b02629b6e6d28014c398"), looks := false }, kinds := [], alts := [], laidByText := true, laidKinds := [.data, .data, .data, .data, .data, .pinned], laidTests := true, laidLooks := .later }
def LinkedCardSaid : Prop := Claim7.holds Tryz.pinned (.plain (OpenSpec.ofChange linkedSpec)) linkedCard

/-- THE TIED CARD OF 'braidlaw.Opens'. -/
def opensCard : Claim7 := { stood := { row := opensRow, standIns := [], harness := (true, "3ffb902cc267673ff7afacdf831eeea2525cecfa24b7b02629b6e6d28014c398"), looks := false }, kinds := [], alts := [], laidByText := true, laidKinds := [.data, .data, .data, .data, .data, .pinned], laidTests := true, laidLooks := .later }
def OpensCardSaid : Prop := Claim7.holds Tryz.pinned (.plain (OpenSpec.ofChange opensSpec)) opensCard

/-- THE TIED CARD OF 'braidkeep.Torn'. -/
def tornCard : Claim7 := { stood := { row := tornRow, standIns := [], harness := (true, "3ffb902cc267673ff7afacdf831eeea2525cecfa24b7b02629b6e6d28014c398"), looks := false }, kinds := [], alts := [], laidByText := true, laidKinds := [.data, .data, .data, .data, .data, .pinned], laidTests := true, laidLooks := .later }
def TornCardSaid : Prop := Claim7.holds Tryz.pinned (.plain (OpenSpec.ofChange tornSpec)) tornCard

/-- THE TIED CARD OF 'braidkeep.Strange'. -/
def strangeCard : Claim7 := { stood := { row := strangeRow, standIns := [], harness := (true, "3ffb902cc267673ff7afacdf831eeea2525cecfa24b7b02629b6e6d28014c398"), looks := false }, kinds := [], alts := [], laidByText := true, laidKinds := [.data, .data, .data, .data, .data, .pinned], laidTests := true, laidLooks := .later }
def StrangeCardSaid : Prop := Claim7.holds Tryz.pinned (.plain (OpenSpec.ofChange strangeSpec)) strangeCard

/-- THE TIED CARD OF 'braidkeep.Returned'. -/
def returnedCard : Claim7 := { stood := { row := returnedRow, standIns := [], harness := (true, "3ffb902cc267673ff7afacdf831eeea2525cecfa24b7b02629b6e6d28014c398"), looks := false }, kinds := [], alts := [], laidByText := true, laidKinds := [.data, .data, .data, .data, .data, .pinned], laidTests := true, laidLooks := .later }
def ReturnedCardSaid : Prop := Claim7.holds Tryz.pinned (.plain (OpenSpec.ofChange returnedSpec)) returnedCard

/-- THE TIED CARD OF 'braidkeep.Ruled'. -/
def ruledCard : Claim7 := { stood := { row := ruledRow, standIns := [], harness := (true, "3ffb902cc267673ff7afacdf831eeea2525cecfa24b7b02629b6e6d28014c398"), looks := false }, kinds := [], alts := [], laidByText := true, laidKinds := [.data, .data, .data, .data, .data, .pinned], laidTests := true, laidLooks := .later }
def RuledCardSaid : Prop := Claim7.holds Tryz.pinned (.plain (OpenSpec.ofChange ruledSpec)) ruledCard

/-- THE TIED CARD OF 'braidlaw.All'. -/
def allCard : Claim7 := { stood := { row := allRow, standIns := [], harness := (true, "3ffb902cc267673ff7afacdf831eeea2525cecfa24b7b02629b6e6d28014c398"), looks := false }, kinds := [], alts := [], laidByText := true, laidKinds := [.data, .data, .data, .data, .data, .pinned], laidTests := true, laidLooks := .later }
def AllCardSaid : Prop := Claim7.holds Tryz.pinned (.plain (OpenSpec.ofChange allSpec)) allCard

/-- THE SECOND FORM's CARD OF 'braidlaw.Streams'. -/
def streamsUptoCard : Claim7 := { stood := { row := streamsUptoRow, standIns := [], harness := (true, "3ffb902cc267673ff7afacdf831eeea2525cecfa24b7b02629b6e6d28014c398"), looks := false }, kinds := [], alts := [], laidByText := true, laidKinds := [.data, .data, .data, .data, .data, .pinned], laidTests := true, laidLooks := .later }
def StreamsUptoCardSaid : Prop := Claim7.holds Tryz.pinned (.plain (OpenSpec.upto streamsSpec)) streamsUptoCard

/-- THE SECOND FORM's CARD OF 'braidkeep.Cut'. -/
def cutUptoCard : Claim7 := { stood := { row := cutUptoRow, standIns := [], harness := (true, "3ffb902cc267673ff7afacdf831eeea2525cecfa24b7b02629b6e6d28014c398"), looks := false }, kinds := [], alts := [], laidByText := true, laidKinds := [.data, .data, .data, .data, .data, .pinned], laidTests := true, laidLooks := .later }
def CutUptoCardSaid : Prop := Claim7.holds Tryz.pinned (.plain (OpenSpec.upto cutSpec)) cutUptoCard

/-- THE SECOND FORM's CARD OF 'braidlaw.Imports'. -/
def importsUptoCard : Claim7 := { stood := { row := importsUptoRow, standIns := [], harness := (true, "3ffb902cc267673ff7afacdf831eeea2525cecfa24b7b02629b6e6d28014c398"), looks := false }, kinds := [], alts := [], laidByText := true, laidKinds := [.data, .data, .data, .data, .data, .pinned], laidTests := true, laidLooks := .later }
def ImportsUptoCardSaid : Prop := Claim7.holds Tryz.pinned (.plain (OpenSpec.upto importsSpec)) importsUptoCard

/-- THE SECOND FORM's CARD OF 'braidkeep.Followed'. -/
def followedUptoCard : Claim7 := { stood := { row := followedUptoRow, standIns := [], harness := (true, "3ffb902cc267673ff7afacdf831eeea2525cecfa24b7b02629b6e6d28014c398"), looks := false }, kinds := [], alts := [], laidByText := true, laidKinds := [.data, .data, .data, .data, .data, .pinned], laidTests := true, laidLooks := .later }
def FollowedUptoCardSaid : Prop := Claim7.holds Tryz.pinned (.plain (OpenSpec.upto followedSpec)) followedUptoCard

/-- THE SECOND FORM's CARD OF 'braidkeep.Merkle'. -/
def merkleUptoCard : Claim7 := { stood := { row := merkleUptoRow, standIns := [], harness := (true, "3ffb902cc267673ff7afacdf831eeea2525cecfa24b7b02629b6e6d28014c398"), looks := false }, kinds := [], alts := [], laidByText := true, laidKinds := [.data, .data, .data, .data, .data, .pinned], laidTests := true, laidLooks := .later }
def MerkleUptoCardSaid : Prop := Claim7.holds Tryz.pinned (.plain (OpenSpec.upto merkleSpec)) merkleUptoCard

/-- THE SECOND FORM's CARD OF 'braidkeep.Linked'. -/
def linkedUptoCard : Claim7 := { stood := { row := linkedUptoRow, standIns := [], harness := (true, "3ffb902cc267673ff7afacdf831eeea2525cecfa24b7b02629b6e6d28014c398"), looks := false }, kinds := [], alts := [], laidByText := true, laidKinds := [.data, .data, .data, .data, .data, .pinned], laidTests := true, laidLooks := .later }
def LinkedUptoCardSaid : Prop := Claim7.holds Tryz.pinned (.plain (OpenSpec.upto linkedSpec)) linkedUptoCard

/-- THE SECOND FORM's CARD OF 'braidlaw.Opens'. -/
def opensUptoCard : Claim7 := { stood := { row := opensUptoRow, standIns := [], harness := (true, "3ffb902cc267673ff7afacdf831eeea2525cecfa24b7b02629b6e6d28014c398"), looks := false }, kinds := [], alts := [], laidByText := true, laidKinds := [.data, .data, .data, .data, .data, .pinned], laidTests := true, laidLooks := .later }
def OpensUptoCardSaid : Prop := Claim7.holds Tryz.pinned (.plain (OpenSpec.upto opensSpec)) opensUptoCard

/-- THE SECOND FORM's CARD OF 'braidkeep.Torn'. -/
def tornUptoCard : Claim7 := { stood := { row := tornUptoRow, standIns := [], harness := (true, "3ffb902cc267673ff7afacdf831eeea2525cecfa24b7b02629b6e6d28014c398"), looks := false }, kinds := [], alts := [], laidByText := true, laidKinds := [.data, .data, .data, .data, .data, .pinned], laidTests := true, laidLooks := .later }
def TornUptoCardSaid : Prop := Claim7.holds Tryz.pinned (.plain (OpenSpec.upto tornSpec)) tornUptoCard

/-- THE SECOND FORM's CARD OF 'braidkeep.Strange'. -/
def strangeUptoCard : Claim7 := { stood := { row := strangeUptoRow, standIns := [], harness := (true, "3ffb902cc267673ff7afacdf831eeea2525cecfa24b7b02629b6e6d28014c398"), looks := false }, kinds := [], alts := [], laidByText := true, laidKinds := [.data, .data, .data, .data, .data, .pinned], laidTests := true, laidLooks := .later }
def StrangeUptoCardSaid : Prop := Claim7.holds Tryz.pinned (.plain (OpenSpec.upto strangeSpec)) strangeUptoCard

/-- THE SECOND FORM's CARD OF 'braidkeep.Returned'. -/
def returnedUptoCard : Claim7 := { stood := { row := returnedUptoRow, standIns := [], harness := (true, "3ffb902cc267673ff7afacdf831eeea2525cecfa24b7b02629b6e6d28014c398"), looks := false }, kinds := [], alts := [], laidByText := true, laidKinds := [.data, .data, .data, .data, .data, .pinned], laidTests := true, laidLooks := .later }
def ReturnedUptoCardSaid : Prop := Claim7.holds Tryz.pinned (.plain (OpenSpec.upto returnedSpec)) returnedUptoCard

/-- THE SECOND FORM's CARD OF 'braidkeep.Ruled'. -/
def ruledUptoCard : Claim7 := { stood := { row := ruledUptoRow, standIns := [], harness := (true, "3ffb902cc267673ff7afacdf831eeea2525cecfa24b7b02629b6e6d28014c398"), looks := false }, kinds := [], alts := [], laidByText := true, laidKinds := [.data, .data, .data, .data, .data, .pinned], laidTests := true, laidLooks := .later }
def RuledUptoCardSaid : Prop := Claim7.holds Tryz.pinned (.plain (OpenSpec.upto ruledSpec)) ruledUptoCard

/-- THE SECOND FORM's CARD OF 'braidlaw.All'. -/
def allUptoCard : Claim7 := { stood := { row := allUptoRow, standIns := [], harness := (true, "3ffb902cc267673ff7afacdf831eeea2525cecfa24b7b02629b6e6d28014c398"), looks := false }, kinds := [], alts := [], laidByText := true, laidKinds := [.data, .data, .data, .data, .data, .pinned], laidTests := true, laidLooks := .later }
def AllUptoCardSaid : Prop := Claim7.holds Tryz.pinned (.plain (OpenSpec.upto allSpec)) allUptoCard
end Rows
end Go.Proofs.YtepgoppgblfjbaaGreatDoor
