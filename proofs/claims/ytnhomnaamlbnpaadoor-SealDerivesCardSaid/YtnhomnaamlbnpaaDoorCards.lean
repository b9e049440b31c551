/-
  DERIVED. GIVEN WITH THE SEED: THE CARDS: each row of YtnhomnaamlbnpaaDoorRows.lean that lists a variable, with what it lists TIED to the program's text (the seventh form; the later family's looks); each row that meets fmt, with fmt's text TOLD by the authors' own Lean function (tested against real Go, not proved from fmt's source: count such statements apart). THE CARD IS WHAT COUNTS. Prove the row's statement (the work); the ties are given (YtnhomnaamlbnpaaDoorTie.lean); close each card by the builder's one call (the guide's Derived/Test/ToyasCard.lean, 'card_holds'). Laid BY PROGRAM, IN A SANDBOX (cutbox-door.mjs). By AI agents, Wed Nov 11 2026. No macro, syntax, notation, axiom, sorry.
-/
import Derived.Test.YtnhomnaamlbnpaaDoorRows
import GoSem.ClaimSeven
namespace Go.Proofs.YtnhomnaamlbnpaaDoor
namespace Rows

/-- THE TIED CARD OF 'longwirelaw03.SealDerives'. -/
def sealDerivesCard : Claim7 := { stood := { row := sealDerivesRow, standIns := [], harness := (true, "0acd7f875bed91a65c5e512a82a8a58845b7b79bae64ffce74d5ff9a1e4db252"), looks := false }, kinds := [], alts := [], laidByText := true, laidKinds := [.data, .widerDeep, .data], laidTests := true, laidLooks := .later }
def SealDerivesCardSaid : Prop := Claim7.holds Tryd.pinned (.plain (OpenSpec.ofChange sealDerivesSpec)) sealDerivesCard

/-- THE TIED CARD OF 'longwirelaw03.SealRings'. -/
def sealRingsCard : Claim7 := { stood := { row := sealRingsRow, standIns := [], harness := (true, "0acd7f875bed91a65c5e512a82a8a58845b7b79bae64ffce74d5ff9a1e4db252"), looks := false }, kinds := [], alts := [], laidByText := true, laidKinds := [.data, .widerDeep, .data], laidTests := true, laidLooks := .later }
def SealRingsCardSaid : Prop := Claim7.holds Tryd.pinned (.plain (OpenSpec.ofChange sealRingsSpec)) sealRingsCard

/-- THE TIED CARD OF 'longwirelaw03.SealApart'. -/
def sealApartCard : Claim7 := { stood := { row := sealApartRow, standIns := [], harness := (true, "0acd7f875bed91a65c5e512a82a8a58845b7b79bae64ffce74d5ff9a1e4db252"), looks := false }, kinds := [], alts := [], laidByText := true, laidKinds := [.data], laidTests := true, laidLooks := .later }
def SealApartCardSaid : Prop := Claim7.holds Tryd.pinned (.plain (OpenSpec.ofChange sealApartSpec)) sealApartCard

/-- THE TIED CARD OF 'longwirelaw03.SealWays'. -/
def sealWaysCard : Claim7 := { stood := { row := sealWaysRow, standIns := [], harness := (true, "0acd7f875bed91a65c5e512a82a8a58845b7b79bae64ffce74d5ff9a1e4db252"), looks := false }, kinds := [], alts := [], laidByText := true, laidKinds := [.data], laidTests := true, laidLooks := .later }
def SealWaysCardSaid : Prop := Claim7.holds Tryd.pinned (.plain (OpenSpec.ofChange sealWaysSpec)) sealWaysCard

/-- THE TIED CARD OF 'longwirelaw03.SealTags'. -/
def sealTagsCard : Claim7 := { stood := { row := sealTagsRow, standIns := [], harness := (true, "0acd7f875bed91a65c5e512a82a8a58845b7b79bae64ffce74d5ff9a1e4db252"), looks := false }, kinds := [], alts := [], laidByText := true, laidKinds := [.data], laidTests := true, laidLooks := .later }
def SealTagsCardSaid : Prop := Claim7.holds Tryd.pinned (.plain (OpenSpec.ofChange sealTagsSpec)) sealTagsCard

/-- THE TIED CARD OF 'longwirelaw02.HashTells'. -/
def hashTellsCard : Claim7 := { stood := { row := hashTellsRow, standIns := [], harness := (true, "0acd7f875bed91a65c5e512a82a8a58845b7b79bae64ffce74d5ff9a1e4db252"), looks := false }, kinds := [], alts := [], laidByText := true, laidKinds := [.data, .widerDeep, .data], laidTests := true, laidLooks := .later }
def HashTellsCardSaid : Prop := Claim7.holds Tryd.pinned (.plain (OpenSpec.ofChange hashTellsSpec)) hashTellsCard

/-- THE TIED CARD OF 'longwirelaw02.HashKnown'. -/
def hashKnownCard : Claim7 := { stood := { row := hashKnownRow, standIns := [], harness := (true, "0acd7f875bed91a65c5e512a82a8a58845b7b79bae64ffce74d5ff9a1e4db252"), looks := false }, kinds := [], alts := [], laidByText := true, laidKinds := [.data], laidTests := true, laidLooks := .later }
def HashKnownCardSaid : Prop := Claim7.holds Tryd.pinned (.plain (OpenSpec.ofChange hashKnownSpec)) hashKnownCard

/-- THE SECOND FORM's CARD OF 'longwirelaw03.SealDerives'. -/
def sealDerivesUptoCard : Claim7 := { stood := { row := sealDerivesUptoRow, standIns := [], harness := (true, "0acd7f875bed91a65c5e512a82a8a58845b7b79bae64ffce74d5ff9a1e4db252"), looks := false }, kinds := [], alts := [], laidByText := true, laidKinds := [.data, .widerDeep, .data], laidTests := true, laidLooks := .later }
def SealDerivesUptoCardSaid : Prop := Claim7.holds Tryd.pinned (.plain (OpenSpec.upto sealDerivesSpec)) sealDerivesUptoCard

/-- THE SECOND FORM's CARD OF 'longwirelaw03.SealRings'. -/
def sealRingsUptoCard : Claim7 := { stood := { row := sealRingsUptoRow, standIns := [], harness := (true, "0acd7f875bed91a65c5e512a82a8a58845b7b79bae64ffce74d5ff9a1e4db252"), looks := false }, kinds := [], alts := [], laidByText := true, laidKinds := [.data, .widerDeep, .data], laidTests := true, laidLooks := .later }
def SealRingsUptoCardSaid : Prop := Claim7.holds Tryd.pinned (.plain (OpenSpec.upto sealRingsSpec)) sealRingsUptoCard

/-- THE SECOND FORM's CARD OF 'longwirelaw03.SealApart'. -/
def sealApartUptoCard : Claim7 := { stood := { row := sealApartUptoRow, standIns := [], harness := (true, "0acd7f875bed91a65c5e512a82a8a58845b7b79bae64ffce74d5ff9a1e4db252"), looks := false }, kinds := [], alts := [], laidByText := true, laidKinds := [.data], laidTests := true, laidLooks := .later }
def SealApartUptoCardSaid : Prop := Claim7.holds Tryd.pinned (.plain (OpenSpec.upto sealApartSpec)) sealApartUptoCard

/-- THE SECOND FORM's CARD OF 'longwirelaw03.SealWays'. -/
def sealWaysUptoCard : Claim7 := { stood := { row := sealWaysUptoRow, standIns := [], harness := (true, "0acd7f875bed91a65c5e512a82a8a58845b7b79bae64ffce74d5ff9a1e4db252"), looks := false }, kinds := [], alts := [], laidByText := true, laidKinds := [.data], laidTests := true, laidLooks := .later }
def SealWaysUptoCardSaid : Prop := Claim7.holds Tryd.pinned (.plain (OpenSpec.upto sealWaysSpec)) sealWaysUptoCard

/-- THE SECOND FORM's CARD OF 'longwirelaw03.SealTags'. -/
def sealTagsUptoCard : Claim7 := { stood := { row := sealTagsUptoRow, standIns := [], harness := (true, "0acd7f875bed91a65c5e512a82a8a58845b7b79bae64ffce74d5ff9a1e4db252"), looks := false }, kinds := [], alts := [], laidByText := true, laidKinds := [.data], laidTests := true, laidLooks := .later }
def SealTagsUptoCardSaid : Prop := Claim7.holds Tryd.pinned (.plain (OpenSpec.upto sealTagsSpec)) sealTagsUptoCard

/-- THE SECOND FORM's CARD OF 'longwirelaw02.HashTells'. -/
def hashTellsUptoCard : Claim7 := { stood := { row := hashTellsUptoRow, standIns := [], harness := (true, "0acd7f875bed91a65c5e512a82a8a58845b7b79bae64ffce74d5ff9a1e4db252"), looks := false }, kinds := [], alts := [], laidByText := true, laidKinds := [.data, .widerDeep, .data], laidTests := true, laidLooks := .later }
def HashTellsUptoCardSaid : Prop := Claim7.holds Tryd.pinned (.plain (OpenSpec.upto hashTellsSpec)) hashTellsUptoCard

/-- THE SECOND FORM's CARD OF 'longwirelaw02.HashKnown'. -/
def hashKnownUptoCard : Claim7 := { stood := { row := hashKnownUptoRow, standIns := [], harness := (true, "0acd7f875bed91a65c5e512a82a8a58845b7b79bae64ffce74d5ff9a1e4db252"), looks := false }, kinds := [], alts := [], laidByText := true, laidKinds := [.data], laidTests := true, laidLooks := .later }
def HashKnownUptoCardSaid : Prop := Claim7.holds Tryd.pinned (.plain (OpenSpec.upto hashKnownSpec)) hashKnownUptoCard
end Rows
end Go.Proofs.YtnhomnaamlbnpaaDoor
