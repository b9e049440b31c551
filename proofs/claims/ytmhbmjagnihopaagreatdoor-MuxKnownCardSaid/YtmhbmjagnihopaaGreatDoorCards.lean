/-
  DERIVED. GIVEN WITH THE SEED: THE CARDS: each row of YtmhbmjagnihopaaGreatDoorRows.lean that lists a variable, with what it lists TIED to the program's text (the seventh form; the later family's looks); each row that meets fmt, with fmt's text TOLD by the authors' own Lean function (tested against real Go, not proved from fmt's source: count such statements apart). THE CARD IS WHAT COUNTS. Prove the row's statement (the work); the ties are given (YtmhbmjagnihopaaGreatDoorTie.lean); close each card by the builder's one call (the guide's Derived/Test/ToyasCard.lean, 'card_holds'). Laid BY PROGRAM, IN A SANDBOX (cutbox-door.mjs). By AI agents, Wed Nov 11 2026. No macro, syntax, notation, axiom, sorry.
-/
import Derived.Test.YtmhbmjagnihopaaGreatDoorRows
import GoSem.ClaimSeven
namespace Go.Proofs.YtmhbmjagnihopaaGreatDoor
namespace Rows

/-- THE TIED CARD OF 'longwirelaw10.MuxWhole'. -/
def muxWholeCard : Claim7 := { stood := { row := muxWholeRow, standIns := [], harness := (true, "350e0f9f4b88de83094b9ec5d6494338d433de343a82a56dc97a3e89931e6492"), looks := true }, kinds := [], alts := [], laidByText := true, laidKinds := [.data], laidTests := true, laidLooks := .later }
def MuxWholeCardSaid : Prop := Claim7.holds Tryz.pinned (.plain (OpenSpec.ofChange muxWholeSpec)) muxWholeCard

/-- THE TIED CARD OF 'longwirelaw10.MuxKnown'. -/
def muxKnownCard : Claim7 := { stood := { row := muxKnownRow, standIns := [], harness := (true, "350e0f9f4b88de83094b9ec5d6494338d433de343a82a56dc97a3e89931e6492"), looks := true }, kinds := [], alts := [], laidByText := true, laidKinds := [.data], laidTests := true, laidLooks := .later }
def MuxKnownCardSaid : Prop := Claim7.holds Tryz.pinned (.plain (OpenSpec.ofChange muxKnownSpec)) muxKnownCard

/-- THE SECOND FORM's CARD OF 'longwirelaw10.MuxWhole'. -/
def muxWholeUptoCard : Claim7 := { stood := { row := muxWholeUptoRow, standIns := [], harness := (true, "350e0f9f4b88de83094b9ec5d6494338d433de343a82a56dc97a3e89931e6492"), looks := true }, kinds := [], alts := [], laidByText := true, laidKinds := [.data], laidTests := true, laidLooks := .later }
def MuxWholeUptoCardSaid : Prop := Claim7.holds Tryz.pinned (.plain (OpenSpec.upto muxWholeSpec)) muxWholeUptoCard

/-- THE SECOND FORM's CARD OF 'longwirelaw10.MuxKnown'. -/
def muxKnownUptoCard : Claim7 := { stood := { row := muxKnownUptoRow, standIns := [], harness := (true, "350e0f9f4b88de83094b9ec5d6494338d433de343a82a56dc97a3e89931e6492"), looks := true }, kinds := [], alts := [], laidByText := true, laidKinds := [.data], laidTests := true, laidLooks := .later }
def MuxKnownUptoCardSaid : Prop := Claim7.holds Tryz.pinned (.plain (OpenSpec.upto muxKnownSpec)) muxKnownUptoCard
end Rows
end Go.Proofs.YtmhbmjagnihopaaGreatDoor
