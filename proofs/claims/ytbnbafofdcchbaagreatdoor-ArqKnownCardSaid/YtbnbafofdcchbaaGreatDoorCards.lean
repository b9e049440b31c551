/-
  DERIVED. GIVEN WITH THE SEED: THE CARDS: each row of YtbnbafofdcchbaaGreatDoorRows.lean that lists a variable, with what it lists TIED to the program's text (the seventh form; the later family's looks); each row that meets fmt, with fmt's text TOLD by the authors' own Lean function (tested against real Go, not proved from fmt's source: count such statements apart). THE CARD IS WHAT COUNTS. Prove the row's statement (the work); the ties are given (YtbnbafofdcchbaaGreatDoorTie.lean); close each card by the builder's one call (the guide's Derived/Test/ToyasCard.lean, 'card_holds'). Laid BY PROGRAM, IN A SANDBOX (cutbox-door.mjs). By AI agents, Wed Nov 11 2026. No macro, syntax, notation, axiom, sorry.
-/
import Derived.Test.YtbnbafofdcchbaaGreatDoorRows
import GoSem.ClaimSeven
namespace Go.Proofs.YtbnbafofdcchbaaGreatDoor
namespace Rows

/-- THE TIED CARD OF 'longwirelaw08.ArqPlays'. -/
def arqPlaysCard : Claim7 := { stood := { row := arqPlaysRow, standIns := [], harness := (true, "05e749190e878bb967231cc9f2b76b4896e55e69931c2656f5de317436b04572"), looks := true }, kinds := [], alts := [], laidByText := true, laidKinds := [.data, .widerDeep, .data], laidTests := true, laidLooks := .later }
def ArqPlaysCardSaid : Prop := Claim7.holds Tryz.pinned (.plain (OpenSpec.ofChange arqPlaysSpec)) arqPlaysCard

/-- THE TIED CARD OF 'longwirelaw08.ArqOnce'. -/
def arqOnceCard : Claim7 := { stood := { row := arqOnceRow, standIns := [], harness := (true, "05e749190e878bb967231cc9f2b76b4896e55e69931c2656f5de317436b04572"), looks := true }, kinds := [], alts := [], laidByText := true, laidKinds := [.data], laidTests := true, laidLooks := .later }
def ArqOnceCardSaid : Prop := Claim7.holds Tryz.pinned (.plain (OpenSpec.ofChange arqOnceSpec)) arqOnceCard

/-- THE TIED CARD OF 'longwirelaw08.ArqRefuses'. -/
def arqRefusesCard : Claim7 := { stood := { row := arqRefusesRow, standIns := [], harness := (true, "05e749190e878bb967231cc9f2b76b4896e55e69931c2656f5de317436b04572"), looks := true }, kinds := [], alts := [], laidByText := true, laidKinds := [.data], laidTests := true, laidLooks := .later }
def ArqRefusesCardSaid : Prop := Claim7.holds Tryz.pinned (.plain (OpenSpec.ofChange arqRefusesSpec)) arqRefusesCard

/-- THE TIED CARD OF 'longwirelaw08.ArqKnown'. -/
def arqKnownCard : Claim7 := { stood := { row := arqKnownRow, standIns := [], harness := (true, "05e749190e878bb967231cc9f2b76b4896e55e69931c2656f5de317436b04572"), looks := true }, kinds := [], alts := [], laidByText := true, laidKinds := [.data], laidTests := true, laidLooks := .later }
def ArqKnownCardSaid : Prop := Claim7.holds Tryz.pinned (.plain (OpenSpec.ofChange arqKnownSpec)) arqKnownCard

/-- THE SECOND FORM's CARD OF 'longwirelaw08.ArqPlays'. -/
def arqPlaysUptoCard : Claim7 := { stood := { row := arqPlaysUptoRow, standIns := [], harness := (true, "05e749190e878bb967231cc9f2b76b4896e55e69931c2656f5de317436b04572"), looks := true }, kinds := [], alts := [], laidByText := true, laidKinds := [.data, .widerDeep, .data], laidTests := true, laidLooks := .later }
def ArqPlaysUptoCardSaid : Prop := Claim7.holds Tryz.pinned (.plain (OpenSpec.upto arqPlaysSpec)) arqPlaysUptoCard

/-- THE SECOND FORM's CARD OF 'longwirelaw08.ArqOnce'. -/
def arqOnceUptoCard : Claim7 := { stood := { row := arqOnceUptoRow, standIns := [], harness := (true, "05e749190e878bb967231cc9f2b76b4896e55e69931c2656f5de317436b04572"), looks := true }, kinds := [], alts := [], laidByText := true, laidKinds := [.data], laidTests := true, laidLooks := .later }
def ArqOnceUptoCardSaid : Prop := Claim7.holds Tryz.pinned (.plain (OpenSpec.upto arqOnceSpec)) arqOnceUptoCard

/-- THE SECOND FORM's CARD OF 'longwirelaw08.ArqRefuses'. -/
def arqRefusesUptoCard : Claim7 := { stood := { row := arqRefusesUptoRow, standIns := [], harness := (true, "05e749190e878bb967231cc9f2b76b4896e55e69931c2656f5de317436b04572"), looks := true }, kinds := [], alts := [], laidByText := true, laidKinds := [.data], laidTests := true, laidLooks := .later }
def ArqRefusesUptoCardSaid : Prop := Claim7.holds Tryz.pinned (.plain (OpenSpec.upto arqRefusesSpec)) arqRefusesUptoCard

/-- THE SECOND FORM's CARD OF 'longwirelaw08.ArqKnown'. -/
def arqKnownUptoCard : Claim7 := { stood := { row := arqKnownUptoRow, standIns := [], harness := (true, "05e749190e878bb967231cc9f2b76b4896e55e69931c2656f5de317436b04572"), looks := true }, kinds := [], alts := [], laidByText := true, laidKinds := [.data], laidTests := true, laidLooks := .later }
def ArqKnownUptoCardSaid : Prop := Claim7.holds Tryz.pinned (.plain (OpenSpec.upto arqKnownSpec)) arqKnownUptoCard
end Rows
end Go.Proofs.YtbnbafofdcchbaaGreatDoor
