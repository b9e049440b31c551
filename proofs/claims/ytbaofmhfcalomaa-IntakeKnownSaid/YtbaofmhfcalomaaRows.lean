/-
  No cell of these rows narrows 'for every input' (looked for: loops, veiled, ifaces, maps, wideKeys, modest, calm, conditions, laid).
  DERIVED. THE GIVEN ROWS OF THIS SEAT. 6 by the template 'for every input the law returns true; each argument reads behind the call as it read before'; 0 by the template 'total and deterministic' (their statements: YtbaofmhfcalomaaTotals.lean).
  GIVEN WITH THE SEED: the statements are not yours to turn. If you find one false, say at which input.
  Laid BY PROGRAM, IN A SANDBOX (cutbox-rows.mjs): the forced cells as the released guide's own fill.sh prints them over the translation 560e7b7224cc9fb4… (all of the seat's roots in one cut). By AI agents, Wed Nov 11 2026. No macro, syntax, notation, axiom, sorry.
-/
import Derived.Test.YtbaofmhfcalomaaChecked
import GoSem.Claim
import GoSem.ClaimJoined
import GoSem.ClaimMapViews
import Derived.JoinedTies
import Derived.KernelRfl
namespace Go.Proofs.Ytbaofmhfcalomaa
/- THE CELL 'sum', in the pinned program and in every row, IS THE sha256 OF THE DUMP (.gsa) THAT YtbaofmhfcalomaaProg.lean LOADS. Nothing in Lean hashes anything: it is a label: what it is worth is what the hold of that sum in a sandbox is worth. -/
noncomputable def Try.pinned : Pinned := { name := "ytbaofmhfcalomaa", sum := "560e7b7224cc9fb478311bdec86db4407e6cbeaa4582b71117e42785d1431f1c", checked := Try.checked }
namespace Rows
def none {H : Type} : Left H := { results := [], args := [] }

/-- 'longwirelaw06.WindowPlays': WHATEVER THE INPUT: true; the input reads as it did. -/
def windowPlaysSpec : ChangeSpec := { name := "windowPlays", fn := fun _ => fun
  | [d1, d2, d3, d4] => { results := [.lit (.bool true)], args := [d1, d2, d3, d4] }
  | _ => none }
def windowPlaysRow : OpenClaim := { program := "ytbaofmhfcalomaa", sum := "560e7b7224cc9fb478311bdec86db4407e6cbeaa4582b71117e42785d1431f1c", func := "longwire/longwirelaw06.WindowPlays", spec := "windowPlays", inPlace := ["maps.clone"], unfollowed := true, recurses := true, apart := false }
def WindowPlaysSaid : Prop := windowPlaysRow.holds Try.pinned (OpenSpec.ofChange windowPlaysSpec)

/-- ITS FALSE NEIGHBOUR: 'it returns false'. Refute it at one input. -/
def windowPlaysWrong : ChangeSpec := { name := "windowPlays", fn := fun _ => fun
  | [d1, d2, d3, d4] => { results := [.lit (.bool false)], args := [d1, d2, d3, d4] }
  | _ => none }
def WindowPlaysWrongFalsely : Prop := windowPlaysRow.holds Try.pinned (OpenSpec.ofChange windowPlaysWrong)

/-- 'longwirelaw06.WindowKeeps': WHATEVER THE INPUT: true; the input reads as it did. -/
def windowKeepsSpec : ChangeSpec := { name := "windowKeeps", fn := fun _ => fun
  | [d1, d2] => { results := [.lit (.bool true)], args := [d1, d2] }
  | _ => none }
def windowKeepsRow : OpenClaim := { program := "ytbaofmhfcalomaa", sum := "560e7b7224cc9fb478311bdec86db4407e6cbeaa4582b71117e42785d1431f1c", func := "longwire/longwirelaw06.WindowKeeps", spec := "windowKeeps", unfollowed := true, recurses := true, apart := false }
def WindowKeepsSaid : Prop := windowKeepsRow.holds Try.pinned (OpenSpec.ofChange windowKeepsSpec)

/-- ITS FALSE NEIGHBOUR: 'it returns false'. Refute it at one input. -/
def windowKeepsWrong : ChangeSpec := { name := "windowKeeps", fn := fun _ => fun
  | [d1, d2] => { results := [.lit (.bool false)], args := [d1, d2] }
  | _ => none }
def WindowKeepsWrongFalsely : Prop := windowKeepsRow.holds Try.pinned (OpenSpec.ofChange windowKeepsWrong)

/-- 'longwirelaw07.IntakeTakes': WHATEVER THE INPUT: true; the input reads as it did. -/
def intakeTakesSpec : ChangeSpec := { name := "intakeTakes", fn := fun _ => fun
  | [d] => { results := [.lit (.bool true)], args := [d] }
  | _ => none }
def intakeTakesRow : OpenClaim := { program := "ytbaofmhfcalomaa", sum := "560e7b7224cc9fb478311bdec86db4407e6cbeaa4582b71117e42785d1431f1c", func := "longwire/longwirelaw07.IntakeTakes", spec := "intakeTakes", inPlace := ["maps.clone"], unfollowed := true, recurses := true, apart := false }
def IntakeTakesSaid : Prop := intakeTakesRow.holds Try.pinned (OpenSpec.ofChange intakeTakesSpec)

/-- ITS FALSE NEIGHBOUR: 'it returns false'. Refute it at one input. -/
def intakeTakesWrong : ChangeSpec := { name := "intakeTakes", fn := fun _ => fun
  | [d] => { results := [.lit (.bool false)], args := [d] }
  | _ => none }
def IntakeTakesWrongFalsely : Prop := intakeTakesRow.holds Try.pinned (OpenSpec.ofChange intakeTakesWrong)

/-- 'longwirelaw07.IntakeOrder': WHATEVER THE INPUT: true; the input reads as it did. -/
def intakeOrderSpec : ChangeSpec := { name := "intakeOrder", fn := fun _ => fun
  | [d] => { results := [.lit (.bool true)], args := [d] }
  | _ => none }
def intakeOrderRow : OpenClaim := { program := "ytbaofmhfcalomaa", sum := "560e7b7224cc9fb478311bdec86db4407e6cbeaa4582b71117e42785d1431f1c", func := "longwire/longwirelaw07.IntakeOrder", spec := "intakeOrder", inPlace := ["internal/bytealg.MakeNoZero"], unfollowed := true, recurses := true, apart := false }
def IntakeOrderSaid : Prop := intakeOrderRow.holds Try.pinned (OpenSpec.ofChange intakeOrderSpec)

/-- ITS FALSE NEIGHBOUR: 'it returns false'. Refute it at one input. -/
def intakeOrderWrong : ChangeSpec := { name := "intakeOrder", fn := fun _ => fun
  | [d] => { results := [.lit (.bool false)], args := [d] }
  | _ => none }
def IntakeOrderWrongFalsely : Prop := intakeOrderRow.holds Try.pinned (OpenSpec.ofChange intakeOrderWrong)

/-- 'longwirelaw07.IntakeTold': WHATEVER THE INPUT: true; the input reads as it did. -/
def intakeToldSpec : ChangeSpec := { name := "intakeTold", fn := fun _ => fun
  | [d] => { results := [.lit (.bool true)], args := [d] }
  | _ => none }
def intakeToldRow : OpenClaim := { program := "ytbaofmhfcalomaa", sum := "560e7b7224cc9fb478311bdec86db4407e6cbeaa4582b71117e42785d1431f1c", func := "longwire/longwirelaw07.IntakeTold", spec := "intakeTold", inPlace := ["internal/bytealg.MakeNoZero"], unfollowed := true, recurses := true, apart := false }
def IntakeToldSaid : Prop := intakeToldRow.holds Try.pinned (OpenSpec.ofChange intakeToldSpec)

/-- ITS FALSE NEIGHBOUR: 'it returns false'. Refute it at one input. -/
def intakeToldWrong : ChangeSpec := { name := "intakeTold", fn := fun _ => fun
  | [d] => { results := [.lit (.bool false)], args := [d] }
  | _ => none }
def IntakeToldWrongFalsely : Prop := intakeToldRow.holds Try.pinned (OpenSpec.ofChange intakeToldWrong)

/-- 'longwirelaw07.IntakeKnown': WHATEVER THE INPUT: true; the input reads as it did. -/
def intakeKnownSpec : ChangeSpec := { name := "intakeKnown", fn := fun _ => fun
  | [] => { results := [.lit (.bool true)], args := [] }
  | _ => none }
def intakeKnownRow : OpenClaim := { program := "ytbaofmhfcalomaa", sum := "560e7b7224cc9fb478311bdec86db4407e6cbeaa4582b71117e42785d1431f1c", func := "longwire/longwirelaw07.IntakeKnown", spec := "intakeKnown", inPlace := ["maps.clone"], unfollowed := true, recurses := true, apart := false }
def IntakeKnownSaid : Prop := intakeKnownRow.holds Try.pinned (OpenSpec.ofChange intakeKnownSpec)

/-- ITS FALSE NEIGHBOUR: 'it returns false'. Refute it at one input. -/
def intakeKnownWrong : ChangeSpec := { name := "intakeKnown", fn := fun _ => fun
  | [] => { results := [.lit (.bool false)], args := [] }
  | _ => none }
def IntakeKnownWrongFalsely : Prop := intakeKnownRow.holds Try.pinned (OpenSpec.ofChange intakeKnownWrong)

/- THE SECOND FORM. 'bulk': how many values and letters a reading holds, each counted each time it is reached (what is shared counts as often as it is met; a slice's spare places count too). A statement '..UptoSaid' is the law's where the arguments, and the package variables that the reading takes, are together of bulk at most 1048576: NARROWER than '..Said'. Prove '..Said' where nothing that the law and all that it calls make is longer than what came in: it says more and counts as full. Else prove '..UptoSaid'. A law counts once. -/
mutual
def uptoBulk {H : Type} : DataW H → Nat
  | .lit (.string bytes) => bytes.length + 1
  | .lit _ => 1
  | .nil => 1
  | .ptr d => uptoBulk d + 1
  | .slice elems spare => uptoBulkAll elems + uptoBulkAll spare + 1
  | .agg parts => uptoBulkAll parts + 1
  | .iface _ d => uptoBulk d + 1
  | .map entries => uptoBulkEntries entries + 1
  | .held _ => 1
def uptoBulkAll {H : Type} : List (DataW H) → Nat
  | [] => 0
  | d :: r => uptoBulk d + uptoBulkAll r
def uptoBulkEntries {H : Type} : List (Lit × DataW H) → Nat
  | [] => 0
  | x :: r => uptoBulkEntry x + uptoBulkEntries r
def uptoBulkEntry {H : Type} : Lit × DataW H → Nat
  | (.string bytes, d) => bytes.length + uptoBulk d + 1
  | (_, d) => uptoBulk d + 1
 end
def uptoSmall : (H : Type) → List (DataW H) → Bool := fun _ ds => decide (uptoBulkAll ds ≤ 1048576)
def OpenSpec.upto (s : _root_.Go.ChangeSpec) : _root_.Go.OpenSpec := { _root_.Go.OpenSpec.ofChange s with cond := some uptoSmall }

/-- 'longwirelaw06.WindowPlays', WHERE WHAT IT READS IS OF BULK AT MOST 1048576: true; the input reads as it did. -/
def windowPlaysUptoRow : OpenClaim := { program := "ytbaofmhfcalomaa", sum := "560e7b7224cc9fb478311bdec86db4407e6cbeaa4582b71117e42785d1431f1c", func := "longwire/longwirelaw06.WindowPlays", spec := "windowPlays", inPlace := ["maps.clone"], unfollowed := true, recurses := true, apart := false, narrowed := true }
def WindowPlaysUptoSaid : Prop := windowPlaysUptoRow.holds Try.pinned (OpenSpec.upto windowPlaysSpec)

/-- 'longwirelaw06.WindowKeeps', WHERE WHAT IT READS IS OF BULK AT MOST 1048576: true; the input reads as it did. -/
def windowKeepsUptoRow : OpenClaim := { program := "ytbaofmhfcalomaa", sum := "560e7b7224cc9fb478311bdec86db4407e6cbeaa4582b71117e42785d1431f1c", func := "longwire/longwirelaw06.WindowKeeps", spec := "windowKeeps", unfollowed := true, recurses := true, apart := false, narrowed := true }
def WindowKeepsUptoSaid : Prop := windowKeepsUptoRow.holds Try.pinned (OpenSpec.upto windowKeepsSpec)

/-- 'longwirelaw07.IntakeTakes', WHERE WHAT IT READS IS OF BULK AT MOST 1048576: true; the input reads as it did. -/
def intakeTakesUptoRow : OpenClaim := { program := "ytbaofmhfcalomaa", sum := "560e7b7224cc9fb478311bdec86db4407e6cbeaa4582b71117e42785d1431f1c", func := "longwire/longwirelaw07.IntakeTakes", spec := "intakeTakes", inPlace := ["maps.clone"], unfollowed := true, recurses := true, apart := false, narrowed := true }
def IntakeTakesUptoSaid : Prop := intakeTakesUptoRow.holds Try.pinned (OpenSpec.upto intakeTakesSpec)

/-- 'longwirelaw07.IntakeOrder', WHERE WHAT IT READS IS OF BULK AT MOST 1048576: true; the input reads as it did. -/
def intakeOrderUptoRow : OpenClaim := { program := "ytbaofmhfcalomaa", sum := "560e7b7224cc9fb478311bdec86db4407e6cbeaa4582b71117e42785d1431f1c", func := "longwire/longwirelaw07.IntakeOrder", spec := "intakeOrder", inPlace := ["internal/bytealg.MakeNoZero"], unfollowed := true, recurses := true, apart := false, narrowed := true }
def IntakeOrderUptoSaid : Prop := intakeOrderUptoRow.holds Try.pinned (OpenSpec.upto intakeOrderSpec)

/-- 'longwirelaw07.IntakeTold', WHERE WHAT IT READS IS OF BULK AT MOST 1048576: true; the input reads as it did. -/
def intakeToldUptoRow : OpenClaim := { program := "ytbaofmhfcalomaa", sum := "560e7b7224cc9fb478311bdec86db4407e6cbeaa4582b71117e42785d1431f1c", func := "longwire/longwirelaw07.IntakeTold", spec := "intakeTold", inPlace := ["internal/bytealg.MakeNoZero"], unfollowed := true, recurses := true, apart := false, narrowed := true }
def IntakeToldUptoSaid : Prop := intakeToldUptoRow.holds Try.pinned (OpenSpec.upto intakeToldSpec)

/-- 'longwirelaw07.IntakeKnown', WHERE WHAT IT READS IS OF BULK AT MOST 1048576: true; the input reads as it did. -/
def intakeKnownUptoRow : OpenClaim := { program := "ytbaofmhfcalomaa", sum := "560e7b7224cc9fb478311bdec86db4407e6cbeaa4582b71117e42785d1431f1c", func := "longwire/longwirelaw07.IntakeKnown", spec := "intakeKnown", inPlace := ["maps.clone"], unfollowed := true, recurses := true, apart := false, narrowed := true }
def IntakeKnownUptoSaid : Prop := intakeKnownUptoRow.holds Try.pinned (OpenSpec.upto intakeKnownSpec)

end Rows
end Go.Proofs.Ytbaofmhfcalomaa
