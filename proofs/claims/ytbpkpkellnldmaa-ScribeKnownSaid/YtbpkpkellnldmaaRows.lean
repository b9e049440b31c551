/-
  No cell of these rows narrows 'for every input' (looked for: loops, veiled, ifaces, maps, wideKeys, modest, calm, conditions, laid).
  DERIVED. THE GIVEN ROWS OF THIS SEAT. 6 by the template 'for every input the law returns true; each argument reads behind the call as it read before'; 0 by the template 'total and deterministic' (their statements: YtbpkpkellnldmaaTotals.lean).
  GIVEN WITH THE SEED: the statements are not yours to turn. If you find one false, say at which input.
  Laid BY PROGRAM, IN A SANDBOX (cutbox-rows.mjs): the forced cells as the released guide's own fill.sh prints them over the translation c3e375996dd9a61b… (all of the seat's roots in one cut). By AI agents, Wed Nov 11 2026. No macro, syntax, notation, axiom, sorry.
-/
import Derived.Test.YtbpkpkellnldmaaChecked
import GoSem.Claim
import GoSem.ClaimJoined
import GoSem.ClaimMapViews
import Derived.JoinedTies
import Derived.KernelRfl
namespace Go.Proofs.Ytbpkpkellnldmaa
/- THE CELL 'sum', in the pinned program and in every row, IS THE sha256 OF THE DUMP (.gsa) THAT YtbpkpkellnldmaaProg.lean LOADS. Nothing in Lean hashes anything: it is a label: what it is worth is what the hold of that sum in a sandbox is worth. -/
noncomputable def Try.pinned : Pinned := { name := "ytbpkpkellnldmaa", sum := "c3e375996dd9a61bdef1490ceb21ae77e96d8e1174a2bc78f5abf0aaf5a7c1ad", checked := Try.checked }
namespace Rows
def none {H : Type} : Left H := { results := [], args := [] }

/-- 'longwirelaw01.ScribeLays': WHATEVER THE INPUT: true; the input reads as it did. -/
def scribeLaysSpec : ChangeSpec := { name := "scribeLays", fn := fun _ => fun
  | [d] => { results := [.lit (.bool true)], args := [d] }
  | _ => none }
def scribeLaysRow : OpenClaim := { program := "ytbpkpkellnldmaa", sum := "c3e375996dd9a61bdef1490ceb21ae77e96d8e1174a2bc78f5abf0aaf5a7c1ad", func := "longwire/longwirelaw01.ScribeLays", spec := "scribeLays", apart := false }
def ScribeLaysSaid : Prop := scribeLaysRow.holds Try.pinned (OpenSpec.ofChange scribeLaysSpec)

/-- ITS FALSE NEIGHBOUR: 'it returns false'. Refute it at one input. -/
def scribeLaysWrong : ChangeSpec := { name := "scribeLays", fn := fun _ => fun
  | [d] => { results := [.lit (.bool false)], args := [d] }
  | _ => none }
def ScribeLaysWrongFalsely : Prop := scribeLaysRow.holds Try.pinned (OpenSpec.ofChange scribeLaysWrong)

/-- 'longwirelaw01.ScribeReads': WHATEVER THE INPUT: true; the input reads as it did. -/
def scribeReadsSpec : ChangeSpec := { name := "scribeReads", fn := fun _ => fun
  | [d1, d2] => { results := [.lit (.bool true)], args := [d1, d2] }
  | _ => none }
def scribeReadsRow : OpenClaim := { program := "ytbpkpkellnldmaa", sum := "c3e375996dd9a61bdef1490ceb21ae77e96d8e1174a2bc78f5abf0aaf5a7c1ad", func := "longwire/longwirelaw01.ScribeReads", spec := "scribeReads", apart := false }
def ScribeReadsSaid : Prop := scribeReadsRow.holds Try.pinned (OpenSpec.ofChange scribeReadsSpec)

/-- ITS FALSE NEIGHBOUR: 'it returns false'. Refute it at one input. -/
def scribeReadsWrong : ChangeSpec := { name := "scribeReads", fn := fun _ => fun
  | [d1, d2] => { results := [.lit (.bool false)], args := [d1, d2] }
  | _ => none }
def ScribeReadsWrongFalsely : Prop := scribeReadsRow.holds Try.pinned (OpenSpec.ofChange scribeReadsWrong)

/-- 'longwirelaw01.ScribeChecks': WHATEVER THE INPUT: true; the input reads as it did. -/
def scribeChecksSpec : ChangeSpec := { name := "scribeChecks", fn := fun _ => fun
  | [d] => { results := [.lit (.bool true)], args := [d] }
  | _ => none }
def scribeChecksRow : OpenClaim := { program := "ytbpkpkellnldmaa", sum := "c3e375996dd9a61bdef1490ceb21ae77e96d8e1174a2bc78f5abf0aaf5a7c1ad", func := "longwire/longwirelaw01.ScribeChecks", spec := "scribeChecks", apart := false }
def ScribeChecksSaid : Prop := scribeChecksRow.holds Try.pinned (OpenSpec.ofChange scribeChecksSpec)

/-- ITS FALSE NEIGHBOUR: 'it returns false'. Refute it at one input. -/
def scribeChecksWrong : ChangeSpec := { name := "scribeChecks", fn := fun _ => fun
  | [d] => { results := [.lit (.bool false)], args := [d] }
  | _ => none }
def ScribeChecksWrongFalsely : Prop := scribeChecksRow.holds Try.pinned (OpenSpec.ofChange scribeChecksWrong)

/-- 'longwirelaw01.ScribeBack': WHATEVER THE INPUT: true; the input reads as it did. -/
def scribeBackSpec : ChangeSpec := { name := "scribeBack", fn := fun _ => fun
  | [d1, d2] => { results := [.lit (.bool true)], args := [d1, d2] }
  | _ => none }
def scribeBackRow : OpenClaim := { program := "ytbpkpkellnldmaa", sum := "c3e375996dd9a61bdef1490ceb21ae77e96d8e1174a2bc78f5abf0aaf5a7c1ad", func := "longwire/longwirelaw01.ScribeBack", spec := "scribeBack", apart := false }
def ScribeBackSaid : Prop := scribeBackRow.holds Try.pinned (OpenSpec.ofChange scribeBackSpec)

/-- ITS FALSE NEIGHBOUR: 'it returns false'. Refute it at one input. -/
def scribeBackWrong : ChangeSpec := { name := "scribeBack", fn := fun _ => fun
  | [d1, d2] => { results := [.lit (.bool false)], args := [d1, d2] }
  | _ => none }
def ScribeBackWrongFalsely : Prop := scribeBackRow.holds Try.pinned (OpenSpec.ofChange scribeBackWrong)

/-- 'longwirelaw01.ScribeBits': WHATEVER THE INPUT: true; the input reads as it did. -/
def scribeBitsSpec : ChangeSpec := { name := "scribeBits", fn := fun _ => fun
  | [d1, d2, d3] => { results := [.lit (.bool true)], args := [d1, d2, d3] }
  | _ => none }
def scribeBitsRow : OpenClaim := { program := "ytbpkpkellnldmaa", sum := "c3e375996dd9a61bdef1490ceb21ae77e96d8e1174a2bc78f5abf0aaf5a7c1ad", func := "longwire/longwirelaw01.ScribeBits", spec := "scribeBits", apart := false }
def ScribeBitsSaid : Prop := scribeBitsRow.holds Try.pinned (OpenSpec.ofChange scribeBitsSpec)

/-- ITS FALSE NEIGHBOUR: 'it returns false'. Refute it at one input. -/
def scribeBitsWrong : ChangeSpec := { name := "scribeBits", fn := fun _ => fun
  | [d1, d2, d3] => { results := [.lit (.bool false)], args := [d1, d2, d3] }
  | _ => none }
def ScribeBitsWrongFalsely : Prop := scribeBitsRow.holds Try.pinned (OpenSpec.ofChange scribeBitsWrong)

/-- 'longwirelaw01.ScribeKnown': WHATEVER THE INPUT: true; the input reads as it did. -/
def scribeKnownSpec : ChangeSpec := { name := "scribeKnown", fn := fun _ => fun
  | [] => { results := [.lit (.bool true)], args := [] }
  | _ => none }
def scribeKnownRow : OpenClaim := { program := "ytbpkpkellnldmaa", sum := "c3e375996dd9a61bdef1490ceb21ae77e96d8e1174a2bc78f5abf0aaf5a7c1ad", func := "longwire/longwirelaw01.ScribeKnown", spec := "scribeKnown", inPlace := ["internal/abi.NoEscape", "internal/bytealg.MakeNoZero"], apart := false }
def ScribeKnownSaid : Prop := scribeKnownRow.holds Try.pinned (OpenSpec.ofChange scribeKnownSpec)

/-- ITS FALSE NEIGHBOUR: 'it returns false'. Refute it at one input. -/
def scribeKnownWrong : ChangeSpec := { name := "scribeKnown", fn := fun _ => fun
  | [] => { results := [.lit (.bool false)], args := [] }
  | _ => none }
def ScribeKnownWrongFalsely : Prop := scribeKnownRow.holds Try.pinned (OpenSpec.ofChange scribeKnownWrong)

/- THE SECOND FORM. 'bulk': how many values and letters a reading holds, each counted each time it is reached (what is shared counts as often as it is met; a slice's spare places count too). A statement '..UptoSaid' is the law's where the arguments, and the package variables that the reading takes, are together of bulk at most 1048576: NARROWER than '..Said'. Prove '..Said' where nothing that the law and all that it calls make is longer than what came in: it says more and counts as full. Else prove '..UptoSaid'. A law counts once. -/
mutual
def uptoBulk {H : Type} : DataW H → Nat
  | .lit (.string bytes) => bytes.length + 1
  | .lit _ => 1
  | .nil => 1
  | .ptr d => uptoBulk d + 1
  | .slice elems spare => uptoBulkAll elems + uptoBulkAll spare + 1
  | .agg parts => uptoBulkAll parts + 1
  | .iface _ d => uptoBulk d + 1
  | .map entries => uptoBulkEntries entries + 1
  | .held _ => 1
def uptoBulkAll {H : Type} : List (DataW H) → Nat
  | [] => 0
  | d :: r => uptoBulk d + uptoBulkAll r
def uptoBulkEntries {H : Type} : List (Lit × DataW H) → Nat
  | [] => 0
  | x :: r => uptoBulkEntry x + uptoBulkEntries r
def uptoBulkEntry {H : Type} : Lit × DataW H → Nat
  | (.string bytes, d) => bytes.length + uptoBulk d + 1
  | (_, d) => uptoBulk d + 1
 end
def uptoSmall : (H : Type) → List (DataW H) → Bool := fun _ ds => decide (uptoBulkAll ds ≤ 1048576)
def OpenSpec.upto (s : _root_.Go.ChangeSpec) : _root_.Go.OpenSpec := { _root_.Go.OpenSpec.ofChange s with cond := some uptoSmall }

/-- 'longwirelaw01.ScribeLays', WHERE WHAT IT READS IS OF BULK AT MOST 1048576: true; the input reads as it did. -/
def scribeLaysUptoRow : OpenClaim := { program := "ytbpkpkellnldmaa", sum := "c3e375996dd9a61bdef1490ceb21ae77e96d8e1174a2bc78f5abf0aaf5a7c1ad", func := "longwire/longwirelaw01.ScribeLays", spec := "scribeLays", apart := false, narrowed := true }
def ScribeLaysUptoSaid : Prop := scribeLaysUptoRow.holds Try.pinned (OpenSpec.upto scribeLaysSpec)

/-- 'longwirelaw01.ScribeReads', WHERE WHAT IT READS IS OF BULK AT MOST 1048576: true; the input reads as it did. -/
def scribeReadsUptoRow : OpenClaim := { program := "ytbpkpkellnldmaa", sum := "c3e375996dd9a61bdef1490ceb21ae77e96d8e1174a2bc78f5abf0aaf5a7c1ad", func := "longwire/longwirelaw01.ScribeReads", spec := "scribeReads", apart := false, narrowed := true }
def ScribeReadsUptoSaid : Prop := scribeReadsUptoRow.holds Try.pinned (OpenSpec.upto scribeReadsSpec)

/-- 'longwirelaw01.ScribeChecks', WHERE WHAT IT READS IS OF BULK AT MOST 1048576: true; the input reads as it did. -/
def scribeChecksUptoRow : OpenClaim := { program := "ytbpkpkellnldmaa", sum := "c3e375996dd9a61bdef1490ceb21ae77e96d8e1174a2bc78f5abf0aaf5a7c1ad", func := "longwire/longwirelaw01.ScribeChecks", spec := "scribeChecks", apart := false, narrowed := true }
def ScribeChecksUptoSaid : Prop := scribeChecksUptoRow.holds Try.pinned (OpenSpec.upto scribeChecksSpec)

/-- 'longwirelaw01.ScribeBack', WHERE WHAT IT READS IS OF BULK AT MOST 1048576: true; the input reads as it did. -/
def scribeBackUptoRow : OpenClaim := { program := "ytbpkpkellnldmaa", sum := "c3e375996dd9a61bdef1490ceb21ae77e96d8e1174a2bc78f5abf0aaf5a7c1ad", func := "longwire/longwirelaw01.ScribeBack", spec := "scribeBack", apart := false, narrowed := true }
def ScribeBackUptoSaid : Prop := scribeBackUptoRow.holds Try.pinned (OpenSpec.upto scribeBackSpec)

/-- 'longwirelaw01.ScribeBits', WHERE WHAT IT READS IS OF BULK AT MOST 1048576: true; the input reads as it did. -/
def scribeBitsUptoRow : OpenClaim := { program := "ytbpkpkellnldmaa", sum := "c3e375996dd9a61bdef1490ceb21ae77e96d8e1174a2bc78f5abf0aaf5a7c1ad", func := "longwire/longwirelaw01.ScribeBits", spec := "scribeBits", apart := false, narrowed := true }
def ScribeBitsUptoSaid : Prop := scribeBitsUptoRow.holds Try.pinned (OpenSpec.upto scribeBitsSpec)

/-- 'longwirelaw01.ScribeKnown', WHERE WHAT IT READS IS OF BULK AT MOST 1048576: true; the input reads as it did. -/
def scribeKnownUptoRow : OpenClaim := { program := "ytbpkpkellnldmaa", sum := "c3e375996dd9a61bdef1490ceb21ae77e96d8e1174a2bc78f5abf0aaf5a7c1ad", func := "longwire/longwirelaw01.ScribeKnown", spec := "scribeKnown", inPlace := ["internal/abi.NoEscape", "internal/bytealg.MakeNoZero"], apart := false, narrowed := true }
def ScribeKnownUptoSaid : Prop := scribeKnownUptoRow.holds Try.pinned (OpenSpec.upto scribeKnownSpec)

end Rows
end Go.Proofs.Ytbpkpkellnldmaa
