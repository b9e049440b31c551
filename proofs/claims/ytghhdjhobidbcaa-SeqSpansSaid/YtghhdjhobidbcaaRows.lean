/-
  No cell of these rows narrows 'for every input' (looked for: loops, veiled, ifaces, maps, wideKeys, modest, calm, conditions, laid).
  DERIVED. THE GIVEN ROWS OF THIS SEAT. 6 by the template 'for every input the law returns true; each argument reads behind the call as it read before'; 0 by the template 'total and deterministic' (their statements: YtghhdjhobidbcaaTotals.lean).
  GIVEN WITH THE SEED: the statements are not yours to turn. If you find one false, say at which input.
  Laid BY PROGRAM, IN A SANDBOX (cutbox-rows.mjs): the forced cells as the released guide's own fill.sh prints them over the translation 75958f94a6be9541… (all of the seat's roots in one cut). By AI agents, Wed Nov 11 2026. No macro, syntax, notation, axiom, sorry.
-/
import Derived.Test.YtghhdjhobidbcaaChecked
import GoSem.Claim
import GoSem.ClaimJoined
import GoSem.ClaimMapViews
import Derived.JoinedTies
import Derived.KernelRfl
namespace Go.Proofs.Ytghhdjhobidbcaa
/- THE CELL 'sum', in the pinned program and in every row, IS THE sha256 OF THE DUMP (.gsa) THAT YtghhdjhobidbcaaProg.lean LOADS. Nothing in Lean hashes anything: it is a label: what it is worth is what the hold of that sum in a sandbox is worth. -/
noncomputable def Try.pinned : Pinned := { name := "ytghhdjhobidbcaa", sum := "75958f94a6be95410056139d421044b0a972f740ef3cc3213cd00bcf8c9375ec", checked := Try.checked }
namespace Rows
def none {H : Type} : Left H := { results := [], args := [] }

/-- 'longwirelaw05.SeqGives': WHATEVER THE INPUT: true; the input reads as it did. -/
def seqGivesSpec : ChangeSpec := { name := "seqGives", fn := fun _ => fun
  | [d1, d2] => { results := [.lit (.bool true)], args := [d1, d2] }
  | _ => none }
def seqGivesRow : OpenClaim := { program := "ytghhdjhobidbcaa", sum := "75958f94a6be95410056139d421044b0a972f740ef3cc3213cd00bcf8c9375ec", func := "longwire/longwirelaw05.SeqGives", spec := "seqGives", unfollowed := true, recurses := true, apart := false }
def SeqGivesSaid : Prop := seqGivesRow.holds Try.pinned (OpenSpec.ofChange seqGivesSpec)

/-- ITS FALSE NEIGHBOUR: 'it returns false'. Refute it at one input. -/
def seqGivesWrong : ChangeSpec := { name := "seqGives", fn := fun _ => fun
  | [d1, d2] => { results := [.lit (.bool false)], args := [d1, d2] }
  | _ => none }
def SeqGivesWrongFalsely : Prop := seqGivesRow.holds Try.pinned (OpenSpec.ofChange seqGivesWrong)

/-- 'longwirelaw05.SeqSpans': WHATEVER THE INPUT: true; the input reads as it did. -/
def seqSpansSpec : ChangeSpec := { name := "seqSpans", fn := fun _ => fun
  | [d1, d2, d3] => { results := [.lit (.bool true)], args := [d1, d2, d3] }
  | _ => none }
def seqSpansRow : OpenClaim := { program := "ytghhdjhobidbcaa", sum := "75958f94a6be95410056139d421044b0a972f740ef3cc3213cd00bcf8c9375ec", func := "longwire/longwirelaw05.SeqSpans", spec := "seqSpans", unfollowed := true, recurses := true, apart := false }
def SeqSpansSaid : Prop := seqSpansRow.holds Try.pinned (OpenSpec.ofChange seqSpansSpec)

/-- ITS FALSE NEIGHBOUR: 'it returns false'. Refute it at one input. -/
def seqSpansWrong : ChangeSpec := { name := "seqSpans", fn := fun _ => fun
  | [d1, d2, d3] => { results := [.lit (.bool false)], args := [d1, d2, d3] }
  | _ => none }
def SeqSpansWrongFalsely : Prop := seqSpansRow.holds Try.pinned (OpenSpec.ofChange seqSpansWrong)

/-- 'longwirelaw05.SeqMasks': WHATEVER THE INPUT: true; the input reads as it did. -/
def seqMasksSpec : ChangeSpec := { name := "seqMasks", fn := fun _ => fun
  | [d1, d2] => { results := [.lit (.bool true)], args := [d1, d2] }
  | _ => none }
def seqMasksRow : OpenClaim := { program := "ytghhdjhobidbcaa", sum := "75958f94a6be95410056139d421044b0a972f740ef3cc3213cd00bcf8c9375ec", func := "longwire/longwirelaw05.SeqMasks", spec := "seqMasks", unfollowed := true, recurses := true, apart := false }
def SeqMasksSaid : Prop := seqMasksRow.holds Try.pinned (OpenSpec.ofChange seqMasksSpec)

/-- ITS FALSE NEIGHBOUR: 'it returns false'. Refute it at one input. -/
def seqMasksWrong : ChangeSpec := { name := "seqMasks", fn := fun _ => fun
  | [d1, d2] => { results := [.lit (.bool false)], args := [d1, d2] }
  | _ => none }
def SeqMasksWrongFalsely : Prop := seqMasksRow.holds Try.pinned (OpenSpec.ofChange seqMasksWrong)

/-- 'longwirelaw05.SeqAsked': WHATEVER THE INPUT: true; the input reads as it did. -/
def seqAskedSpec : ChangeSpec := { name := "seqAsked", fn := fun _ => fun
  | [d1, d2, d3, d4] => { results := [.lit (.bool true)], args := [d1, d2, d3, d4] }
  | _ => none }
def seqAskedRow : OpenClaim := { program := "ytghhdjhobidbcaa", sum := "75958f94a6be95410056139d421044b0a972f740ef3cc3213cd00bcf8c9375ec", func := "longwire/longwirelaw05.SeqAsked", spec := "seqAsked", unfollowed := true, recurses := true, apart := false }
def SeqAskedSaid : Prop := seqAskedRow.holds Try.pinned (OpenSpec.ofChange seqAskedSpec)

/-- ITS FALSE NEIGHBOUR: 'it returns false'. Refute it at one input. -/
def seqAskedWrong : ChangeSpec := { name := "seqAsked", fn := fun _ => fun
  | [d1, d2, d3, d4] => { results := [.lit (.bool false)], args := [d1, d2, d3, d4] }
  | _ => none }
def SeqAskedWrongFalsely : Prop := seqAskedRow.holds Try.pinned (OpenSpec.ofChange seqAskedWrong)

/-- 'longwirelaw05.SeqOnce': WHATEVER THE INPUT: true; the input reads as it did. -/
def seqOnceSpec : ChangeSpec := { name := "seqOnce", fn := fun _ => fun
  | [d1, d2] => { results := [.lit (.bool true)], args := [d1, d2] }
  | _ => none }
def seqOnceRow : OpenClaim := { program := "ytghhdjhobidbcaa", sum := "75958f94a6be95410056139d421044b0a972f740ef3cc3213cd00bcf8c9375ec", func := "longwire/longwirelaw05.SeqOnce", spec := "seqOnce", unfollowed := true, recurses := true, apart := false }
def SeqOnceSaid : Prop := seqOnceRow.holds Try.pinned (OpenSpec.ofChange seqOnceSpec)

/-- ITS FALSE NEIGHBOUR: 'it returns false'. Refute it at one input. -/
def seqOnceWrong : ChangeSpec := { name := "seqOnce", fn := fun _ => fun
  | [d1, d2] => { results := [.lit (.bool false)], args := [d1, d2] }
  | _ => none }
def SeqOnceWrongFalsely : Prop := seqOnceRow.holds Try.pinned (OpenSpec.ofChange seqOnceWrong)

/-- 'longwirelaw05.SeqKnown': WHATEVER THE INPUT: true; the input reads as it did. -/
def seqKnownSpec : ChangeSpec := { name := "seqKnown", fn := fun _ => fun
  | [] => { results := [.lit (.bool true)], args := [] }
  | _ => none }
def seqKnownRow : OpenClaim := { program := "ytghhdjhobidbcaa", sum := "75958f94a6be95410056139d421044b0a972f740ef3cc3213cd00bcf8c9375ec", func := "longwire/longwirelaw05.SeqKnown", spec := "seqKnown", unfollowed := true, recurses := true, apart := false }
def SeqKnownSaid : Prop := seqKnownRow.holds Try.pinned (OpenSpec.ofChange seqKnownSpec)

/-- ITS FALSE NEIGHBOUR: 'it returns false'. Refute it at one input. -/
def seqKnownWrong : ChangeSpec := { name := "seqKnown", fn := fun _ => fun
  | [] => { results := [.lit (.bool false)], args := [] }
  | _ => none }
def SeqKnownWrongFalsely : Prop := seqKnownRow.holds Try.pinned (OpenSpec.ofChange seqKnownWrong)

/- THE SECOND FORM. 'bulk': how many values and letters a reading holds, each counted each time it is reached (what is shared counts as often as it is met; a slice's spare places count too). A statement '..UptoSaid' is the law's where the arguments, and the package variables that the reading takes, are together of bulk at most 1048576: NARROWER than '..Said'. Prove '..Said' where nothing that the law and all that it calls make is longer than what came in: it says more and counts as full. Else prove '..UptoSaid'. A law counts once. -/
mutual
def uptoBulk {H : Type} : DataW H → Nat
  | .lit (.string bytes) => bytes.length + 1
  | .lit _ => 1
  | .nil => 1
  | .ptr d => uptoBulk d + 1
  | .slice elems spare => uptoBulkAll elems + uptoBulkAll spare + 1
  | .agg parts => uptoBulkAll parts + 1
  | .iface _ d => uptoBulk d + 1
  | .map entries => uptoBulkEntries entries + 1
  | .held _ => 1
def uptoBulkAll {H : Type} : List (DataW H) → Nat
  | [] => 0
  | d :: r => uptoBulk d + uptoBulkAll r
def uptoBulkEntries {H : Type} : List (Lit × DataW H) → Nat
  | [] => 0
  | x :: r => uptoBulkEntry x + uptoBulkEntries r
def uptoBulkEntry {H : Type} : Lit × DataW H → Nat
  | (.string bytes, d) => bytes.length + uptoBulk d + 1
  | (_, d) => uptoBulk d + 1
 end
def uptoSmall : (H : Type) → List (DataW H) → Bool := fun _ ds => decide (uptoBulkAll ds ≤ 1048576)
def OpenSpec.upto (s : _root_.Go.ChangeSpec) : _root_.Go.OpenSpec := { _root_.Go.OpenSpec.ofChange s with cond := some uptoSmall }

/-- 'longwirelaw05.SeqGives', WHERE WHAT IT READS IS OF BULK AT MOST 1048576: true; the input reads as it did. -/
def seqGivesUptoRow : OpenClaim := { program := "ytghhdjhobidbcaa", sum := "75958f94a6be95410056139d421044b0a972f740ef3cc3213cd00bcf8c9375ec", func := "longwire/longwirelaw05.SeqGives", spec := "seqGives", unfollowed := true, recurses := true, apart := false, narrowed := true }
def SeqGivesUptoSaid : Prop := seqGivesUptoRow.holds Try.pinned (OpenSpec.upto seqGivesSpec)

/-- 'longwirelaw05.SeqSpans', WHERE WHAT IT READS IS OF BULK AT MOST 1048576: true; the input reads as it did. -/
def seqSpansUptoRow : OpenClaim := { program := "ytghhdjhobidbcaa", sum := "75958f94a6be95410056139d421044b0a972f740ef3cc3213cd00bcf8c9375ec", func := "longwire/longwirelaw05.SeqSpans", spec := "seqSpans", unfollowed := true, recurses := true, apart := false, narrowed := true }
def SeqSpansUptoSaid : Prop := seqSpansUptoRow.holds Try.pinned (OpenSpec.upto seqSpansSpec)

/-- 'longwirelaw05.SeqMasks', WHERE WHAT IT READS IS OF BULK AT MOST 1048576: true; the input reads as it did. -/
def seqMasksUptoRow : OpenClaim := { program := "ytghhdjhobidbcaa", sum := "75958f94a6be95410056139d421044b0a972f740ef3cc3213cd00bcf8c9375ec", func := "longwire/longwirelaw05.SeqMasks", spec := "seqMasks", unfollowed := true, recurses := true, apart := false, narrowed := true }
def SeqMasksUptoSaid : Prop := seqMasksUptoRow.holds Try.pinned (OpenSpec.upto seqMasksSpec)

/-- 'longwirelaw05.SeqAsked', WHERE WHAT IT READS IS OF BULK AT MOST 1048576: true; the input reads as it did. -/
def seqAskedUptoRow : OpenClaim := { program := "ytghhdjhobidbcaa", sum := "75958f94a6be95410056139d421044b0a972f740ef3cc3213cd00bcf8c9375ec", func := "longwire/longwirelaw05.SeqAsked", spec := "seqAsked", unfollowed := true, recurses := true, apart := false, narrowed := true }
def SeqAskedUptoSaid : Prop := seqAskedUptoRow.holds Try.pinned (OpenSpec.upto seqAskedSpec)

/-- 'longwirelaw05.SeqOnce', WHERE WHAT IT READS IS OF BULK AT MOST 1048576: true; the input reads as it did. -/
def seqOnceUptoRow : OpenClaim := { program := "ytghhdjhobidbcaa", sum := "75958f94a6be95410056139d421044b0a972f740ef3cc3213cd00bcf8c9375ec", func := "longwire/longwirelaw05.SeqOnce", spec := "seqOnce", unfollowed := true, recurses := true, apart := false, narrowed := true }
def SeqOnceUptoSaid : Prop := seqOnceUptoRow.holds Try.pinned (OpenSpec.upto seqOnceSpec)

/-- 'longwirelaw05.SeqKnown', WHERE WHAT IT READS IS OF BULK AT MOST 1048576: true; the input reads as it did. -/
def seqKnownUptoRow : OpenClaim := { program := "ytghhdjhobidbcaa", sum := "75958f94a6be95410056139d421044b0a972f740ef3cc3213cd00bcf8c9375ec", func := "longwire/longwirelaw05.SeqKnown", spec := "seqKnown", unfollowed := true, recurses := true, apart := false, narrowed := true }
def SeqKnownUptoSaid : Prop := seqKnownUptoRow.holds Try.pinned (OpenSpec.upto seqKnownSpec)

end Rows
end Go.Proofs.Ytghhdjhobidbcaa
