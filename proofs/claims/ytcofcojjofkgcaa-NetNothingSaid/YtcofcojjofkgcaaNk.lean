/- net: the example of the document and the closed statement, run by the interpreter. By an AI agent. -/
import Derived.Test.YtcofcojjofkgcaaAbsY
import Derived.Test.YtcofcojjofkgcaaProg
import Derived.KernelRfl
namespace Go.Proofs.Ytcofcojjofkgcaa.Ne
open Go Go.RowKit Go.Proofs.Ytcofcojjofkgcaa.Abs
set_option linter.unusedVariables false
set_option maxRecDepth 100000
theorem wakes_any (W : World) : Calls Try.prog 15 #[] W fun e w' => e = .returned (.bool true) ∧ Below W.heap.size W w' :=
  closed_ok (hook := fun _ => none) (by kernel_rfl) (named_of (P := Try.prog) (by kernel_rfl)) (fun _ _ h => by cases h) (ro_none W (fun _ => none)) (next := 1000) (fun _ _ => rfl) (k := 400) (by kernel_rfl)
end Go.Proofs.Ytcofcojjofkgcaa.Ne
