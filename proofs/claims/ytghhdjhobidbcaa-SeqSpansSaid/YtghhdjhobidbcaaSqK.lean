/- seq: the closed statement, and the chapter's examples, run by the interpreter. By an AI agent. -/
import Derived.Test.YtghhdjhobidbcaaAbsY
import Derived.Test.YtghhdjhobidbcaaProg
import Derived.KernelRfl
namespace Go.Proofs.Ytghhdjhobidbcaa.Sq
open Go Go.RowKit Go.Proofs.Ytghhdjhobidbcaa.Abs
set_option linter.unusedVariables false
theorem known_walk (W : World) : Calls Try.prog 8 #[] W fun e w' => e = .returned (.bool true) ∧ Below W.heap.size W w' :=
  closed_ok (hook := fun _ => none) (by kernel_rfl) (named_of (P := Try.prog) (by kernel_rfl)) (fun f h hh => by cases hh) (ro_none W (fun _ => none)) (next := 1000) (fun _ _ => rfl) (k := 400) (by kernel_rfl)
theorem wakes_any (W : World) : Calls Try.prog 11 #[] W fun e w' => e = .returned (.bool true) ∧ Below W.heap.size W w' :=
  closed_ok (hook := fun _ => none) (by kernel_rfl) (named_of (P := Try.prog) (by kernel_rfl)) (fun f h hh => by cases hh) (ro_none W (fun _ => none)) (next := 1000) (fun _ _ => rfl) (k := 400) (by kernel_rfl)
end Go.Proofs.Ytghhdjhobidbcaa.Sq
