/- credit: the closed statement, and the chapter's example, run by the interpreter. By an AI agent. -/
import Derived.Test.YtacfalpoimjemaaAbsY
import Derived.Test.YtacfalpoimjemaaProg
import Derived.KernelRfl
namespace Go.Proofs.Ytacfalpoimjemaa.Cr
open Go Go.RowKit Go.Proofs.Ytacfalpoimjemaa.Abs
set_option linter.unusedVariables false
theorem follows : (Try.prog).follows .mixedOrders = true := by kernel_rfl
theorem named : ∀ (f : FuncId) (fn : Func), (Try.prog).funcs[f]? = some fn → (fn.name == "runtime.NumGoroutine") = false := named_of (P := Try.prog) (by kernel_rfl)
theorem known_walk (W : World) : Calls Try.prog 6 #[] W fun e w' => e = .returned (.bool true) ∧ Below W.heap.size W w' :=
  closed_ok (hook := fun _ => none) (by kernel_rfl) named (fun f h hh => by cases hh) (ro_none W (fun _ => none)) (next := 1000) (fun _ _ => rfl) (k := 400) (by kernel_rfl)
theorem wakes_any (W : World) : Calls Try.prog 10 #[] W fun e w' => e = .returned (.bool true) ∧ Below W.heap.size W w' :=
  closed_ok (hook := fun _ => none) (by kernel_rfl) named (fun f h hh => by cases hh) (ro_none W (fun _ => none)) (next := 1000) (fun _ _ => rfl) (k := 400) (by kernel_rfl)
end Go.Proofs.Ytacfalpoimjemaa.Cr
