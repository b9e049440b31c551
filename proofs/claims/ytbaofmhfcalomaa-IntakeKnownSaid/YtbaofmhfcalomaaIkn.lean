/- intake: the closed statement, run by the interpreter. By an AI agent. -/
import Derived.Test.YtbaofmhfcalomaaMc
import Derived.Test.YtbaofmhfcalomaaAbsY
namespace Go.Proofs.Ytbaofmhfcalomaa.So
open Go Go.RowKit Go.Proofs.Ytbaofmhfcalomaa.Abs
set_option linter.unusedVariables false
set_option maxRecDepth 100000
noncomputable def hkI : FuncId → Option (List AVal → St → Option (AVal × St)) := fun f => bif Nat.beq f CLONE then some (fun args st => got (cloneH args st)) else none
theorem hkI_ok {w0 : World} (f : FuncId) (h : List AVal → St → Option (AVal × St)) (hh : hkI f = some h) : Call1Ok Try.prog w0 .leaf f h := by
  unfold hkI at hh
  cases hb : Nat.beq f CLONE with
  | false => rw [hb] at hh; cases hh
  | true => rw [hb] at hh; cases hh; obtain rfl := Nat.eq_of_beq_eq_true hb; exact cloneH_ok
theorem iwakes_any (W : World) : Calls Try.prog 41 #[] W fun e w' => e = .returned (.bool true) ∧ Below W.heap.size W w' :=
  closed_ok (hook := hkI) (by kernel_rfl) (named_of (P := Try.prog) (by kernel_rfl)) hkI_ok (ro_none W (fun _ => none)) (next := 1000) (fun _ _ => rfl) (k := 400) (by kernel_rfl)
theorem iknown_walk (W : World) : Calls Try.prog 8 #[] W fun e w' => e = .returned (.bool true) ∧ Below W.heap.size W w' :=
  closed_ok (hook := hkI) (by kernel_rfl) (named_of (P := Try.prog) (by kernel_rfl)) hkI_ok (ro_none W (fun _ => none)) (next := 1000) (fun _ _ => rfl) (k := 400) (by kernel_rfl)
end Go.Proofs.Ytbaofmhfcalomaa.So
