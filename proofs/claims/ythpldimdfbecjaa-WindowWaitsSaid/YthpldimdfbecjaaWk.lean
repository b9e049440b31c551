/- window: the chapter's row, run by the interpreter. By an AI agent. -/
import Derived.Test.YthpldimdfbecjaaMp
import Derived.Test.YthpldimdfbecjaaAbsY
namespace Go.Proofs.Ythpldimdfbecjaa.So
open Go Go.RowKit Go.Proofs.Ythpldimdfbecjaa.Abs
set_option linter.unusedVariables false
abbrev TELLS : FuncId := 9
noncomputable def hkC : FuncId → Option (List AVal → St → Option (AVal × St)) := fun f => bif Nat.beq f SORTED then some (fun args st => got (sortedH .leaf args st)) else none
theorem hkC_ok {w0 : World} (f : FuncId) (h : List AVal → St → Option (AVal × St)) (hh : hkC f = some h) : Call1Ok Try.prog w0 .leaf f h := by
  unfold hkC at hh
  cases hb : Nat.beq f SORTED with
  | false => rw [hb] at hh; cases hh
  | true => rw [hb] at hh; cases hh; obtain rfl := Nat.eq_of_beq_eq_true hb; exact sortedH_ok
theorem tells_any (W : World) : Calls Try.prog TELLS #[] W fun e w' => e = .returned (.bool true) ∧ Below W.heap.size W w' :=
  closed_ok (hook := hkC) (by kernel_rfl) (named_of (P := Try.prog) (by kernel_rfl)) hkC_ok (ro_none W (fun _ => none)) (next := 1000) (fun _ _ => rfl) (k := 400) (by kernel_rfl)
end Go.Proofs.Ythpldimdfbecjaa.So
