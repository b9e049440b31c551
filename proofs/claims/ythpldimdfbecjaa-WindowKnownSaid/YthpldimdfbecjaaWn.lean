/- window: the closed statement, run by the interpreter. By an AI agent. -/
import Derived.Test.YthpldimdfbecjaaWk
import Derived.Test.YthpldimdfbecjaaWb
namespace Go.Proofs.Ythpldimdfbecjaa.So
open Go Go.RowKit Go.Proofs.Ythpldimdfbecjaa.Abs
set_option linter.unusedVariables false
noncomputable def hkN : FuncId → Option (List AVal → St → Option (AVal × St)) := fun f => bif Nat.beq f BYTES then some (fun args st => got (bytesH .leaf args st)) else hkC f
theorem hkN_ok {w0 : World} (f : FuncId) (h : List AVal → St → Option (AVal × St)) (hh : hkN f = some h) : Call1Ok Try.prog w0 .leaf f h := by
  unfold hkN at hh
  cases hb : Nat.beq f BYTES with
  | false => rw [hb] at hh; exact hkC_ok f h hh
  | true => rw [hb] at hh; cases hh; obtain rfl := Nat.eq_of_beq_eq_true hb; exact bytesH_ok
theorem known_walk (W : World) : Calls Try.prog 6 #[] W fun e w' => e = .returned (.bool true) ∧ Below W.heap.size W w' :=
  closed_ok (hook := hkN) (by kernel_rfl) (named_of (P := Try.prog) (by kernel_rfl)) hkN_ok (ro_none W (fun _ => none)) (next := 1000) (fun _ _ => rfl) (k := 400) (by kernel_rfl)
end Go.Proofs.Ythpldimdfbecjaa.So
