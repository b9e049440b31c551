/- slices.Sort of uint32s, of at most 16 that are all others: less, insertion. By an AI agent. -/
import Derived.Test.YtmhbmjagnihopaaGreatDoorHk4
import Derived.Test.YtmhbmjagnihopaaGreatDoorMu
import Derived.Test.YtmhbmjagnihopaaGreatDoorProg
namespace Go.Proofs.YtmhbmjagnihopaaGreatDoor.So
open Go Go.RowKit Go.Proofs.YtmhbmjagnihopaaGreatDoor.Abs
set_option linter.unusedVariables false
set_option maxRecDepth 100000
set_option linter.unusedSimpArgs false
abbrev U32 : TypeId := 68
abbrev LESS : FuncId := 160
abbrev INS : FuncId := 154
--forms
def lesf (x y : Int) : Prop :=
    (Decidable.decide (x ≠ x) = Bool.true →
    ((!Decidable.decide (y ≠ y)) = Bool.true →
    Decidable.decide (x < y) = Bool.true ∧ True ∧ True ∧ True) ∧ ((!Decidable.decide (y ≠ y)) = Bool.false →
    Decidable.decide (x < y) = Decidable.decide (x < y) ∧ True ∧ True ∧ True)) ∧ (Decidable.decide (x ≠ x) = Bool.false →
    Decidable.decide (x < y) = Decidable.decide (x < y) ∧ True ∧ True ∧ True)
theorem lesf_eq (x y : Int) : nestW Tryz.prog (hp []) hkNone (annU []) LESS [.sint .u32 x, .sint .u32 y] [] (endK (.sbool (decide (x < y))) []) = lesf x y := by kernel_rfl
theorem follows : Tryz.prog.follows .mixedOrders = true := by kernel_rfl
theorem named : ∀ (f : FuncId) (fn : Func), Tryz.prog.funcs[f]? = some fn → (fn.name == "runtime.NumGoroutine") = false := named_of (P := Tryz.prog) (by kernel_rfl)
theorem lesf_ok (x y : Int) : lesf x y := by
  unfold lesf
  simp
noncomputable def lessH (RO : PT AObj) : Hook := hookR [.one (.int .u32), .one (.int .u32)] (fun _ => True) (fun xs => match xs with | [a, b] => .sbool (decide (a.zOf < b.zOf)) | _ => .undef) (fun _ => []) RO
set_option maxRecDepth 100000 in
theorem lessH_ok {w0 : World} {RO : PT AObj} : Call1Ok Tryz.prog w0 RO LESS (fun args st => got (lessH RO args st)) := by
  refine hookR_ok U32 (by decide) ⟨_, rfl, rfl, by kernel_rfl⟩ (fun xs h _ => ?_) fun xs caps w φs us h _ hf hro hus => ?_
  · obtain ⟨x, _, rfl, _, h⟩ := atoms_int h
    obtain ⟨y, _, rfl, _, h⟩ := atoms_int h
    obtain rfl := atoms_nil h
    exact ⟨rfl, rfl⟩
  · obtain ⟨x, _, rfl, _, h⟩ := atoms_int h
    obtain ⟨y, _, rfl, _, h⟩ := atoms_int h
    obtain rfl := atoms_nil h
    exact nest_run follows named hkNone_ok (rolow_of rfl) ((lesf_eq x y).mpr (lesf_ok x y)) hf hro hus
noncomputable def soHooks (RO : PT AObj) : FuncId → Option Hook := hkAdd LESS (lessH RO) hkNone
theorem soHooks_ok {w0 : World} {RO : PT AObj} : HooksOk Tryz.prog w0 RO (soHooks RO) := hkAdd_ok lessH_ok hkNone_ok
end Go.Proofs.YtmhbmjagnihopaaGreatDoor.So
