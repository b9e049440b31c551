/- Hooks: a table of them; what comes in, taken apart. By an AI agent. -/
import Derived.Test.YtcofcojjofkgcaaHk2
import Derived.Test.YtcofcojjofkgcaaAbsU
namespace Go.Proofs.Ytcofcojjofkgcaa.Abs
open Go Go.RowKit Go.Proofs.Ytcofcojjofkgcaa.M
set_option linter.unusedVariables false
abbrev Hook := List AVal → St → Option (OP × AVal × St)
noncomputable def hkNone (_ : FuncId) : Option Hook := none
noncomputable def hkAdd (g : FuncId) (h : Hook) (r : FuncId → Option Hook) : FuncId → Option Hook := fun f => bif Nat.beq f g then some h else r f
def HooksOk (P : Program) (w0 : World) (RO : PT AObj) (r : FuncId → Option Hook) : Prop := ∀ f h, hookG r f = some h → Call1Ok P w0 RO f h
theorem hkNone_ok {P : Program} {w0 : World} {RO : PT AObj} : HooksOk P w0 RO hkNone := fun f h hh => by cases hh
theorem hkAdd_ok {P : Program} {w0 : World} {RO : PT AObj} {g : FuncId} {h : Hook} {r : FuncId → Option Hook} (h1 : Call1Ok P w0 RO g (fun args st => got (h args st))) (h2 : HooksOk P w0 RO r) : HooksOk P w0 RO (hkAdd g h r) := fun f h' hh => by
  unfold hookG hkAdd at hh
  cases hb : Nat.beq f g with
  | true =>
    rw [hb] at hh
    cases hh
    rw [Nat.eq_of_beq_eq_true hb]
    exact h1
  | false =>
    rw [hb] at hh
    exact h2 f h' hh
theorem VRel.lit {φ : Phi} {k : IntKind} {z : Int} {u : Value} (h : VRel φ (.sint k z) u) : VRel φ (.int k z) u := by cases h; exact VRel.int (φ := φ) _ _
/-- a closed call that tells true -/
noncomputable def trueH (args : List AVal) (st : St) : Option (OP × AVal × St) := match args with | [] => some (none, .bool true, st) | _ => none
theorem trueH_ok {P : Program} {w0 : World} {RO : PT AObj} {g : FuncId} (hb : ∃ fn, P.funcs[g]? = some fn ∧ fn.body.isNone = false ∧ (fn.name == "runtime.NumGoroutine") = false)
    (hc : ∀ w, Below w0.heap.size w0 w → Calls P g #[] w fun e w' => e = .returned (.bool true) ∧ Below w.heap.size w w') : Call1Ok P w0 RO g (fun args st => got (trueH args st)) := by
  intro args st v st' h
  obtain ⟨ob, h, hob⟩ := got_some h
  unfold trueH at h
  split at h
  · cases h
    refine ⟨.refl _, hb, fun φ us w hus hw hr => ?_⟩
    cases hus with
    | nil =>
    refine (hc w hw.below).mono fun e w' he => ?_
    obtain ⟨rfl, hb⟩ := he
    exact ⟨_, rfl, quiet_ok hw hb (VRel.bool (φ := φ) _)⟩
  · cases h
end Go.Proofs.Ytcofcojjofkgcaa.Abs
