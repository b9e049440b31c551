/- slices.Sort of uint32s: the pivot; partial insertion. By an AI agent. -/
import Derived.Test.YtbaofmhfcalomaaSo3
namespace Go.Proofs.Ytbaofmhfcalomaa.So
open Go Go.RowKit Go.Proofs.Ytbaofmhfcalomaa.Abs
set_option linter.unusedVariables false
set_option maxRecDepth 100000
set_option linter.unusedSimpArgs false
abbrev CHOOSE : FuncId := 100
abbrev MEDADJ : FuncId := 111
abbrev PARTIAL : FuncId := 102
/-- a call that is never come to -/
noncomputable def noH (v : AVal) : Hook := fun _ st => some (some False, v, st)
theorem noH_ok {P : Program} {w0 : World} {RO : PT AObj} {f : FuncId} {v : AVal} : Call1Ok P w0 RO f (fun args st => got (noH v args st)) := by
  intro args st v st' h
  obtain ⟨ob, h, hob⟩ := got_some h
  cases h
  exact hob.elim
noncomputable def choHooks (RO : PT AObj) : FuncId → Option Hook := hkAdd MEDADJ (noH (.sint .i64 0)) (soHooks RO)
noncomputable def choK (l : List Int) (a b : Nat) (v : AVal) (m : List Int) : Prop :=
  match v with
  | .tuple [x, y] => (match asZ x, asZ y with | some (.i64, z), some (.i64, h) => m = l ∧ (a ≤ z ∧ z < b) ∧ (h = 0 ∨ h = 1) | _, _ => False)
  | _ => False
noncomputable def prtO (a : Nat) (l : List Int) (b : Nat) (τ : PT AVal) (st : St) : USpec :=
  { X := Unit, ok := fun _ => True, m := fun _ => 0, I := fun _ => ([(7, .sint .i64 ((a : Int) + 1)), (8, .int .i64 0)], []), dc := [2, 1],
    outs := [(.ret, { Z := Bool, post := fun r => r = true → Srt l a b, J := fun r => ([(6, .sbool r)], []) })] }
def prtI (a : Nat) (l : List Int) (b : Nat) (τ : PT AVal) (st : St) : USpec :=
  { X := Nat, ok := fun i => a + 1 ≤ i ∧ i ≤ b ∧ Srt l a i, m := fun i => b - i, I := fun i => ([(7, .sint .i64 (i : Int))], []), dc := [],
    outs := [(.exit 2, { Z := Nat, post := fun i => a + 1 ≤ i ∧ i ≤ b ∧ Srt l a i, J := fun i => ([(7, .sint .i64 (i : Int))], []) })] }
def prtK (l : List Int) (a b : Nat) (v : AVal) (m : List Int) : Prop := match asBo v with | some c => m = l ∧ (c = true → Srt l a b) | none => False
--forms
def chof (l : List Int) (a b c : Nat) (t : TypeId) : Prop :=
    inR IntKind.i64 ((↑b : Int) - (↑a : Int)) ∧ ∀ (z' : Int), z' = (↑b : Int) - (↑a : Int) →
    ((0 : Int) ≤ z' ∧ (0 : Int) < (4 : Int)) ∧ inR IntKind.i64 (z' / (4 : Int) * (1 : Int)) ∧ ∀ (z'_1 : Int), z'_1 = z' / (4 : Int) * (1 : Int) →
    inR IntKind.i64 ((↑a : Int) + z'_1) ∧ ∀ (z'_2 : Int), z'_2 = (↑a : Int) + z'_1 →
    ((0 : Int) ≤ z' ∧ (0 : Int) < (4 : Int)) ∧ inR IntKind.i64 (z' / (4 : Int) * (2 : Int)) ∧ ∀ (z'_3 : Int), z'_3 = z' / (4 : Int) * (2 : Int) →
    inR IntKind.i64 ((↑a : Int) + z'_3) ∧ ∀ (z'_4 : Int), z'_4 = (↑a : Int) + z'_3 →
    ((0 : Int) ≤ z' ∧ (0 : Int) < (4 : Int)) ∧ inR IntKind.i64 (z' / (4 : Int) * (3 : Int)) ∧ ∀ (z'_5 : Int), z'_5 = z' / (4 : Int) * (3 : Int) →
    inR IntKind.i64 ((↑a : Int) + z'_5) ∧ ∀ (z'_6 : Int), z'_6 = (↑a : Int) + z'_5 →
    (Decidable.decide ((8 : Int) ≤ z') = Bool.true →
    (Decidable.decide ((50 : Int) ≤ z') = Bool.true →
    False ∧ ∀ (z' : Int), z' = (0 : Int) →
    False ∧ ∀ (z'_7 : Int), z'_7 = (0 : Int) →
    False ∧ ∀ (z'_8 : Int), z'_8 = (0 : Int) →
    ((0 : Int) ≤ z'_7 ∧ z'_7 < (↑(List.length l) : Int)) ∧ 0 + Int.toNat z'_7 * 1 < List.length l ∧ ((0 : Int) ≤ z' ∧ z' < (↑(List.length l) : Int)) ∧ 0 + Int.toNat z' * 1 < List.length l ∧ True ∧ (Decidable.decide (Atom.zOf (Atom.z (List.getD l (0 + Int.toNat z'_7 * 1) (0 : Int))) < Atom.zOf (Atom.z (List.getD l (0 + Int.toNat z' * 1) (0 : Int)))) = Bool.true →
    ((0 : Int) ≤ z'_8 ∧ z'_8 < (↑(List.length l) : Int)) ∧ 0 + Int.toNat z'_8 * 1 < List.length l ∧ ((0 : Int) ≤ z' ∧ z' < (↑(List.length l) : Int)) ∧ 0 + Int.toNat z' * 1 < List.length l ∧ True ∧ (Decidable.decide (Atom.zOf (Atom.z (List.getD l (0 + Int.toNat z'_8 * 1) (0 : Int))) < Atom.zOf (Atom.z (List.getD l (0 + Int.toNat z' * 1) (0 : Int)))) = Bool.true →
    ((0 : Int) ≤ z'_8 ∧ z'_8 < (↑(List.length l) : Int)) ∧ 0 + Int.toNat z'_8 * 1 < List.length l ∧ ((0 : Int) ≤ z'_7 ∧ z'_7 < (↑(List.length l) : Int)) ∧ 0 + Int.toNat z'_7 * 1 < List.length l ∧ True ∧ (Decidable.decide (Atom.zOf (Atom.z (List.getD l (0 + Int.toNat z'_8 * 1) (0 : Int))) < Atom.zOf (Atom.z (List.getD l (0 + Int.toNat z'_7 * 1) (0 : Int)))) = Bool.true →
    (kindEq IntKind.u32 IntKind.u32 = Bool.true ∧ t = t) ∧ l = l ∧ ((↑a : Int) ≤ z'_7 ∧ z'_7 < (↑b : Int)) ∧ ((0 : Int) = (0 : Int) ∨ (0 : Int) = (1 : Int))) ∧ (Decidable.decide (Atom.zOf (Atom.z (List.getD l (0 + Int.toNat z'_8 * 1) (0 : Int))) < Atom.zOf (Atom.z (List.getD l (0 + Int.toNat z'_7 * 1) (0 : Int)))) = Bool.false →
    (kindEq IntKind.u32 IntKind.u32 = Bool.true ∧ t = t) ∧ l = l ∧ ((↑a : Int) ≤ z'_8 ∧ z'_8 < (↑b : Int)) ∧ ((0 : Int) = (0 : Int) ∨ (0 : Int) = (1 : Int)))) ∧ (Decidable.decide (Atom.zOf (Atom.z (List.getD l (0 + Int.toNat z'_8 * 1) (0 : Int))) < Atom.zOf (Atom.z (List.getD l (0 + Int.toNat z' * 1) (0 : Int)))) = Bool.false →
    ((0 : Int) ≤ z' ∧ z' < (↑(List.length l) : Int)) ∧ 0 + Int.toNat z' * 1 < List.length l ∧ ((0 : Int) ≤ z'_7 ∧ z'_7 < (↑(List.length l) : Int)) ∧ 0 + Int.toNat z'_7 * 1 < List.length l ∧ True ∧ (Decidable.decide (Atom.zOf (Atom.z (List.getD l (0 + Int.toNat z' * 1) (0 : Int))) < Atom.zOf (Atom.z (List.getD l (0 + Int.toNat z'_7 * 1) (0 : Int)))) = Bool.true →
    (kindEq IntKind.u32 IntKind.u32 = Bool.true ∧ t = t) ∧ l = l ∧ ((↑a : Int) ≤ z'_7 ∧ z'_7 < (↑b : Int)) ∧ ((0 : Int) = (0 : Int) ∨ (0 : Int) = (1 : Int))) ∧ (Decidable.decide (Atom.zOf (Atom.z (List.getD l (0 + Int.toNat z' * 1) (0 : Int))) < Atom.zOf (Atom.z (List.getD l (0 + Int.toNat z'_7 * 1) (0 : Int)))) = Bool.false →
    (kindEq IntKind.u32 IntKind.u32 = Bool.true ∧ t = t) ∧ l = l ∧ ((↑a : Int) ≤ z' ∧ z' < (↑b : Int)) ∧ ((0 : Int) = (0 : Int) ∨ (0 : Int) = (1 : Int))))) ∧ (Decidable.decide (Atom.zOf (Atom.z (List.getD l (0 + Int.toNat z'_7 * 1) (0 : Int))) < Atom.zOf (Atom.z (List.getD l (0 + Int.toNat z' * 1) (0 : Int)))) = Bool.false →
    ((0 : Int) ≤ z'_8 ∧ z'_8 < (↑(List.length l) : Int)) ∧ 0 + Int.toNat z'_8 * 1 < List.length l ∧ ((0 : Int) ≤ z'_7 ∧ z'_7 < (↑(List.length l) : Int)) ∧ 0 + Int.toNat z'_7 * 1 < List.length l ∧ True ∧ (Decidable.decide (Atom.zOf (Atom.z (List.getD l (0 + Int.toNat z'_8 * 1) (0 : Int))) < Atom.zOf (Atom.z (List.getD l (0 + Int.toNat z'_7 * 1) (0 : Int)))) = Bool.true →
    ((0 : Int) ≤ z'_8 ∧ z'_8 < (↑(List.length l) : Int)) ∧ 0 + Int.toNat z'_8 * 1 < List.length l ∧ ((0 : Int) ≤ z' ∧ z' < (↑(List.length l) : Int)) ∧ 0 + Int.toNat z' * 1 < List.length l ∧ True ∧ (Decidable.decide (Atom.zOf (Atom.z (List.getD l (0 + Int.toNat z'_8 * 1) (0 : Int))) < Atom.zOf (Atom.z (List.getD l (0 + Int.toNat z' * 1) (0 : Int)))) = Bool.true →
    (kindEq IntKind.u32 IntKind.u32 = Bool.true ∧ t = t) ∧ l = l ∧ ((↑a : Int) ≤ z' ∧ z' < (↑b : Int)) ∧ ((0 : Int) = (0 : Int) ∨ (0 : Int) = (1 : Int))) ∧ (Decidable.decide (Atom.zOf (Atom.z (List.getD l (0 + Int.toNat z'_8 * 1) (0 : Int))) < Atom.zOf (Atom.z (List.getD l (0 + Int.toNat z' * 1) (0 : Int)))) = Bool.false →
    (kindEq IntKind.u32 IntKind.u32 = Bool.true ∧ t = t) ∧ l = l ∧ ((↑a : Int) ≤ z'_8 ∧ z'_8 < (↑b : Int)) ∧ ((0 : Int) = (0 : Int) ∨ (0 : Int) = (1 : Int)))) ∧ (Decidable.decide (Atom.zOf (Atom.z (List.getD l (0 + Int.toNat z'_8 * 1) (0 : Int))) < Atom.zOf (Atom.z (List.getD l (0 + Int.toNat z'_7 * 1) (0 : Int)))) = Bool.false →
    ((0 : Int) ≤ z'_7 ∧ z'_7 < (↑(List.length l) : Int)) ∧ 0 + Int.toNat z'_7 * 1 < List.length l ∧ ((0 : Int) ≤ z' ∧ z' < (↑(List.length l) : Int)) ∧ 0 + Int.toNat z' * 1 < List.length l ∧ True ∧ (Decidable.decide (Atom.zOf (Atom.z (List.getD l (0 + Int.toNat z'_7 * 1) (0 : Int))) < Atom.zOf (Atom.z (List.getD l (0 + Int.toNat z' * 1) (0 : Int)))) = Bool.true →
    (kindEq IntKind.u32 IntKind.u32 = Bool.true ∧ t = t) ∧ l = l ∧ ((↑a : Int) ≤ z' ∧ z' < (↑b : Int)) ∧ ((0 : Int) = (0 : Int) ∨ (0 : Int) = (1 : Int))) ∧ (Decidable.decide (Atom.zOf (Atom.z (List.getD l (0 + Int.toNat z'_7 * 1) (0 : Int))) < Atom.zOf (Atom.z (List.getD l (0 + Int.toNat z' * 1) (0 : Int)))) = Bool.false →
    (kindEq IntKind.u32 IntKind.u32 = Bool.true ∧ t = t) ∧ l = l ∧ ((↑a : Int) ≤ z'_7 ∧ z'_7 < (↑b : Int)) ∧ ((1 : Int) = (0 : Int) ∨ (1 : Int) = (1 : Int)))))) ∧ (Decidable.decide ((50 : Int) ≤ z') = Bool.false →
    ((0 : Int) ≤ z'_4 ∧ z'_4 < (↑(List.length l) : Int)) ∧ 0 + Int.toNat z'_4 * 1 < List.length l ∧ ((0 : Int) ≤ z'_2 ∧ z'_2 < (↑(List.length l) : Int)) ∧ 0 + Int.toNat z'_2 * 1 < List.length l ∧ True ∧ (Decidable.decide (Atom.zOf (Atom.z (List.getD l (0 + Int.toNat z'_4 * 1) (0 : Int))) < Atom.zOf (Atom.z (List.getD l (0 + Int.toNat z'_2 * 1) (0 : Int)))) = Bool.true →
    ((0 : Int) ≤ z'_6 ∧ z'_6 < (↑(List.length l) : Int)) ∧ 0 + Int.toNat z'_6 * 1 < List.length l ∧ ((0 : Int) ≤ z'_2 ∧ z'_2 < (↑(List.length l) : Int)) ∧ 0 + Int.toNat z'_2 * 1 < List.length l ∧ True ∧ (Decidable.decide (Atom.zOf (Atom.z (List.getD l (0 + Int.toNat z'_6 * 1) (0 : Int))) < Atom.zOf (Atom.z (List.getD l (0 + Int.toNat z'_2 * 1) (0 : Int)))) = Bool.true →
    ((0 : Int) ≤ z'_6 ∧ z'_6 < (↑(List.length l) : Int)) ∧ 0 + Int.toNat z'_6 * 1 < List.length l ∧ ((0 : Int) ≤ z'_4 ∧ z'_4 < (↑(List.length l) : Int)) ∧ 0 + Int.toNat z'_4 * 1 < List.length l ∧ True ∧ (Decidable.decide (Atom.zOf (Atom.z (List.getD l (0 + Int.toNat z'_6 * 1) (0 : Int))) < Atom.zOf (Atom.z (List.getD l (0 + Int.toNat z'_4 * 1) (0 : Int)))) = Bool.true →
    (kindEq IntKind.u32 IntKind.u32 = Bool.true ∧ t = t) ∧ l = l ∧ ((↑a : Int) ≤ z'_4 ∧ z'_4 < (↑b : Int)) ∧ ((0 : Int) = (0 : Int) ∨ (0 : Int) = (1 : Int))) ∧ (Decidable.decide (Atom.zOf (Atom.z (List.getD l (0 + Int.toNat z'_6 * 1) (0 : Int))) < Atom.zOf (Atom.z (List.getD l (0 + Int.toNat z'_4 * 1) (0 : Int)))) = Bool.false →
    (kindEq IntKind.u32 IntKind.u32 = Bool.true ∧ t = t) ∧ l = l ∧ ((↑a : Int) ≤ z'_6 ∧ z'_6 < (↑b : Int)) ∧ ((0 : Int) = (0 : Int) ∨ (0 : Int) = (1 : Int)))) ∧ (Decidable.decide (Atom.zOf (Atom.z (List.getD l (0 + Int.toNat z'_6 * 1) (0 : Int))) < Atom.zOf (Atom.z (List.getD l (0 + Int.toNat z'_2 * 1) (0 : Int)))) = Bool.false →
    ((0 : Int) ≤ z'_2 ∧ z'_2 < (↑(List.length l) : Int)) ∧ 0 + Int.toNat z'_2 * 1 < List.length l ∧ ((0 : Int) ≤ z'_4 ∧ z'_4 < (↑(List.length l) : Int)) ∧ 0 + Int.toNat z'_4 * 1 < List.length l ∧ True ∧ (Decidable.decide (Atom.zOf (Atom.z (List.getD l (0 + Int.toNat z'_2 * 1) (0 : Int))) < Atom.zOf (Atom.z (List.getD l (0 + Int.toNat z'_4 * 1) (0 : Int)))) = Bool.true →
    (kindEq IntKind.u32 IntKind.u32 = Bool.true ∧ t = t) ∧ l = l ∧ ((↑a : Int) ≤ z'_4 ∧ z'_4 < (↑b : Int)) ∧ ((0 : Int) = (0 : Int) ∨ (0 : Int) = (1 : Int))) ∧ (Decidable.decide (Atom.zOf (Atom.z (List.getD l (0 + Int.toNat z'_2 * 1) (0 : Int))) < Atom.zOf (Atom.z (List.getD l (0 + Int.toNat z'_4 * 1) (0 : Int)))) = Bool.false →
    (kindEq IntKind.u32 IntKind.u32 = Bool.true ∧ t = t) ∧ l = l ∧ ((↑a : Int) ≤ z'_2 ∧ z'_2 < (↑b : Int)) ∧ ((0 : Int) = (0 : Int) ∨ (0 : Int) = (1 : Int))))) ∧ (Decidable.decide (Atom.zOf (Atom.z (List.getD l (0 + Int.toNat z'_4 * 1) (0 : Int))) < Atom.zOf (Atom.z (List.getD l (0 + Int.toNat z'_2 * 1) (0 : Int)))) = Bool.false →
    ((0 : Int) ≤ z'_6 ∧ z'_6 < (↑(List.length l) : Int)) ∧ 0 + Int.toNat z'_6 * 1 < List.length l ∧ ((0 : Int) ≤ z'_4 ∧ z'_4 < (↑(List.length l) : Int)) ∧ 0 + Int.toNat z'_4 * 1 < List.length l ∧ True ∧ (Decidable.decide (Atom.zOf (Atom.z (List.getD l (0 + Int.toNat z'_6 * 1) (0 : Int))) < Atom.zOf (Atom.z (List.getD l (0 + Int.toNat z'_4 * 1) (0 : Int)))) = Bool.true →
    ((0 : Int) ≤ z'_6 ∧ z'_6 < (↑(List.length l) : Int)) ∧ 0 + Int.toNat z'_6 * 1 < List.length l ∧ ((0 : Int) ≤ z'_2 ∧ z'_2 < (↑(List.length l) : Int)) ∧ 0 + Int.toNat z'_2 * 1 < List.length l ∧ True ∧ (Decidable.decide (Atom.zOf (Atom.z (List.getD l (0 + Int.toNat z'_6 * 1) (0 : Int))) < Atom.zOf (Atom.z (List.getD l (0 + Int.toNat z'_2 * 1) (0 : Int)))) = Bool.true →
    (kindEq IntKind.u32 IntKind.u32 = Bool.true ∧ t = t) ∧ l = l ∧ ((↑a : Int) ≤ z'_2 ∧ z'_2 < (↑b : Int)) ∧ ((0 : Int) = (0 : Int) ∨ (0 : Int) = (1 : Int))) ∧ (Decidable.decide (Atom.zOf (Atom.z (List.getD l (0 + Int.toNat z'_6 * 1) (0 : Int))) < Atom.zOf (Atom.z (List.getD l (0 + Int.toNat z'_2 * 1) (0 : Int)))) = Bool.false →
    (kindEq IntKind.u32 IntKind.u32 = Bool.true ∧ t = t) ∧ l = l ∧ ((↑a : Int) ≤ z'_6 ∧ z'_6 < (↑b : Int)) ∧ ((0 : Int) = (0 : Int) ∨ (0 : Int) = (1 : Int)))) ∧ (Decidable.decide (Atom.zOf (Atom.z (List.getD l (0 + Int.toNat z'_6 * 1) (0 : Int))) < Atom.zOf (Atom.z (List.getD l (0 + Int.toNat z'_4 * 1) (0 : Int)))) = Bool.false →
    ((0 : Int) ≤ z'_4 ∧ z'_4 < (↑(List.length l) : Int)) ∧ 0 + Int.toNat z'_4 * 1 < List.length l ∧ ((0 : Int) ≤ z'_2 ∧ z'_2 < (↑(List.length l) : Int)) ∧ 0 + Int.toNat z'_2 * 1 < List.length l ∧ True ∧ (Decidable.decide (Atom.zOf (Atom.z (List.getD l (0 + Int.toNat z'_4 * 1) (0 : Int))) < Atom.zOf (Atom.z (List.getD l (0 + Int.toNat z'_2 * 1) (0 : Int)))) = Bool.true →
    (kindEq IntKind.u32 IntKind.u32 = Bool.true ∧ t = t) ∧ l = l ∧ ((↑a : Int) ≤ z'_2 ∧ z'_2 < (↑b : Int)) ∧ ((0 : Int) = (0 : Int) ∨ (0 : Int) = (1 : Int))) ∧ (Decidable.decide (Atom.zOf (Atom.z (List.getD l (0 + Int.toNat z'_4 * 1) (0 : Int))) < Atom.zOf (Atom.z (List.getD l (0 + Int.toNat z'_2 * 1) (0 : Int)))) = Bool.false →
    (kindEq IntKind.u32 IntKind.u32 = Bool.true ∧ t = t) ∧ l = l ∧ ((↑a : Int) ≤ z'_4 ∧ z'_4 < (↑b : Int)) ∧ ((1 : Int) = (0 : Int) ∨ (1 : Int) = (1 : Int))))))) ∧ (Decidable.decide ((8 : Int) ≤ z') = Bool.false →
    (kindEq IntKind.u32 IntKind.u32 = Bool.true ∧ t = t) ∧ l = l ∧ ((↑a : Int) ≤ z'_4 ∧ z'_4 < (↑b : Int)) ∧ ((1 : Int) = (0 : Int) ∨ (1 : Int) = (1 : Int)))
theorem chof_eq (l : List Int) (a b c : Nat) (t : TypeId) : nestF Try.prog .leaf (choHooks .leaf) (annU []) CHOOSE [.sslice (1000, 0) l.length c false 1, .sint .i64 (a : Int), .sint .i64 (b : Int)] (rowSt .u32 l t) [] (rowK .u32 (choK l a b) t) = chof l a b c t := by kernel_rfl
def chofS (l : List Int) (a b c : Nat) (t : TypeId) : Prop :=
    inR IntKind.i64 ((↑b : Int) - (↑a : Int)) ∧ ∀ (z' : Int), z' = (↑b : Int) - (↑a : Int) →
    ((0 : Int) ≤ z' ∧ (0 : Int) < (4 : Int)) ∧ inR IntKind.i64 (z' / (4 : Int) * (1 : Int)) ∧ ∀ (z'_1 : Int), z'_1 = z' / (4 : Int) * (1 : Int) →
    inR IntKind.i64 ((↑a : Int) + z'_1) ∧ ∀ (z'_2 : Int), z'_2 = (↑a : Int) + z'_1 →
    ((0 : Int) ≤ z' ∧ (0 : Int) < (4 : Int)) ∧ inR IntKind.i64 (z' / (4 : Int) * (2 : Int)) ∧ ∀ (z'_3 : Int), z'_3 = z' / (4 : Int) * (2 : Int) →
    inR IntKind.i64 ((↑a : Int) + z'_3) ∧ ∀ (z'_4 : Int), z'_4 = (↑a : Int) + z'_3 →
    ((0 : Int) ≤ z' ∧ (0 : Int) < (4 : Int)) ∧ inR IntKind.i64 (z' / (4 : Int) * (3 : Int)) ∧ ∀ (z'_5 : Int), z'_5 = z' / (4 : Int) * (3 : Int) →
    inR IntKind.i64 ((↑a : Int) + z'_5) ∧ ∀ (z'_6 : Int), z'_6 = (↑a : Int) + z'_5 →
    ((8 : Int) ≤ z' →
    ((50 : Int) ≤ z' →
    False) ∧ (¬(50 : Int) ≤ z' →
    ((0 : Int) ≤ z'_4 ∧ z'_4 < (↑(List.length l) : Int)) ∧ 0 + Int.toNat z'_4 * 1 < List.length l ∧ ((0 : Int) ≤ z'_2 ∧ z'_2 < (↑(List.length l) : Int)) ∧ 0 + Int.toNat z'_2 * 1 < List.length l ∧ (List.getD l (0 + Int.toNat z'_4 * 1) (0 : Int) < List.getD l (0 + Int.toNat z'_2 * 1) (0 : Int) →
    ((0 : Int) ≤ z'_6 ∧ z'_6 < (↑(List.length l) : Int)) ∧ 0 + Int.toNat z'_6 * 1 < List.length l ∧ ((0 : Int) ≤ z'_2 ∧ z'_2 < (↑(List.length l) : Int)) ∧ 0 + Int.toNat z'_2 * 1 < List.length l ∧ (List.getD l (0 + Int.toNat z'_6 * 1) (0 : Int) < List.getD l (0 + Int.toNat z'_2 * 1) (0 : Int) →
    ((0 : Int) ≤ z'_6 ∧ z'_6 < (↑(List.length l) : Int)) ∧ 0 + Int.toNat z'_6 * 1 < List.length l ∧ ((0 : Int) ≤ z'_4 ∧ z'_4 < (↑(List.length l) : Int)) ∧ 0 + Int.toNat z'_4 * 1 < List.length l ∧ (List.getD l (0 + Int.toNat z'_6 * 1) (0 : Int) < List.getD l (0 + Int.toNat z'_4 * 1) (0 : Int) →
    kindEq IntKind.u32 IntKind.u32 = Bool.true ∧ ((↑a : Int) ≤ z'_4 ∧ z'_4 < (↑b : Int)) ∧ ((0 : Int) = (0 : Int) ∨ (0 : Int) = (1 : Int))) ∧ (¬List.getD l (0 + Int.toNat z'_6 * 1) (0 : Int) < List.getD l (0 + Int.toNat z'_4 * 1) (0 : Int) →
    kindEq IntKind.u32 IntKind.u32 = Bool.true ∧ ((↑a : Int) ≤ z'_6 ∧ z'_6 < (↑b : Int)) ∧ ((0 : Int) = (0 : Int) ∨ (0 : Int) = (1 : Int)))) ∧ (¬List.getD l (0 + Int.toNat z'_6 * 1) (0 : Int) < List.getD l (0 + Int.toNat z'_2 * 1) (0 : Int) →
    ((0 : Int) ≤ z'_2 ∧ z'_2 < (↑(List.length l) : Int)) ∧ 0 + Int.toNat z'_2 * 1 < List.length l ∧ ((0 : Int) ≤ z'_4 ∧ z'_4 < (↑(List.length l) : Int)) ∧ 0 + Int.toNat z'_4 * 1 < List.length l ∧ (List.getD l (0 + Int.toNat z'_2 * 1) (0 : Int) < List.getD l (0 + Int.toNat z'_4 * 1) (0 : Int) →
    kindEq IntKind.u32 IntKind.u32 = Bool.true ∧ ((↑a : Int) ≤ z'_4 ∧ z'_4 < (↑b : Int)) ∧ ((0 : Int) = (0 : Int) ∨ (0 : Int) = (1 : Int))) ∧ (¬List.getD l (0 + Int.toNat z'_2 * 1) (0 : Int) < List.getD l (0 + Int.toNat z'_4 * 1) (0 : Int) →
    kindEq IntKind.u32 IntKind.u32 = Bool.true ∧ ((↑a : Int) ≤ z'_2 ∧ z'_2 < (↑b : Int)) ∧ ((0 : Int) = (0 : Int) ∨ (0 : Int) = (1 : Int))))) ∧ (¬List.getD l (0 + Int.toNat z'_4 * 1) (0 : Int) < List.getD l (0 + Int.toNat z'_2 * 1) (0 : Int) →
    ((0 : Int) ≤ z'_6 ∧ z'_6 < (↑(List.length l) : Int)) ∧ 0 + Int.toNat z'_6 * 1 < List.length l ∧ ((0 : Int) ≤ z'_4 ∧ z'_4 < (↑(List.length l) : Int)) ∧ 0 + Int.toNat z'_4 * 1 < List.length l ∧ (List.getD l (0 + Int.toNat z'_6 * 1) (0 : Int) < List.getD l (0 + Int.toNat z'_4 * 1) (0 : Int) →
    ((0 : Int) ≤ z'_6 ∧ z'_6 < (↑(List.length l) : Int)) ∧ 0 + Int.toNat z'_6 * 1 < List.length l ∧ ((0 : Int) ≤ z'_2 ∧ z'_2 < (↑(List.length l) : Int)) ∧ 0 + Int.toNat z'_2 * 1 < List.length l ∧ (List.getD l (0 + Int.toNat z'_6 * 1) (0 : Int) < List.getD l (0 + Int.toNat z'_2 * 1) (0 : Int) →
    kindEq IntKind.u32 IntKind.u32 = Bool.true ∧ ((↑a : Int) ≤ z'_2 ∧ z'_2 < (↑b : Int)) ∧ ((0 : Int) = (0 : Int) ∨ (0 : Int) = (1 : Int))) ∧ (¬List.getD l (0 + Int.toNat z'_6 * 1) (0 : Int) < List.getD l (0 + Int.toNat z'_2 * 1) (0 : Int) →
    kindEq IntKind.u32 IntKind.u32 = Bool.true ∧ ((↑a : Int) ≤ z'_6 ∧ z'_6 < (↑b : Int)) ∧ ((0 : Int) = (0 : Int) ∨ (0 : Int) = (1 : Int)))) ∧ (¬List.getD l (0 + Int.toNat z'_6 * 1) (0 : Int) < List.getD l (0 + Int.toNat z'_4 * 1) (0 : Int) →
    ((0 : Int) ≤ z'_4 ∧ z'_4 < (↑(List.length l) : Int)) ∧ 0 + Int.toNat z'_4 * 1 < List.length l ∧ ((0 : Int) ≤ z'_2 ∧ z'_2 < (↑(List.length l) : Int)) ∧ 0 + Int.toNat z'_2 * 1 < List.length l ∧ (List.getD l (0 + Int.toNat z'_4 * 1) (0 : Int) < List.getD l (0 + Int.toNat z'_2 * 1) (0 : Int) →
    kindEq IntKind.u32 IntKind.u32 = Bool.true ∧ ((↑a : Int) ≤ z'_2 ∧ z'_2 < (↑b : Int)) ∧ ((0 : Int) = (0 : Int) ∨ (0 : Int) = (1 : Int))) ∧ (¬List.getD l (0 + Int.toNat z'_4 * 1) (0 : Int) < List.getD l (0 + Int.toNat z'_2 * 1) (0 : Int) →
    kindEq IntKind.u32 IntKind.u32 = Bool.true ∧ ((↑a : Int) ≤ z'_4 ∧ z'_4 < (↑b : Int)) ∧ ((1 : Int) = (0 : Int) ∨ (1 : Int) = (1 : Int))))))) ∧ (¬(8 : Int) ≤ z' →
    kindEq IntKind.u32 IntKind.u32 = Bool.true ∧ ((↑a : Int) ≤ z'_4 ∧ z'_4 < (↑b : Int)) ∧ ((1 : Int) = (0 : Int) ∨ (1 : Int) = (1 : Int)))
theorem chof_of (l : List Int) (a b c : Nat) (t : TypeId) (hS0 : chofS l a b c t) : chof l a b c t := by
  unfold chofS at hS0
  unfold chof
  exact (have a428 := hS0.1; have b429 := hS0.2; ⟨a428, (fun x1 => have y427 := b429 x1; (fun k2 => have y426 := y427 k2; (have a424 := y426.1; have b425 := y426.2; ⟨a424, (have a422 := b425.1; have b423 := b425.2; ⟨a422, (fun x5 => have y421 := b423 x5; (fun k6 => have y420 := y421 k6; (have a418 := y420.1; have b419 := y420.2; ⟨a418, (fun x7 => have y417 := b419 x7; (fun k8 => have y416 := y417 k8; (have a414 := y416.1; have b415 := y416.2; ⟨a414, (have a412 := b415.1; have b413 := b415.2; ⟨a412, (fun x11 => have y411 := b413 x11; (fun k12 => have y410 := y411 k12; (have a408 := y410.1; have b409 := y410.2; ⟨a408, (fun x13 => have y407 := b409 x13; (fun k14 => have y406 := y407 k14; (have a404 := y406.1; have b405 := y406.2; ⟨a404, (have a402 := b405.1; have b403 := b405.2; ⟨a402, (fun x17 => have y401 := b403 x17; (fun k18 => have y400 := y401 k18; (have a398 := y400.1; have b399 := y400.2; ⟨a398, (fun x19 => have y397 := b399 x19; (fun k20 => have y396 := y397 k20; (have a394 := y396.1; have b395 := y396.2; ⟨(fun k21 => have y385 := a394 (of_decide_eq_true k21); (have a383 := y385.1; have b384 := y385.2; ⟨(fun k22 => (a383 (of_decide_eq_true k22)).elim), (fun k207 => have y382 := b384 (of_decide_eq_false k207); (have a380 := y382.1; have b381 := y382.2; ⟨a380, (have a378 := b381.1; have b379 := b381.2; ⟨a378, (have a376 := b379.1; have b377 := b379.2; ⟨a376, (have a374 := b377.1; have b375 := b377.2; ⟨a374, trivial, (have a372 := b375.1; have b373 := b375.2; ⟨(fun k212 => have y291 := a372 (of_decide_eq_true k212); (have a289 := y291.1; have b290 := y291.2; ⟨a289, (have a287 := b290.1; have b288 := b290.2; ⟨a287, (have a285 := b288.1; have b286 := b288.2; ⟨a285, (have a283 := b286.1; have b284 := b286.2; ⟨a283, trivial, (have a281 := b284.1; have b282 := b284.2; ⟨(fun k217 => have y248 := a281 (of_decide_eq_true k217); (have a246 := y248.1; have b247 := y248.2; ⟨a246, (have a244 := b247.1; have b245 := b247.2; ⟨a244, (have a242 := b245.1; have b243 := b245.2; ⟨a242, (have a240 := b243.1; have b241 := b243.2; ⟨a240, trivial, (have a238 := b241.1; have b239 := b241.2; ⟨(fun k222 => have y229 := a238 (of_decide_eq_true k222); (have a227 := y229.1; have b228 := y229.2; ⟨⟨a227, rfl⟩, rfl, b228⟩)), (fun k230 => have y237 := b239 (of_decide_eq_false k230); (have a235 := y237.1; have b236 := y237.2; ⟨⟨a235, rfl⟩, rfl, b236⟩))⟩)⟩)⟩)⟩)⟩)), (fun k249 => have y280 := b282 (of_decide_eq_false k249); (have a278 := y280.1; have b279 := y280.2; ⟨a278, (have a276 := b279.1; have b277 := b279.2; ⟨a276, (have a274 := b277.1; have b275 := b277.2; ⟨a274, (have a272 := b275.1; have b273 := b275.2; ⟨a272, trivial, (have a270 := b273.1; have b271 := b273.2; ⟨(fun k254 => have y261 := a270 (of_decide_eq_true k254); (have a259 := y261.1; have b260 := y261.2; ⟨⟨a259, rfl⟩, rfl, b260⟩)), (fun k262 => have y269 := b271 (of_decide_eq_false k262); (have a267 := y269.1; have b268 := y269.2; ⟨⟨a267, rfl⟩, rfl, b268⟩))⟩)⟩)⟩)⟩)⟩))⟩)⟩)⟩)⟩)⟩)), (fun k292 => have y371 := b373 (of_decide_eq_false k292); (have a369 := y371.1; have b370 := y371.2; ⟨a369, (have a367 := b370.1; have b368 := b370.2; ⟨a367, (have a365 := b368.1; have b366 := b368.2; ⟨a365, (have a363 := b366.1; have b364 := b366.2; ⟨a363, trivial, (have a361 := b364.1; have b362 := b364.2; ⟨(fun k297 => have y328 := a361 (of_decide_eq_true k297); (have a326 := y328.1; have b327 := y328.2; ⟨a326, (have a324 := b327.1; have b325 := b327.2; ⟨a324, (have a322 := b325.1; have b323 := b325.2; ⟨a322, (have a320 := b323.1; have b321 := b323.2; ⟨a320, trivial, (have a318 := b321.1; have b319 := b321.2; ⟨(fun k302 => have y309 := a318 (of_decide_eq_true k302); (have a307 := y309.1; have b308 := y309.2; ⟨⟨a307, rfl⟩, rfl, b308⟩)), (fun k310 => have y317 := b319 (of_decide_eq_false k310); (have a315 := y317.1; have b316 := y317.2; ⟨⟨a315, rfl⟩, rfl, b316⟩))⟩)⟩)⟩)⟩)⟩)), (fun k329 => have y360 := b362 (of_decide_eq_false k329); (have a358 := y360.1; have b359 := y360.2; ⟨a358, (have a356 := b359.1; have b357 := b359.2; ⟨a356, (have a354 := b357.1; have b355 := b357.2; ⟨a354, (have a352 := b355.1; have b353 := b355.2; ⟨a352, trivial, (have a350 := b353.1; have b351 := b353.2; ⟨(fun k334 => have y341 := a350 (of_decide_eq_true k334); (have a339 := y341.1; have b340 := y341.2; ⟨⟨a339, rfl⟩, rfl, b340⟩)), (fun k342 => have y349 := b351 (of_decide_eq_false k342); (have a347 := y349.1; have b348 := y349.2; ⟨⟨a347, rfl⟩, rfl, b348⟩))⟩)⟩)⟩)⟩)⟩))⟩)⟩)⟩)⟩)⟩))⟩)⟩)⟩)⟩)⟩))⟩)), (fun k386 => have y393 := b395 (of_decide_eq_false k386); (have a391 := y393.1; have b392 := y393.2; ⟨⟨a391, rfl⟩, rfl, b392⟩))⟩)))⟩)))⟩)⟩)))⟩)))⟩)⟩)))⟩)))⟩)⟩)))⟩)
def prtf (l : List Int) (a b c : Nat) (t : TypeId) : Prop :=
    inR IntKind.i64 ((↑a : Int) + (1 : Int)) ∧ ∀ (z' : Int), z' = (↑a : Int) + (1 : Int) →
    (ExT Unit fun x => True ∧ True ∧ ((↑a : Int) + (1 : Int) = z' ∧ (0 : Int) = (0 : Int) ∧ ((0 : Nat) = 0 ∧ List.length l = List.length l ∧ c = c) ∧ (↑a : Int) = (↑a : Int) ∧ (↑a : Int) = (↑a : Int) ∧ (↑b : Int) = (↑b : Int) ∧ z' = z' ∧ True) ∧ l = l ∧ True) ∧ (∀ (x : Unit), True →
    (ExT Nat fun x => (a + 1 ≤ x ∧ x ≤ b ∧ Srt l a x) ∧ True ∧ ((↑x : Int) = (↑a : Int) + (1 : Int) ∧ ((0 : Nat) = 0 ∧ List.length l = List.length l ∧ c = c) ∧ (↑a : Int) = (↑a : Int) ∧ (↑a : Int) = (↑a : Int) ∧ (0 : Int) = (0 : Int) ∧ (↑b : Int) = (↑b : Int) ∧ (0 : Int) = (0 : Int) ∧ z' = z' ∧ (!Bool.false) = !Bool.false ∧ True) ∧ l = l ∧ True) ∧ (∀ (x : Nat), a + 1 ≤ x ∧ x ≤ b ∧ Srt l a x →
    (Decidable.decide ((↑x : Int) < (↑b : Int)) = Bool.true →
    ((0 : Int) ≤ (↑x : Int) ∧ (↑x : Int) < (↑(List.length l) : Int)) ∧ 0 + Int.toNat (↑x : Int) * 1 < List.length l ∧ inR IntKind.i64 ((↑x : Int) - (1 : Int)) ∧ ∀ (z'_1 : Int), z'_1 = (↑x : Int) - (1 : Int) →
    ((0 : Int) ≤ z'_1 ∧ z'_1 < (↑(List.length l) : Int)) ∧ 0 + Int.toNat z'_1 * 1 < List.length l ∧ True ∧ ((!Decidable.decide (Atom.zOf (Atom.z (List.getD l (0 + Int.toNat (↑x : Int) * 1) (0 : Int))) < Atom.zOf (Atom.z (List.getD l (0 + Int.toNat z'_1 * 1) (0 : Int))))) = Bool.true →
    inR IntKind.i64 ((↑x : Int) + (1 : Int)) ∧ ∀ (z'_2 : Int), z'_2 = (↑x : Int) + (1 : Int) →
    ExT Nat fun y => (b - y < b - x ∧ a + 1 ≤ y ∧ y ≤ b ∧ Srt l a y) ∧ True ∧ ((↑y : Int) = z'_2 ∧ ((0 : Nat) = 0 ∧ List.length l = List.length l ∧ c = c) ∧ (↑a : Int) = (↑a : Int) ∧ (↑a : Int) = (↑a : Int) ∧ (0 : Int) = (0 : Int) ∧ (↑b : Int) = (↑b : Int) ∧ (0 : Int) = (0 : Int) ∧ z' = z' ∧ Bool.true = Bool.true ∧ True) ∧ l = l ∧ True) ∧ ((!Decidable.decide (Atom.zOf (Atom.z (List.getD l (0 + Int.toNat (↑x : Int) * 1) (0 : Int))) < Atom.zOf (Atom.z (List.getD l (0 + Int.toNat z'_1 * 1) (0 : Int))))) = Bool.false →
    ExT Nat fun z => (a + 1 ≤ z ∧ z ≤ b ∧ Srt l a z) ∧ True ∧ ((↑z : Int) = (↑x : Int) ∧ ((0 : Nat) = 0 ∧ List.length l = List.length l ∧ c = c) ∧ (↑a : Int) = (↑a : Int) ∧ (↑a : Int) = (↑a : Int) ∧ (0 : Int) = (0 : Int) ∧ (↑b : Int) = (↑b : Int) ∧ (0 : Int) = (0 : Int) ∧ z' = z' ∧ Bool.true = Bool.true ∧ True) ∧ l = l ∧ True)) ∧ (Decidable.decide ((↑x : Int) < (↑b : Int)) = Bool.false →
    ExT Nat fun z => (a + 1 ≤ z ∧ z ≤ b ∧ Srt l a z) ∧ True ∧ ((↑z : Int) = (↑x : Int) ∧ ((0 : Nat) = 0 ∧ List.length l = List.length l ∧ c = c) ∧ (↑a : Int) = (↑a : Int) ∧ (↑a : Int) = (↑a : Int) ∧ (0 : Int) = (0 : Int) ∧ (↑b : Int) = (↑b : Int) ∧ (0 : Int) = (0 : Int) ∧ z' = z' ∧ Bool.true = Bool.true ∧ True) ∧ l = l ∧ True)) ∧ (∀ (z : Nat), a + 1 ≤ z ∧ z ≤ b ∧ Srt l a z →
    (Decidable.decide ((↑z : Int) = (↑b : Int)) = Bool.true →
    ExT Bool fun z => (z = Bool.true →
    Srt l a b) ∧ True ∧ (z = Bool.true ∧ ((0 : Nat) = 0 ∧ List.length l = List.length l ∧ c = c) ∧ (↑a : Int) = (↑a : Int) ∧ (↑a : Int) = (↑a : Int) ∧ (↑b : Int) = (↑b : Int) ∧ z' = z' ∧ True) ∧ l = l ∧ True) ∧ (Decidable.decide ((↑z : Int) = (↑b : Int)) = Bool.false →
    inR IntKind.i64 ((↑b : Int) - (↑a : Int)) ∧ ∀ (z'_1 : Int), z'_1 = (↑b : Int) - (↑a : Int) →
    Decidable.decide (z'_1 < (50 : Int)) = Bool.true ∧ ExT Bool fun z => (z = Bool.true →
    Srt l a b) ∧ True ∧ (z = Bool.false ∧ ((0 : Nat) = 0 ∧ List.length l = List.length l ∧ c = c) ∧ (↑a : Int) = (↑a : Int) ∧ (↑a : Int) = (↑a : Int) ∧ (↑b : Int) = (↑b : Int) ∧ z' = z' ∧ True) ∧ l = l ∧ True)) ∧ True) ∧ (∀ (z : Bool), (z = Bool.true →
    Srt l a b) →
    (kindEq IntKind.u32 IntKind.u32 = Bool.true ∧ t = t) ∧ l = l ∧ (z = Bool.true →
    Srt l a b)) ∧ True
theorem prtf_eq (l : List Int) (a b c : Nat) (t : TypeId) : nestF Try.prog .leaf (soHooks .leaf) (annU [(PARTIAL, 0, prtO a l b), (PARTIAL, 2, prtI a l b)]) PARTIAL [.sslice (1000, 0) l.length c false 1, .sint .i64 (a : Int), .sint .i64 (b : Int)] (rowSt .u32 l t) [] (rowK .u32 (prtK l a b) t) = prtf l a b c t := by kernel_rfl
def prtfS (l : List Int) (a b c : Nat) (t : TypeId) : Prop :=
    inR IntKind.i64 ((↑a : Int) + (1 : Int)) ∧ ∀ (z' : Int), z' = (↑a : Int) + (1 : Int) →
    (↑a : Int) + (1 : Int) = z' ∧ ((ExT Nat fun x => (a + 1 ≤ x ∧ x ≤ b ∧ Srt l a x) ∧ (↑x : Int) = (↑a : Int) + (1 : Int)) ∧ (∀ (x : Nat), a + 1 ≤ x ∧ x ≤ b ∧ Srt l a x →
    ((↑x : Int) < (↑b : Int) →
    ((0 : Int) ≤ (↑x : Int) ∧ (↑x : Int) < (↑(List.length l) : Int)) ∧ 0 + x * 1 < List.length l ∧ inR IntKind.i64 ((↑x : Int) - (1 : Int)) ∧ ∀ (z' : Int), z' = (↑x : Int) - (1 : Int) →
    ((0 : Int) ≤ z' ∧ z' < (↑(List.length l) : Int)) ∧ 0 + Int.toNat z' * 1 < List.length l ∧ (¬List.getD l (0 + x * 1) (0 : Int) < List.getD l (0 + Int.toNat z' * 1) (0 : Int) →
    inR IntKind.i64 ((↑x : Int) + (1 : Int)) ∧ ∀ (z' : Int), z' = (↑x : Int) + (1 : Int) →
    ExT Nat fun y => (b - y < b - x ∧ a + 1 ≤ y ∧ y ≤ b ∧ Srt l a y) ∧ (↑y : Int) = z') ∧ (List.getD l (0 + x * 1) (0 : Int) < List.getD l (0 + Int.toNat z' * 1) (0 : Int) →
    ExT Nat fun z => (a + 1 ≤ z ∧ z ≤ b ∧ Srt l a z) ∧ (↑z : Int) = (↑x : Int))) ∧ (¬(↑x : Int) < (↑b : Int) →
    ExT Nat fun z => (a + 1 ≤ z ∧ z ≤ b ∧ Srt l a z) ∧ (↑z : Int) = (↑x : Int))) ∧ ∀ (z : Nat), a + 1 ≤ z ∧ z ≤ b ∧ Srt l a z →
    ((↑z : Int) = (↑b : Int) →
    ExT Bool fun z => (z = Bool.true →
    Srt l a b) ∧ z = Bool.true) ∧ (¬(↑z : Int) = (↑b : Int) →
    inR IntKind.i64 ((↑b : Int) - (↑a : Int)) ∧ ∀ (z' : Int), z' = (↑b : Int) - (↑a : Int) →
    Decidable.decide (z' < (50 : Int)) = Bool.true ∧ ExT Bool fun z => (z = Bool.true →
    Srt l a b) ∧ z = Bool.false)) ∧ ∀ (z : Bool), (z = Bool.true →
    Srt l a b) →
    kindEq IntKind.u32 IntKind.u32 = Bool.true ∧ (z = Bool.true →
    Srt l a b)
theorem prtf_of (l : List Int) (a b c : Nat) (t : TypeId) (hS0 : prtfS l a b c t) : prtf l a b c t := by
  unfold prtfS at hS0
  unfold prtf
  exact (have a126 := hS0.1; have b127 := hS0.2; ⟨a126, (fun x1 => have y125 := b127 x1; (fun k2 => have y124 := y125 k2; (have a122 := y124.1; have b123 := y124.2; ⟨⟨(), trivial, trivial, ⟨a122, rfl, ⟨rfl, rfl, rfl⟩, rfl, rfl, rfl, rfl, trivial⟩, rfl, trivial⟩, (have a120 := b123.1; have b121 := b123.2; ⟨(fun _ => (fun _ => (have a110 := a120.1; have b111 := a120.2; ⟨(Exists.elim a110 fun x4 k5 => ⟨x4, (have a10 := k5.1; have b11 := k5.2; ⟨a10, trivial, ⟨b11, ⟨rfl, rfl, rfl⟩, rfl, rfl, rfl, rfl, rfl, rfl, rfl, trivial⟩, rfl, trivial⟩)⟩), (have a108 := b111.1; have b109 := b111.2; ⟨(fun x12 => have y77 := a108 x12; (fun k13 => have y76 := y77 k13; (have a74 := y76.1; have b75 := y76.2; ⟨(fun k14 => have y63 := a74 (of_decide_eq_true k14); (have a61 := y63.1; have b62 := y63.2; ⟨a61, (have a59 := b62.1; have b60 := b62.2; ⟨a59, (have a57 := b60.1; have b58 := b60.2; ⟨a57, (fun x17 => have y56 := b58 x17; (fun k18 => have y55 := y56 k18; (have a53 := y55.1; have b54 := y55.2; ⟨a53, (have a51 := b54.1; have b52 := b54.2; ⟨a51, trivial, (have a49 := b52.1; have b50 := b52.2; ⟨(fun k21 => have y38 := a49 (Go.Proofs.Ytbaofmhfcalomaa.Abs.not_dec_true k21); (have a36 := y38.1; have b37 := y38.2; ⟨a36, (fun x22 => have y35 := b37 x22; (fun k23 => have y34 := y35 k23; (Exists.elim y34 fun x24 k25 => ⟨x24, (have a32 := k25.1; have b33 := k25.2; ⟨a32, trivial, ⟨b33, ⟨rfl, rfl, rfl⟩, rfl, rfl, rfl, rfl, rfl, rfl, rfl, trivial⟩, rfl, trivial⟩)⟩)))⟩)), (fun k39 => have y48 := b50 (Go.Proofs.Ytbaofmhfcalomaa.Abs.not_dec_false k39); (Exists.elim y48 fun x40 k41 => ⟨x40, (have a46 := k41.1; have b47 := k41.2; ⟨a46, trivial, ⟨b47, ⟨rfl, rfl, rfl⟩, rfl, rfl, rfl, rfl, rfl, rfl, rfl, trivial⟩, rfl, trivial⟩)⟩))⟩)⟩)⟩)))⟩)⟩)⟩)), (fun k64 => have y73 := b75 (of_decide_eq_false k64); (Exists.elim y73 fun x65 k66 => ⟨x65, (have a71 := k66.1; have b72 := k66.2; ⟨a71, trivial, ⟨b72, ⟨rfl, rfl, rfl⟩, rfl, rfl, rfl, rfl, rfl, rfl, rfl, trivial⟩, rfl, trivial⟩)⟩))⟩))), (fun x78 => have y107 := b109 x78; (fun k79 => have y106 := y107 k79; (have a104 := y106.1; have b105 := y106.2; ⟨(fun k80 => have y87 := a104 (of_decide_eq_true k80); (Exists.elim y87 fun x81 k82 => ⟨x81, (have a85 := k82.1; have b86 := k82.2; ⟨a85, trivial, ⟨b86, ⟨rfl, rfl, rfl⟩, rfl, rfl, rfl, rfl, trivial⟩, rfl, trivial⟩)⟩)), (fun k88 => have y103 := b105 (of_decide_eq_false k88); (have a101 := y103.1; have b102 := y103.2; ⟨a101, (fun x89 => have y100 := b102 x89; (fun k90 => have y99 := y100 k90; (have a97 := y99.1; have b98 := y99.2; ⟨a97, (Exists.elim b98 fun x91 k92 => ⟨x91, (have a95 := k92.1; have b96 := k92.2; ⟨a95, trivial, ⟨b96, ⟨rfl, rfl, rfl⟩, rfl, rfl, rfl, rfl, trivial⟩, rfl, trivial⟩)⟩)⟩)))⟩))⟩))), trivial⟩)⟩))), (fun x112 => have y119 := b121 x112; (fun k113 => have y118 := y119 k113; (have a116 := y118.1; have b117 := y118.2; ⟨⟨a116, rfl⟩, rfl, b117⟩))), trivial⟩)⟩)))⟩)

theorem chof_ok {l : List Int} {a b c : Nat} {t : TypeId} (hab : a < b) (hb : b ≤ l.length) (hl : l.length ≤ 65536) (h50 : b < a + 50) : chof l a b c t := by
  refine chof_of _ _ _ _ _ ?_
  unfold chofS
  simp only [Nat.zero_add, Nat.mul_one]
  repeat' (first
    | (with_reducible refine And.intro ?_ ?_)
    | (intro (h : false = true); cases h)
    | (intro (h : true = false); cases h)
    | (intro h; first | (replace h := of_decide_eq_true h) | (replace h := of_decide_eq_false h) | skip)
    | (with_reducible exact trivial)
    | (with_reducible rfl)
    | (with_reducible exact ⟨(), trivial, trivial, trivial, trivial⟩)
    | (show kindEq IntKind.u32 IntKind.u32 = true; rfl)
    | (with_reducible exact .inl trivial)
    | (with_reducible exact .inr trivial)
    | omega
    | (with_reducible refine decide_eq_true ?_; omega)
    | (with_reducible refine decide_eq_false ?_; omega)
    | (simp only [in_u8, in_u16, in_u32, in_u64, in_i64, Nat.le_eq]; omega)
    | (exfalso; omega))
theorem srt_one (l : List Int) (a : Nat) : Srt l a (a + 1) := ⟨fun x y h1 h2 h3 => by
  obtain rfl : x = y := by omega
  exact Int.le_refl _⟩
theorem srt_step {l : List Int} {a i : Nat} (h : Srt l a i) (hi : l.getD (i - 1) 0 ≤ l.getD i 0) (h1 : a < i) : Srt l a (i + 1) := ⟨fun x y e1 e2 e3 => by
  by_cases hy : y = i
  · subst hy
    by_cases hx : x = y
    · subst hx; exact Int.le_refl _
    · have := h.le x (y - 1) e1 (by omega) (by omega)
      omega
  · exact h.le x y e1 e2 (by omega)⟩
theorem prtf_ok {l : List Int} {a b c : Nat} {t : TypeId} (hab : a < b) (hb : b ≤ l.length) (hl : l.length ≤ 65536) (h50 : b < a + 50) : prtf l a b c t := by
  refine prtf_of _ _ _ _ _ ?_
  unfold prtfS
  simp only [Nat.zero_add, Nat.mul_one]
  repeat' (first
    | (with_reducible refine And.intro ?_ ?_)
    | (intro (h : false = true); cases h)
    | (intro (h : true = false); cases h)
    | (intro h; first | (replace h := of_decide_eq_true h) | (replace h := of_decide_eq_false h) | skip)
    | (with_reducible exact trivial)
    | (with_reducible rfl)
    | (with_reducible exact ⟨(), trivial, trivial, trivial, trivial⟩)
    | (show kindEq IntKind.u32 IntKind.u32 = true; rfl)
    | (with_reducible exact .inl trivial)
    | (with_reducible exact .inr trivial)
    | omega
    | (with_reducible refine decide_eq_true ?_; omega)
    | (with_reducible refine decide_eq_false ?_; omega)
    | (simp only [in_u8, in_u16, in_u32, in_u64, in_i64, Nat.le_eq]; omega)
    | (exfalso; omega))
  · exact ⟨a + 1, ⟨Nat.le_refl _, hab, srt_one l a⟩, by omega⟩
  · rename_i x hx h1 z hz h2 z2
    rw [show z.toNat = x - 1 by omega] at h2
    exact ⟨x + 1, ⟨by omega, by omega, by omega, srt_step hx.2.2 (by omega) (by omega)⟩, by omega⟩
  · rename_i x hx h1 z hz
    exact ⟨x, hx, rfl⟩
  · rename_i x hx
    exact ⟨x, hx, rfl⟩
  · rename_i z0 hz0 z1 hz1
    exact ⟨true, fun _ => by
      have e : z1 = b := by omega
      exact e ▸ hz1.2.2, rfl⟩
  · exact ⟨false, (fun hh => (by cases hh)), rfl⟩
  · rename_i h2
    exact h2 h
end Go.Proofs.Ytbaofmhfcalomaa.So
