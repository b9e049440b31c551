/- window: waits. By an AI agent. -/
import Derived.Test.YthpldimdfbecjaaWk
import Derived.Test.YthpldimdfbecjaaHk4
import Derived.Test.YthpldimdfbecjaaOpen
namespace Go.Proofs.Ythpldimdfbecjaa.So
open Go Go.RowKit Go.Proofs.Ythpldimdfbecjaa.Abs Go.Proofs.Ythpldimdfbecjaa.M
set_option linter.unusedVariables false
set_option linter.unusedSimpArgs false
abbrev WAITS : FuncId := 5
abbrev WAIT : FuncId := 33
def zs : Nat → Prop
  | 0 => True
  | n + 1 => (0 : Int) = (0 : Int) ∧ zs n
/-- the waits; when it is due -/
def wtI (f m : Int) : Nat → Int
  | 0 => f
  | k + 1 => min (2 * wtI f m k) m
def nwI (f m n0 : Int) : Nat → Int
  | 0 => n0
  | k + 1 => nwI f m n0 k + min (wtI f m k) m
noncomputable def cellOf (st : St) (x i : Nat) : AVal := match st.heap.get x with | some (.cells l _) => (match nth l i with | some v => v | none => .undef) | _ => .undef
def waitS (f m T : Int) : USpec :=
  { X := Nat, ok := fun j => (j : Int) + 1 ≤ T ∧ 1 ≤ wtI f m j ∧ wtI f m j ≤ m, m := fun j => (T - j).toNat, I := fun j => ([(5, .sint .i64 (wtI f m j)), (6, .sint .i64 ((j : Int) + 1))], []), dc := [],
    outs := [(.exit 0, { Z := Nat, post := fun j => ((j : Int) + 1 ≤ T ∧ 1 ≤ wtI f m j ∧ wtI f m j ≤ m) ∧ (T ≤ (j : Int) + 1 ∨ m ≤ wtI f m j), J := fun j => ([(5, .sint .i64 (wtI f m j)), (6, .sint .i64 ((j : Int) + 1))], []) })] }
noncomputable def waitA (τ : PT AVal) (st : St) : USpec :=
  match cellOf st (ptrN τ 0) 1, cellOf st (ptrN τ 0) 2, τ.get 1 with
  | .sint _ f, .sint _ m, some (.sint _ T) => waitS f m T
  | _, _, _ => nul
noncomputable def winS (f m n0 : Int) (M : Nat) (t : TypeId) : USpec :=
  let I : Nat → List (Nat × AVal) × List (Nat × AObj) := fun k => ([(11, .sint .i64 (nwI f m n0 k)), (14, .sint .i64 (wtI f m k)), (57, .sint .i64 (k : Int))], [(M, .map [(.int .u32 0, .agg [.str [112], .sint .i64 (k : Int), .sint .i64 (nwI f m n0 k)])])])
  { X := Nat, ok := fun k => k ≤ 20 ∧ 0 ≤ nwI f m n0 k ∧ nwI f m n0 k ≤ 109951162777 ∧ 1 ≤ wtI f m k ∧ wtI f m k ≤ m, m := fun k => 20 - k, I := I, dc := [],
    outs := [(.exit 0, { Z := Nat, post := fun k => k ≤ 20 ∧ 0 ≤ nwI f m n0 k ∧ nwI f m n0 k ≤ 109951162777, J := I })] }
noncomputable def winA (τ : PT AVal) (st : St) : USpec :=
  match cellOf st (ptrN τ 9) 1, cellOf st (ptrN τ 9) 2, cellOf st (ptrN τ 9) 3, τ.get 11 with
  | .sint _ f, .sint _ m, .map (some M), some (.sint _ n0) => winS f m n0 M 0
  | _, _, _, _ => nul
noncomputable def winHooks (RO : PT AObj) : FuncId → Option Hook := hkAdd TELLS trueH (hkAdd SORTED (sortedH RO) hkNone)
--forms
set_option maxRecDepth 100000 in
set_option maxHeartbeats 8000000 in
def waif (a b t : Int) : Prop :=
    ((0 : Int) ≤ a ∧ (0 : Int) < (1000 : Int)) ∧ inR IntKind.i64 ((1 : Int) + a % (1000 : Int)) ∧ ∀ (z' : Int), z' = (1 : Int) + a % (1000 : Int) →
    inR IntKind.i64 (z' + b) ∧ ∀ (z1 : Int), z1 = z' + b →
    (decide (z' < (1 : Int)) = true →
    ((0 : Int) ≤ t ∧ (0 : Int) < (1073741824 : Int)) ∧ false = true) ∧ (decide (z' < (1 : Int)) = false →
    (decide (z1 < z') = true →
    ((0 : Int) ≤ t ∧ (0 : Int) < (1073741824 : Int)) ∧ false = true) ∧ (decide (z1 < z') = false →
    (decide ((1099511627776 : Int) < z1) = true →
    ((0 : Int) ≤ t ∧ (0 : Int) < (1073741824 : Int)) ∧ false = true) ∧ (decide ((1099511627776 : Int) < z1) = false →
    ((0 : Int) ≤ t ∧ (0 : Int) < (1073741824 : Int)) ∧ (decide (t % (1073741824 : Int) < (0 : Int)) = true →
    false = true) ∧ (decide (t % (1073741824 : Int) < (0 : Int)) = false →
    (decide ((1099511627776 : Int) < t % (1073741824 : Int)) = true →
    false = true) ∧ (decide ((1099511627776 : Int) < t % (1073741824 : Int)) = false →
    (ExT Nat fun x => (x ≤ 20 ∧ (0 : Int) ≤ nwI z' z1 (t % (1073741824 : Int)) x ∧ nwI z' z1 (t % (1073741824 : Int)) x ≤ (109951162777 : Int) ∧ (1 : Int) ≤ wtI z' z1 x ∧ wtI z' z1 x ≤ z1) ∧ True ∧ (nwI z' z1 (t % (1073741824 : Int)) x = t % (1073741824 : Int) ∧ wtI z' z1 x = z' ∧ ((↑x : Int) = (0 : Int) ∧ inR IntKind.i64 (↑x : Int)) ∧ a = a ∧ b = b ∧ z' = z' ∧ z1 = z1 ∧ false = false ∧ a % (1000 : Int) = a % (1000 : Int) ∧ (0 : Nat) = 0 ∧ false = false ∧ t = t ∧ false = false ∧ b = b ∧ zs 2 ∧ (0 : Nat) = 0 ∧ (0 : Nat) = 0 ∧ (0 : Int) = (0 : Int) ∧ z' = z' ∧ ((0 : Nat) = 0 ∧ (1 : Nat) = 1 ∧ (1 : Nat) = 1) ∧ (0 : Int) = (0 : Int) ∧ a = a ∧ t % (1073741824 : Int) = t % (1073741824 : Int) ∧ (0 : Int) = (0 : Int) ∧ ((0 : Nat) = 0 ∧ (0 : Int) = (0 : Int) ∧ True) ∧ (0 : Int) = (0 : Int) ∧ t = t ∧ z1 = z1 ∧ ((0 : Nat) = 0 ∧ (0 : Int) = (0 : Int) ∧ True) ∧ false = false ∧ z' = z' ∧ ((0 : Nat) = 0 ∧ (1 : Nat) = 1 ∧ (1 : Nat) = 1) ∧ z' = z' ∧ (0 : Int) = (0 : Int) ∧ t % (1073741824 : Int) = t % (1073741824 : Int) ∧ false = false ∧ z1 = z1 ∧ (0 : Int) = (0 : Int) ∧ (0 : Int) = (0 : Int) ∧ (0 : Int) = (0 : Int) ∧ false = false ∧ b = b ∧ t % (1073741824 : Int) = t % (1073741824 : Int) ∧ a % (1000 : Int) = a % (1000 : Int) ∧ zs 2 ∧ false = false ∧ z' = z' ∧ (0 : Int) = (0 : Int) ∧ True) ∧ (((0 : Int) = (0 : Int) ∧ [112] = [112] ∧ ((↑x : Int) = (0 : Int) ∧ inR IntKind.i64 (↑x : Int)) ∧ nwI z' z1 (t % (1073741824 : Int)) x = t % (1073741824 : Int) ∧ True) ∧ True) ∧ ((112 : Int) = (112 : Int) ∧ True) ∧ ((3 : Int) = (3 : Int) ∧ (1 : Int) = (1 : Int) ∧ True) ∧ ((0 : Nat) = 0 ∧ z' = z' ∧ z1 = z1 ∧ True ∧ True) ∧ True) ∧ (∀ (x : Nat), x ≤ 20 ∧ (0 : Int) ≤ nwI z' z1 (t % (1073741824 : Int)) x ∧ nwI z' z1 (t % (1073741824 : Int)) x ≤ (109951162777 : Int) ∧ (1 : Int) ≤ wtI z' z1 x ∧ wtI z' z1 x ≤ z1 →
    (decide ((↑x : Int) < (20 : Int)) = true →
    (decide (nwI z' z1 (t % (1073741824 : Int)) x ≠ nwI z' z1 (t % (1073741824 : Int)) x) = true →
    False) ∧ (decide (nwI z' z1 (t % (1073741824 : Int)) x ≠ nwI z' z1 (t % (1073741824 : Int)) x) = false →
    (decide ((0 : Int) < nwI z' z1 (t % (1073741824 : Int)) x) = true →
    inR IntKind.i64 (nwI z' z1 (t % (1073741824 : Int)) x - (1 : Int)) ∧ ∀ (z2 : Int), z2 = nwI z' z1 (t % (1073741824 : Int)) x - (1 : Int) →
    ∀ (z3 : Int), z3 = max z2 (0 : Int) →
    ∀ (z4 : Int), z4 = min z3 (1099511627776 : Int) →
    (decide (z4 < nwI z' z1 (t % (1073741824 : Int)) x) = true →
    ∀ (z5 : Int), z5 = max (nwI z' z1 (t % (1073741824 : Int)) x) (0 : Int) →
    ∀ (z6 : Int), z6 = min z5 (1099511627776 : Int) →
    (decide (z6 < nwI z' z1 (t % (1073741824 : Int)) x) = true →
    False) ∧ (decide (z6 < nwI z' z1 (t % (1073741824 : Int)) x) = false →
    inR IntKind.i64 ((↑x : Int) + (1 : Int)) ∧ ∀ (z7 : Int), z7 = (↑x : Int) + (1 : Int) →
    (ExT Nat fun x_1 => ((↑x_1 : Int) + (1 : Int) ≤ z7 ∧ (1 : Int) ≤ wtI z' z1 x_1 ∧ wtI z' z1 x_1 ≤ z1) ∧ True ∧ (wtI z' z1 x_1 = z' ∧ ((↑x_1 : Int) + (1 : Int) = (1 : Int) ∧ inR IntKind.i64 ((↑x_1 : Int) + (1 : Int))) ∧ (0 : Nat) = 0 ∧ z7 = z7 ∧ (0 : Nat) = 0 ∧ (1 : Nat) = 1 ∧ (0 : Int) = (0 : Int) ∧ (0 : Nat) = 0 ∧ z' = z' ∧ True) ∧ ((0 : Int) = (0 : Int) ∧ True) ∧ ([112] = [112] ∧ z7 = z7 ∧ nwI z' z1 (t % (1073741824 : Int)) x = nwI z' z1 (t % (1073741824 : Int)) x ∧ True) ∧ ((112 : Int) = (112 : Int) ∧ True) ∧ (True ∧ True) ∧ (True ∧ True) ∧ (((0 : Int) = (0 : Int) ∧ [112] = [112] ∧ (↑x : Int) = (↑x : Int) ∧ nwI z' z1 (t % (1073741824 : Int)) x = nwI z' z1 (t % (1073741824 : Int)) x ∧ True) ∧ True) ∧ ([112] = [112] ∧ (↑x : Int) = (↑x : Int) ∧ nwI z' z1 (t % (1073741824 : Int)) x = nwI z' z1 (t % (1073741824 : Int)) x ∧ True) ∧ ((3 : Int) = (3 : Int) ∧ (1 : Int) = (1 : Int) ∧ True) ∧ ((0 : Int) = (0 : Int) ∧ True) ∧ ((0 : Int) = (0 : Int) ∧ True) ∧ ((0 : Nat) = 0 ∧ z' = z' ∧ z1 = z1 ∧ True ∧ True) ∧ (True ∧ True) ∧ True) ∧ (∀ (x_1 : Nat), (↑x_1 : Int) + (1 : Int) ≤ z7 ∧ (1 : Int) ≤ wtI z' z1 x_1 ∧ wtI z' z1 x_1 ≤ z1 →
    (decide ((↑x_1 : Int) + (1 : Int) < z7) = true →
    (decide (wtI z' z1 x_1 < z1) = true →
    inR IntKind.i64 ((2 : Int) * wtI z' z1 x_1) ∧ ∀ (z8 : Int), z8 = (2 : Int) * wtI z' z1 x_1 →
    ∀ (z9 : Int), z9 = min z8 z1 →
    inR IntKind.i64 ((↑x_1 : Int) + (1 : Int) + (1 : Int)) ∧ ∀ (z10 : Int), z10 = (↑x_1 : Int) + (1 : Int) + (1 : Int) →
    ExT Nat fun y => (Int.toNat (z7 - (↑y : Int)) < Int.toNat (z7 - (↑x_1 : Int)) ∧ (↑y : Int) + (1 : Int) ≤ z7 ∧ (1 : Int) ≤ wtI z' z1 y ∧ wtI z' z1 y ≤ z1) ∧ True ∧ (wtI z' z1 y = z9 ∧ (↑y : Int) + (1 : Int) = z10 ∧ (0 : Nat) = 0 ∧ z7 = z7 ∧ (0 : Nat) = 0 ∧ (1 : Nat) = 1 ∧ (0 : Int) = (0 : Int) ∧ (0 : Nat) = 0 ∧ z' = z' ∧ True) ∧ ((0 : Int) = (0 : Int) ∧ True) ∧ ([112] = [112] ∧ z7 = z7 ∧ nwI z' z1 (t % (1073741824 : Int)) x = nwI z' z1 (t % (1073741824 : Int)) x ∧ True) ∧ ((112 : Int) = (112 : Int) ∧ True) ∧ (True ∧ True) ∧ (True ∧ True) ∧ (((0 : Int) = (0 : Int) ∧ [112] = [112] ∧ (↑x : Int) = (↑x : Int) ∧ nwI z' z1 (t % (1073741824 : Int)) x = nwI z' z1 (t % (1073741824 : Int)) x ∧ True) ∧ True) ∧ ([112] = [112] ∧ (↑x : Int) = (↑x : Int) ∧ nwI z' z1 (t % (1073741824 : Int)) x = nwI z' z1 (t % (1073741824 : Int)) x ∧ True) ∧ ((3 : Int) = (3 : Int) ∧ (1 : Int) = (1 : Int) ∧ True) ∧ ((0 : Int) = (0 : Int) ∧ True) ∧ ((0 : Int) = (0 : Int) ∧ True) ∧ ((0 : Nat) = 0 ∧ z' = z' ∧ z1 = z1 ∧ True ∧ True) ∧ (True ∧ True) ∧ True) ∧ (decide (wtI z' z1 x_1 < z1) = false →
    ExT Nat fun z => (((↑z : Int) + (1 : Int) ≤ z7 ∧ (1 : Int) ≤ wtI z' z1 z ∧ wtI z' z1 z ≤ z1) ∧ (z7 ≤ (↑z : Int) + (1 : Int) ∨ z1 ≤ wtI z' z1 z)) ∧ True ∧ (wtI z' z1 z = wtI z' z1 x_1 ∧ (↑z : Int) + (1 : Int) = (↑x_1 : Int) + (1 : Int) ∧ (0 : Nat) = 0 ∧ z7 = z7 ∧ (0 : Nat) = 0 ∧ (1 : Nat) = 1 ∧ (0 : Int) = (0 : Int) ∧ (0 : Nat) = 0 ∧ z' = z' ∧ True) ∧ ((0 : Int) = (0 : Int) ∧ True) ∧ ([112] = [112] ∧ z7 = z7 ∧ nwI z' z1 (t % (1073741824 : Int)) x = nwI z' z1 (t % (1073741824 : Int)) x ∧ True) ∧ ((112 : Int) = (112 : Int) ∧ True) ∧ (True ∧ True) ∧ (True ∧ True) ∧ (((0 : Int) = (0 : Int) ∧ [112] = [112] ∧ (↑x : Int) = (↑x : Int) ∧ nwI z' z1 (t % (1073741824 : Int)) x = nwI z' z1 (t % (1073741824 : Int)) x ∧ True) ∧ True) ∧ ([112] = [112] ∧ (↑x : Int) = (↑x : Int) ∧ nwI z' z1 (t % (1073741824 : Int)) x = nwI z' z1 (t % (1073741824 : Int)) x ∧ True) ∧ ((3 : Int) = (3 : Int) ∧ (1 : Int) = (1 : Int) ∧ True) ∧ ((0 : Int) = (0 : Int) ∧ True) ∧ ((0 : Int) = (0 : Int) ∧ True) ∧ ((0 : Nat) = 0 ∧ z' = z' ∧ z1 = z1 ∧ True ∧ True) ∧ (True ∧ True) ∧ True)) ∧ (decide ((↑x_1 : Int) + (1 : Int) < z7) = false →
    ExT Nat fun z => (((↑z : Int) + (1 : Int) ≤ z7 ∧ (1 : Int) ≤ wtI z' z1 z ∧ wtI z' z1 z ≤ z1) ∧ (z7 ≤ (↑z : Int) + (1 : Int) ∨ z1 ≤ wtI z' z1 z)) ∧ True ∧ (wtI z' z1 z = wtI z' z1 x_1 ∧ (↑z : Int) + (1 : Int) = (↑x_1 : Int) + (1 : Int) ∧ (0 : Nat) = 0 ∧ z7 = z7 ∧ (0 : Nat) = 0 ∧ (1 : Nat) = 1 ∧ (0 : Int) = (0 : Int) ∧ (0 : Nat) = 0 ∧ z' = z' ∧ True) ∧ ((0 : Int) = (0 : Int) ∧ True) ∧ ([112] = [112] ∧ z7 = z7 ∧ nwI z' z1 (t % (1073741824 : Int)) x = nwI z' z1 (t % (1073741824 : Int)) x ∧ True) ∧ ((112 : Int) = (112 : Int) ∧ True) ∧ (True ∧ True) ∧ (True ∧ True) ∧ (((0 : Int) = (0 : Int) ∧ [112] = [112] ∧ (↑x : Int) = (↑x : Int) ∧ nwI z' z1 (t % (1073741824 : Int)) x = nwI z' z1 (t % (1073741824 : Int)) x ∧ True) ∧ True) ∧ ([112] = [112] ∧ (↑x : Int) = (↑x : Int) ∧ nwI z' z1 (t % (1073741824 : Int)) x = nwI z' z1 (t % (1073741824 : Int)) x ∧ True) ∧ ((3 : Int) = (3 : Int) ∧ (1 : Int) = (1 : Int) ∧ True) ∧ ((0 : Int) = (0 : Int) ∧ True) ∧ ((0 : Int) = (0 : Int) ∧ True) ∧ ((0 : Nat) = 0 ∧ z' = z' ∧ z1 = z1 ∧ True ∧ True) ∧ (True ∧ True) ∧ True)) ∧ (∀ (z : Nat), ((↑z : Int) + (1 : Int) ≤ z7 ∧ (1 : Int) ≤ wtI z' z1 z ∧ wtI z' z1 z ≤ z1) ∧ (z7 ≤ (↑z : Int) + (1 : Int) ∨ z1 ≤ wtI z' z1 z) →
    inR IntKind.i64 (z6 + wtI z' z1 z) ∧ ∀ (z8 : Int), z8 = z6 + wtI z' z1 z →
    inR IntKind.i64 ((↑x : Int) + (1 : Int)) ∧ ∀ (z9 : Int), z9 = (↑x : Int) + (1 : Int) →
    (decide (z7 ≠ z9) = true →
    False) ∧ (decide (z7 ≠ z9) = false →
    ∀ (z10 : Int), z10 = min (wtI z' z1 x) z1 →
    inR IntKind.i64 (nwI z' z1 (t % (1073741824 : Int)) x + z10) ∧ ∀ (z11 : Int), z11 = nwI z' z1 (t % (1073741824 : Int)) x + z10 →
    inR IntKind.i64 ((2 : Int) * wtI z' z1 x) ∧ ∀ (z12 : Int), z12 = (2 : Int) * wtI z' z1 x →
    ∀ (z13 : Int), z13 = min z12 z1 →
    inR IntKind.i64 ((↑x : Int) + (1 : Int)) ∧ ∀ (z14 : Int), z14 = (↑x : Int) + (1 : Int) →
    ExT Nat fun y => (20 - y < 20 - x ∧ y ≤ 20 ∧ (0 : Int) ≤ nwI z' z1 (t % (1073741824 : Int)) y ∧ nwI z' z1 (t % (1073741824 : Int)) y ≤ (109951162777 : Int) ∧ (1 : Int) ≤ wtI z' z1 y ∧ wtI z' z1 y ≤ z1) ∧ True ∧ (nwI z' z1 (t % (1073741824 : Int)) y = z11 ∧ wtI z' z1 y = z13 ∧ (↑y : Int) = z14 ∧ a = a ∧ b = b ∧ z' = z' ∧ z1 = z1 ∧ false = false ∧ a % (1000 : Int) = a % (1000 : Int) ∧ (0 : Nat) = 0 ∧ false = false ∧ t = t ∧ false = false ∧ b = b ∧ zs 2 ∧ (0 : Nat) = 0 ∧ (0 : Nat) = 0 ∧ (0 : Int) = (0 : Int) ∧ z' = z' ∧ ((0 : Nat) = 0 ∧ (1 : Nat) = 1 ∧ (1 : Nat) = 1) ∧ (0 : Int) = (0 : Int) ∧ a = a ∧ t % (1073741824 : Int) = t % (1073741824 : Int) ∧ (0 : Int) = (0 : Int) ∧ ((0 : Nat) = 0 ∧ (0 : Int) = (0 : Int) ∧ True) ∧ (0 : Int) = (0 : Int) ∧ t = t ∧ z1 = z1 ∧ ((0 : Nat) = 0 ∧ (0 : Int) = (0 : Int) ∧ True) ∧ false = false ∧ z' = z' ∧ ((0 : Nat) = 0 ∧ (1 : Nat) = 1 ∧ (1 : Nat) = 1) ∧ z' = z' ∧ (0 : Int) = (0 : Int) ∧ t % (1073741824 : Int) = t % (1073741824 : Int) ∧ false = false ∧ z1 = z1 ∧ (0 : Int) = (0 : Int) ∧ (0 : Int) = (0 : Int) ∧ (0 : Int) = (0 : Int) ∧ false = false ∧ b = b ∧ t % (1073741824 : Int) = t % (1073741824 : Int) ∧ a % (1000 : Int) = a % (1000 : Int) ∧ zs 2 ∧ false = false ∧ z' = z' ∧ (0 : Int) = (0 : Int) ∧ True) ∧ (((0 : Int) = (0 : Int) ∧ [112] = [112] ∧ (↑y : Int) = z7 ∧ nwI z' z1 (t % (1073741824 : Int)) y = z8 ∧ True) ∧ True) ∧ ((112 : Int) = (112 : Int) ∧ True) ∧ ((3 : Int) = (3 : Int) ∧ (1 : Int) = (1 : Int) ∧ True) ∧ ((0 : Nat) = 0 ∧ z' = z' ∧ z1 = z1 ∧ True ∧ True) ∧ True)) ∧ True)) ∧ (decide (z4 < nwI z' z1 (t % (1073741824 : Int)) x) = false →
    inR IntKind.i64 ((↑x : Int) + (1 : Int)) ∧ ∀ (z5 : Int), z5 = (↑x : Int) + (1 : Int) →
    (ExT Nat fun x_1 => ((↑x_1 : Int) + (1 : Int) ≤ z5 ∧ (1 : Int) ≤ wtI z' z1 x_1 ∧ wtI z' z1 x_1 ≤ z1) ∧ True ∧ (wtI z' z1 x_1 = z' ∧ ((↑x_1 : Int) + (1 : Int) = (1 : Int) ∧ inR IntKind.i64 ((↑x_1 : Int) + (1 : Int))) ∧ (0 : Nat) = 0 ∧ z5 = z5 ∧ (0 : Nat) = 0 ∧ (1 : Nat) = 1 ∧ (0 : Int) = (0 : Int) ∧ (0 : Nat) = 0 ∧ z' = z' ∧ True) ∧ ((0 : Int) = (0 : Int) ∧ True) ∧ ((112 : Int) = (112 : Int) ∧ True) ∧ (True ∧ True) ∧ (((0 : Int) = (0 : Int) ∧ [112] = [112] ∧ (↑x : Int) = (↑x : Int) ∧ nwI z' z1 (t % (1073741824 : Int)) x = nwI z' z1 (t % (1073741824 : Int)) x ∧ True) ∧ True) ∧ ([112] = [112] ∧ z5 = z5 ∧ nwI z' z1 (t % (1073741824 : Int)) x = nwI z' z1 (t % (1073741824 : Int)) x ∧ True) ∧ ((3 : Int) = (3 : Int) ∧ (1 : Int) = (1 : Int) ∧ True) ∧ ((0 : Int) = (0 : Int) ∧ True) ∧ ((0 : Nat) = 0 ∧ z' = z' ∧ z1 = z1 ∧ True ∧ True) ∧ (True ∧ True) ∧ True) ∧ (∀ (x_1 : Nat), (↑x_1 : Int) + (1 : Int) ≤ z5 ∧ (1 : Int) ≤ wtI z' z1 x_1 ∧ wtI z' z1 x_1 ≤ z1 →
    (decide ((↑x_1 : Int) + (1 : Int) < z5) = true →
    (decide (wtI z' z1 x_1 < z1) = true →
    inR IntKind.i64 ((2 : Int) * wtI z' z1 x_1) ∧ ∀ (z6 : Int), z6 = (2 : Int) * wtI z' z1 x_1 →
    ∀ (z7 : Int), z7 = min z6 z1 →
    inR IntKind.i64 ((↑x_1 : Int) + (1 : Int) + (1 : Int)) ∧ ∀ (z8 : Int), z8 = (↑x_1 : Int) + (1 : Int) + (1 : Int) →
    ExT Nat fun y => (Int.toNat (z5 - (↑y : Int)) < Int.toNat (z5 - (↑x_1 : Int)) ∧ (↑y : Int) + (1 : Int) ≤ z5 ∧ (1 : Int) ≤ wtI z' z1 y ∧ wtI z' z1 y ≤ z1) ∧ True ∧ (wtI z' z1 y = z7 ∧ (↑y : Int) + (1 : Int) = z8 ∧ (0 : Nat) = 0 ∧ z5 = z5 ∧ (0 : Nat) = 0 ∧ (1 : Nat) = 1 ∧ (0 : Int) = (0 : Int) ∧ (0 : Nat) = 0 ∧ z' = z' ∧ True) ∧ ((0 : Int) = (0 : Int) ∧ True) ∧ ((112 : Int) = (112 : Int) ∧ True) ∧ (True ∧ True) ∧ (((0 : Int) = (0 : Int) ∧ [112] = [112] ∧ (↑x : Int) = (↑x : Int) ∧ nwI z' z1 (t % (1073741824 : Int)) x = nwI z' z1 (t % (1073741824 : Int)) x ∧ True) ∧ True) ∧ ([112] = [112] ∧ z5 = z5 ∧ nwI z' z1 (t % (1073741824 : Int)) x = nwI z' z1 (t % (1073741824 : Int)) x ∧ True) ∧ ((3 : Int) = (3 : Int) ∧ (1 : Int) = (1 : Int) ∧ True) ∧ ((0 : Int) = (0 : Int) ∧ True) ∧ ((0 : Nat) = 0 ∧ z' = z' ∧ z1 = z1 ∧ True ∧ True) ∧ (True ∧ True) ∧ True) ∧ (decide (wtI z' z1 x_1 < z1) = false →
    ExT Nat fun z => (((↑z : Int) + (1 : Int) ≤ z5 ∧ (1 : Int) ≤ wtI z' z1 z ∧ wtI z' z1 z ≤ z1) ∧ (z5 ≤ (↑z : Int) + (1 : Int) ∨ z1 ≤ wtI z' z1 z)) ∧ True ∧ (wtI z' z1 z = wtI z' z1 x_1 ∧ (↑z : Int) + (1 : Int) = (↑x_1 : Int) + (1 : Int) ∧ (0 : Nat) = 0 ∧ z5 = z5 ∧ (0 : Nat) = 0 ∧ (1 : Nat) = 1 ∧ (0 : Int) = (0 : Int) ∧ (0 : Nat) = 0 ∧ z' = z' ∧ True) ∧ ((0 : Int) = (0 : Int) ∧ True) ∧ ((112 : Int) = (112 : Int) ∧ True) ∧ (True ∧ True) ∧ (((0 : Int) = (0 : Int) ∧ [112] = [112] ∧ (↑x : Int) = (↑x : Int) ∧ nwI z' z1 (t % (1073741824 : Int)) x = nwI z' z1 (t % (1073741824 : Int)) x ∧ True) ∧ True) ∧ ([112] = [112] ∧ z5 = z5 ∧ nwI z' z1 (t % (1073741824 : Int)) x = nwI z' z1 (t % (1073741824 : Int)) x ∧ True) ∧ ((3 : Int) = (3 : Int) ∧ (1 : Int) = (1 : Int) ∧ True) ∧ ((0 : Int) = (0 : Int) ∧ True) ∧ ((0 : Nat) = 0 ∧ z' = z' ∧ z1 = z1 ∧ True ∧ True) ∧ (True ∧ True) ∧ True)) ∧ (decide ((↑x_1 : Int) + (1 : Int) < z5) = false →
    ExT Nat fun z => (((↑z : Int) + (1 : Int) ≤ z5 ∧ (1 : Int) ≤ wtI z' z1 z ∧ wtI z' z1 z ≤ z1) ∧ (z5 ≤ (↑z : Int) + (1 : Int) ∨ z1 ≤ wtI z' z1 z)) ∧ True ∧ (wtI z' z1 z = wtI z' z1 x_1 ∧ (↑z : Int) + (1 : Int) = (↑x_1 : Int) + (1 : Int) ∧ (0 : Nat) = 0 ∧ z5 = z5 ∧ (0 : Nat) = 0 ∧ (1 : Nat) = 1 ∧ (0 : Int) = (0 : Int) ∧ (0 : Nat) = 0 ∧ z' = z' ∧ True) ∧ ((0 : Int) = (0 : Int) ∧ True) ∧ ((112 : Int) = (112 : Int) ∧ True) ∧ (True ∧ True) ∧ (((0 : Int) = (0 : Int) ∧ [112] = [112] ∧ (↑x : Int) = (↑x : Int) ∧ nwI z' z1 (t % (1073741824 : Int)) x = nwI z' z1 (t % (1073741824 : Int)) x ∧ True) ∧ True) ∧ ([112] = [112] ∧ z5 = z5 ∧ nwI z' z1 (t % (1073741824 : Int)) x = nwI z' z1 (t % (1073741824 : Int)) x ∧ True) ∧ ((3 : Int) = (3 : Int) ∧ (1 : Int) = (1 : Int) ∧ True) ∧ ((0 : Int) = (0 : Int) ∧ True) ∧ ((0 : Nat) = 0 ∧ z' = z' ∧ z1 = z1 ∧ True ∧ True) ∧ (True ∧ True) ∧ True)) ∧ (∀ (z : Nat), ((↑z : Int) + (1 : Int) ≤ z5 ∧ (1 : Int) ≤ wtI z' z1 z ∧ wtI z' z1 z ≤ z1) ∧ (z5 ≤ (↑z : Int) + (1 : Int) ∨ z1 ≤ wtI z' z1 z) →
    inR IntKind.i64 (z4 + wtI z' z1 z) ∧ ∀ (z6 : Int), z6 = z4 + wtI z' z1 z →
    False) ∧ True)) ∧ (decide ((0 : Int) < nwI z' z1 (t % (1073741824 : Int)) x) = false →
    ∀ (z2 : Int), z2 = max (nwI z' z1 (t % (1073741824 : Int)) x) (0 : Int) →
    ∀ (z3 : Int), z3 = min z2 (1099511627776 : Int) →
    (decide (z3 < nwI z' z1 (t % (1073741824 : Int)) x) = true →
    False) ∧ (decide (z3 < nwI z' z1 (t % (1073741824 : Int)) x) = false →
    inR IntKind.i64 ((↑x : Int) + (1 : Int)) ∧ ∀ (z4 : Int), z4 = (↑x : Int) + (1 : Int) →
    (ExT Nat fun x_1 => ((↑x_1 : Int) + (1 : Int) ≤ z4 ∧ (1 : Int) ≤ wtI z' z1 x_1 ∧ wtI z' z1 x_1 ≤ z1) ∧ True ∧ (wtI z' z1 x_1 = z' ∧ ((↑x_1 : Int) + (1 : Int) = (1 : Int) ∧ inR IntKind.i64 ((↑x_1 : Int) + (1 : Int))) ∧ (0 : Nat) = 0 ∧ z4 = z4 ∧ (0 : Nat) = 0 ∧ (1 : Nat) = 1 ∧ (0 : Int) = (0 : Int) ∧ (0 : Nat) = 0 ∧ z' = z' ∧ True) ∧ ((0 : Int) = (0 : Int) ∧ True) ∧ ((112 : Int) = (112 : Int) ∧ True) ∧ (True ∧ True) ∧ (((0 : Int) = (0 : Int) ∧ [112] = [112] ∧ (↑x : Int) = (↑x : Int) ∧ nwI z' z1 (t % (1073741824 : Int)) x = nwI z' z1 (t % (1073741824 : Int)) x ∧ True) ∧ True) ∧ ([112] = [112] ∧ z4 = z4 ∧ nwI z' z1 (t % (1073741824 : Int)) x = nwI z' z1 (t % (1073741824 : Int)) x ∧ True) ∧ ((3 : Int) = (3 : Int) ∧ (1 : Int) = (1 : Int) ∧ True) ∧ ((0 : Int) = (0 : Int) ∧ True) ∧ ((0 : Nat) = 0 ∧ z' = z' ∧ z1 = z1 ∧ True ∧ True) ∧ (True ∧ True) ∧ True) ∧ (∀ (x_1 : Nat), (↑x_1 : Int) + (1 : Int) ≤ z4 ∧ (1 : Int) ≤ wtI z' z1 x_1 ∧ wtI z' z1 x_1 ≤ z1 →
    (decide ((↑x_1 : Int) + (1 : Int) < z4) = true →
    (decide (wtI z' z1 x_1 < z1) = true →
    inR IntKind.i64 ((2 : Int) * wtI z' z1 x_1) ∧ ∀ (z5 : Int), z5 = (2 : Int) * wtI z' z1 x_1 →
    ∀ (z6 : Int), z6 = min z5 z1 →
    inR IntKind.i64 ((↑x_1 : Int) + (1 : Int) + (1 : Int)) ∧ ∀ (z7 : Int), z7 = (↑x_1 : Int) + (1 : Int) + (1 : Int) →
    ExT Nat fun y => (Int.toNat (z4 - (↑y : Int)) < Int.toNat (z4 - (↑x_1 : Int)) ∧ (↑y : Int) + (1 : Int) ≤ z4 ∧ (1 : Int) ≤ wtI z' z1 y ∧ wtI z' z1 y ≤ z1) ∧ True ∧ (wtI z' z1 y = z6 ∧ (↑y : Int) + (1 : Int) = z7 ∧ (0 : Nat) = 0 ∧ z4 = z4 ∧ (0 : Nat) = 0 ∧ (1 : Nat) = 1 ∧ (0 : Int) = (0 : Int) ∧ (0 : Nat) = 0 ∧ z' = z' ∧ True) ∧ ((0 : Int) = (0 : Int) ∧ True) ∧ ((112 : Int) = (112 : Int) ∧ True) ∧ (True ∧ True) ∧ (((0 : Int) = (0 : Int) ∧ [112] = [112] ∧ (↑x : Int) = (↑x : Int) ∧ nwI z' z1 (t % (1073741824 : Int)) x = nwI z' z1 (t % (1073741824 : Int)) x ∧ True) ∧ True) ∧ ([112] = [112] ∧ z4 = z4 ∧ nwI z' z1 (t % (1073741824 : Int)) x = nwI z' z1 (t % (1073741824 : Int)) x ∧ True) ∧ ((3 : Int) = (3 : Int) ∧ (1 : Int) = (1 : Int) ∧ True) ∧ ((0 : Int) = (0 : Int) ∧ True) ∧ ((0 : Nat) = 0 ∧ z' = z' ∧ z1 = z1 ∧ True ∧ True) ∧ (True ∧ True) ∧ True) ∧ (decide (wtI z' z1 x_1 < z1) = false →
    ExT Nat fun z => (((↑z : Int) + (1 : Int) ≤ z4 ∧ (1 : Int) ≤ wtI z' z1 z ∧ wtI z' z1 z ≤ z1) ∧ (z4 ≤ (↑z : Int) + (1 : Int) ∨ z1 ≤ wtI z' z1 z)) ∧ True ∧ (wtI z' z1 z = wtI z' z1 x_1 ∧ (↑z : Int) + (1 : Int) = (↑x_1 : Int) + (1 : Int) ∧ (0 : Nat) = 0 ∧ z4 = z4 ∧ (0 : Nat) = 0 ∧ (1 : Nat) = 1 ∧ (0 : Int) = (0 : Int) ∧ (0 : Nat) = 0 ∧ z' = z' ∧ True) ∧ ((0 : Int) = (0 : Int) ∧ True) ∧ ((112 : Int) = (112 : Int) ∧ True) ∧ (True ∧ True) ∧ (((0 : Int) = (0 : Int) ∧ [112] = [112] ∧ (↑x : Int) = (↑x : Int) ∧ nwI z' z1 (t % (1073741824 : Int)) x = nwI z' z1 (t % (1073741824 : Int)) x ∧ True) ∧ True) ∧ ([112] = [112] ∧ z4 = z4 ∧ nwI z' z1 (t % (1073741824 : Int)) x = nwI z' z1 (t % (1073741824 : Int)) x ∧ True) ∧ ((3 : Int) = (3 : Int) ∧ (1 : Int) = (1 : Int) ∧ True) ∧ ((0 : Int) = (0 : Int) ∧ True) ∧ ((0 : Nat) = 0 ∧ z' = z' ∧ z1 = z1 ∧ True ∧ True) ∧ (True ∧ True) ∧ True)) ∧ (decide ((↑x_1 : Int) + (1 : Int) < z4) = false →
    ExT Nat fun z => (((↑z : Int) + (1 : Int) ≤ z4 ∧ (1 : Int) ≤ wtI z' z1 z ∧ wtI z' z1 z ≤ z1) ∧ (z4 ≤ (↑z : Int) + (1 : Int) ∨ z1 ≤ wtI z' z1 z)) ∧ True ∧ (wtI z' z1 z = wtI z' z1 x_1 ∧ (↑z : Int) + (1 : Int) = (↑x_1 : Int) + (1 : Int) ∧ (0 : Nat) = 0 ∧ z4 = z4 ∧ (0 : Nat) = 0 ∧ (1 : Nat) = 1 ∧ (0 : Int) = (0 : Int) ∧ (0 : Nat) = 0 ∧ z' = z' ∧ True) ∧ ((0 : Int) = (0 : Int) ∧ True) ∧ ((112 : Int) = (112 : Int) ∧ True) ∧ (True ∧ True) ∧ (((0 : Int) = (0 : Int) ∧ [112] = [112] ∧ (↑x : Int) = (↑x : Int) ∧ nwI z' z1 (t % (1073741824 : Int)) x = nwI z' z1 (t % (1073741824 : Int)) x ∧ True) ∧ True) ∧ ([112] = [112] ∧ z4 = z4 ∧ nwI z' z1 (t % (1073741824 : Int)) x = nwI z' z1 (t % (1073741824 : Int)) x ∧ True) ∧ ((3 : Int) = (3 : Int) ∧ (1 : Int) = (1 : Int) ∧ True) ∧ ((0 : Int) = (0 : Int) ∧ True) ∧ ((0 : Nat) = 0 ∧ z' = z' ∧ z1 = z1 ∧ True ∧ True) ∧ (True ∧ True) ∧ True)) ∧ (∀ (z : Nat), ((↑z : Int) + (1 : Int) ≤ z4 ∧ (1 : Int) ≤ wtI z' z1 z ∧ wtI z' z1 z ≤ z1) ∧ (z4 ≤ (↑z : Int) + (1 : Int) ∨ z1 ≤ wtI z' z1 z) →
    inR IntKind.i64 (z3 + wtI z' z1 z) ∧ ∀ (z5 : Int), z5 = z3 + wtI z' z1 z →
    inR IntKind.i64 ((↑x : Int) + (1 : Int)) ∧ ∀ (z6 : Int), z6 = (↑x : Int) + (1 : Int) →
    (decide (z4 ≠ z6) = true →
    False) ∧ (decide (z4 ≠ z6) = false →
    ∀ (z7 : Int), z7 = min (wtI z' z1 x) z1 →
    inR IntKind.i64 (nwI z' z1 (t % (1073741824 : Int)) x + z7) ∧ ∀ (z8 : Int), z8 = nwI z' z1 (t % (1073741824 : Int)) x + z7 →
    inR IntKind.i64 ((2 : Int) * wtI z' z1 x) ∧ ∀ (z9 : Int), z9 = (2 : Int) * wtI z' z1 x →
    ∀ (z10 : Int), z10 = min z9 z1 →
    inR IntKind.i64 ((↑x : Int) + (1 : Int)) ∧ ∀ (z11 : Int), z11 = (↑x : Int) + (1 : Int) →
    ExT Nat fun y => (20 - y < 20 - x ∧ y ≤ 20 ∧ (0 : Int) ≤ nwI z' z1 (t % (1073741824 : Int)) y ∧ nwI z' z1 (t % (1073741824 : Int)) y ≤ (109951162777 : Int) ∧ (1 : Int) ≤ wtI z' z1 y ∧ wtI z' z1 y ≤ z1) ∧ True ∧ (nwI z' z1 (t % (1073741824 : Int)) y = z8 ∧ wtI z' z1 y = z10 ∧ (↑y : Int) = z11 ∧ a = a ∧ b = b ∧ z' = z' ∧ z1 = z1 ∧ false = false ∧ a % (1000 : Int) = a % (1000 : Int) ∧ (0 : Nat) = 0 ∧ false = false ∧ t = t ∧ false = false ∧ b = b ∧ zs 2 ∧ (0 : Nat) = 0 ∧ (0 : Nat) = 0 ∧ (0 : Int) = (0 : Int) ∧ z' = z' ∧ ((0 : Nat) = 0 ∧ (1 : Nat) = 1 ∧ (1 : Nat) = 1) ∧ (0 : Int) = (0 : Int) ∧ a = a ∧ t % (1073741824 : Int) = t % (1073741824 : Int) ∧ (0 : Int) = (0 : Int) ∧ ((0 : Nat) = 0 ∧ (0 : Int) = (0 : Int) ∧ True) ∧ (0 : Int) = (0 : Int) ∧ t = t ∧ z1 = z1 ∧ ((0 : Nat) = 0 ∧ (0 : Int) = (0 : Int) ∧ True) ∧ false = false ∧ z' = z' ∧ ((0 : Nat) = 0 ∧ (1 : Nat) = 1 ∧ (1 : Nat) = 1) ∧ z' = z' ∧ (0 : Int) = (0 : Int) ∧ t % (1073741824 : Int) = t % (1073741824 : Int) ∧ false = false ∧ z1 = z1 ∧ (0 : Int) = (0 : Int) ∧ (0 : Int) = (0 : Int) ∧ (0 : Int) = (0 : Int) ∧ false = false ∧ b = b ∧ t % (1073741824 : Int) = t % (1073741824 : Int) ∧ a % (1000 : Int) = a % (1000 : Int) ∧ zs 2 ∧ false = false ∧ z' = z' ∧ (0 : Int) = (0 : Int) ∧ True) ∧ (((0 : Int) = (0 : Int) ∧ [112] = [112] ∧ (↑y : Int) = z4 ∧ nwI z' z1 (t % (1073741824 : Int)) y = z5 ∧ True) ∧ True) ∧ ((112 : Int) = (112 : Int) ∧ True) ∧ ((3 : Int) = (3 : Int) ∧ (1 : Int) = (1 : Int) ∧ True) ∧ ((0 : Nat) = 0 ∧ z' = z' ∧ z1 = z1 ∧ True ∧ True) ∧ True)) ∧ True)))) ∧ (decide ((↑x : Int) < (20 : Int)) = false →
    ExT Nat fun z => (z ≤ 20 ∧ (0 : Int) ≤ nwI z' z1 (t % (1073741824 : Int)) z ∧ nwI z' z1 (t % (1073741824 : Int)) z ≤ (109951162777 : Int)) ∧ True ∧ (nwI z' z1 (t % (1073741824 : Int)) z = nwI z' z1 (t % (1073741824 : Int)) x ∧ wtI z' z1 z = wtI z' z1 x ∧ (↑z : Int) = (↑x : Int) ∧ a = a ∧ b = b ∧ z' = z' ∧ z1 = z1 ∧ false = false ∧ a % (1000 : Int) = a % (1000 : Int) ∧ (0 : Nat) = 0 ∧ false = false ∧ t = t ∧ false = false ∧ b = b ∧ zs 2 ∧ (0 : Nat) = 0 ∧ (0 : Nat) = 0 ∧ (0 : Int) = (0 : Int) ∧ z' = z' ∧ ((0 : Nat) = 0 ∧ (1 : Nat) = 1 ∧ (1 : Nat) = 1) ∧ (0 : Int) = (0 : Int) ∧ a = a ∧ t % (1073741824 : Int) = t % (1073741824 : Int) ∧ (0 : Int) = (0 : Int) ∧ ((0 : Nat) = 0 ∧ (0 : Int) = (0 : Int) ∧ True) ∧ (0 : Int) = (0 : Int) ∧ t = t ∧ z1 = z1 ∧ ((0 : Nat) = 0 ∧ (0 : Int) = (0 : Int) ∧ True) ∧ false = false ∧ z' = z' ∧ ((0 : Nat) = 0 ∧ (1 : Nat) = 1 ∧ (1 : Nat) = 1) ∧ z' = z' ∧ (0 : Int) = (0 : Int) ∧ t % (1073741824 : Int) = t % (1073741824 : Int) ∧ false = false ∧ z1 = z1 ∧ (0 : Int) = (0 : Int) ∧ (0 : Int) = (0 : Int) ∧ (0 : Int) = (0 : Int) ∧ false = false ∧ b = b ∧ t % (1073741824 : Int) = t % (1073741824 : Int) ∧ a % (1000 : Int) = a % (1000 : Int) ∧ zs 2 ∧ false = false ∧ z' = z' ∧ (0 : Int) = (0 : Int) ∧ True) ∧ (((0 : Int) = (0 : Int) ∧ [112] = [112] ∧ (↑z : Int) = (↑x : Int) ∧ nwI z' z1 (t % (1073741824 : Int)) z = nwI z' z1 (t % (1073741824 : Int)) x ∧ True) ∧ True) ∧ ((112 : Int) = (112 : Int) ∧ True) ∧ ((3 : Int) = (3 : Int) ∧ (1 : Int) = (1 : Int) ∧ True) ∧ ((0 : Nat) = 0 ∧ z' = z' ∧ z1 = z1 ∧ True ∧ True) ∧ True)) ∧ (∀ (z : Nat), z ≤ 20 ∧ (0 : Int) ≤ nwI z' z1 (t % (1073741824 : Int)) z ∧ nwI z' z1 (t % (1073741824 : Int)) z ≤ (109951162777 : Int) →
    true = true) ∧ True)))))
set_option maxRecDepth 100000 in
set_option maxHeartbeats 8000000 in
theorem waif_eq (a b t : Int) : nestW Try.prog (hp []) (winHooks (hp [])) (annU [(WAITS, 0, winA), (WAIT, 0, waitA)]) WAITS [.sint .u16 a, .sint .u16 b, .sint .u32 t] [] (fun v _ => isTrue v) = waif a b t := by kernel_rfl
set_option maxRecDepth 100000 in
set_option maxHeartbeats 8000000 in
def waifS (a b t : Int) : Prop :=
    ((0 : Int) ≤ a ∧ (0 : Int) < (1000 : Int)) ∧ inR IntKind.i64 ((1 : Int) + a % (1000 : Int)) ∧ ∀ (z' : Int), z' = (1 : Int) + a % (1000 : Int) →
    inR IntKind.i64 (z' + b) ∧ ∀ (z1 : Int), z1 = z' + b →
    (z' < (1 : Int) →
    False) ∧ (¬z' < (1 : Int) →
    (z1 < z' →
    False) ∧ (¬z1 < z' →
    ((1099511627776 : Int) < z1 →
    False) ∧ (¬(1099511627776 : Int) < z1 →
    ((0 : Int) ≤ t ∧ (0 : Int) < (1073741824 : Int)) ∧ (t % (1073741824 : Int) < (0 : Int) →
    False) ∧ (¬t % (1073741824 : Int) < (0 : Int) →
    ((1099511627776 : Int) < t % (1073741824 : Int) →
    False) ∧ (¬(1099511627776 : Int) < t % (1073741824 : Int) →
    (ExT Nat fun x => (x ≤ 20 ∧ (0 : Int) ≤ nwI z' z1 (t % (1073741824 : Int)) x ∧ nwI z' z1 (t % (1073741824 : Int)) x ≤ (109951162777 : Int) ∧ (1 : Int) ≤ wtI z' z1 x ∧ wtI z' z1 x ≤ z1) ∧ (nwI z' z1 (t % (1073741824 : Int)) x = t % (1073741824 : Int) ∧ wtI z' z1 x = z' ∧ (↑x : Int) = (0 : Int) ∧ inR IntKind.i64 (↑x : Int)) ∧ ((↑x : Int) = (0 : Int) ∧ inR IntKind.i64 (↑x : Int)) ∧ nwI z' z1 (t % (1073741824 : Int)) x = t % (1073741824 : Int)) ∧ ∀ (x : Nat), x ≤ 20 ∧ (0 : Int) ≤ nwI z' z1 (t % (1073741824 : Int)) x ∧ nwI z' z1 (t % (1073741824 : Int)) x ≤ (109951162777 : Int) ∧ (1 : Int) ≤ wtI z' z1 x ∧ wtI z' z1 x ≤ z1 →
    ((↑x : Int) < (20 : Int) →
    (nwI z' z1 (t % (1073741824 : Int)) x ≠ nwI z' z1 (t % (1073741824 : Int)) x →
    False) ∧ (¬nwI z' z1 (t % (1073741824 : Int)) x ≠ nwI z' z1 (t % (1073741824 : Int)) x →
    ((0 : Int) < nwI z' z1 (t % (1073741824 : Int)) x →
    inR IntKind.i64 (nwI z' z1 (t % (1073741824 : Int)) x - (1 : Int)) ∧ ∀ (z2 : Int), z2 = nwI z' z1 (t % (1073741824 : Int)) x - (1 : Int) →
    ∀ (z3 : Int), z3 = max z2 (0 : Int) →
    ∀ (z4 : Int), z4 = min z3 (1099511627776 : Int) →
    (z4 < nwI z' z1 (t % (1073741824 : Int)) x →
    ∀ (z5 : Int), z5 = max (nwI z' z1 (t % (1073741824 : Int)) x) (0 : Int) →
    ∀ (z6 : Int), z6 = min z5 (1099511627776 : Int) →
    (z6 < nwI z' z1 (t % (1073741824 : Int)) x →
    False) ∧ (¬z6 < nwI z' z1 (t % (1073741824 : Int)) x →
    inR IntKind.i64 ((↑x : Int) + (1 : Int)) ∧ ∀ (z7 : Int), z7 = (↑x : Int) + (1 : Int) →
    (ExT Nat fun x => ((↑x : Int) + (1 : Int) ≤ z7 ∧ (1 : Int) ≤ wtI z' z1 x ∧ wtI z' z1 x ≤ z1) ∧ wtI z' z1 x = z' ∧ (↑x : Int) + (1 : Int) = (1 : Int) ∧ inR IntKind.i64 ((↑x : Int) + (1 : Int))) ∧ (∀ (x : Nat), (↑x : Int) + (1 : Int) ≤ z7 ∧ (1 : Int) ≤ wtI z' z1 x ∧ wtI z' z1 x ≤ z1 →
    ((↑x : Int) + (1 : Int) < z7 →
    (wtI z' z1 x < z1 →
    inR IntKind.i64 ((2 : Int) * wtI z' z1 x) ∧ ∀ (z8 : Int), z8 = (2 : Int) * wtI z' z1 x →
    ∀ (z9 : Int), z9 = min z8 z1 →
    inR IntKind.i64 ((↑x : Int) + (1 : Int) + (1 : Int)) ∧ ∀ (z10 : Int), z10 = (↑x : Int) + (1 : Int) + (1 : Int) →
    ExT Nat fun y => (Int.toNat (z7 - (↑y : Int)) < Int.toNat (z7 - (↑x : Int)) ∧ (↑y : Int) + (1 : Int) ≤ z7 ∧ (1 : Int) ≤ wtI z' z1 y ∧ wtI z' z1 y ≤ z1) ∧ wtI z' z1 y = z9 ∧ (↑y : Int) + (1 : Int) = z10) ∧ (¬wtI z' z1 x < z1 →
    ExT Nat fun z => (((↑z : Int) + (1 : Int) ≤ z7 ∧ (1 : Int) ≤ wtI z' z1 z ∧ wtI z' z1 z ≤ z1) ∧ (z7 ≤ (↑z : Int) + (1 : Int) ∨ z1 ≤ wtI z' z1 z)) ∧ wtI z' z1 z = wtI z' z1 x ∧ (↑z : Int) + (1 : Int) = (↑x : Int) + (1 : Int))) ∧ (¬(↑x : Int) + (1 : Int) < z7 →
    ExT Nat fun z => (((↑z : Int) + (1 : Int) ≤ z7 ∧ (1 : Int) ≤ wtI z' z1 z ∧ wtI z' z1 z ≤ z1) ∧ (z7 ≤ (↑z : Int) + (1 : Int) ∨ z1 ≤ wtI z' z1 z)) ∧ wtI z' z1 z = wtI z' z1 x ∧ (↑z : Int) + (1 : Int) = (↑x : Int) + (1 : Int))) ∧ ∀ (z : Nat), ((↑z : Int) + (1 : Int) ≤ z7 ∧ (1 : Int) ≤ wtI z' z1 z ∧ wtI z' z1 z ≤ z1) ∧ (z7 ≤ (↑z : Int) + (1 : Int) ∨ z1 ≤ wtI z' z1 z) →
    inR IntKind.i64 (z6 + wtI z' z1 z) ∧ ∀ (z8 : Int), z8 = z6 + wtI z' z1 z →
    inR IntKind.i64 ((↑x : Int) + (1 : Int)) ∧ ∀ (z9 : Int), z9 = (↑x : Int) + (1 : Int) →
    (z7 ≠ z9 →
    False) ∧ (¬z7 ≠ z9 →
    ∀ (z10 : Int), z10 = min (wtI z' z1 x) z1 →
    inR IntKind.i64 (nwI z' z1 (t % (1073741824 : Int)) x + z10) ∧ ∀ (z11 : Int), z11 = nwI z' z1 (t % (1073741824 : Int)) x + z10 →
    inR IntKind.i64 ((2 : Int) * wtI z' z1 x) ∧ ∀ (z12 : Int), z12 = (2 : Int) * wtI z' z1 x →
    ∀ (z13 : Int), z13 = min z12 z1 →
    inR IntKind.i64 ((↑x : Int) + (1 : Int)) ∧ ∀ (z14 : Int), z14 = (↑x : Int) + (1 : Int) →
    ExT Nat fun y => (20 - y < 20 - x ∧ y ≤ 20 ∧ (0 : Int) ≤ nwI z' z1 (t % (1073741824 : Int)) y ∧ nwI z' z1 (t % (1073741824 : Int)) y ≤ (109951162777 : Int) ∧ (1 : Int) ≤ wtI z' z1 y ∧ wtI z' z1 y ≤ z1) ∧ (nwI z' z1 (t % (1073741824 : Int)) y = z11 ∧ wtI z' z1 y = z13 ∧ (↑y : Int) = z14) ∧ (↑y : Int) = z7 ∧ nwI z' z1 (t % (1073741824 : Int)) y = z8))) ∧ (¬z4 < nwI z' z1 (t % (1073741824 : Int)) x →
    inR IntKind.i64 ((↑x : Int) + (1 : Int)) ∧ ∀ (z5 : Int), z5 = (↑x : Int) + (1 : Int) →
    (ExT Nat fun x => ((↑x : Int) + (1 : Int) ≤ z5 ∧ (1 : Int) ≤ wtI z' z1 x ∧ wtI z' z1 x ≤ z1) ∧ wtI z' z1 x = z' ∧ (↑x : Int) + (1 : Int) = (1 : Int) ∧ inR IntKind.i64 ((↑x : Int) + (1 : Int))) ∧ (∀ (x : Nat), (↑x : Int) + (1 : Int) ≤ z5 ∧ (1 : Int) ≤ wtI z' z1 x ∧ wtI z' z1 x ≤ z1 →
    ((↑x : Int) + (1 : Int) < z5 →
    (wtI z' z1 x < z1 →
    inR IntKind.i64 ((2 : Int) * wtI z' z1 x) ∧ ∀ (z6 : Int), z6 = (2 : Int) * wtI z' z1 x →
    ∀ (z7 : Int), z7 = min z6 z1 →
    inR IntKind.i64 ((↑x : Int) + (1 : Int) + (1 : Int)) ∧ ∀ (z8 : Int), z8 = (↑x : Int) + (1 : Int) + (1 : Int) →
    ExT Nat fun y => (Int.toNat (z5 - (↑y : Int)) < Int.toNat (z5 - (↑x : Int)) ∧ (↑y : Int) + (1 : Int) ≤ z5 ∧ (1 : Int) ≤ wtI z' z1 y ∧ wtI z' z1 y ≤ z1) ∧ wtI z' z1 y = z7 ∧ (↑y : Int) + (1 : Int) = z8) ∧ (¬wtI z' z1 x < z1 →
    ExT Nat fun z => (((↑z : Int) + (1 : Int) ≤ z5 ∧ (1 : Int) ≤ wtI z' z1 z ∧ wtI z' z1 z ≤ z1) ∧ (z5 ≤ (↑z : Int) + (1 : Int) ∨ z1 ≤ wtI z' z1 z)) ∧ wtI z' z1 z = wtI z' z1 x ∧ (↑z : Int) + (1 : Int) = (↑x : Int) + (1 : Int))) ∧ (¬(↑x : Int) + (1 : Int) < z5 →
    ExT Nat fun z => (((↑z : Int) + (1 : Int) ≤ z5 ∧ (1 : Int) ≤ wtI z' z1 z ∧ wtI z' z1 z ≤ z1) ∧ (z5 ≤ (↑z : Int) + (1 : Int) ∨ z1 ≤ wtI z' z1 z)) ∧ wtI z' z1 z = wtI z' z1 x ∧ (↑z : Int) + (1 : Int) = (↑x : Int) + (1 : Int))) ∧ ∀ (z : Nat), ((↑z : Int) + (1 : Int) ≤ z5 ∧ (1 : Int) ≤ wtI z' z1 z ∧ wtI z' z1 z ≤ z1) ∧ (z5 ≤ (↑z : Int) + (1 : Int) ∨ z1 ≤ wtI z' z1 z) →
    inR IntKind.i64 (z4 + wtI z' z1 z) ∧ ∀ (z6 : Int), z6 = z4 + wtI z' z1 z →
    False)) ∧ (¬(0 : Int) < nwI z' z1 (t % (1073741824 : Int)) x →
    ∀ (z2 : Int), z2 = max (nwI z' z1 (t % (1073741824 : Int)) x) (0 : Int) →
    ∀ (z3 : Int), z3 = min z2 (1099511627776 : Int) →
    (z3 < nwI z' z1 (t % (1073741824 : Int)) x →
    False) ∧ (¬z3 < nwI z' z1 (t % (1073741824 : Int)) x →
    inR IntKind.i64 ((↑x : Int) + (1 : Int)) ∧ ∀ (z4 : Int), z4 = (↑x : Int) + (1 : Int) →
    (ExT Nat fun x => ((↑x : Int) + (1 : Int) ≤ z4 ∧ (1 : Int) ≤ wtI z' z1 x ∧ wtI z' z1 x ≤ z1) ∧ wtI z' z1 x = z' ∧ (↑x : Int) + (1 : Int) = (1 : Int) ∧ inR IntKind.i64 ((↑x : Int) + (1 : Int))) ∧ (∀ (x : Nat), (↑x : Int) + (1 : Int) ≤ z4 ∧ (1 : Int) ≤ wtI z' z1 x ∧ wtI z' z1 x ≤ z1 →
    ((↑x : Int) + (1 : Int) < z4 →
    (wtI z' z1 x < z1 →
    inR IntKind.i64 ((2 : Int) * wtI z' z1 x) ∧ ∀ (z5 : Int), z5 = (2 : Int) * wtI z' z1 x →
    ∀ (z6 : Int), z6 = min z5 z1 →
    inR IntKind.i64 ((↑x : Int) + (1 : Int) + (1 : Int)) ∧ ∀ (z7 : Int), z7 = (↑x : Int) + (1 : Int) + (1 : Int) →
    ExT Nat fun y => (Int.toNat (z4 - (↑y : Int)) < Int.toNat (z4 - (↑x : Int)) ∧ (↑y : Int) + (1 : Int) ≤ z4 ∧ (1 : Int) ≤ wtI z' z1 y ∧ wtI z' z1 y ≤ z1) ∧ wtI z' z1 y = z6 ∧ (↑y : Int) + (1 : Int) = z7) ∧ (¬wtI z' z1 x < z1 →
    ExT Nat fun z => (((↑z : Int) + (1 : Int) ≤ z4 ∧ (1 : Int) ≤ wtI z' z1 z ∧ wtI z' z1 z ≤ z1) ∧ (z4 ≤ (↑z : Int) + (1 : Int) ∨ z1 ≤ wtI z' z1 z)) ∧ wtI z' z1 z = wtI z' z1 x ∧ (↑z : Int) + (1 : Int) = (↑x : Int) + (1 : Int))) ∧ (¬(↑x : Int) + (1 : Int) < z4 →
    ExT Nat fun z => (((↑z : Int) + (1 : Int) ≤ z4 ∧ (1 : Int) ≤ wtI z' z1 z ∧ wtI z' z1 z ≤ z1) ∧ (z4 ≤ (↑z : Int) + (1 : Int) ∨ z1 ≤ wtI z' z1 z)) ∧ wtI z' z1 z = wtI z' z1 x ∧ (↑z : Int) + (1 : Int) = (↑x : Int) + (1 : Int))) ∧ ∀ (z : Nat), ((↑z : Int) + (1 : Int) ≤ z4 ∧ (1 : Int) ≤ wtI z' z1 z ∧ wtI z' z1 z ≤ z1) ∧ (z4 ≤ (↑z : Int) + (1 : Int) ∨ z1 ≤ wtI z' z1 z) →
    inR IntKind.i64 (z3 + wtI z' z1 z) ∧ ∀ (z5 : Int), z5 = z3 + wtI z' z1 z →
    inR IntKind.i64 ((↑x : Int) + (1 : Int)) ∧ ∀ (z6 : Int), z6 = (↑x : Int) + (1 : Int) →
    (z4 ≠ z6 →
    False) ∧ (¬z4 ≠ z6 →
    ∀ (z7 : Int), z7 = min (wtI z' z1 x) z1 →
    inR IntKind.i64 (nwI z' z1 (t % (1073741824 : Int)) x + z7) ∧ ∀ (z8 : Int), z8 = nwI z' z1 (t % (1073741824 : Int)) x + z7 →
    inR IntKind.i64 ((2 : Int) * wtI z' z1 x) ∧ ∀ (z9 : Int), z9 = (2 : Int) * wtI z' z1 x →
    ∀ (z10 : Int), z10 = min z9 z1 →
    inR IntKind.i64 ((↑x : Int) + (1 : Int)) ∧ ∀ (z11 : Int), z11 = (↑x : Int) + (1 : Int) →
    ExT Nat fun y => (20 - y < 20 - x ∧ y ≤ 20 ∧ (0 : Int) ≤ nwI z' z1 (t % (1073741824 : Int)) y ∧ nwI z' z1 (t % (1073741824 : Int)) y ≤ (109951162777 : Int) ∧ (1 : Int) ≤ wtI z' z1 y ∧ wtI z' z1 y ≤ z1) ∧ (nwI z' z1 (t % (1073741824 : Int)) y = z8 ∧ wtI z' z1 y = z10 ∧ (↑y : Int) = z11) ∧ (↑y : Int) = z4 ∧ nwI z' z1 (t % (1073741824 : Int)) y = z5))))) ∧ (¬(↑x : Int) < (20 : Int) →
    ExT Nat fun z => (z ≤ 20 ∧ (0 : Int) ≤ nwI z' z1 (t % (1073741824 : Int)) z ∧ nwI z' z1 (t % (1073741824 : Int)) z ≤ (109951162777 : Int)) ∧ (nwI z' z1 (t % (1073741824 : Int)) z = nwI z' z1 (t % (1073741824 : Int)) x ∧ wtI z' z1 z = wtI z' z1 x ∧ (↑z : Int) = (↑x : Int)) ∧ (↑z : Int) = (↑x : Int) ∧ nwI z' z1 (t % (1073741824 : Int)) z = nwI z' z1 (t % (1073741824 : Int)) x))))))
set_option maxRecDepth 100000 in
set_option maxHeartbeats 8000000 in
theorem waif_of (a b t : Int) (hS0 : waifS a b t) : waif a b t := by
  unfold waifS at hS0
  unfold waif
  exact (have a578 := hS0.1; have b579 := hS0.2; ⟨a578, (have a576 := b579.1; have b577 := b579.2; ⟨a576, (fun x3 => have y575 := b577 x3; (fun k4 => have y574 := y575 k4; (have a572 := y574.1; have b573 := y574.2; ⟨a572, (fun x5 => have y571 := b573 x5; (fun k6 => have y570 := y571 k6; (have a568 := y570.1; have b569 := y570.2; ⟨(fun k7 => (a568 (of_decide_eq_true k7)).elim), (fun k10 => have y567 := b569 (of_decide_eq_false k10); (have a565 := y567.1; have b566 := y567.2; ⟨(fun k11 => (a565 (of_decide_eq_true k11)).elim), (fun k14 => have y564 := b566 (of_decide_eq_false k14); (have a562 := y564.1; have b563 := y564.2; ⟨(fun k15 => (a562 (of_decide_eq_true k15)).elim), (fun k18 => have y561 := b563 (of_decide_eq_false k18); (have a559 := y561.1; have b560 := y561.2; ⟨a559, (have a557 := b560.1; have b558 := b560.2; ⟨(fun k21 => (a557 (of_decide_eq_true k21)).elim), (fun k22 => have y556 := b558 (of_decide_eq_false k22); (have a554 := y556.1; have b555 := y556.2; ⟨(fun k23 => (a554 (of_decide_eq_true k23)).elim), (fun k24 => have y553 := b555 (of_decide_eq_false k24); (have a551 := y553.1; have b552 := y553.2; ⟨(Exists.elim a551 fun x25 k26 => ⟨x25, (have a47 := k26.1; have b48 := k26.2; ⟨a47, trivial, (have a45 := b48.1; have b46 := b48.2; ⟨(have a39 := a45.1; have b40 := a45.2; ⟨a39, (have a37 := b40.1; have b38 := b40.2; ⟨a37, b38, rfl, rfl, rfl, rfl, rfl, rfl, rfl, rfl, rfl, rfl, rfl, ⟨rfl, rfl, trivial⟩, rfl, rfl, rfl, rfl, ⟨rfl, rfl, rfl⟩, rfl, rfl, rfl, rfl, ⟨rfl, rfl, trivial⟩, rfl, rfl, rfl, ⟨rfl, rfl, trivial⟩, rfl, rfl, ⟨rfl, rfl, rfl⟩, rfl, rfl, rfl, rfl, rfl, rfl, rfl, rfl, rfl, rfl, rfl, rfl, ⟨rfl, rfl, trivial⟩, rfl, rfl, rfl, trivial⟩)⟩), ⟨⟨rfl, rfl, (have a43 := b46.1; have b44 := b46.2; ⟨a43, b44, trivial⟩)⟩, trivial⟩, ⟨rfl, trivial⟩, ⟨rfl, rfl, trivial⟩, ⟨rfl, rfl, rfl, trivial, trivial⟩, trivial⟩)⟩)⟩), (fun x49 => have y548 := b552 x49; (fun k50 => have y547 := y548 k50; (have a545 := y547.1; have b546 := y547.2; ⟨(fun k51 => have y526 := a545 (of_decide_eq_true k51); (have a524 := y526.1; have b525 := y526.2; ⟨(fun k52 => (a524 (of_decide_eq_true k52)).elim), (fun k53 => have y523 := b525 (of_decide_eq_false k53); (have a521 := y523.1; have b522 := y523.2; ⟨(fun k54 => have y346 := a521 (of_decide_eq_true k54); (have a344 := y346.1; have b345 := y346.2; ⟨a344, (fun x55 => have y343 := b345 x55; (fun k56 => have y342 := y343 k56; (fun x57 => have y341 := y342 x57; (fun k58 => have y340 := y341 k58; (fun x59 => have y339 := y340 x59; (fun k60 => have y338 := y339 k60; (have a336 := y338.1; have b337 := y338.2; ⟨(fun k61 => have y234 := a336 (of_decide_eq_true k61); (fun x62 => have y233 := y234 x62; (fun k63 => have y232 := y233 k63; (fun x64 => have y231 := y232 x64; (fun k65 => have y230 := y231 k65; (have a228 := y230.1; have b229 := y230.2; ⟨(fun k66 => (a228 (of_decide_eq_true k66)).elim), (fun k67 => have y227 := b229 (of_decide_eq_false k67); (have a225 := y227.1; have b226 := y227.2; ⟨a225, (fun x68 => have y224 := b226 x68; (fun k69 => have y223 := y224 k69; (have a221 := y223.1; have b222 := y223.2; ⟨(Exists.elim a221 fun x70 k71 => ⟨x70, (have a80 := k71.1; have b81 := k71.2; ⟨a80, trivial, (have a78 := b81.1; have b79 := b81.2; ⟨a78, b79, rfl, rfl, rfl, rfl, rfl, rfl, rfl, trivial⟩), ⟨rfl, trivial⟩, ⟨rfl, rfl, rfl, trivial⟩, ⟨rfl, trivial⟩, ⟨trivial, trivial⟩, ⟨trivial, trivial⟩, ⟨⟨rfl, rfl, rfl, rfl, trivial⟩, trivial⟩, ⟨rfl, rfl, rfl, trivial⟩, ⟨rfl, rfl, trivial⟩, ⟨rfl, trivial⟩, ⟨rfl, trivial⟩, ⟨rfl, rfl, rfl, trivial, trivial⟩, ⟨trivial, trivial⟩, trivial⟩)⟩), (have a219 := b222.1; have b220 := b222.2; ⟨(fun x82 => have y149 := a219 x82; (fun k83 => have y148 := y149 k83; (have a146 := y148.1; have b147 := y148.2; ⟨(fun k84 => have y131 := a146 (of_decide_eq_true k84); (have a129 := y131.1; have b130 := y131.2; ⟨(fun k85 => have y114 := a129 (of_decide_eq_true k85); (have a112 := y114.1; have b113 := y114.2; ⟨a112, (fun x86 => have y111 := b113 x86; (fun k87 => have y110 := y111 k87; (fun x88 => have y109 := y110 x88; (fun k89 => have y108 := y109 k89; (have a106 := y108.1; have b107 := y108.2; ⟨a106, (fun x90 => have y105 := b107 x90; (fun k91 => have y104 := y105 k91; (Exists.elim y104 fun x92 k93 => ⟨x92, (have a102 := k93.1; have b103 := k93.2; ⟨a102, trivial, (have a100 := b103.1; have b101 := b103.2; ⟨a100, b101, rfl, rfl, rfl, rfl, rfl, rfl, rfl, trivial⟩), ⟨rfl, trivial⟩, ⟨rfl, rfl, rfl, trivial⟩, ⟨rfl, trivial⟩, ⟨trivial, trivial⟩, ⟨trivial, trivial⟩, ⟨⟨rfl, rfl, rfl, rfl, trivial⟩, trivial⟩, ⟨rfl, rfl, rfl, trivial⟩, ⟨rfl, rfl, trivial⟩, ⟨rfl, trivial⟩, ⟨rfl, trivial⟩, ⟨rfl, rfl, rfl, trivial, trivial⟩, ⟨trivial, trivial⟩, trivial⟩)⟩)))⟩)))))⟩)), (fun k115 => have y128 := b130 (of_decide_eq_false k115); (Exists.elim y128 fun x116 k117 => ⟨x116, (have a126 := k117.1; have b127 := k117.2; ⟨a126, trivial, (have a124 := b127.1; have b125 := b127.2; ⟨a124, b125, rfl, rfl, rfl, rfl, rfl, rfl, rfl, trivial⟩), ⟨rfl, trivial⟩, ⟨rfl, rfl, rfl, trivial⟩, ⟨rfl, trivial⟩, ⟨trivial, trivial⟩, ⟨trivial, trivial⟩, ⟨⟨rfl, rfl, rfl, rfl, trivial⟩, trivial⟩, ⟨rfl, rfl, rfl, trivial⟩, ⟨rfl, rfl, trivial⟩, ⟨rfl, trivial⟩, ⟨rfl, trivial⟩, ⟨rfl, rfl, rfl, trivial, trivial⟩, ⟨trivial, trivial⟩, trivial⟩)⟩))⟩)), (fun k132 => have y145 := b147 (of_decide_eq_false k132); (Exists.elim y145 fun x133 k134 => ⟨x133, (have a143 := k134.1; have b144 := k134.2; ⟨a143, trivial, (have a141 := b144.1; have b142 := b144.2; ⟨a141, b142, rfl, rfl, rfl, rfl, rfl, rfl, rfl, trivial⟩), ⟨rfl, trivial⟩, ⟨rfl, rfl, rfl, trivial⟩, ⟨rfl, trivial⟩, ⟨trivial, trivial⟩, ⟨trivial, trivial⟩, ⟨⟨rfl, rfl, rfl, rfl, trivial⟩, trivial⟩, ⟨rfl, rfl, rfl, trivial⟩, ⟨rfl, rfl, trivial⟩, ⟨rfl, trivial⟩, ⟨rfl, trivial⟩, ⟨rfl, rfl, rfl, trivial, trivial⟩, ⟨trivial, trivial⟩, trivial⟩)⟩))⟩))), (fun x150 => have y218 := b220 x150; (fun k151 => have y217 := y218 k151; (have a215 := y217.1; have b216 := y217.2; ⟨a215, (fun x152 => have y214 := b216 x152; (fun k153 => have y213 := y214 k153; (have a211 := y213.1; have b212 := y213.2; ⟨a211, (fun x154 => have y210 := b212 x154; (fun k155 => have y209 := y210 k155; (have a207 := y209.1; have b208 := y209.2; ⟨(fun k156 => (a207 (of_decide_eq_true k156)).elim), (fun k157 => have y206 := b208 (of_decide_eq_false k157); (fun x158 => have y205 := y206 x158; (fun k159 => have y204 := y205 k159; (have a202 := y204.1; have b203 := y204.2; ⟨a202, (fun x160 => have y201 := b203 x160; (fun k161 => have y200 := y201 k161; (have a198 := y200.1; have b199 := y200.2; ⟨a198, (fun x162 => have y197 := b199 x162; (fun k163 => have y196 := y197 k163; (fun x164 => have y195 := y196 x164; (fun k165 => have y194 := y195 k165; (have a192 := y194.1; have b193 := y194.2; ⟨a192, (fun x166 => have y191 := b193 x166; (fun k167 => have y190 := y191 k167; (Exists.elim y190 fun x168 k169 => ⟨x168, (have a188 := k169.1; have b189 := k169.2; ⟨a188, trivial, (have a186 := b189.1; have b187 := b189.2; ⟨(have a182 := a186.1; have b183 := a186.2; ⟨a182, (have a180 := b183.1; have b181 := b183.2; ⟨a180, b181, rfl, rfl, rfl, rfl, rfl, rfl, rfl, rfl, rfl, rfl, rfl, ⟨rfl, rfl, trivial⟩, rfl, rfl, rfl, rfl, ⟨rfl, rfl, rfl⟩, rfl, rfl, rfl, rfl, ⟨rfl, rfl, trivial⟩, rfl, rfl, rfl, ⟨rfl, rfl, trivial⟩, rfl, rfl, ⟨rfl, rfl, rfl⟩, rfl, rfl, rfl, rfl, rfl, rfl, rfl, rfl, rfl, rfl, rfl, rfl, ⟨rfl, rfl, trivial⟩, rfl, rfl, rfl, trivial⟩)⟩), ⟨⟨rfl, rfl, (have a184 := b187.1; have b185 := b187.2; ⟨a184, b185, trivial⟩)⟩, trivial⟩, ⟨rfl, trivial⟩, ⟨rfl, rfl, trivial⟩, ⟨rfl, rfl, rfl, trivial, trivial⟩, trivial⟩)⟩)⟩)))⟩)))))⟩)))⟩))))⟩)))⟩)))⟩))), trivial⟩)⟩)))⟩))⟩)))))), (fun k235 => have y335 := b337 (of_decide_eq_false k235); (have a333 := y335.1; have b334 := y335.2; ⟨a333, (fun x236 => have y332 := b334 x236; (fun k237 => have y331 := y332 k237; (have a329 := y331.1; have b330 := y331.2; ⟨(Exists.elim a329 fun x238 k239 => ⟨x238, (have a248 := k239.1; have b249 := k239.2; ⟨a248, trivial, (have a246 := b249.1; have b247 := b249.2; ⟨a246, b247, rfl, rfl, rfl, rfl, rfl, rfl, rfl, trivial⟩), ⟨rfl, trivial⟩, ⟨rfl, trivial⟩, ⟨trivial, trivial⟩, ⟨⟨rfl, rfl, rfl, rfl, trivial⟩, trivial⟩, ⟨rfl, rfl, rfl, trivial⟩, ⟨rfl, rfl, trivial⟩, ⟨rfl, trivial⟩, ⟨rfl, rfl, rfl, trivial, trivial⟩, ⟨trivial, trivial⟩, trivial⟩)⟩), (have a327 := b330.1; have b328 := b330.2; ⟨(fun x250 => have y317 := a327 x250; (fun k251 => have y316 := y317 k251; (have a314 := y316.1; have b315 := y316.2; ⟨(fun k252 => have y299 := a314 (of_decide_eq_true k252); (have a297 := y299.1; have b298 := y299.2; ⟨(fun k253 => have y282 := a297 (of_decide_eq_true k253); (have a280 := y282.1; have b281 := y282.2; ⟨a280, (fun x254 => have y279 := b281 x254; (fun k255 => have y278 := y279 k255; (fun x256 => have y277 := y278 x256; (fun k257 => have y276 := y277 k257; (have a274 := y276.1; have b275 := y276.2; ⟨a274, (fun x258 => have y273 := b275 x258; (fun k259 => have y272 := y273 k259; (Exists.elim y272 fun x260 k261 => ⟨x260, (have a270 := k261.1; have b271 := k261.2; ⟨a270, trivial, (have a268 := b271.1; have b269 := b271.2; ⟨a268, b269, rfl, rfl, rfl, rfl, rfl, rfl, rfl, trivial⟩), ⟨rfl, trivial⟩, ⟨rfl, trivial⟩, ⟨trivial, trivial⟩, ⟨⟨rfl, rfl, rfl, rfl, trivial⟩, trivial⟩, ⟨rfl, rfl, rfl, trivial⟩, ⟨rfl, rfl, trivial⟩, ⟨rfl, trivial⟩, ⟨rfl, rfl, rfl, trivial, trivial⟩, ⟨trivial, trivial⟩, trivial⟩)⟩)))⟩)))))⟩)), (fun k283 => have y296 := b298 (of_decide_eq_false k283); (Exists.elim y296 fun x284 k285 => ⟨x284, (have a294 := k285.1; have b295 := k285.2; ⟨a294, trivial, (have a292 := b295.1; have b293 := b295.2; ⟨a292, b293, rfl, rfl, rfl, rfl, rfl, rfl, rfl, trivial⟩), ⟨rfl, trivial⟩, ⟨rfl, trivial⟩, ⟨trivial, trivial⟩, ⟨⟨rfl, rfl, rfl, rfl, trivial⟩, trivial⟩, ⟨rfl, rfl, rfl, trivial⟩, ⟨rfl, rfl, trivial⟩, ⟨rfl, trivial⟩, ⟨rfl, rfl, rfl, trivial, trivial⟩, ⟨trivial, trivial⟩, trivial⟩)⟩))⟩)), (fun k300 => have y313 := b315 (of_decide_eq_false k300); (Exists.elim y313 fun x301 k302 => ⟨x301, (have a311 := k302.1; have b312 := k302.2; ⟨a311, trivial, (have a309 := b312.1; have b310 := b312.2; ⟨a309, b310, rfl, rfl, rfl, rfl, rfl, rfl, rfl, trivial⟩), ⟨rfl, trivial⟩, ⟨rfl, trivial⟩, ⟨trivial, trivial⟩, ⟨⟨rfl, rfl, rfl, rfl, trivial⟩, trivial⟩, ⟨rfl, rfl, rfl, trivial⟩, ⟨rfl, rfl, trivial⟩, ⟨rfl, trivial⟩, ⟨rfl, rfl, rfl, trivial, trivial⟩, ⟨trivial, trivial⟩, trivial⟩)⟩))⟩))), (fun x318 => have y326 := b328 x318; (fun k319 => have y325 := y326 k319; (have a323 := y325.1; have b324 := y325.2; ⟨a323, (fun x320 => have y322 := b324 x320; (fun k321 => (y322 k321).elim))⟩))), trivial⟩)⟩)))⟩))⟩)))))))⟩)), (fun k347 => have y520 := b522 (of_decide_eq_false k347); (fun x348 => have y519 := y520 x348; (fun k349 => have y518 := y519 k349; (fun x350 => have y517 := y518 x350; (fun k351 => have y516 := y517 k351; (have a514 := y516.1; have b515 := y516.2; ⟨(fun k352 => (a514 (of_decide_eq_true k352)).elim), (fun k353 => have y513 := b515 (of_decide_eq_false k353); (have a511 := y513.1; have b512 := y513.2; ⟨a511, (fun x354 => have y510 := b512 x354; (fun k355 => have y509 := y510 k355; (have a507 := y509.1; have b508 := y509.2; ⟨(Exists.elim a507 fun x356 k357 => ⟨x356, (have a366 := k357.1; have b367 := k357.2; ⟨a366, trivial, (have a364 := b367.1; have b365 := b367.2; ⟨a364, b365, rfl, rfl, rfl, rfl, rfl, rfl, rfl, trivial⟩), ⟨rfl, trivial⟩, ⟨rfl, trivial⟩, ⟨trivial, trivial⟩, ⟨⟨rfl, rfl, rfl, rfl, trivial⟩, trivial⟩, ⟨rfl, rfl, rfl, trivial⟩, ⟨rfl, rfl, trivial⟩, ⟨rfl, trivial⟩, ⟨rfl, rfl, rfl, trivial, trivial⟩, ⟨trivial, trivial⟩, trivial⟩)⟩), (have a505 := b508.1; have b506 := b508.2; ⟨(fun x368 => have y435 := a505 x368; (fun k369 => have y434 := y435 k369; (have a432 := y434.1; have b433 := y434.2; ⟨(fun k370 => have y417 := a432 (of_decide_eq_true k370); (have a415 := y417.1; have b416 := y417.2; ⟨(fun k371 => have y400 := a415 (of_decide_eq_true k371); (have a398 := y400.1; have b399 := y400.2; ⟨a398, (fun x372 => have y397 := b399 x372; (fun k373 => have y396 := y397 k373; (fun x374 => have y395 := y396 x374; (fun k375 => have y394 := y395 k375; (have a392 := y394.1; have b393 := y394.2; ⟨a392, (fun x376 => have y391 := b393 x376; (fun k377 => have y390 := y391 k377; (Exists.elim y390 fun x378 k379 => ⟨x378, (have a388 := k379.1; have b389 := k379.2; ⟨a388, trivial, (have a386 := b389.1; have b387 := b389.2; ⟨a386, b387, rfl, rfl, rfl, rfl, rfl, rfl, rfl, trivial⟩), ⟨rfl, trivial⟩, ⟨rfl, trivial⟩, ⟨trivial, trivial⟩, ⟨⟨rfl, rfl, rfl, rfl, trivial⟩, trivial⟩, ⟨rfl, rfl, rfl, trivial⟩, ⟨rfl, rfl, trivial⟩, ⟨rfl, trivial⟩, ⟨rfl, rfl, rfl, trivial, trivial⟩, ⟨trivial, trivial⟩, trivial⟩)⟩)))⟩)))))⟩)), (fun k401 => have y414 := b416 (of_decide_eq_false k401); (Exists.elim y414 fun x402 k403 => ⟨x402, (have a412 := k403.1; have b413 := k403.2; ⟨a412, trivial, (have a410 := b413.1; have b411 := b413.2; ⟨a410, b411, rfl, rfl, rfl, rfl, rfl, rfl, rfl, trivial⟩), ⟨rfl, trivial⟩, ⟨rfl, trivial⟩, ⟨trivial, trivial⟩, ⟨⟨rfl, rfl, rfl, rfl, trivial⟩, trivial⟩, ⟨rfl, rfl, rfl, trivial⟩, ⟨rfl, rfl, trivial⟩, ⟨rfl, trivial⟩, ⟨rfl, rfl, rfl, trivial, trivial⟩, ⟨trivial, trivial⟩, trivial⟩)⟩))⟩)), (fun k418 => have y431 := b433 (of_decide_eq_false k418); (Exists.elim y431 fun x419 k420 => ⟨x419, (have a429 := k420.1; have b430 := k420.2; ⟨a429, trivial, (have a427 := b430.1; have b428 := b430.2; ⟨a427, b428, rfl, rfl, rfl, rfl, rfl, rfl, rfl, trivial⟩), ⟨rfl, trivial⟩, ⟨rfl, trivial⟩, ⟨trivial, trivial⟩, ⟨⟨rfl, rfl, rfl, rfl, trivial⟩, trivial⟩, ⟨rfl, rfl, rfl, trivial⟩, ⟨rfl, rfl, trivial⟩, ⟨rfl, trivial⟩, ⟨rfl, rfl, rfl, trivial, trivial⟩, ⟨trivial, trivial⟩, trivial⟩)⟩))⟩))), (fun x436 => have y504 := b506 x436; (fun k437 => have y503 := y504 k437; (have a501 := y503.1; have b502 := y503.2; ⟨a501, (fun x438 => have y500 := b502 x438; (fun k439 => have y499 := y500 k439; (have a497 := y499.1; have b498 := y499.2; ⟨a497, (fun x440 => have y496 := b498 x440; (fun k441 => have y495 := y496 k441; (have a493 := y495.1; have b494 := y495.2; ⟨(fun k442 => (a493 (of_decide_eq_true k442)).elim), (fun k443 => have y492 := b494 (of_decide_eq_false k443); (fun x444 => have y491 := y492 x444; (fun k445 => have y490 := y491 k445; (have a488 := y490.1; have b489 := y490.2; ⟨a488, (fun x446 => have y487 := b489 x446; (fun k447 => have y486 := y487 k447; (have a484 := y486.1; have b485 := y486.2; ⟨a484, (fun x448 => have y483 := b485 x448; (fun k449 => have y482 := y483 k449; (fun x450 => have y481 := y482 x450; (fun k451 => have y480 := y481 k451; (have a478 := y480.1; have b479 := y480.2; ⟨a478, (fun x452 => have y477 := b479 x452; (fun k453 => have y476 := y477 k453; (Exists.elim y476 fun x454 k455 => ⟨x454, (have a474 := k455.1; have b475 := k455.2; ⟨a474, trivial, (have a472 := b475.1; have b473 := b475.2; ⟨(have a468 := a472.1; have b469 := a472.2; ⟨a468, (have a466 := b469.1; have b467 := b469.2; ⟨a466, b467, rfl, rfl, rfl, rfl, rfl, rfl, rfl, rfl, rfl, rfl, rfl, ⟨rfl, rfl, trivial⟩, rfl, rfl, rfl, rfl, ⟨rfl, rfl, rfl⟩, rfl, rfl, rfl, rfl, ⟨rfl, rfl, trivial⟩, rfl, rfl, rfl, ⟨rfl, rfl, trivial⟩, rfl, rfl, ⟨rfl, rfl, rfl⟩, rfl, rfl, rfl, rfl, rfl, rfl, rfl, rfl, rfl, rfl, rfl, rfl, ⟨rfl, rfl, trivial⟩, rfl, rfl, rfl, trivial⟩)⟩), ⟨⟨rfl, rfl, (have a470 := b473.1; have b471 := b473.2; ⟨a470, b471, trivial⟩)⟩, trivial⟩, ⟨rfl, trivial⟩, ⟨rfl, rfl, trivial⟩, ⟨rfl, rfl, rfl, trivial, trivial⟩, trivial⟩)⟩)⟩)))⟩)))))⟩)))⟩))))⟩)))⟩)))⟩))), trivial⟩)⟩)))⟩))⟩))))))⟩))⟩)), (fun k527 => have y544 := b546 (of_decide_eq_false k527); (Exists.elim y544 fun x528 k529 => ⟨x528, (have a542 := k529.1; have b543 := k529.2; ⟨a542, trivial, (have a540 := b543.1; have b541 := b543.2; ⟨(have a536 := a540.1; have b537 := a540.2; ⟨a536, (have a534 := b537.1; have b535 := b537.2; ⟨a534, b535, rfl, rfl, rfl, rfl, rfl, rfl, rfl, rfl, rfl, rfl, rfl, ⟨rfl, rfl, trivial⟩, rfl, rfl, rfl, rfl, ⟨rfl, rfl, rfl⟩, rfl, rfl, rfl, rfl, ⟨rfl, rfl, trivial⟩, rfl, rfl, rfl, ⟨rfl, rfl, trivial⟩, rfl, rfl, ⟨rfl, rfl, rfl⟩, rfl, rfl, rfl, rfl, rfl, rfl, rfl, rfl, rfl, rfl, rfl, rfl, ⟨rfl, rfl, trivial⟩, rfl, rfl, rfl, trivial⟩)⟩), ⟨⟨rfl, rfl, (have a538 := b541.1; have b539 := b541.2; ⟨a538, b539, trivial⟩)⟩, trivial⟩, ⟨rfl, trivial⟩, ⟨rfl, rfl, trivial⟩, ⟨rfl, rfl, rfl, trivial, trivial⟩, trivial⟩)⟩)⟩))⟩))), (fun _ => (fun _ => rfl)), trivial⟩))⟩))⟩)⟩))⟩))⟩))⟩)))⟩)))⟩)⟩)

theorem wt_in {f m : Int} (h1 : 1 ≤ f) (h2 : f ≤ m) : ∀ k, 1 ≤ wtI f m k ∧ wtI f m k ≤ m
  | 0 => ⟨h1, h2⟩
  | k + 1 => by
    have := wt_in h1 h2 k
    simp only [wtI]
    omega
theorem nw_in {f m n0 : Int} (h1 : 1 ≤ f) (h2 : f ≤ m) (h3 : 0 ≤ n0) (h4 : n0 ≤ 1073741824) (h5 : m ≤ 100000) : ∀ k : Nat, 0 ≤ nwI f m n0 k ∧ nwI f m n0 k ≤ 1073741824 + 100000 * (k : Int)
  | 0 => by simp only [nwI]; omega
  | k + 1 => by
    have := nw_in h1 h2 h3 h4 h5 k
    have := wt_in h1 h2 k
    simp only [nwI]
    omega
theorem wt_stay {f m : Int} (h1 : 1 ≤ f) (h2 : f ≤ m) {k : Nat} (h : m ≤ wtI f m k) : ∀ d, wtI f m (k + d) = m
  | 0 => by have := wt_in h1 h2 k; simp only [Nat.add_zero]; omega
  | d + 1 => by
    have := wt_stay h1 h2 h d
    rw [← Nat.add_assoc]
    simp only [wtI]
    omega
theorem fin_w {f m n0 : Int} {x zz : Nat} {T Z6 z8 z10 z11 z12 z13 z14 : Int} (e8 : z8 = Z6 + wtI f m zz) (hzz : ((zz : Int) + 1 ≤ T ∧ 1 ≤ wtI f m zz ∧ wtI f m zz ≤ m) ∧ (T ≤ (zz : Int) + 1 ∨ m ≤ wtI f m zz)) (e11 : z11 = nwI f m n0 x + z10) (e10 : z10 = min (wtI f m x) m) (e13 : z13 = min z12 m) (e12 : z12 = 2 * wtI f m x)
    (h1 : 1 ≤ f) (h2 : f ≤ m) (h3 : 0 ≤ n0) (h4 : n0 ≤ 1073741824) (h5 : m ≤ 100000) (hx : x < 20) (hT : T = (x : Int) + 1) (hZ : Z6 = nwI f m n0 x) (e14 : z14 = (x : Int) + 1) :
    ExT Nat fun y => (20 - y < 20 - x ∧ y ≤ 20 ∧ 0 ≤ nwI f m n0 y ∧ nwI f m n0 y ≤ 109951162777 ∧ 1 ≤ wtI f m y ∧ wtI f m y ≤ m) ∧ (nwI f m n0 y = z11 ∧ wtI f m y = z13 ∧ (y : Int) = z14) ∧ (y : Int) = T ∧ nwI f m n0 y = z8 := by
  have b1 := nw_in h1 h2 h3 h4 h5 (x + 1)
  have b2 := wt_in h1 h2 (x + 1)
  have b3 := wt_in h1 h2 x
  have e : wtI f m zz = wtI f m x := by
    rcases hzz.2 with h | h
    · rw [show zz = x by omega]
    · have := wt_stay h1 h2 h (x - zz)
      rw [show zz + (x - zz) = x by omega] at this
      omega
  have n1 : nwI f m n0 (x + 1) = nwI f m n0 x + min (wtI f m x) m := rfl
  have w1 : wtI f m (x + 1) = min (2 * wtI f m x) m := rfl
  exact ⟨x + 1, ⟨by omega, by omega, b1.1, by omega, b2.1, b2.2⟩, ⟨by omega, by omega, by omega⟩, by omega, by omega⟩
theorem waif_ok {a b t : Int} (ha : 0 ≤ a ∧ a ≤ 65535) (hb : 0 ≤ b ∧ b ≤ 65535) (ht : 0 ≤ t ∧ t ≤ 4294967295) : waif a b t := by
  refine waif_of _ _ _ ?_
  unfold waifS
  repeat' (first
    | (with_reducible refine And.intro ?_ ?_)
    | (intro (h : false = true); cases h)
    | (intro (h : true = false); cases h)
    | (intro h; first | (replace h := of_decide_eq_true h) | (replace h := of_decide_eq_false h) | skip)
    | (with_reducible exact trivial)
    | (with_reducible rfl)
    | (with_reducible exact ⟨(), trivial, trivial, trivial, trivial⟩)

    | omega
    | (with_reducible refine decide_eq_true ?_; omega)
    | (with_reducible refine decide_eq_false ?_; omega)
    | (simp only [in_u8, in_u16, in_u32, in_u64, in_i64, Nat.le_eq]; omega)
    | (exfalso; omega))
  · rename_i f hf m hm q1 q2 q3 q4
    exact ⟨0, ⟨by omega, by simp only [nwI]; omega, by simp only [nwI]; omega, by simp only [wtI]; omega, by simp only [wtI]; omega⟩, ⟨rfl, rfl, rfl, by simp [in_i64]⟩, ⟨rfl, by simp [in_i64]⟩, rfl⟩
  all_goals first
    | exact fin_w (by assumption) (by assumption) (by assumption) (by assumption) (by assumption) (by assumption) (by omega) (by omega) (by omega) (by omega) (by omega) (by omega) (by omega) (by omega) (by omega)
    | exact ⟨0, ⟨by omega, by simp only [wtI]; omega, by simp only [wtI]; omega⟩, rfl, rfl, by simp [in_i64]⟩
    | (rename_i x hx hlt hw z8 hz8 z9 hz9 z10; exact ⟨x + 1, ⟨by omega, by omega, by simp only [wtI]; omega, by simp only [wtI]; omega⟩, by simp only [wtI]; omega, by omega⟩)
    | (rename_i x hx hlt; exact ⟨x, ⟨hx, .inr (by omega)⟩, rfl, rfl⟩)
    | (rename_i x hx; exact ⟨x, ⟨hx, .inl (by omega)⟩, rfl, rfl⟩)
    | (rename_i x hx; exact ⟨x, ⟨hx.1, hx.2.1, hx.2.2.1⟩, ⟨rfl, rfl, rfl⟩, rfl, rfl⟩)
theorem winHooks_ok {w0 : World} {RO : PT AObj} : HooksOk Try.prog w0 RO (winHooks RO) := hkAdd_ok (trueH_ok ⟨_, rfl, rfl, by kernel_rfl⟩ fun w _ => tells_any w) (hkAdd_ok sortedH_ok hkNone_ok)
set_option maxRecDepth 100000 in
theorem waits_law (W : World) (v0 v1 v2 : Value) (w0 : Open.InNat .u16 65536 v0) (w1 : Open.InNat .u16 65536 v1) (w2 : Open.InNat .u32 4294967296 v2) : Calls Try.prog WAITS #[v0, v1, v2] W fun e w' => e = .returned (.bool true) ∧ Below W.heap.size W w' := by
  obtain ⟨a, rfl, ha⟩ := w0
  obtain ⟨b, rfl, hb⟩ := w1
  obtain ⟨c, rfl, hc⟩ := w2
  have hin : InAs W 0 [.one (.int .u16), .one (.int .u16), .one (.int .u32)] [.z (a : Int), .z (b : Int), .z (c : Int)] [.int .u16 (a : Int), .int .u16 (b : Int), .int .u32 (c : Int)] :=
    .one _ _ _ _ _ _ _ (inB_int (by rw [in_u16]; omega)) (.one _ _ _ _ _ _ _ (inB_int (by rw [in_u16]; omega)) (.one _ _ _ _ _ _ _ (inB_int (by rw [in_u32]; omega)) (.nil _)))
  refine law_run (t := 0) (by decide) hin fun caps φs h hf hro hus => ?_
  have hF := waif_ok (a := (a : Int)) (b := (b : Int)) (t := (c : Int)) (by omega) (by omega) (by omega)
  rw [← waif_eq] at hF
  exact nest_run follows named winHooks_ok (rolow_of (entries := []) rfl) hF hf hro hus
end Go.Proofs.Ythpldimdfbecjaa.So
