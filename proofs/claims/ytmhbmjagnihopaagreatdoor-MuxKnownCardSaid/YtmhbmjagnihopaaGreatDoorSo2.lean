/- slices.Sort of uint32s: insertion. By an AI agent. -/
import Derived.Test.YtmhbmjagnihopaaGreatDoorSo
namespace Go.Proofs.YtmhbmjagnihopaaGreatDoor.So
open Go Go.RowKit Go.Proofs.YtmhbmjagnihopaaGreatDoor.Abs
set_option linter.unusedVariables false
set_option maxRecDepth 100000
set_option linter.unusedSimpArgs false
structure Srt (l : List Int) (a b : Nat) : Prop where
  le : ∀ x y : Nat, a ≤ x → x ≤ y → y < b → l.getD x 0 ≤ l.getD y 0
structure Alm (l : List Int) (a j b : Nat) : Prop where
  le : ∀ x y : Nat, a ≤ x → x ≤ y → y < b → y ≠ j → l.getD x 0 ≤ l.getD y 0
def swp (l : List Int) (i j : Nat) : List Int := (l.set i (l.getD j 0)).set j (l.getD i 0)
/-- the one is got from the other by swaps within a segment -/
inductive Sw (a b : Nat) : List Int → List Int → Prop
  | refl (l : List Int) : Sw a b l l
  | swap (l m : List Int) (i j : Nat) (h : Sw a b l m) (hi : a ≤ i ∧ i < b) (hj : a ≤ j ∧ j < b) (hb : b ≤ m.length) : Sw a b l (swp m i j)
def nul : USpec := { X := Unit, ok := fun _ => False, m := fun _ => 0, I := fun _ => ([], []), dc := [], outs := [] }
noncomputable def insO (l0 : List Int) (a b : Nat) (t : TypeId) (τ : PT AVal) (st : St) : USpec :=
  { X := List Int × Nat, ok := fun x => x.1.length = l0.length ∧ Sw a b l0 x.1 ∧ Srt x.1 a x.2 ∧ a + 1 ≤ x.2 ∧ (x.2 ≤ b ∨ x.2 = a + 1), m := fun x => b - x.2, I := fun x => ([(6, .sint .i64 (x.2 : Int))], [(1000, .sints .u32 x.1 t)]), dc := [],
    outs := [(.exit 0, { Z := List Int, post := fun l => l.length = l0.length ∧ Sw a b l0 l ∧ Srt l a b, J := fun l => ([], [(1000, .sints .u32 l t)]) })] }
noncomputable def insI1 (l0 : List Int) (a b : Nat) (t : TypeId) (i : Nat) : USpec :=
  { X := List Int × Nat, ok := fun x => x.1.length = l0.length ∧ Sw a b l0 x.1 ∧ Alm x.1 a x.2 (i + 1) ∧ a ≤ x.2 ∧ x.2 ≤ i, m := fun x => x.2, I := fun x => ([(7, .sint .i64 (x.2 : Int))], [(1000, .sints .u32 x.1 t)]), dc := [],
    outs := [(.exit 2, { Z := List Int, post := fun l => l.length = l0.length ∧ Sw a b l0 l ∧ Srt l a (i + 1), J := fun l => ([], [(1000, .sints .u32 l t)]) })] }
noncomputable def insI (l0 : List Int) (a b : Nat) (t : TypeId) (τ : PT AVal) (st : St) : USpec :=
  match τ.get 6 with
  | some (.sint _ z) => insI1 l0 a b t z.toNat
  | _ => nul
--forms
def insf (l : List Int) (a b c : Nat) (t : TypeId) : Prop :=
    inR IntKind.i64 ((↑a : Int) + (1 : Int)) ∧ ∀ (z' : Int), z' = (↑a : Int) + (1 : Int) →
    (ExT (List Int × Nat) fun x => (List.length (Prod.fst x) = List.length l ∧ Sw a b l (Prod.fst x) ∧ Srt (Prod.fst x) a (Prod.snd x) ∧ a + 1 ≤ Prod.snd x ∧ (Prod.snd x ≤ b ∨ Prod.snd x = a + 1)) ∧ True ∧ ((↑(Prod.snd x) : Int) = z' ∧ ((0 : Nat) = 0 ∧ List.length l = List.length l ∧ c = c) ∧ (↑a : Int) = (↑a : Int) ∧ z' = z' ∧ (↑b : Int) = (↑b : Int) ∧ (↑a : Int) = (↑a : Int) ∧ True) ∧ Prod.fst x = l ∧ True) ∧ (∀ (x : List Int × Nat), List.length (Prod.fst x) = List.length l ∧ Sw a b l (Prod.fst x) ∧ Srt (Prod.fst x) a (Prod.snd x) ∧ a + 1 ≤ Prod.snd x ∧ (Prod.snd x ≤ b ∨ Prod.snd x = a + 1) →
    (Decidable.decide ((↑(Prod.snd x) : Int) < (↑b : Int)) = Bool.true →
    (ExT (List Int × Nat) fun x_1 => (List.length (Prod.fst x_1) = List.length l ∧ Sw a b l (Prod.fst x_1) ∧ Alm (Prod.fst x_1) a (Prod.snd x_1) (Int.toNat (↑(Prod.snd x) : Int) + 1) ∧ a ≤ Prod.snd x_1 ∧ Prod.snd x_1 ≤ Int.toNat (↑(Prod.snd x) : Int)) ∧ True ∧ ((↑(Prod.snd x_1) : Int) = (↑(Prod.snd x) : Int) ∧ ((0 : Nat) = 0 ∧ List.length l = List.length l ∧ c = c) ∧ (↑a : Int) = (↑a : Int) ∧ (↑(Prod.snd x) : Int) = (↑(Prod.snd x) : Int) ∧ (↑b : Int) = (↑b : Int) ∧ z' = z' ∧ (↑b : Int) = (↑b : Int) ∧ (↑a : Int) = (↑a : Int) ∧ Decidable.decide ((↑(Prod.snd x) : Int) < (↑b : Int)) = Decidable.decide ((↑(Prod.snd x) : Int) < (↑b : Int)) ∧ (↑(Prod.snd x) : Int) = (↑(Prod.snd x) : Int) ∧ (↑(Prod.snd x) : Int) = (↑(Prod.snd x) : Int) ∧ True) ∧ Prod.fst x_1 = Prod.fst x ∧ True) ∧ (∀ (x_1 : List Int × Nat), List.length (Prod.fst x_1) = List.length l ∧ Sw a b l (Prod.fst x_1) ∧ Alm (Prod.fst x_1) a (Prod.snd x_1) (Int.toNat (↑(Prod.snd x) : Int) + 1) ∧ a ≤ Prod.snd x_1 ∧ Prod.snd x_1 ≤ Int.toNat (↑(Prod.snd x) : Int) →
    (Decidable.decide ((↑a : Int) < (↑(Prod.snd x_1) : Int)) = Bool.true →
    ((0 : Int) ≤ (↑(Prod.snd x_1) : Int) ∧ (↑(Prod.snd x_1) : Int) < (↑(List.length l) : Int)) ∧ 0 + Int.toNat (↑(Prod.snd x_1) : Int) * 1 < List.length (Prod.fst x_1) ∧ inR IntKind.i64 ((↑(Prod.snd x_1) : Int) - (1 : Int)) ∧ ∀ (z'_1 : Int), z'_1 = (↑(Prod.snd x_1) : Int) - (1 : Int) →
    ((0 : Int) ≤ z'_1 ∧ z'_1 < (↑(List.length l) : Int)) ∧ 0 + Int.toNat z'_1 * 1 < List.length (Prod.fst x_1) ∧ True ∧ (Decidable.decide (Atom.zOf (Atom.z (List.getD (Prod.fst x_1) (0 + Int.toNat (↑(Prod.snd x_1) : Int) * 1) (0 : Int))) < Atom.zOf (Atom.z (List.getD (Prod.fst x_1) (0 + Int.toNat z'_1 * 1) (0 : Int)))) = Bool.true →
    inR IntKind.i64 ((↑(Prod.snd x_1) : Int) - (1 : Int)) ∧ ∀ (z'_2 : Int), z'_2 = (↑(Prod.snd x_1) : Int) - (1 : Int) →
    ((0 : Int) ≤ z'_2 ∧ z'_2 < (↑(List.length l) : Int)) ∧ 0 + Int.toNat z'_2 * 1 < List.length (Prod.fst x_1) ∧ ((0 : Int) ≤ (↑(Prod.snd x_1) : Int) ∧ (↑(Prod.snd x_1) : Int) < (↑(List.length l) : Int)) ∧ 0 + Int.toNat (↑(Prod.snd x_1) : Int) * 1 < List.length (Prod.fst x_1) ∧ ((0 : Int) ≤ (↑(Prod.snd x_1) : Int) ∧ (↑(Prod.snd x_1) : Int) < (↑(List.length l) : Int)) ∧ 0 + Int.toNat (↑(Prod.snd x_1) : Int) * 1 < List.length (Prod.fst x_1) ∧ ∀ (l' : List Int), l' = List.set (Prod.fst x_1) (0 + Int.toNat (↑(Prod.snd x_1) : Int) * 1) (List.getD (Prod.fst x_1) (0 + Int.toNat z'_2 * 1) (0 : Int)) →
    inR IntKind.i64 ((↑(Prod.snd x_1) : Int) - (1 : Int)) ∧ ∀ (z'_3 : Int), z'_3 = (↑(Prod.snd x_1) : Int) - (1 : Int) →
    ((0 : Int) ≤ z'_3 ∧ z'_3 < (↑(List.length l) : Int)) ∧ 0 + Int.toNat z'_3 * 1 < List.length l' ∧ ∀ (l'_1 : List Int), l'_1 = List.set l' (0 + Int.toNat z'_3 * 1) (List.getD (Prod.fst x_1) (0 + Int.toNat (↑(Prod.snd x_1) : Int) * 1) (0 : Int)) →
    inR IntKind.i64 ((↑(Prod.snd x_1) : Int) - (1 : Int)) ∧ ∀ (z'_4 : Int), z'_4 = (↑(Prod.snd x_1) : Int) - (1 : Int) →
    ExT (List Int × Nat) fun y => (Prod.snd y < Prod.snd x_1 ∧ List.length (Prod.fst y) = List.length l ∧ Sw a b l (Prod.fst y) ∧ Alm (Prod.fst y) a (Prod.snd y) (Int.toNat (↑(Prod.snd x) : Int) + 1) ∧ a ≤ Prod.snd y ∧ Prod.snd y ≤ Int.toNat (↑(Prod.snd x) : Int)) ∧ True ∧ ((↑(Prod.snd y) : Int) = z'_4 ∧ ((0 : Nat) = 0 ∧ List.length l = List.length l ∧ c = c) ∧ (↑a : Int) = (↑a : Int) ∧ (↑(Prod.snd x) : Int) = (↑(Prod.snd x) : Int) ∧ (↑b : Int) = (↑b : Int) ∧ z' = z' ∧ (↑b : Int) = (↑b : Int) ∧ (↑a : Int) = (↑a : Int) ∧ Decidable.decide ((↑(Prod.snd x) : Int) < (↑b : Int)) = Decidable.decide ((↑(Prod.snd x) : Int) < (↑b : Int)) ∧ (↑(Prod.snd x) : Int) = (↑(Prod.snd x) : Int) ∧ (↑(Prod.snd x) : Int) = (↑(Prod.snd x) : Int) ∧ True) ∧ Prod.fst y = l'_1 ∧ True) ∧ (Decidable.decide (Atom.zOf (Atom.z (List.getD (Prod.fst x_1) (0 + Int.toNat (↑(Prod.snd x_1) : Int) * 1) (0 : Int))) < Atom.zOf (Atom.z (List.getD (Prod.fst x_1) (0 + Int.toNat z'_1 * 1) (0 : Int)))) = Bool.false →
    ExT (List Int) fun z => (List.length z = List.length l ∧ Sw a b l z ∧ Srt z a (Int.toNat (↑(Prod.snd x) : Int) + 1)) ∧ True ∧ (((0 : Nat) = 0 ∧ List.length l = List.length l ∧ c = c) ∧ (↑a : Int) = (↑a : Int) ∧ (↑(Prod.snd x) : Int) = (↑(Prod.snd x) : Int) ∧ (↑b : Int) = (↑b : Int) ∧ z' = z' ∧ (↑b : Int) = (↑b : Int) ∧ (↑a : Int) = (↑a : Int) ∧ Decidable.decide ((↑(Prod.snd x) : Int) < (↑b : Int)) = Decidable.decide ((↑(Prod.snd x) : Int) < (↑b : Int)) ∧ (↑(Prod.snd x) : Int) = (↑(Prod.snd x) : Int) ∧ (↑(Prod.snd x) : Int) = (↑(Prod.snd x) : Int) ∧ True) ∧ z = Prod.fst x_1 ∧ True)) ∧ (Decidable.decide ((↑a : Int) < (↑(Prod.snd x_1) : Int)) = Bool.false →
    ExT (List Int) fun z => (List.length z = List.length l ∧ Sw a b l z ∧ Srt z a (Int.toNat (↑(Prod.snd x) : Int) + 1)) ∧ True ∧ (((0 : Nat) = 0 ∧ List.length l = List.length l ∧ c = c) ∧ (↑a : Int) = (↑a : Int) ∧ (↑(Prod.snd x) : Int) = (↑(Prod.snd x) : Int) ∧ (↑b : Int) = (↑b : Int) ∧ z' = z' ∧ (↑b : Int) = (↑b : Int) ∧ (↑a : Int) = (↑a : Int) ∧ Decidable.decide ((↑(Prod.snd x) : Int) < (↑b : Int)) = Decidable.decide ((↑(Prod.snd x) : Int) < (↑b : Int)) ∧ (↑(Prod.snd x) : Int) = (↑(Prod.snd x) : Int) ∧ (↑(Prod.snd x) : Int) = (↑(Prod.snd x) : Int) ∧ True) ∧ z = Prod.fst x_1 ∧ True)) ∧ (∀ (z : List Int), List.length z = List.length l ∧ Sw a b l z ∧ Srt z a (Int.toNat (↑(Prod.snd x) : Int) + 1) →
    inR IntKind.i64 ((↑(Prod.snd x) : Int) + (1 : Int)) ∧ ∀ (z'_1 : Int), z'_1 = (↑(Prod.snd x) : Int) + (1 : Int) →
    ExT (List Int × Nat) fun y => (b - Prod.snd y < b - Prod.snd x ∧ List.length (Prod.fst y) = List.length l ∧ Sw a b l (Prod.fst y) ∧ Srt (Prod.fst y) a (Prod.snd y) ∧ a + 1 ≤ Prod.snd y ∧ (Prod.snd y ≤ b ∨ Prod.snd y = a + 1)) ∧ True ∧ ((↑(Prod.snd y) : Int) = z'_1 ∧ ((0 : Nat) = 0 ∧ List.length l = List.length l ∧ c = c) ∧ (↑a : Int) = (↑a : Int) ∧ z' = z' ∧ (↑b : Int) = (↑b : Int) ∧ (↑a : Int) = (↑a : Int) ∧ True) ∧ Prod.fst y = z ∧ True) ∧ True) ∧ (Decidable.decide ((↑(Prod.snd x) : Int) < (↑b : Int)) = Bool.false →
    ExT (List Int) fun z => (List.length z = List.length l ∧ Sw a b l z ∧ Srt z a b) ∧ True ∧ (((0 : Nat) = 0 ∧ List.length l = List.length l ∧ c = c) ∧ (↑a : Int) = (↑a : Int) ∧ z' = z' ∧ (↑b : Int) = (↑b : Int) ∧ (↑a : Int) = (↑a : Int) ∧ True) ∧ z = Prod.fst x ∧ True)) ∧ (∀ (z : List Int), List.length z = List.length l ∧ Sw a b l z ∧ Srt z a b →
    (kindEq IntKind.u32 IntKind.u32 = Bool.true ∧ t = t) ∧ AVal.tuple [] = AVal.tuple [] ∧ List.length z = List.length l ∧ Sw a b l z ∧ Srt z a b) ∧ True
theorem insf_eq (l : List Int) (a b c : Nat) (t : TypeId) : nestF Tryz.prog .leaf (soHooks .leaf) (annU [(INS, 0, insO l a b t), (INS, 2, insI l a b t)]) INS [.sslice (1000, 0) l.length c false 1, .sint .i64 (a : Int), .sint .i64 (b : Int)] (rowSt .u32 l t) [] (rowK .u32 (fun v l' => v = .tuple [] ∧ l'.length = l.length ∧ Sw a b l l' ∧ Srt l' a b) t) = insf l a b c t := by kernel_rfl
def insfS (l : List Int) (a b c : Nat) (t : TypeId) : Prop :=
    inR IntKind.i64 ((↑a : Int) + (1 : Int)) ∧ ∀ (z' : Int), z' = (↑a : Int) + (1 : Int) →
    (ExT (List Int × Nat) fun x => (List.length (Prod.fst x) = List.length l ∧ Sw a b l (Prod.fst x) ∧ Srt (Prod.fst x) a (Prod.snd x) ∧ a + 1 ≤ Prod.snd x ∧ (Prod.snd x ≤ b ∨ Prod.snd x = a + 1)) ∧ (↑(Prod.snd x) : Int) = z' ∧ Prod.fst x = l) ∧ (∀ (x : List Int × Nat), List.length (Prod.fst x) = List.length l ∧ Sw a b l (Prod.fst x) ∧ Srt (Prod.fst x) a (Prod.snd x) ∧ a + 1 ≤ Prod.snd x ∧ (Prod.snd x ≤ b ∨ Prod.snd x = a + 1) →
    ((↑(Prod.snd x) : Int) < (↑b : Int) →
    (ExT (List Int × Nat) fun x_1 => (List.length (Prod.fst x_1) = List.length l ∧ Sw a b l (Prod.fst x_1) ∧ Alm (Prod.fst x_1) a (Prod.snd x_1) (Prod.snd x + 1) ∧ a ≤ Prod.snd x_1 ∧ Prod.snd x_1 ≤ Prod.snd x) ∧ (↑(Prod.snd x_1) : Int) = (↑(Prod.snd x) : Int) ∧ Prod.fst x_1 = Prod.fst x) ∧ (∀ (x_1 : List Int × Nat), List.length (Prod.fst x_1) = List.length l ∧ Sw a b l (Prod.fst x_1) ∧ Alm (Prod.fst x_1) a (Prod.snd x_1) (Prod.snd x + 1) ∧ a ≤ Prod.snd x_1 ∧ Prod.snd x_1 ≤ Prod.snd x →
    ((↑a : Int) < (↑(Prod.snd x_1) : Int) →
    ((0 : Int) ≤ (↑(Prod.snd x_1) : Int) ∧ (↑(Prod.snd x_1) : Int) < (↑(List.length l) : Int)) ∧ 0 + Prod.snd x_1 * 1 < List.length (Prod.fst x_1) ∧ inR IntKind.i64 ((↑(Prod.snd x_1) : Int) - (1 : Int)) ∧ ∀ (z' : Int), z' = (↑(Prod.snd x_1) : Int) - (1 : Int) →
    ((0 : Int) ≤ z' ∧ z' < (↑(List.length l) : Int)) ∧ 0 + Int.toNat z' * 1 < List.length (Prod.fst x_1) ∧ (List.getD (Prod.fst x_1) (0 + Prod.snd x_1 * 1) (0 : Int) < List.getD (Prod.fst x_1) (0 + Int.toNat z' * 1) (0 : Int) →
    inR IntKind.i64 ((↑(Prod.snd x_1) : Int) - (1 : Int)) ∧ ∀ (z' : Int), z' = (↑(Prod.snd x_1) : Int) - (1 : Int) →
    ((0 : Int) ≤ z' ∧ z' < (↑(List.length l) : Int)) ∧ 0 + Int.toNat z' * 1 < List.length (Prod.fst x_1) ∧ ((0 : Int) ≤ (↑(Prod.snd x_1) : Int) ∧ (↑(Prod.snd x_1) : Int) < (↑(List.length l) : Int)) ∧ 0 + Prod.snd x_1 * 1 < List.length (Prod.fst x_1) ∧ ((0 : Int) ≤ (↑(Prod.snd x_1) : Int) ∧ (↑(Prod.snd x_1) : Int) < (↑(List.length l) : Int)) ∧ 0 + Prod.snd x_1 * 1 < List.length (Prod.fst x_1) ∧ ∀ (l' : List Int), l' = List.set (Prod.fst x_1) (0 + Prod.snd x_1 * 1) (List.getD (Prod.fst x_1) (0 + Int.toNat z' * 1) (0 : Int)) →
    inR IntKind.i64 ((↑(Prod.snd x_1) : Int) - (1 : Int)) ∧ ∀ (z' : Int), z' = (↑(Prod.snd x_1) : Int) - (1 : Int) →
    ((0 : Int) ≤ z' ∧ z' < (↑(List.length l) : Int)) ∧ 0 + Int.toNat z' * 1 < List.length l' ∧ ∀ (l'_1 : List Int), l'_1 = List.set l' (0 + Int.toNat z' * 1) (List.getD (Prod.fst x_1) (0 + Prod.snd x_1 * 1) (0 : Int)) →
    inR IntKind.i64 ((↑(Prod.snd x_1) : Int) - (1 : Int)) ∧ ∀ (z' : Int), z' = (↑(Prod.snd x_1) : Int) - (1 : Int) →
    ExT (List Int × Nat) fun y => (Prod.snd y < Prod.snd x_1 ∧ List.length (Prod.fst y) = List.length l ∧ Sw a b l (Prod.fst y) ∧ Alm (Prod.fst y) a (Prod.snd y) (Prod.snd x + 1) ∧ a ≤ Prod.snd y ∧ Prod.snd y ≤ Prod.snd x) ∧ (↑(Prod.snd y) : Int) = z' ∧ Prod.fst y = l'_1) ∧ (¬List.getD (Prod.fst x_1) (0 + Prod.snd x_1 * 1) (0 : Int) < List.getD (Prod.fst x_1) (0 + Int.toNat z' * 1) (0 : Int) →
    ExT (List Int) fun z => (List.length z = List.length l ∧ Sw a b l z ∧ Srt z a (Prod.snd x + 1)) ∧ z = Prod.fst x_1)) ∧ (¬(↑a : Int) < (↑(Prod.snd x_1) : Int) →
    ExT (List Int) fun z => (List.length z = List.length l ∧ Sw a b l z ∧ Srt z a (Prod.snd x + 1)) ∧ z = Prod.fst x_1)) ∧ ∀ (z : List Int), List.length z = List.length l ∧ Sw a b l z ∧ Srt z a (Prod.snd x + 1) →
    inR IntKind.i64 ((↑(Prod.snd x) : Int) + (1 : Int)) ∧ ∀ (z' : Int), z' = (↑(Prod.snd x) : Int) + (1 : Int) →
    ExT (List Int × Nat) fun y => (b - Prod.snd y < b - Prod.snd x ∧ List.length (Prod.fst y) = List.length l ∧ Sw a b l (Prod.fst y) ∧ Srt (Prod.fst y) a (Prod.snd y) ∧ a + 1 ≤ Prod.snd y ∧ (Prod.snd y ≤ b ∨ Prod.snd y = a + 1)) ∧ (↑(Prod.snd y) : Int) = z' ∧ Prod.fst y = z) ∧ (¬(↑(Prod.snd x) : Int) < (↑b : Int) →
    ExT (List Int) fun z => (List.length z = List.length l ∧ Sw a b l z ∧ Srt z a b) ∧ z = Prod.fst x)) ∧ ∀ (z : List Int), List.length z = List.length l ∧ Sw a b l z ∧ Srt z a b →
    kindEq IntKind.u32 IntKind.u32 = Bool.true ∧ List.length z = List.length l ∧ Sw a b l z ∧ Srt z a b
theorem insf_of (l : List Int) (a b c : Nat) (t : TypeId) (hS0 : insfS l a b c t) : insf l a b c t := by
  unfold insfS at hS0
  unfold insf
  exact (have a211 := hS0.1; have b212 := hS0.2; ⟨a211, (fun x1 => have y210 := b212 x1; (fun k2 => have y209 := y210 k2; (have a207 := y209.1; have b208 := y209.2; ⟨(Exists.elim a207 fun x3 k4 => ⟨x3, (have a15 := k4.1; have b16 := k4.2; ⟨a15, trivial, (have a13 := b16.1; have b14 := b16.2; ⟨⟨a13, ⟨rfl, rfl, rfl⟩, rfl, rfl, rfl, rfl, trivial⟩, b14, trivial⟩)⟩)⟩), (have a205 := b208.1; have b206 := b208.2; ⟨(fun x17 => have y194 := a205 x17; (fun k18 => have y193 := y194 k18; (have a191 := y193.1; have b192 := y193.2; ⟨(fun k19 => have y180 := a191 (of_decide_eq_true k19); (have a178 := y180.1; have b179 := y180.2; ⟨(Exists.elim a178 fun x20 k21 => ⟨x20, (have a32 := k21.1; have b33 := k21.2; ⟨a32, trivial, (have a30 := b33.1; have b31 := b33.2; ⟨⟨a30, ⟨rfl, rfl, rfl⟩, rfl, rfl, rfl, rfl, rfl, rfl, rfl, rfl, rfl, trivial⟩, b31, trivial⟩)⟩)⟩), (have a176 := b179.1; have b177 := b179.2; ⟨(fun x34 => have y149 := a176 x34; (fun k35 => have y148 := y149 k35; (have a146 := y148.1; have b147 := y148.2; ⟨(fun k36 => have y135 := a146 (of_decide_eq_true k36); (have a133 := y135.1; have b134 := y135.2; ⟨a133, (have a131 := b134.1; have b132 := b134.2; ⟨a131, (have a129 := b132.1; have b130 := b132.2; ⟨a129, (fun x39 => have y128 := b130 x39; (fun k40 => have y127 := y128 k40; (have a125 := y127.1; have b126 := y127.2; ⟨a125, (have a123 := b126.1; have b124 := b126.2; ⟨a123, trivial, (have a121 := b124.1; have b122 := b124.2; ⟨(fun k43 => have y110 := a121 (of_decide_eq_true k43); (have a108 := y110.1; have b109 := y110.2; ⟨a108, (fun x44 => have y107 := b109 x44; (fun k45 => have y106 := y107 k45; (have a104 := y106.1; have b105 := y106.2; ⟨a104, (have a102 := b105.1; have b103 := b105.2; ⟨a102, (have a100 := b103.1; have b101 := b103.2; ⟨a100, (have a98 := b101.1; have b99 := b101.2; ⟨a98, (have a96 := b99.1; have b97 := b99.2; ⟨a96, (have a94 := b97.1; have b95 := b97.2; ⟨a94, (fun x52 => have y93 := b95 x52; (fun k53 => have y92 := y93 k53; (have a90 := y92.1; have b91 := y92.2; ⟨a90, (fun x54 => have y89 := b91 x54; (fun k55 => have y88 := y89 k55; (have a86 := y88.1; have b87 := y88.2; ⟨a86, (have a84 := b87.1; have b85 := b87.2; ⟨a84, (fun x58 => have y83 := b85 x58; (fun k59 => have y82 := y83 k59; (have a80 := y82.1; have b81 := y82.2; ⟨a80, (fun x60 => have y79 := b81 x60; (fun k61 => have y78 := y79 k61; (Exists.elim y78 fun x62 k63 => ⟨x62, (have a76 := k63.1; have b77 := k63.2; ⟨a76, trivial, (have a74 := b77.1; have b75 := b77.2; ⟨⟨a74, ⟨rfl, rfl, rfl⟩, rfl, rfl, rfl, rfl, rfl, rfl, rfl, rfl, rfl, trivial⟩, b75, trivial⟩)⟩)⟩)))⟩)))⟩)⟩)))⟩)))⟩)⟩)⟩)⟩)⟩)⟩)))⟩)), (fun k111 => have y120 := b122 (of_decide_eq_false k111); (Exists.elim y120 fun x112 k113 => ⟨x112, (have a118 := k113.1; have b119 := k113.2; ⟨a118, trivial, ⟨⟨rfl, rfl, rfl⟩, rfl, rfl, rfl, rfl, rfl, rfl, rfl, rfl, rfl, trivial⟩, b119, trivial⟩)⟩))⟩)⟩)⟩)))⟩)⟩)⟩)), (fun k136 => have y145 := b147 (of_decide_eq_false k136); (Exists.elim y145 fun x137 k138 => ⟨x137, (have a143 := k138.1; have b144 := k138.2; ⟨a143, trivial, ⟨⟨rfl, rfl, rfl⟩, rfl, rfl, rfl, rfl, rfl, rfl, rfl, rfl, rfl, trivial⟩, b144, trivial⟩)⟩))⟩))), (fun x150 => have y175 := b177 x150; (fun k151 => have y174 := y175 k151; (have a172 := y174.1; have b173 := y174.2; ⟨a172, (fun x152 => have y171 := b173 x152; (fun k153 => have y170 := y171 k153; (Exists.elim y170 fun x154 k155 => ⟨x154, (have a168 := k155.1; have b169 := k155.2; ⟨a168, trivial, (have a166 := b169.1; have b167 := b169.2; ⟨⟨a166, ⟨rfl, rfl, rfl⟩, rfl, rfl, rfl, rfl, trivial⟩, b167, trivial⟩)⟩)⟩)))⟩))), trivial⟩)⟩)), (fun k181 => have y190 := b192 (of_decide_eq_false k181); (Exists.elim y190 fun x182 k183 => ⟨x182, (have a188 := k183.1; have b189 := k183.2; ⟨a188, trivial, ⟨⟨rfl, rfl, rfl⟩, rfl, rfl, rfl, rfl, trivial⟩, b189, trivial⟩)⟩))⟩))), (fun x195 => have y204 := b206 x195; (fun k196 => have y203 := y204 k196; (have a201 := y203.1; have b202 := y203.2; ⟨⟨a201, rfl⟩, rfl, b202⟩))), trivial⟩)⟩)))⟩)

theorem swp_len (l : List Int) (i j : Nat) : (swp l i j).length = l.length := by simp [swp]
theorem getD_set (l : List Int) (i k : Nat) (v : Int) (hi : i < l.length) : (l.set i v).getD k 0 = if k = i then v else l.getD k 0 := by
  rw [List.getD_eq_getElem?_getD, List.getElem?_set]
  by_cases h : i = k
  · subst h; simp [hi]
  · rw [if_neg h, if_neg (Ne.symm h), ← List.getD_eq_getElem?_getD]
theorem swp_get (l : List Int) (i j k : Nat) (hi : i < l.length) (hj : j < l.length) : (swp l i j).getD k 0 = if k = j then l.getD i 0 else if k = i then l.getD j 0 else l.getD k 0 := by
  unfold swp
  rw [getD_set _ _ _ _ (by simpa using hj), getD_set _ _ _ _ hi]
theorem swp_perm (l : List Int) (i j : Nat) (hi : i < l.length) (hj : j < l.length) : (swp l i j).Perm l := by
  have := List.set_set_perm hi hj
  unfold swp
  rwa [List.getD_eq_getElem?_getD, List.getD_eq_getElem?_getD, List.getElem?_eq_getElem hi, List.getElem?_eq_getElem hj]
namespace Sw
variable {a b : Nat} {l m k : List Int}
theorem len (h : Sw a b l m) : m.length = l.length := by
  induction h with
  | refl => rfl
  | swap m i j h hi hj hb ih => rw [swp_len, ih]
theorem perm (h : Sw a b l m) : m.Perm l := by
  induction h with
  | refl => exact .refl _
  | swap m i j h hi hj hb ih => exact (swp_perm m i j (by omega) (by omega)).trans ih
theorem out (h : Sw a b l m) {k : Nat} (hk : k < a ∨ b ≤ k) : m.getD k 0 = l.getD k 0 := by
  induction h with
  | refl => rfl
  | swap m i j h hi hj hb ih => rw [swp_get _ _ _ _ (by omega) (by omega), if_neg (by omega), if_neg (by omega), ih]
theorem mem (h : Sw a b l m) : ∀ {k : Nat}, a ≤ k → k < b → ∃ j, a ≤ j ∧ j < b ∧ m.getD k 0 = l.getD j 0 := by
  induction h with
  | refl => intro k h1 h2; exact ⟨k, h1, h2, rfl⟩
  | swap m i j h hi hj hb ih =>
    intro k h1 h2
    rw [swp_get _ _ _ _ (by omega) (by omega)]
    by_cases e1 : k = j
    · rw [if_pos e1]; exact ih hi.1 hi.2
    · rw [if_neg e1]
      by_cases e2 : k = i
      · rw [if_pos e2]; exact ih hj.1 hj.2
      · rw [if_neg e2]; exact ih h1 h2
theorem trans (h : Sw a b l m) (h2 : Sw a b m k) : Sw a b l k := by
  induction h2 with
  | refl => exact h
  | swap m' i j h' hi hj hb ih => exact .swap l m' i j ih hi hj hb
theorem mono {a' b' : Nat} (h : Sw a b l m) (ha : a' ≤ a) (hb' : b ≤ b') (hl : b' ≤ l.length) : Sw a' b' l m := by
  induction h with
  | refl => exact .refl _
  | swap m i j h hi hj hb ih => exact .swap l m i j ih (by omega) (by omega) (by rw [h.len]; exact hl)
end Sw
def leI (x y : Int) : Bool := decide (x ≤ y)
/-- sorted within a segment -/
def srt (l : List Int) (a b : Nat) : List Int := l.take a ++ ((l.drop a).take (b - a)).mergeSort leI ++ l.drop b
theorem ext_getD {l m : List Int} (hl : l.length = m.length) (h : ∀ k, k < l.length → l.getD k 0 = m.getD k 0) : l = m := by
  refine List.ext_getElem hl fun i h1 h2 => ?_
  have := h i h1
  rwa [List.getD_eq_getElem?_getD, List.getD_eq_getElem?_getD, List.getElem?_eq_getElem h1, List.getElem?_eq_getElem h2] at this
theorem getD_take (l : List Int) (n k : Nat) (h : k < n) : (l.take n).getD k 0 = l.getD k 0 := by
  rw [List.getD_eq_getElem?_getD, List.getD_eq_getElem?_getD, List.getElem?_take_of_lt h]
theorem getD_drop (l : List Int) (n k : Nat) : (l.drop n).getD k 0 = l.getD (n + k) 0 := by
  rw [List.getD_eq_getElem?_getD, List.getD_eq_getElem?_getD, List.getElem?_drop]
theorem cut3 (l : List Int) (a b : Nat) (h : a ≤ b) : l = l.take a ++ (l.drop a).take (b - a) ++ l.drop b := by
  have h1 : l.take b = l.take a ++ (l.drop a).take (b - a) := by
    rw [List.take_drop, show a + (b - a) = b by omega]
    conv => lhs; rw [← List.take_append_drop a (l.take b)]
    rw [List.take_take, show min a b = a by omega]
  rw [← h1, List.take_append_drop]
theorem srt_of {a b : Nat} {l m : List Int} (h : Sw a b l m) (hs : Srt m a b) (hab : a ≤ b) (hb : b ≤ l.length) : m = srt l a b := by
  have h1 : m.take a = l.take a := ext_getD (by simp [h.len]) fun k hk => by
    have : k < a := by simp at hk; omega
    rw [getD_take _ _ _ this, getD_take _ _ _ this, h.out (.inl this)]
  have h2 : m.drop b = l.drop b := ext_getD (by simp [h.len]) fun k hk => by
    rw [getD_drop, getD_drop, h.out (.inr (by omega))]
  have hp : ((m.drop a).take (b - a)).Perm ((l.drop a).take (b - a)) := by
    have := h.perm
    rw [cut3 l a b hab, cut3 m a b hab, h1, h2] at this
    exact (List.perm_append_left_iff _).1 ((List.perm_append_right_iff _).1 this)
  have hpw : ((m.drop a).take (b - a)).Pairwise (fun x y => leI x y = true) := by
    rw [List.pairwise_iff_getElem]
    intro i j hi hj hij
    simp at hi hj
    have := hs.le (a + i) (a + j) (by omega) (by omega) (by omega)
    rw [List.getD_eq_getElem?_getD, List.getD_eq_getElem?_getD, List.getElem?_eq_getElem (by omega), List.getElem?_eq_getElem (by omega)] at this
    simpa [leI] using this
  have hms : ((m.drop a).take (b - a)) = ((l.drop a).take (b - a)).mergeSort leI := by
    have hl := List.pairwise_mergeSort (le := leI) (fun x y z h1 h2 => by simp [leI] at *; omega) (fun x y => by simp [leI]; omega) ((l.drop a).take (b - a))
    refine List.Perm.eq_of_pairwise (le := fun x y => leI x y = true) (fun x y _ _ h1 h2 => by simp [leI] at h1 h2; omega) hpw hl (hp.trans (List.mergeSort_perm _ _).symm)
  conv => lhs; rw [cut3 m a b hab, h1, h2, hms]
  rfl
theorem alm_start {l : List Int} {a i : Nat} (h : Srt l a i) : Alm l a i (i + 1) := ⟨fun x y h1 h2 h3 h4 => h.le x y h1 h2 (by omega)⟩
theorem alm_done {l : List Int} {a j b : Nat} (h : Alm l a j b) (hj : j = a ∨ (a < j ∧ l.getD (j - 1) 0 ≤ l.getD j 0)) : Srt l a b := ⟨fun x y h1 h2 h3 => by
  by_cases hy : y = j
  · subst hy
    by_cases hx : x = y
    · subst hx; exact Int.le_refl _
    · rcases hj with rfl | ⟨h4, h5⟩
      · omega
      · have := h.le x (y - 1) h1 (by omega) (by omega) (by omega)
        omega
  · exact h.le x y h1 h2 h3 hy⟩
theorem alm_step {l : List Int} {a j b : Nat} (h : Alm l a j b) (h1 : a < j) (h2 : j < b) (h3 : b ≤ l.length) (h4 : l.getD j 0 < l.getD (j - 1) 0) : Alm (swp l j (j - 1)) a (j - 1) b := ⟨fun x y e1 e2 e3 e4 => by
  rw [swp_get _ _ _ _ (by omega) (by omega), swp_get _ _ _ _ (by omega) (by omega), if_neg e4]
  by_cases hy : y = j
  · subst hy
    rw [if_pos rfl]
    by_cases hx : x = y - 1
    · rw [if_pos hx]; omega
    · rw [if_neg hx]
      by_cases hx2 : x = y
      · rw [if_pos hx2]; exact Int.le_refl _
      · rw [if_neg hx2]; exact h.le x (y - 1) e1 (by omega) (by omega) (by omega)
  · rw [if_neg hy]
    by_cases hx : x = j - 1
    · rw [if_pos hx]
      exact h.le j y (by omega) (by omega) e3 hy
    · rw [if_neg hx]
      by_cases hx2 : x = j
      · rw [if_pos hx2]; exact h.le (j - 1) y (by omega) (by omega) e3 hy
      · rw [if_neg hx2]; exact h.le x y e1 e2 e3 hy⟩
theorem swp_eq {l l1 l2 : List Int} {i : Nat} {z z2 : Int} (h1 : l1 = l.set i (l.getD z.toNat 0)) (h2 : l2 = l1.set z2.toNat (l.getD i 0)) (e : z2 = z) : l2 = swp l i z.toNat := by
  subst e h1 h2
  rfl
theorem insf_ok {l : List Int} {a b c : Nat} {t : TypeId} (hab : a ≤ b) (hb : b ≤ l.length) (hl : l.length ≤ 65536) : insf l a b c t := by
  refine insf_of _ _ _ _ _ ?_
  unfold insfS
  simp only [Nat.zero_add, Nat.mul_one]
  repeat' (first
    | (with_reducible refine And.intro ?_ ?_)
    | (intro (h : false = true); cases h)
    | (intro (h : true = false); cases h)
    | (intro h; first | (replace h := of_decide_eq_true h) | (replace h := of_decide_eq_false h) | skip)
    | (with_reducible exact trivial)
    | (with_reducible rfl)
    | (with_reducible exact ⟨(), trivial, trivial, trivial, trivial⟩)
    | (subst_vars; simp only [List.length_set]; omega)
    | omega
    | (with_reducible refine decide_eq_true ?_; omega)
    | (with_reducible refine decide_eq_false ?_; omega)
    | (simp only [in_u8, in_u16, in_u32, in_u64, in_i64, Nat.le_eq]; omega)
    | (exfalso; omega))
  · rename_i z
    refine ⟨(l, a + 1), ⟨rfl, .refl _, ⟨fun x y h1 h2 h3 => ?_⟩, Nat.le_refl _, .inr rfl⟩, by omega, rfl⟩
    obtain rfl : x = y := by omega
    exact Int.le_refl _
  · rename_i x h1
    exact ⟨x, ⟨h1.1, h1.2.1, alm_start h1.2.2.1, by omega, Nat.le_refl _⟩, rfl, rfl⟩
  · rename_i x h1 h2 y h3 h4 z1 h5 h6 z2 h7 l1 h8 z3 h9 l2 h10 z4
    obtain ⟨h31, h32, h33, h34, h35⟩ := h3
    have e := swp_eq h8 h10 (by omega)
    have e2 : z2.toNat = y.2 - 1 := by omega
    rw [e2] at e
    subst e
    rw [show z1.toNat = y.2 - 1 by omega] at h6
    refine ⟨(swp y.1 y.2 (y.2 - 1), y.2 - 1), ⟨by omega, by rw [swp_len, h31], .swap _ _ _ _ h32 (by omega) (by omega) (by omega), alm_step h33 (by omega) (by omega) (by omega) h6, by omega, by omega⟩, by omega, rfl⟩
  · rename_i x h1 h2 y h3 h4 z1 h5
    refine ⟨y.1, ⟨h3.1, h3.2.1, alm_done h3.2.2.1 (.inr ⟨by omega, ?_⟩)⟩, rfl⟩
    rw [show z1.toNat = y.2 - 1 by omega] at h
    omega
  · rename_i x h1 h2 y h3
    exact ⟨y.1, ⟨h3.1, h3.2.1, alm_done h3.2.2.1 (.inl (by omega))⟩, rfl⟩
  · rename_i x h1 h2 m h3 z
    exact ⟨(m, x.2 + 1), ⟨by omega, h3.1, h3.2.1, h3.2.2, by omega, by omega⟩, by omega, rfl⟩
  · rename_i x h1
    exact ⟨x.1, ⟨h1.1, h1.2.1, ⟨fun x y e1 e2 e3 => h1.2.2.1.le x y e1 e2 (by omega)⟩⟩, rfl⟩
  all_goals first | rfl | exact h.2.1 | exact h.2.2 | skip
/-- what three (or more) ints are, as numbers within a row -/
def within3 (l zs : List Int) : Prop := match zs with | a :: b :: _ => 0 ≤ a ∧ a ≤ b ∧ b ≤ l.length ∧ l.length ≤ 65536 | _ => False
def lo (zs : List Int) : Nat := match zs with | a :: _ => a.toNat | _ => 0
def hi (zs : List Int) : Nat := match zs with | _ :: b :: _ => b.toNat | _ => 0
theorem w3 {l r : List Int} {a b : Int} (h1 : 0 ≤ a) (h2 : a ≤ b) (h3 : b ≤ l.length) (h4 : l.length ≤ 65536) : within3 l (a :: b :: r) := ⟨h1, h2, h3, h4⟩
structure InsPre (l zs : List Int) : Prop where
  len : zs.length = 2
  win : within3 l zs
def insM : Mut := { k := .u32, pre := InsPre, Z := List Int, post := fun l zs m => m.length = l.length ∧ Sw (lo zs) (hi zs) l m ∧ Srt m (lo zs) (hi zs), row := fun _ m => m, res := fun _ => .tuple [] }
theorem noRes {φ ψ : Phi} {u : Value} (h : VRel φ (.tuple []) u) : VRel ψ (.tuple []) u := by
  cases h with
  | tuple _ c h => exact .tuple _ _ (by cases h0 : c.toList with | nil => exact .nil | cons a l => rw [h0] at h; cases h)
/-- a call that is never come to -/
noncomputable def noH (v : AVal) : Hook := fun _ st => some (some False, v, st)
theorem noH_ok {P : Program} {w0 : World} {RO : PT AObj} {f : FuncId} {v : AVal} : Call1Ok P w0 RO f (fun args st => got (noH v args st)) := by
  intro args st v st' h
  obtain ⟨ob, h, hob⟩ := got_some h
  cases h
  exact hob.elim
section
variable {w0 : World} {RO : PT AObj}
theorem ins_rel (args : List AVal) (st : St) (h : (relM insM args st).pre) : CallT Tryz.prog w0 RO INS args st fun v s' => ∃ z, (relM insM args st).post z ∧ v = (relM insM args st).res z ∧ s' = (relM insM args st).out z := by
  refine relM_ok ⟨_, rfl, rfl, by kernel_rfl⟩ (fun y φ ψ u h => noRes h) (fun l zs t c hl hr hz hpre φs w us hw hus => ?_) args st h
  obtain ⟨hlen, hin⟩ := hpre
  match zs, hlen, hin with
  | [x, y], _, ⟨h0, h1, h2, h3⟩ =>
    obtain ⟨a, rfl⟩ := Int.eq_ofNat_of_zero_le h0
    obtain ⟨b, rfl⟩ := Int.eq_ofNat_of_zero_le (show 0 ≤ y by omega)
    refine (nest_from (RO := .leaf) follows named soHooks_ok rolow_leaf (Eq.mpr (insf_eq l a b c t) (insf_ok (by omega) (by omega) h3)) hus hw rrel_leaf).mono ?_
    rintro e w' ⟨u, v, st', rfl, hK, hs⟩
    exact ⟨u, v, st', rfl, rowK_mono hK fun v m hq => ⟨m, hq.2, fun ψ u hu => (by rw [hq.1] at hu; exact hu), rfl⟩, hs⟩
end
end Go.Proofs.YtmhbmjagnihopaaGreatDoor.So
