/- seq: the reference's Has, Missing, Told, Mask. By an AI agent. -/
import Derived.Test.YtghhdjhobidbcaaSqN
namespace Go.Proofs.Ytghhdjhobidbcaa.Sq
open Go Go.RowKit Go.Proofs.Ytghhdjhobidbcaa.Abs Go.Proofs.Ytghhdjhobidbcaa.M
set_option linter.unusedVariables false
set_option linter.unusedSimpArgs false
abbrev RHAS : FuncId := 41
abbrev RMISS : FuncId := 22
abbrev RTOLD : FuncId := 26
abbrev RMASK : FuncId := 28
def rhasA (L : List Int) (z : Int) (τ : PT AVal) (st : St) : USpec :=
  { X := Nat, ok := fun i => i ≤ L.length ∧ z ∉ L.take i, m := fun i => L.length - i, I := fun i => ([(5, .sint .i64 (i : Int))], []), dc := [],
    outs := [(.exit 0, { Z := Unit, post := fun _ => isIn L z = false, J := fun _ => ([], []) }), (.ret, { Z := Unit, post := fun i => isIn L z = true, J := fun i => ([(4, .bool true)], []) })] }
noncomputable def rhasH (RO : PT AObj) : Hook := hookR [.one (.ints .u32), .one (.int .u32)] (fun _ => True) (fun xs => match xs with | [a, b] => .sbool (isIn a.zsOf b.zOf) | _ => .undef) (fun _ => []) RO
noncomputable def rhHooks (RO : PT AObj) : FuncId → Option Hook := hkAdd RHAS (rhasH RO) hkNone
/-- those of so many numbers from f on that are not had -/
def missP (p : Int → Bool) (f : Int) : Nat → List Int
  | 0 => []
  | k + 1 => missP p f k ++ (if p (f + k) = true then [] else [f + k])
noncomputable def rowJ (st : St) (T : List Int) : AVal × List (Nat × AObj) := (.sslice (st.next, 0) T.length T.length false 1, [(st.next, .sints .u32 T U32)])
noncomputable def rmissA (p : Int → Bool) (f : Int) (c m : Nat) (τ : PT AVal) (st : St) : USpec :=
  { X := Nat, ok := fun j => j ≤ c ∧ (missP p f j).length ≤ m, m := fun j => c - j, I := fun j => ([(9, (rowJ st (missP p f j)).1), (10, .sint .u64 (f + j))], (rowJ st (missP p f j)).2), dc := [],
    outs := [(.exit 0, { Z := Unit, post := fun _ => True, J := fun _ => ([(9, (rowJ st ((missP p f c).take m)).1)], (rowJ st ((missP p f c).take m)).2) })] }
noncomputable def rtoldA (a m : Int) (τ : PT AVal) (st : St) : USpec :=
  { X := Nat, ok := fun k => k ≤ 32, m := fun k => 32 - k, I := fun k => ([(1, .sint .u32 (m / 2 ^ k)), (5, (rowJ st (toldI a m k)).1), (6, .sint .u64 (a + k)), (7, .sint .i64 (k : Int))], (rowJ st (toldI a m k)).2), dc := [],
    outs := [(.exit 0, { Z := Unit, post := fun _ => True, J := fun _ => ([(5, (rowJ st (toldI a m 32)).1)], (rowJ st (toldI a m 32)).2) })] }
noncomputable def rmaskA (p : Int → Bool) (a : Int) (τ : PT AVal) (st : St) : USpec :=
  { X := Nat, ok := fun k => k ≤ 32, m := fun k => 32 - k, I := fun k => ([(5, .sint .u32 (maskI p a k)), (6, .sint .u32 (2 ^ k % 4294967296)), (7, .sint .u64 ((k : Int) + 1))], []), dc := [],
    outs := [(.exit 0, { Z := Unit, post := fun _ => True, J := fun _ => ([(5, .sint .u32 (maskI p a 32))], []) })] }
--forms
def rhasf (L : List Int) (c : Nat) (z : Int) : Prop :=
    (Go.Proofs.Ytghhdjhobidbcaa.Abs.ExT Nat fun x => (x ≤ List.length L ∧ ¬z ∈ List.take x L) ∧ True ∧ (((↑x : Int) = (0 : Int) ∧ Go.Proofs.Ytghhdjhobidbcaa.Abs.inR Go.IntKind.i64 (↑x : Int)) ∧ (0 = 0 ∧ List.length L = List.length L ∧ c = c) ∧ z = z ∧ True) ∧ True) ∧ (∀ (x : Nat), x ≤ List.length L ∧ ¬z ∈ List.take x L →
    List.length L ≤ 9223372036854775807 ∧ (Decidable.decide ((↑x : Int) < (↑(List.length L) : Int)) = Bool.true →
    ((0 : Int) ≤ (↑x : Int) ∧ (↑x : Int) < (↑(List.length L) : Int)) ∧ 0 + Int.toNat (↑x : Int) * 1 < List.length L ∧ (Decidable.decide (List.getD L (0 + Int.toNat (↑x : Int) * 1) (0 : Int) = z) = Bool.true →
    Go.Proofs.Ytghhdjhobidbcaa.Abs.ExT Unit fun z_1 => Go.Proofs.Ytghhdjhobidbcaa.Sq.isIn L z = Bool.true ∧ True ∧ (Bool.true = Bool.true ∧ (0 = 0 ∧ List.length L = List.length L ∧ c = c) ∧ z = z ∧ True) ∧ True) ∧ (Decidable.decide (List.getD L (0 + Int.toNat (↑x : Int) * 1) (0 : Int) = z) = Bool.false →
    Go.Proofs.Ytghhdjhobidbcaa.Abs.inR Go.IntKind.i64 ((↑x : Int) + (1 : Int)) ∧ ∀ (z' : Int), z' = (↑x : Int) + (1 : Int) →
    Go.Proofs.Ytghhdjhobidbcaa.Abs.ExT Nat fun y => (List.length L - y < List.length L - x ∧ y ≤ List.length L ∧ ¬z ∈ List.take y L) ∧ True ∧ ((↑y : Int) = z' ∧ (0 = 0 ∧ List.length L = List.length L ∧ c = c) ∧ z = z ∧ True) ∧ True)) ∧ (Decidable.decide ((↑x : Int) < (↑(List.length L) : Int)) = Bool.false →
    Go.Proofs.Ytghhdjhobidbcaa.Abs.ExT Unit fun z_1 => Go.Proofs.Ytghhdjhobidbcaa.Sq.isIn L z = Bool.false ∧ True ∧ ((0 = 0 ∧ List.length L = List.length L ∧ c = c) ∧ z = z ∧ True) ∧ True)) ∧ (∀ (z_1 : Unit), Go.Proofs.Ytghhdjhobidbcaa.Sq.isIn L z = Bool.false →
    Go.Proofs.Ytghhdjhobidbcaa.Sq.isIn L z = Bool.false ∧ True ∧ True ∧ True) ∧ (∀ (z_1 : Unit), Go.Proofs.Ytghhdjhobidbcaa.Sq.isIn L z = Bool.true →
    Go.Proofs.Ytghhdjhobidbcaa.Sq.isIn L z = Bool.true ∧ True ∧ True ∧ True) ∧ True
theorem rhasf_eq (L : List Int) (c : Nat) (z : Int) : nestW Try.prog (roI L) hkNone (annU [(RHAS, 0, rhasA L z)]) RHAS [.sslice (900, 0) L.length c true 1, .sint .u32 z] [] (endK (.sbool (isIn L z)) []) = rhasf L c z := by kernel_rfl
def rhasfS (L : List Int) (c : Nat) (z : Int) : Prop :=
    (Go.Proofs.Ytghhdjhobidbcaa.Abs.ExT Nat fun x => (x ≤ List.length L ∧ ¬z ∈ List.take x L) ∧ (↑x : Int) = (0 : Int) ∧ Go.Proofs.Ytghhdjhobidbcaa.Abs.inR Go.IntKind.i64 (↑x : Int)) ∧ (∀ (x : Nat), x ≤ List.length L ∧ ¬z ∈ List.take x L →
    List.length L ≤ 9223372036854775807 ∧ ((↑x : Int) < (↑(List.length L) : Int) →
    ((0 : Int) ≤ (↑x : Int) ∧ (↑x : Int) < (↑(List.length L) : Int)) ∧ 0 + x * 1 < List.length L ∧ (List.getD L (0 + x * 1) (0 : Int) = z →
    Go.Proofs.Ytghhdjhobidbcaa.Sq.isIn L z = Bool.true) ∧ (¬List.getD L (0 + x * 1) (0 : Int) = z →
    Go.Proofs.Ytghhdjhobidbcaa.Abs.inR Go.IntKind.i64 ((↑x : Int) + (1 : Int)) ∧ ∀ (z' : Int), z' = (↑x : Int) + (1 : Int) →
    Go.Proofs.Ytghhdjhobidbcaa.Abs.ExT Nat fun y => (List.length L - y < List.length L - x ∧ y ≤ List.length L ∧ ¬z ∈ List.take y L) ∧ (↑y : Int) = z')) ∧ (¬(↑x : Int) < (↑(List.length L) : Int) →
    Go.Proofs.Ytghhdjhobidbcaa.Sq.isIn L z = Bool.false)) ∧ (Go.Proofs.Ytghhdjhobidbcaa.Sq.isIn L z = Bool.false →
    Go.Proofs.Ytghhdjhobidbcaa.Sq.isIn L z = Bool.false) ∧ (Go.Proofs.Ytghhdjhobidbcaa.Sq.isIn L z = Bool.true →
    Go.Proofs.Ytghhdjhobidbcaa.Sq.isIn L z = Bool.true)
theorem rhasf_of (L : List Int) (c : Nat) (z : Int) (hS0 : rhasfS L c z) : rhasf L c z := by
  unfold rhasfS at hS0
  unfold rhasf
  exact ⟨(Exists.elim hS0.1 fun x1 k2 => ⟨x1, ⟨⟨k2.1.1, k2.1.2⟩, ⟨trivial, ⟨⟨⟨k2.2.1, k2.2.2⟩, ⟨⟨rfl, ⟨rfl, rfl⟩⟩, ⟨rfl, trivial⟩⟩⟩, trivial⟩⟩⟩⟩), ⟨(fun x3 => (fun k4 => ⟨((hS0.2.1 x3) k4).1, ⟨(fun k5 => ⟨⟨(((hS0.2.1 x3) k4).2.1 (of_decide_eq_true k5)).1.1, (((hS0.2.1 x3) k4).2.1 (of_decide_eq_true k5)).1.2⟩, ⟨(((hS0.2.1 x3) k4).2.1 (of_decide_eq_true k5)).2.1, ⟨(fun k6 => ⟨(), ⟨((((hS0.2.1 x3) k4).2.1 (of_decide_eq_true k5)).2.2.1 (of_decide_eq_true k6)), ⟨trivial, ⟨⟨rfl, ⟨⟨rfl, ⟨rfl, rfl⟩⟩, ⟨rfl, trivial⟩⟩⟩, trivial⟩⟩⟩⟩), (fun k7 => ⟨((((hS0.2.1 x3) k4).2.1 (of_decide_eq_true k5)).2.2.2 (of_decide_eq_false k7)).1, (fun x8 => (fun k9 => (Exists.elim ((((((hS0.2.1 x3) k4).2.1 (of_decide_eq_true k5)).2.2.2 (of_decide_eq_false k7)).2 x8) k9) fun x10 k11 => ⟨x10, ⟨⟨k11.1.1, ⟨k11.1.2.1, k11.1.2.2⟩⟩, ⟨trivial, ⟨⟨k11.2, ⟨⟨rfl, ⟨rfl, rfl⟩⟩, ⟨rfl, trivial⟩⟩⟩, trivial⟩⟩⟩⟩)))⟩)⟩⟩⟩), (fun k12 => ⟨(), ⟨(((hS0.2.1 x3) k4).2.2 (of_decide_eq_false k12)), ⟨trivial, ⟨⟨⟨rfl, ⟨rfl, rfl⟩⟩, ⟨rfl, trivial⟩⟩, trivial⟩⟩⟩⟩)⟩⟩)), ⟨(fun _ => (fun k13 => ⟨(hS0.2.2.1 k13), ⟨trivial, ⟨trivial, trivial⟩⟩⟩)), ⟨(fun _ => (fun k14 => ⟨(hS0.2.2.2 k14), ⟨trivial, ⟨trivial, trivial⟩⟩⟩)), trivial⟩⟩⟩⟩
def rmissf (L : List Int) (c : Nat) (f t m : Int) : Prop :=
    (Go.Proofs.Ytghhdjhobidbcaa.Abs.ExT Nat fun x => (x ≤ Int.toNat (t - f) ∧ List.length (Go.Proofs.Ytghhdjhobidbcaa.Sq.missP (Go.Proofs.Ytghhdjhobidbcaa.Sq.isIn L) f x) ≤ Int.toNat m) ∧ True ∧ ((List.length (Go.Proofs.Ytghhdjhobidbcaa.Sq.missP (Go.Proofs.Ytghhdjhobidbcaa.Sq.isIn L) f x) = 0 ∧ List.length (Go.Proofs.Ytghhdjhobidbcaa.Sq.missP (Go.Proofs.Ytghhdjhobidbcaa.Sq.isIn L) f x) = 0) ∧ f + (↑x : Int) = f ∧ f = f ∧ t = t ∧ m = m ∧ f = f ∧ (0 = 0 ∧ List.length L = List.length L ∧ c = c) ∧ (0 = 0 ∧ 0 = 0) ∧ f = f ∧ True) ∧ Go.Proofs.Ytghhdjhobidbcaa.Sq.missP (Go.Proofs.Ytghhdjhobidbcaa.Sq.isIn L) f x = [] ∧ True) ∧ (∀ (x : Nat), x ≤ Int.toNat (t - f) ∧ List.length (Go.Proofs.Ytghhdjhobidbcaa.Sq.missP (Go.Proofs.Ytghhdjhobidbcaa.Sq.isIn L) f x) ≤ Int.toNat m →
    (Decidable.decide (f + (↑x : Int) < t) = Bool.true →
    List.length (Go.Proofs.Ytghhdjhobidbcaa.Sq.missP (Go.Proofs.Ytghhdjhobidbcaa.Sq.isIn L) f x) ≤ 9223372036854775807 ∧ (Decidable.decide ((↑(List.length (Go.Proofs.Ytghhdjhobidbcaa.Sq.missP (Go.Proofs.Ytghhdjhobidbcaa.Sq.isIn L) f x)) : Int) < m) = Bool.true →
    ((0 + List.length L ≤ List.length L ∧ List.length (List.take (List.length L) (List.drop 0 L)) ≤ 9223372036854775807) ∧ True) ∧ ((!Go.Proofs.Ytghhdjhobidbcaa.Sq.isIn (Go.Proofs.Ytghhdjhobidbcaa.Abs.Atom.zsOf (Go.Proofs.Ytghhdjhobidbcaa.Abs.Atom.zs (List.take (List.length L) (List.drop 0 L)))) (Go.Proofs.Ytghhdjhobidbcaa.Abs.Atom.zOf (Go.Proofs.Ytghhdjhobidbcaa.Abs.Atom.z ((f + (↑x : Int)) % (4294967296 : Int))))) = Bool.true →
    (1 ≤ List.length [(f + (↑x : Int)) % (4294967296 : Int)] ∧ Nat.le (0 + List.length (Go.Proofs.Ytghhdjhobidbcaa.Sq.missP (Go.Proofs.Ytghhdjhobidbcaa.Sq.isIn L) f x)) (List.length (Go.Proofs.Ytghhdjhobidbcaa.Sq.missP (Go.Proofs.Ytghhdjhobidbcaa.Sq.isIn L) f x)) ∧ List.length (Go.Proofs.Ytghhdjhobidbcaa.Sq.missP (Go.Proofs.Ytghhdjhobidbcaa.Sq.isIn L) f x) + 1 ≤ 65536 ∧ (Bool.false = Bool.true →
    0 + List.length (Go.Proofs.Ytghhdjhobidbcaa.Sq.missP (Go.Proofs.Ytghhdjhobidbcaa.Sq.isIn L) f x) ≤ Go.Proofs.Ytghhdjhobidbcaa.Abs.objM (Prod.snd (1000, Go.Proofs.Ytghhdjhobidbcaa.Abs.AObj.sints Go.IntKind.u32 (Go.Proofs.Ytghhdjhobidbcaa.Sq.missP (Go.Proofs.Ytghhdjhobidbcaa.Sq.isIn L) f x) Go.Proofs.Ytghhdjhobidbcaa.Sq.U32)))) ∧ ∀ (l' : List Int), l' = List.take (List.length (Go.Proofs.Ytghhdjhobidbcaa.Sq.missP (Go.Proofs.Ytghhdjhobidbcaa.Sq.isIn L) f x)) (List.drop 0 (Go.Proofs.Ytghhdjhobidbcaa.Sq.missP (Go.Proofs.Ytghhdjhobidbcaa.Sq.isIn L) f x)) ++ List.take 1 (List.drop 0 [(f + (↑x : Int)) % (4294967296 : Int)]) →
    ∀ (z' : Int), z' = (f + (↑x : Int) + (1 : Int)) % (18446744073709551616 : Int) →
    Go.Proofs.Ytghhdjhobidbcaa.Abs.ExT Nat fun y => (Int.toNat (t - f) - y < Int.toNat (t - f) - x ∧ y ≤ Int.toNat (t - f) ∧ List.length (Go.Proofs.Ytghhdjhobidbcaa.Sq.missP (Go.Proofs.Ytghhdjhobidbcaa.Sq.isIn L) f y) ≤ Int.toNat m) ∧ True ∧ ((0 = 0 ∧ List.length (Go.Proofs.Ytghhdjhobidbcaa.Sq.missP (Go.Proofs.Ytghhdjhobidbcaa.Sq.isIn L) f y) = List.length (Go.Proofs.Ytghhdjhobidbcaa.Sq.missP (Go.Proofs.Ytghhdjhobidbcaa.Sq.isIn L) f x) + 1 ∧ List.length (Go.Proofs.Ytghhdjhobidbcaa.Sq.missP (Go.Proofs.Ytghhdjhobidbcaa.Sq.isIn L) f y) = List.length (Go.Proofs.Ytghhdjhobidbcaa.Sq.missP (Go.Proofs.Ytghhdjhobidbcaa.Sq.isIn L) f x) + 1) ∧ f + (↑y : Int) = z' ∧ f = f ∧ t = t ∧ m = m ∧ f = f ∧ (0 = 0 ∧ List.length L = List.length L ∧ c = c) ∧ (0 = 0 ∧ 0 = 0) ∧ f = f ∧ True) ∧ Go.Proofs.Ytghhdjhobidbcaa.Sq.missP (Go.Proofs.Ytghhdjhobidbcaa.Sq.isIn L) f y = l' ∧ True) ∧ ((!Go.Proofs.Ytghhdjhobidbcaa.Sq.isIn (Go.Proofs.Ytghhdjhobidbcaa.Abs.Atom.zsOf (Go.Proofs.Ytghhdjhobidbcaa.Abs.Atom.zs (List.take (List.length L) (List.drop 0 L)))) (Go.Proofs.Ytghhdjhobidbcaa.Abs.Atom.zOf (Go.Proofs.Ytghhdjhobidbcaa.Abs.Atom.z ((f + (↑x : Int)) % (4294967296 : Int))))) = Bool.false →
    ∀ (z' : Int), z' = (f + (↑x : Int) + (1 : Int)) % (18446744073709551616 : Int) →
    Go.Proofs.Ytghhdjhobidbcaa.Abs.ExT Nat fun y => (Int.toNat (t - f) - y < Int.toNat (t - f) - x ∧ y ≤ Int.toNat (t - f) ∧ List.length (Go.Proofs.Ytghhdjhobidbcaa.Sq.missP (Go.Proofs.Ytghhdjhobidbcaa.Sq.isIn L) f y) ≤ Int.toNat m) ∧ True ∧ ((0 = 0 ∧ List.length (Go.Proofs.Ytghhdjhobidbcaa.Sq.missP (Go.Proofs.Ytghhdjhobidbcaa.Sq.isIn L) f y) = List.length (Go.Proofs.Ytghhdjhobidbcaa.Sq.missP (Go.Proofs.Ytghhdjhobidbcaa.Sq.isIn L) f x) ∧ List.length (Go.Proofs.Ytghhdjhobidbcaa.Sq.missP (Go.Proofs.Ytghhdjhobidbcaa.Sq.isIn L) f y) = List.length (Go.Proofs.Ytghhdjhobidbcaa.Sq.missP (Go.Proofs.Ytghhdjhobidbcaa.Sq.isIn L) f x)) ∧ f + (↑y : Int) = z' ∧ f = f ∧ t = t ∧ m = m ∧ f = f ∧ (0 = 0 ∧ List.length L = List.length L ∧ c = c) ∧ (0 = 0 ∧ 0 = 0) ∧ f = f ∧ True) ∧ Go.Proofs.Ytghhdjhobidbcaa.Sq.missP (Go.Proofs.Ytghhdjhobidbcaa.Sq.isIn L) f y = Go.Proofs.Ytghhdjhobidbcaa.Sq.missP (Go.Proofs.Ytghhdjhobidbcaa.Sq.isIn L) f x ∧ True)) ∧ (Decidable.decide ((↑(List.length (Go.Proofs.Ytghhdjhobidbcaa.Sq.missP (Go.Proofs.Ytghhdjhobidbcaa.Sq.isIn L) f x)) : Int) < m) = Bool.false →
    Go.Proofs.Ytghhdjhobidbcaa.Abs.ExT Unit fun z => True ∧ True ∧ ((0 = 0 ∧ List.length (List.take (Int.toNat m) (Go.Proofs.Ytghhdjhobidbcaa.Sq.missP (Go.Proofs.Ytghhdjhobidbcaa.Sq.isIn L) f (Int.toNat (t - f)))) = List.length (Go.Proofs.Ytghhdjhobidbcaa.Sq.missP (Go.Proofs.Ytghhdjhobidbcaa.Sq.isIn L) f x) ∧ List.length (List.take (Int.toNat m) (Go.Proofs.Ytghhdjhobidbcaa.Sq.missP (Go.Proofs.Ytghhdjhobidbcaa.Sq.isIn L) f (Int.toNat (t - f)))) = List.length (Go.Proofs.Ytghhdjhobidbcaa.Sq.missP (Go.Proofs.Ytghhdjhobidbcaa.Sq.isIn L) f x)) ∧ f = f ∧ t = t ∧ m = m ∧ f = f ∧ (0 = 0 ∧ List.length L = List.length L ∧ c = c) ∧ (0 = 0 ∧ 0 = 0) ∧ f = f ∧ True) ∧ List.take (Int.toNat m) (Go.Proofs.Ytghhdjhobidbcaa.Sq.missP (Go.Proofs.Ytghhdjhobidbcaa.Sq.isIn L) f (Int.toNat (t - f))) = Go.Proofs.Ytghhdjhobidbcaa.Sq.missP (Go.Proofs.Ytghhdjhobidbcaa.Sq.isIn L) f x ∧ True)) ∧ (Decidable.decide (f + (↑x : Int) < t) = Bool.false →
    Go.Proofs.Ytghhdjhobidbcaa.Abs.ExT Unit fun z => True ∧ True ∧ ((0 = 0 ∧ List.length (List.take (Int.toNat m) (Go.Proofs.Ytghhdjhobidbcaa.Sq.missP (Go.Proofs.Ytghhdjhobidbcaa.Sq.isIn L) f (Int.toNat (t - f)))) = List.length (Go.Proofs.Ytghhdjhobidbcaa.Sq.missP (Go.Proofs.Ytghhdjhobidbcaa.Sq.isIn L) f x) ∧ List.length (List.take (Int.toNat m) (Go.Proofs.Ytghhdjhobidbcaa.Sq.missP (Go.Proofs.Ytghhdjhobidbcaa.Sq.isIn L) f (Int.toNat (t - f)))) = List.length (Go.Proofs.Ytghhdjhobidbcaa.Sq.missP (Go.Proofs.Ytghhdjhobidbcaa.Sq.isIn L) f x)) ∧ f = f ∧ t = t ∧ m = m ∧ f = f ∧ (0 = 0 ∧ List.length L = List.length L ∧ c = c) ∧ (0 = 0 ∧ 0 = 0) ∧ f = f ∧ True) ∧ List.take (Int.toNat m) (Go.Proofs.Ytghhdjhobidbcaa.Sq.missP (Go.Proofs.Ytghhdjhobidbcaa.Sq.isIn L) f (Int.toNat (t - f))) = Go.Proofs.Ytghhdjhobidbcaa.Sq.missP (Go.Proofs.Ytghhdjhobidbcaa.Sq.isIn L) f x ∧ True)) ∧ (∀ (z : Unit), True →
    (0 = 0 ∧ List.length (List.take (Int.toNat m) (Go.Proofs.Ytghhdjhobidbcaa.Sq.missP (Go.Proofs.Ytghhdjhobidbcaa.Sq.isIn L) f (Int.toNat (t - f)))) = List.length (List.take (Int.toNat m) (Go.Proofs.Ytghhdjhobidbcaa.Sq.missP (Go.Proofs.Ytghhdjhobidbcaa.Sq.isIn L) f (Int.toNat (t - f)))) ∧ List.length (List.take (Int.toNat m) (Go.Proofs.Ytghhdjhobidbcaa.Sq.missP (Go.Proofs.Ytghhdjhobidbcaa.Sq.isIn L) f (Int.toNat (t - f)))) = List.length (List.take (Int.toNat m) (Go.Proofs.Ytghhdjhobidbcaa.Sq.missP (Go.Proofs.Ytghhdjhobidbcaa.Sq.isIn L) f (Int.toNat (t - f))))) ∧ True ∧ True ∧ List.take (Int.toNat m) (Go.Proofs.Ytghhdjhobidbcaa.Sq.missP (Go.Proofs.Ytghhdjhobidbcaa.Sq.isIn L) f (Int.toNat (t - f))) = List.take (Int.toNat m) (Go.Proofs.Ytghhdjhobidbcaa.Sq.missP (Go.Proofs.Ytghhdjhobidbcaa.Sq.isIn L) f (Int.toNat (t - f))) ∧ True) ∧ True
theorem rmissf_eq (L : List Int) (c : Nat) (f t m : Int) : nestW Try.prog (hp [(902, .sints .u32 L U32)]) (rhHooks (hp [(902, .sints .u32 L U32)])) (annU [(RMISS, 0, rmissA (isIn L) f (t - f).toNat m.toNat)]) RMISS [.sint .u32 f, .sint .u32 t, .sslice (902, 0) L.length c true 1, .sint .i64 m] [] (endK (.sslice (5000, 0) ((missP (isIn L) f (t - f).toNat).take m.toNat).length ((missP (isIn L) f (t - f).toNat).take m.toNat).length false 1) [.sints .u32 ((missP (isIn L) f (t - f).toNat).take m.toNat) U32]) = rmissf L c f t m := by kernel_rfl
def rmissfS (L : List Int) (c : Nat) (f t m : Int) : Prop :=
    (Go.Proofs.Ytghhdjhobidbcaa.Abs.ExT Nat fun x => (x ≤ Int.toNat (t - f) ∧ List.length (Go.Proofs.Ytghhdjhobidbcaa.Sq.missP (Go.Proofs.Ytghhdjhobidbcaa.Sq.isIn L) f x) ≤ Int.toNat m) ∧ ((List.length (Go.Proofs.Ytghhdjhobidbcaa.Sq.missP (Go.Proofs.Ytghhdjhobidbcaa.Sq.isIn L) f x) = 0 ∧ List.length (Go.Proofs.Ytghhdjhobidbcaa.Sq.missP (Go.Proofs.Ytghhdjhobidbcaa.Sq.isIn L) f x) = 0) ∧ f + (↑x : Int) = f) ∧ Go.Proofs.Ytghhdjhobidbcaa.Sq.missP (Go.Proofs.Ytghhdjhobidbcaa.Sq.isIn L) f x = []) ∧ ∀ (x : Nat), x ≤ Int.toNat (t - f) ∧ List.length (Go.Proofs.Ytghhdjhobidbcaa.Sq.missP (Go.Proofs.Ytghhdjhobidbcaa.Sq.isIn L) f x) ≤ Int.toNat m →
    (f + (↑x : Int) < t →
    List.length (Go.Proofs.Ytghhdjhobidbcaa.Sq.missP (Go.Proofs.Ytghhdjhobidbcaa.Sq.isIn L) f x) ≤ 9223372036854775807 ∧ ((↑(List.length (Go.Proofs.Ytghhdjhobidbcaa.Sq.missP (Go.Proofs.Ytghhdjhobidbcaa.Sq.isIn L) f x)) : Int) < m →
    (0 + List.length L ≤ List.length L ∧ List.length (List.take (List.length L) L) ≤ 9223372036854775807) ∧ ((!Go.Proofs.Ytghhdjhobidbcaa.Sq.isIn (List.take (List.length L) L) ((f + (↑x : Int)) % (4294967296 : Int))) = Bool.true →
    (1 ≤ List.length [(f + (↑x : Int)) % (4294967296 : Int)] ∧ Nat.le (0 + List.length (Go.Proofs.Ytghhdjhobidbcaa.Sq.missP (Go.Proofs.Ytghhdjhobidbcaa.Sq.isIn L) f x)) (List.length (Go.Proofs.Ytghhdjhobidbcaa.Sq.missP (Go.Proofs.Ytghhdjhobidbcaa.Sq.isIn L) f x)) ∧ List.length (Go.Proofs.Ytghhdjhobidbcaa.Sq.missP (Go.Proofs.Ytghhdjhobidbcaa.Sq.isIn L) f x) + 1 ≤ 65536) ∧ ∀ (l' : List Int), l' = List.take (List.length (Go.Proofs.Ytghhdjhobidbcaa.Sq.missP (Go.Proofs.Ytghhdjhobidbcaa.Sq.isIn L) f x)) (Go.Proofs.Ytghhdjhobidbcaa.Sq.missP (Go.Proofs.Ytghhdjhobidbcaa.Sq.isIn L) f x) ++ List.take 1 [(f + (↑x : Int)) % (4294967296 : Int)] →
    ∀ (z' : Int), z' = (f + (↑x : Int) + (1 : Int)) % (18446744073709551616 : Int) →
    Go.Proofs.Ytghhdjhobidbcaa.Abs.ExT Nat fun y => (Int.toNat (t - f) - y < Int.toNat (t - f) - x ∧ y ≤ Int.toNat (t - f) ∧ List.length (Go.Proofs.Ytghhdjhobidbcaa.Sq.missP (Go.Proofs.Ytghhdjhobidbcaa.Sq.isIn L) f y) ≤ Int.toNat m) ∧ ((List.length (Go.Proofs.Ytghhdjhobidbcaa.Sq.missP (Go.Proofs.Ytghhdjhobidbcaa.Sq.isIn L) f y) = List.length (Go.Proofs.Ytghhdjhobidbcaa.Sq.missP (Go.Proofs.Ytghhdjhobidbcaa.Sq.isIn L) f x) + 1 ∧ List.length (Go.Proofs.Ytghhdjhobidbcaa.Sq.missP (Go.Proofs.Ytghhdjhobidbcaa.Sq.isIn L) f y) = List.length (Go.Proofs.Ytghhdjhobidbcaa.Sq.missP (Go.Proofs.Ytghhdjhobidbcaa.Sq.isIn L) f x) + 1) ∧ f + (↑y : Int) = z') ∧ Go.Proofs.Ytghhdjhobidbcaa.Sq.missP (Go.Proofs.Ytghhdjhobidbcaa.Sq.isIn L) f y = l') ∧ ((!Go.Proofs.Ytghhdjhobidbcaa.Sq.isIn (List.take (List.length L) L) ((f + (↑x : Int)) % (4294967296 : Int))) = Bool.false →
    ∀ (z' : Int), z' = (f + (↑x : Int) + (1 : Int)) % (18446744073709551616 : Int) →
    Go.Proofs.Ytghhdjhobidbcaa.Abs.ExT Nat fun y => (Int.toNat (t - f) - y < Int.toNat (t - f) - x ∧ y ≤ Int.toNat (t - f) ∧ List.length (Go.Proofs.Ytghhdjhobidbcaa.Sq.missP (Go.Proofs.Ytghhdjhobidbcaa.Sq.isIn L) f y) ≤ Int.toNat m) ∧ ((List.length (Go.Proofs.Ytghhdjhobidbcaa.Sq.missP (Go.Proofs.Ytghhdjhobidbcaa.Sq.isIn L) f y) = List.length (Go.Proofs.Ytghhdjhobidbcaa.Sq.missP (Go.Proofs.Ytghhdjhobidbcaa.Sq.isIn L) f x) ∧ List.length (Go.Proofs.Ytghhdjhobidbcaa.Sq.missP (Go.Proofs.Ytghhdjhobidbcaa.Sq.isIn L) f y) = List.length (Go.Proofs.Ytghhdjhobidbcaa.Sq.missP (Go.Proofs.Ytghhdjhobidbcaa.Sq.isIn L) f x)) ∧ f + (↑y : Int) = z') ∧ Go.Proofs.Ytghhdjhobidbcaa.Sq.missP (Go.Proofs.Ytghhdjhobidbcaa.Sq.isIn L) f y = Go.Proofs.Ytghhdjhobidbcaa.Sq.missP (Go.Proofs.Ytghhdjhobidbcaa.Sq.isIn L) f x)) ∧ (¬(↑(List.length (Go.Proofs.Ytghhdjhobidbcaa.Sq.missP (Go.Proofs.Ytghhdjhobidbcaa.Sq.isIn L) f x)) : Int) < m →
    (List.length (List.take (Int.toNat m) (Go.Proofs.Ytghhdjhobidbcaa.Sq.missP (Go.Proofs.Ytghhdjhobidbcaa.Sq.isIn L) f (Int.toNat (t - f)))) = List.length (Go.Proofs.Ytghhdjhobidbcaa.Sq.missP (Go.Proofs.Ytghhdjhobidbcaa.Sq.isIn L) f x) ∧ List.length (List.take (Int.toNat m) (Go.Proofs.Ytghhdjhobidbcaa.Sq.missP (Go.Proofs.Ytghhdjhobidbcaa.Sq.isIn L) f (Int.toNat (t - f)))) = List.length (Go.Proofs.Ytghhdjhobidbcaa.Sq.missP (Go.Proofs.Ytghhdjhobidbcaa.Sq.isIn L) f x)) ∧ List.take (Int.toNat m) (Go.Proofs.Ytghhdjhobidbcaa.Sq.missP (Go.Proofs.Ytghhdjhobidbcaa.Sq.isIn L) f (Int.toNat (t - f))) = Go.Proofs.Ytghhdjhobidbcaa.Sq.missP (Go.Proofs.Ytghhdjhobidbcaa.Sq.isIn L) f x)) ∧ (¬f + (↑x : Int) < t →
    (List.length (List.take (Int.toNat m) (Go.Proofs.Ytghhdjhobidbcaa.Sq.missP (Go.Proofs.Ytghhdjhobidbcaa.Sq.isIn L) f (Int.toNat (t - f)))) = List.length (Go.Proofs.Ytghhdjhobidbcaa.Sq.missP (Go.Proofs.Ytghhdjhobidbcaa.Sq.isIn L) f x) ∧ List.length (List.take (Int.toNat m) (Go.Proofs.Ytghhdjhobidbcaa.Sq.missP (Go.Proofs.Ytghhdjhobidbcaa.Sq.isIn L) f (Int.toNat (t - f)))) = List.length (Go.Proofs.Ytghhdjhobidbcaa.Sq.missP (Go.Proofs.Ytghhdjhobidbcaa.Sq.isIn L) f x)) ∧ List.take (Int.toNat m) (Go.Proofs.Ytghhdjhobidbcaa.Sq.missP (Go.Proofs.Ytghhdjhobidbcaa.Sq.isIn L) f (Int.toNat (t - f))) = Go.Proofs.Ytghhdjhobidbcaa.Sq.missP (Go.Proofs.Ytghhdjhobidbcaa.Sq.isIn L) f x)
theorem rmissf_of (L : List Int) (c : Nat) (f t m : Int) (hS0 : rmissfS L c f t m) : rmissf L c f t m := by
  unfold rmissfS at hS0
  unfold rmissf
  exact ⟨(Exists.elim hS0.1 fun x1 k2 => ⟨x1, ⟨⟨k2.1.1, k2.1.2⟩, ⟨trivial, ⟨⟨⟨k2.2.1.1.1, k2.2.1.1.2⟩, ⟨k2.2.1.2, ⟨rfl, ⟨rfl, ⟨rfl, ⟨rfl, ⟨⟨rfl, ⟨rfl, rfl⟩⟩, ⟨⟨rfl, rfl⟩, ⟨rfl, trivial⟩⟩⟩⟩⟩⟩⟩⟩⟩, ⟨k2.2.2, trivial⟩⟩⟩⟩⟩), ⟨(fun x3 => (fun k4 => ⟨(fun k5 => ⟨(((hS0.2 x3) k4).1 (of_decide_eq_true k5)).1, ⟨(fun k6 => ⟨⟨⟨((((hS0.2 x3) k4).1 (of_decide_eq_true k5)).2.1 (of_decide_eq_true k6)).1.1, ((((hS0.2 x3) k4).1 (of_decide_eq_true k5)).2.1 (of_decide_eq_true k6)).1.2⟩, trivial⟩, ⟨(fun k7 => ⟨⟨(((((hS0.2 x3) k4).1 (of_decide_eq_true k5)).2.1 (of_decide_eq_true k6)).2.1 k7).1.1, ⟨(((((hS0.2 x3) k4).1 (of_decide_eq_true k5)).2.1 (of_decide_eq_true k6)).2.1 k7).1.2.1, ⟨(((((hS0.2 x3) k4).1 (of_decide_eq_true k5)).2.1 (of_decide_eq_true k6)).2.1 k7).1.2.2, (fun hf => nomatch hf)⟩⟩⟩, (fun x8 => (fun k9 => (fun x10 => (fun k11 => (Exists.elim (((((((((hS0.2 x3) k4).1 (of_decide_eq_true k5)).2.1 (of_decide_eq_true k6)).2.1 k7).2 x8) k9) x10) k11) fun x12 k13 => ⟨x12, ⟨⟨k13.1.1, ⟨k13.1.2.1, k13.1.2.2⟩⟩, ⟨trivial, ⟨⟨⟨rfl, ⟨k13.2.1.1.1, k13.2.1.1.2⟩⟩, ⟨k13.2.1.2, ⟨rfl, ⟨rfl, ⟨rfl, ⟨rfl, ⟨⟨rfl, ⟨rfl, rfl⟩⟩, ⟨⟨rfl, rfl⟩, ⟨rfl, trivial⟩⟩⟩⟩⟩⟩⟩⟩⟩, ⟨k13.2.2, trivial⟩⟩⟩⟩⟩)))))⟩), (fun k14 => (fun x15 => (fun k16 => (Exists.elim (((((((hS0.2 x3) k4).1 (of_decide_eq_true k5)).2.1 (of_decide_eq_true k6)).2.2 k14) x15) k16) fun x17 k18 => ⟨x17, ⟨⟨k18.1.1, ⟨k18.1.2.1, k18.1.2.2⟩⟩, ⟨trivial, ⟨⟨⟨rfl, ⟨k18.2.1.1.1, k18.2.1.1.2⟩⟩, ⟨k18.2.1.2, ⟨rfl, ⟨rfl, ⟨rfl, ⟨rfl, ⟨⟨rfl, ⟨rfl, rfl⟩⟩, ⟨⟨rfl, rfl⟩, ⟨rfl, trivial⟩⟩⟩⟩⟩⟩⟩⟩⟩, ⟨k18.2.2, trivial⟩⟩⟩⟩⟩))))⟩⟩), (fun k19 => ⟨(), ⟨trivial, ⟨trivial, ⟨⟨⟨rfl, ⟨((((hS0.2 x3) k4).1 (of_decide_eq_true k5)).2.2 (of_decide_eq_false k19)).1.1, ((((hS0.2 x3) k4).1 (of_decide_eq_true k5)).2.2 (of_decide_eq_false k19)).1.2⟩⟩, ⟨rfl, ⟨rfl, ⟨rfl, ⟨rfl, ⟨⟨rfl, ⟨rfl, rfl⟩⟩, ⟨⟨rfl, rfl⟩, ⟨rfl, trivial⟩⟩⟩⟩⟩⟩⟩⟩, ⟨((((hS0.2 x3) k4).1 (of_decide_eq_true k5)).2.2 (of_decide_eq_false k19)).2, trivial⟩⟩⟩⟩⟩)⟩⟩), (fun k20 => ⟨(), ⟨trivial, ⟨trivial, ⟨⟨⟨rfl, ⟨(((hS0.2 x3) k4).2 (of_decide_eq_false k20)).1.1, (((hS0.2 x3) k4).2 (of_decide_eq_false k20)).1.2⟩⟩, ⟨rfl, ⟨rfl, ⟨rfl, ⟨rfl, ⟨⟨rfl, ⟨rfl, rfl⟩⟩, ⟨⟨rfl, rfl⟩, ⟨rfl, trivial⟩⟩⟩⟩⟩⟩⟩⟩, ⟨(((hS0.2 x3) k4).2 (of_decide_eq_false k20)).2, trivial⟩⟩⟩⟩⟩)⟩)), ⟨(fun _ => (fun _ => ⟨⟨rfl, ⟨rfl, rfl⟩⟩, ⟨trivial, ⟨trivial, ⟨rfl, trivial⟩⟩⟩⟩)), trivial⟩⟩⟩
def rtoldf (a m : Int) : Prop :=
    (Go.Proofs.Ytghhdjhobidbcaa.Abs.ExT Nat fun x => x ≤ 32 ∧ True ∧ (m / (2 : Int) ^ x = m ∧ (List.length (Go.Proofs.Ytghhdjhobidbcaa.Sq.toldI a m x) = 0 ∧ List.length (Go.Proofs.Ytghhdjhobidbcaa.Sq.toldI a m x) = 0) ∧ a + (↑x : Int) = a ∧ ((↑x : Int) = (0 : Int) ∧ Go.Proofs.Ytghhdjhobidbcaa.Abs.inR Go.IntKind.i64 (↑x : Int)) ∧ a = a ∧ a = a ∧ (0 = 0 ∧ 0 = 0) ∧ a = a ∧ True) ∧ Go.Proofs.Ytghhdjhobidbcaa.Sq.toldI a m x = [] ∧ True) ∧ (∀ (x : Nat), x ≤ 32 →
    (Decidable.decide ((↑x : Int) < (32 : Int)) = Bool.true →
    ∀ (z' : Int), z' = (a + (↑x : Int) + (1 : Int)) % (18446744073709551616 : Int) →
    ((0 : Int) ≤ m / (2 : Int) ^ x ∧ (0 : Int) < (2 : Int)) ∧ (Decidable.decide (m / (2 : Int) ^ x % (2 : Int) = (1 : Int)) = Bool.true →
    (Decidable.decide (z' ≤ (4294967295 : Int)) = Bool.true →
    (1 ≤ List.length [z' % (4294967296 : Int)] ∧ Nat.le (0 + List.length (Go.Proofs.Ytghhdjhobidbcaa.Sq.toldI a m x)) (List.length (Go.Proofs.Ytghhdjhobidbcaa.Sq.toldI a m x)) ∧ List.length (Go.Proofs.Ytghhdjhobidbcaa.Sq.toldI a m x) + 1 ≤ 65536 ∧ (Bool.false = Bool.true →
    0 + List.length (Go.Proofs.Ytghhdjhobidbcaa.Sq.toldI a m x) ≤ Go.Proofs.Ytghhdjhobidbcaa.Abs.objM (Prod.snd (1000, Go.Proofs.Ytghhdjhobidbcaa.Abs.AObj.sints Go.IntKind.u32 (Go.Proofs.Ytghhdjhobidbcaa.Sq.toldI a m x) Go.Proofs.Ytghhdjhobidbcaa.Sq.U32)))) ∧ ∀ (l' : List Int), l' = List.take (List.length (Go.Proofs.Ytghhdjhobidbcaa.Sq.toldI a m x)) (List.drop 0 (Go.Proofs.Ytghhdjhobidbcaa.Sq.toldI a m x)) ++ List.take 1 (List.drop 0 [z' % (4294967296 : Int)]) →
    ((0 : Int) ≤ m / (2 : Int) ^ x ∧ (0 : Int) < (2 : Int)) ∧ Go.Proofs.Ytghhdjhobidbcaa.Abs.inR Go.IntKind.i64 ((↑x : Int) + (1 : Int)) ∧ ∀ (z'_1 : Int), z'_1 = (↑x : Int) + (1 : Int) →
    Go.Proofs.Ytghhdjhobidbcaa.Abs.ExT Nat fun y => (32 - y < 32 - x ∧ y ≤ 32) ∧ True ∧ (m / (2 : Int) ^ y = m / (2 : Int) ^ x / (2 : Int) ∧ (0 = 0 ∧ List.length (Go.Proofs.Ytghhdjhobidbcaa.Sq.toldI a m y) = List.length (Go.Proofs.Ytghhdjhobidbcaa.Sq.toldI a m x) + 1 ∧ List.length (Go.Proofs.Ytghhdjhobidbcaa.Sq.toldI a m y) = List.length (Go.Proofs.Ytghhdjhobidbcaa.Sq.toldI a m x) + 1) ∧ a + (↑y : Int) = z' ∧ (↑y : Int) = z'_1 ∧ a = a ∧ a = a ∧ (0 = 0 ∧ 0 = 0) ∧ a = a ∧ True) ∧ Go.Proofs.Ytghhdjhobidbcaa.Sq.toldI a m y = l' ∧ True) ∧ (Decidable.decide (z' ≤ (4294967295 : Int)) = Bool.false →
    ((0 : Int) ≤ m / (2 : Int) ^ x ∧ (0 : Int) < (2 : Int)) ∧ Go.Proofs.Ytghhdjhobidbcaa.Abs.inR Go.IntKind.i64 ((↑x : Int) + (1 : Int)) ∧ ∀ (z'_1 : Int), z'_1 = (↑x : Int) + (1 : Int) →
    Go.Proofs.Ytghhdjhobidbcaa.Abs.ExT Nat fun y => (32 - y < 32 - x ∧ y ≤ 32) ∧ True ∧ (m / (2 : Int) ^ y = m / (2 : Int) ^ x / (2 : Int) ∧ (0 = 0 ∧ List.length (Go.Proofs.Ytghhdjhobidbcaa.Sq.toldI a m y) = List.length (Go.Proofs.Ytghhdjhobidbcaa.Sq.toldI a m x) ∧ List.length (Go.Proofs.Ytghhdjhobidbcaa.Sq.toldI a m y) = List.length (Go.Proofs.Ytghhdjhobidbcaa.Sq.toldI a m x)) ∧ a + (↑y : Int) = z' ∧ (↑y : Int) = z'_1 ∧ a = a ∧ a = a ∧ (0 = 0 ∧ 0 = 0) ∧ a = a ∧ True) ∧ Go.Proofs.Ytghhdjhobidbcaa.Sq.toldI a m y = Go.Proofs.Ytghhdjhobidbcaa.Sq.toldI a m x ∧ True)) ∧ (Decidable.decide (m / (2 : Int) ^ x % (2 : Int) = (1 : Int)) = Bool.false →
    ((0 : Int) ≤ m / (2 : Int) ^ x ∧ (0 : Int) < (2 : Int)) ∧ Go.Proofs.Ytghhdjhobidbcaa.Abs.inR Go.IntKind.i64 ((↑x : Int) + (1 : Int)) ∧ ∀ (z'_1 : Int), z'_1 = (↑x : Int) + (1 : Int) →
    Go.Proofs.Ytghhdjhobidbcaa.Abs.ExT Nat fun y => (32 - y < 32 - x ∧ y ≤ 32) ∧ True ∧ (m / (2 : Int) ^ y = m / (2 : Int) ^ x / (2 : Int) ∧ (0 = 0 ∧ List.length (Go.Proofs.Ytghhdjhobidbcaa.Sq.toldI a m y) = List.length (Go.Proofs.Ytghhdjhobidbcaa.Sq.toldI a m x) ∧ List.length (Go.Proofs.Ytghhdjhobidbcaa.Sq.toldI a m y) = List.length (Go.Proofs.Ytghhdjhobidbcaa.Sq.toldI a m x)) ∧ a + (↑y : Int) = z' ∧ (↑y : Int) = z'_1 ∧ a = a ∧ a = a ∧ (0 = 0 ∧ 0 = 0) ∧ a = a ∧ True) ∧ Go.Proofs.Ytghhdjhobidbcaa.Sq.toldI a m y = Go.Proofs.Ytghhdjhobidbcaa.Sq.toldI a m x ∧ True)) ∧ (Decidable.decide ((↑x : Int) < (32 : Int)) = Bool.false →
    Go.Proofs.Ytghhdjhobidbcaa.Abs.ExT Unit fun z => True ∧ True ∧ ((0 = 0 ∧ List.length (Go.Proofs.Ytghhdjhobidbcaa.Sq.toldI a m 32) = List.length (Go.Proofs.Ytghhdjhobidbcaa.Sq.toldI a m x) ∧ List.length (Go.Proofs.Ytghhdjhobidbcaa.Sq.toldI a m 32) = List.length (Go.Proofs.Ytghhdjhobidbcaa.Sq.toldI a m x)) ∧ a = a ∧ a = a ∧ (0 = 0 ∧ 0 = 0) ∧ a = a ∧ True) ∧ Go.Proofs.Ytghhdjhobidbcaa.Sq.toldI a m 32 = Go.Proofs.Ytghhdjhobidbcaa.Sq.toldI a m x ∧ True)) ∧ (∀ (z : Unit), True →
    (0 = 0 ∧ List.length (Go.Proofs.Ytghhdjhobidbcaa.Sq.toldI a m 32) = List.length (Go.Proofs.Ytghhdjhobidbcaa.Sq.toldI a m 32) ∧ List.length (Go.Proofs.Ytghhdjhobidbcaa.Sq.toldI a m 32) = List.length (Go.Proofs.Ytghhdjhobidbcaa.Sq.toldI a m 32)) ∧ True ∧ True ∧ Go.Proofs.Ytghhdjhobidbcaa.Sq.toldI a m 32 = Go.Proofs.Ytghhdjhobidbcaa.Sq.toldI a m 32 ∧ True) ∧ True
theorem rtoldf_eq (a m : Int) : nestW Try.prog .leaf hkNone (annU [(RTOLD, 0, rtoldA a m)]) RTOLD [.sint .u32 a, .sint .u32 m] [] (endK (.sslice (5000, 0) (toldI a m 32).length (toldI a m 32).length false 1) [.sints .u32 (toldI a m 32) U32]) = rtoldf a m := by kernel_rfl
def rtoldfS (a m : Int) : Prop :=
    (Go.Proofs.Ytghhdjhobidbcaa.Abs.ExT Nat fun x => x ≤ 32 ∧ (m / (2 : Int) ^ x = m ∧ (List.length (Go.Proofs.Ytghhdjhobidbcaa.Sq.toldI a m x) = 0 ∧ List.length (Go.Proofs.Ytghhdjhobidbcaa.Sq.toldI a m x) = 0) ∧ a + (↑x : Int) = a ∧ (↑x : Int) = (0 : Int) ∧ Go.Proofs.Ytghhdjhobidbcaa.Abs.inR Go.IntKind.i64 (↑x : Int)) ∧ Go.Proofs.Ytghhdjhobidbcaa.Sq.toldI a m x = []) ∧ ∀ (x : Nat), x ≤ 32 →
    ((↑x : Int) < (32 : Int) →
    ∀ (z' : Int), z' = (a + (↑x : Int) + (1 : Int)) % (18446744073709551616 : Int) →
    ((0 : Int) ≤ m / (2 : Int) ^ x ∧ (0 : Int) < (2 : Int)) ∧ (m / (2 : Int) ^ x % (2 : Int) = (1 : Int) →
    (z' ≤ (4294967295 : Int) →
    (1 ≤ List.length [z' % (4294967296 : Int)] ∧ Nat.le (0 + List.length (Go.Proofs.Ytghhdjhobidbcaa.Sq.toldI a m x)) (List.length (Go.Proofs.Ytghhdjhobidbcaa.Sq.toldI a m x)) ∧ List.length (Go.Proofs.Ytghhdjhobidbcaa.Sq.toldI a m x) + 1 ≤ 65536) ∧ ∀ (l' : List Int), l' = List.take (List.length (Go.Proofs.Ytghhdjhobidbcaa.Sq.toldI a m x)) (Go.Proofs.Ytghhdjhobidbcaa.Sq.toldI a m x) ++ List.take 1 [z' % (4294967296 : Int)] →
    ((0 : Int) ≤ m / (2 : Int) ^ x ∧ (0 : Int) < (2 : Int)) ∧ Go.Proofs.Ytghhdjhobidbcaa.Abs.inR Go.IntKind.i64 ((↑x : Int) + (1 : Int)) ∧ ∀ (z'_1 : Int), z'_1 = (↑x : Int) + (1 : Int) →
    Go.Proofs.Ytghhdjhobidbcaa.Abs.ExT Nat fun y => (32 - y < 32 - x ∧ y ≤ 32) ∧ (m / (2 : Int) ^ y = m / (2 : Int) ^ x / (2 : Int) ∧ (List.length (Go.Proofs.Ytghhdjhobidbcaa.Sq.toldI a m y) = List.length (Go.Proofs.Ytghhdjhobidbcaa.Sq.toldI a m x) + 1 ∧ List.length (Go.Proofs.Ytghhdjhobidbcaa.Sq.toldI a m y) = List.length (Go.Proofs.Ytghhdjhobidbcaa.Sq.toldI a m x) + 1) ∧ a + (↑y : Int) = z' ∧ (↑y : Int) = z'_1) ∧ Go.Proofs.Ytghhdjhobidbcaa.Sq.toldI a m y = l') ∧ (¬z' ≤ (4294967295 : Int) →
    ((0 : Int) ≤ m / (2 : Int) ^ x ∧ (0 : Int) < (2 : Int)) ∧ Go.Proofs.Ytghhdjhobidbcaa.Abs.inR Go.IntKind.i64 ((↑x : Int) + (1 : Int)) ∧ ∀ (z'_1 : Int), z'_1 = (↑x : Int) + (1 : Int) →
    Go.Proofs.Ytghhdjhobidbcaa.Abs.ExT Nat fun y => (32 - y < 32 - x ∧ y ≤ 32) ∧ (m / (2 : Int) ^ y = m / (2 : Int) ^ x / (2 : Int) ∧ (List.length (Go.Proofs.Ytghhdjhobidbcaa.Sq.toldI a m y) = List.length (Go.Proofs.Ytghhdjhobidbcaa.Sq.toldI a m x) ∧ List.length (Go.Proofs.Ytghhdjhobidbcaa.Sq.toldI a m y) = List.length (Go.Proofs.Ytghhdjhobidbcaa.Sq.toldI a m x)) ∧ a + (↑y : Int) = z' ∧ (↑y : Int) = z'_1) ∧ Go.Proofs.Ytghhdjhobidbcaa.Sq.toldI a m y = Go.Proofs.Ytghhdjhobidbcaa.Sq.toldI a m x)) ∧ (¬m / (2 : Int) ^ x % (2 : Int) = (1 : Int) →
    ((0 : Int) ≤ m / (2 : Int) ^ x ∧ (0 : Int) < (2 : Int)) ∧ Go.Proofs.Ytghhdjhobidbcaa.Abs.inR Go.IntKind.i64 ((↑x : Int) + (1 : Int)) ∧ ∀ (z'_1 : Int), z'_1 = (↑x : Int) + (1 : Int) →
    Go.Proofs.Ytghhdjhobidbcaa.Abs.ExT Nat fun y => (32 - y < 32 - x ∧ y ≤ 32) ∧ (m / (2 : Int) ^ y = m / (2 : Int) ^ x / (2 : Int) ∧ (List.length (Go.Proofs.Ytghhdjhobidbcaa.Sq.toldI a m y) = List.length (Go.Proofs.Ytghhdjhobidbcaa.Sq.toldI a m x) ∧ List.length (Go.Proofs.Ytghhdjhobidbcaa.Sq.toldI a m y) = List.length (Go.Proofs.Ytghhdjhobidbcaa.Sq.toldI a m x)) ∧ a + (↑y : Int) = z' ∧ (↑y : Int) = z'_1) ∧ Go.Proofs.Ytghhdjhobidbcaa.Sq.toldI a m y = Go.Proofs.Ytghhdjhobidbcaa.Sq.toldI a m x)) ∧ (¬(↑x : Int) < (32 : Int) →
    (List.length (Go.Proofs.Ytghhdjhobidbcaa.Sq.toldI a m 32) = List.length (Go.Proofs.Ytghhdjhobidbcaa.Sq.toldI a m x) ∧ List.length (Go.Proofs.Ytghhdjhobidbcaa.Sq.toldI a m 32) = List.length (Go.Proofs.Ytghhdjhobidbcaa.Sq.toldI a m x)) ∧ Go.Proofs.Ytghhdjhobidbcaa.Sq.toldI a m 32 = Go.Proofs.Ytghhdjhobidbcaa.Sq.toldI a m x)
theorem rtoldf_of (a m : Int) (hS0 : rtoldfS a m) : rtoldf a m := by
  unfold rtoldfS at hS0
  unfold rtoldf
  exact ⟨(Exists.elim hS0.1 fun x1 k2 => ⟨x1, ⟨k2.1, ⟨trivial, ⟨⟨k2.2.1.1, ⟨⟨k2.2.1.2.1.1, k2.2.1.2.1.2⟩, ⟨k2.2.1.2.2.1, ⟨⟨k2.2.1.2.2.2.1, k2.2.1.2.2.2.2⟩, ⟨rfl, ⟨rfl, ⟨⟨rfl, rfl⟩, ⟨rfl, trivial⟩⟩⟩⟩⟩⟩⟩⟩, ⟨k2.2.2, trivial⟩⟩⟩⟩⟩), ⟨(fun x3 => (fun k4 => ⟨(fun k5 => (fun x6 => (fun k7 => ⟨⟨(((((hS0.2 x3) k4).1 (of_decide_eq_true k5)) x6) k7).1.1, (((((hS0.2 x3) k4).1 (of_decide_eq_true k5)) x6) k7).1.2⟩, ⟨(fun k8 => ⟨(fun k9 => ⟨⟨(((((((hS0.2 x3) k4).1 (of_decide_eq_true k5)) x6) k7).2.1 (of_decide_eq_true k8)).1 (of_decide_eq_true k9)).1.1, ⟨(((((((hS0.2 x3) k4).1 (of_decide_eq_true k5)) x6) k7).2.1 (of_decide_eq_true k8)).1 (of_decide_eq_true k9)).1.2.1, ⟨(((((((hS0.2 x3) k4).1 (of_decide_eq_true k5)) x6) k7).2.1 (of_decide_eq_true k8)).1 (of_decide_eq_true k9)).1.2.2, (fun hf => nomatch hf)⟩⟩⟩, (fun x10 => (fun k11 => ⟨⟨(((((((((hS0.2 x3) k4).1 (of_decide_eq_true k5)) x6) k7).2.1 (of_decide_eq_true k8)).1 (of_decide_eq_true k9)).2 x10) k11).1.1, (((((((((hS0.2 x3) k4).1 (of_decide_eq_true k5)) x6) k7).2.1 (of_decide_eq_true k8)).1 (of_decide_eq_true k9)).2 x10) k11).1.2⟩, ⟨(((((((((hS0.2 x3) k4).1 (of_decide_eq_true k5)) x6) k7).2.1 (of_decide_eq_true k8)).1 (of_decide_eq_true k9)).2 x10) k11).2.1, (fun x12 => (fun k13 => (Exists.elim (((((((((((hS0.2 x3) k4).1 (of_decide_eq_true k5)) x6) k7).2.1 (of_decide_eq_true k8)).1 (of_decide_eq_true k9)).2 x10) k11).2.2 x12) k13) fun x14 k15 => ⟨x14, ⟨⟨k15.1.1, k15.1.2⟩, ⟨trivial, ⟨⟨k15.2.1.1, ⟨⟨rfl, ⟨k15.2.1.2.1.1, k15.2.1.2.1.2⟩⟩, ⟨k15.2.1.2.2.1, ⟨k15.2.1.2.2.2, ⟨rfl, ⟨rfl, ⟨⟨rfl, rfl⟩, ⟨rfl, trivial⟩⟩⟩⟩⟩⟩⟩⟩, ⟨k15.2.2, trivial⟩⟩⟩⟩⟩)))⟩⟩))⟩), (fun k16 => ⟨⟨(((((((hS0.2 x3) k4).1 (of_decide_eq_true k5)) x6) k7).2.1 (of_decide_eq_true k8)).2 (of_decide_eq_false k16)).1.1, (((((((hS0.2 x3) k4).1 (of_decide_eq_true k5)) x6) k7).2.1 (of_decide_eq_true k8)).2 (of_decide_eq_false k16)).1.2⟩, ⟨(((((((hS0.2 x3) k4).1 (of_decide_eq_true k5)) x6) k7).2.1 (of_decide_eq_true k8)).2 (of_decide_eq_false k16)).2.1, (fun x17 => (fun k18 => (Exists.elim (((((((((hS0.2 x3) k4).1 (of_decide_eq_true k5)) x6) k7).2.1 (of_decide_eq_true k8)).2 (of_decide_eq_false k16)).2.2 x17) k18) fun x19 k20 => ⟨x19, ⟨⟨k20.1.1, k20.1.2⟩, ⟨trivial, ⟨⟨k20.2.1.1, ⟨⟨rfl, ⟨k20.2.1.2.1.1, k20.2.1.2.1.2⟩⟩, ⟨k20.2.1.2.2.1, ⟨k20.2.1.2.2.2, ⟨rfl, ⟨rfl, ⟨⟨rfl, rfl⟩, ⟨rfl, trivial⟩⟩⟩⟩⟩⟩⟩⟩, ⟨k20.2.2, trivial⟩⟩⟩⟩⟩)))⟩⟩)⟩), (fun k21 => ⟨⟨((((((hS0.2 x3) k4).1 (of_decide_eq_true k5)) x6) k7).2.2 (of_decide_eq_false k21)).1.1, ((((((hS0.2 x3) k4).1 (of_decide_eq_true k5)) x6) k7).2.2 (of_decide_eq_false k21)).1.2⟩, ⟨((((((hS0.2 x3) k4).1 (of_decide_eq_true k5)) x6) k7).2.2 (of_decide_eq_false k21)).2.1, (fun x22 => (fun k23 => (Exists.elim ((((((((hS0.2 x3) k4).1 (of_decide_eq_true k5)) x6) k7).2.2 (of_decide_eq_false k21)).2.2 x22) k23) fun x24 k25 => ⟨x24, ⟨⟨k25.1.1, k25.1.2⟩, ⟨trivial, ⟨⟨k25.2.1.1, ⟨⟨rfl, ⟨k25.2.1.2.1.1, k25.2.1.2.1.2⟩⟩, ⟨k25.2.1.2.2.1, ⟨k25.2.1.2.2.2, ⟨rfl, ⟨rfl, ⟨⟨rfl, rfl⟩, ⟨rfl, trivial⟩⟩⟩⟩⟩⟩⟩⟩, ⟨k25.2.2, trivial⟩⟩⟩⟩⟩)))⟩⟩)⟩⟩))), (fun k26 => ⟨(), ⟨trivial, ⟨trivial, ⟨⟨⟨rfl, ⟨(((hS0.2 x3) k4).2 (of_decide_eq_false k26)).1.1, (((hS0.2 x3) k4).2 (of_decide_eq_false k26)).1.2⟩⟩, ⟨rfl, ⟨rfl, ⟨⟨rfl, rfl⟩, ⟨rfl, trivial⟩⟩⟩⟩⟩, ⟨(((hS0.2 x3) k4).2 (of_decide_eq_false k26)).2, trivial⟩⟩⟩⟩⟩)⟩)), ⟨(fun _ => (fun _ => ⟨⟨rfl, ⟨rfl, rfl⟩⟩, ⟨trivial, ⟨trivial, ⟨rfl, trivial⟩⟩⟩⟩)), trivial⟩⟩⟩
def rmaskf (L : List Int) (c : Nat) (a : Int) : Prop :=
    (Go.Proofs.Ytghhdjhobidbcaa.Abs.ExT Nat fun x => x ≤ 32 ∧ True ∧ ((Go.Proofs.Ytghhdjhobidbcaa.Sq.maskI (Go.Proofs.Ytghhdjhobidbcaa.Sq.isIn L) a x = (0 : Int) ∧ Go.Proofs.Ytghhdjhobidbcaa.Abs.inR Go.IntKind.u32 (Go.Proofs.Ytghhdjhobidbcaa.Sq.maskI (Go.Proofs.Ytghhdjhobidbcaa.Sq.isIn L) a x)) ∧ ((2 : Int) ^ x % (4294967296 : Int) = (1 : Int) ∧ Go.Proofs.Ytghhdjhobidbcaa.Abs.inR Go.IntKind.u32 ((2 : Int) ^ x % (4294967296 : Int))) ∧ ((↑x : Int) + (1 : Int) = (1 : Int) ∧ Go.Proofs.Ytghhdjhobidbcaa.Abs.inR Go.IntKind.u64 ((↑x : Int) + (1 : Int))) ∧ a = a ∧ (0 = 0 ∧ List.length L = List.length L ∧ c = c) ∧ (0 : Int) = (0 : Int) ∧ True) ∧ True) ∧ (∀ (x : Nat), x ≤ 32 →
    (Decidable.decide ((↑x : Int) + (1 : Int) ≤ (32 : Int)) = Bool.true →
    ∀ (z' : Int), z' = (a + ((↑x : Int) + (1 : Int))) % (18446744073709551616 : Int) →
    (Decidable.decide (z' ≤ (4294967295 : Int)) = Bool.true →
    ((0 + List.length L ≤ List.length L ∧ List.length (List.take (List.length L) (List.drop 0 L)) ≤ 9223372036854775807) ∧ True) ∧ (Go.Proofs.Ytghhdjhobidbcaa.Sq.isIn (Go.Proofs.Ytghhdjhobidbcaa.Abs.Atom.zsOf (Go.Proofs.Ytghhdjhobidbcaa.Abs.Atom.zs (List.take (List.length L) (List.drop 0 L)))) (Go.Proofs.Ytghhdjhobidbcaa.Abs.Atom.zOf (Go.Proofs.Ytghhdjhobidbcaa.Abs.Atom.z (z' % (4294967296 : Int)))) = Bool.true →
    ∀ (z' : Int), z' = (Go.Proofs.Ytghhdjhobidbcaa.Sq.maskI (Go.Proofs.Ytghhdjhobidbcaa.Sq.isIn L) a x + (2 : Int) ^ x % (4294967296 : Int)) % (4294967296 : Int) →
    ∀ (z'_1 : Int), z'_1 = (2 : Int) ^ x % (4294967296 : Int) * (2 : Int) % (4294967296 : Int) →
    ∀ (z'_2 : Int), z'_2 = ((↑x : Int) + (1 : Int) + (1 : Int)) % (18446744073709551616 : Int) →
    Go.Proofs.Ytghhdjhobidbcaa.Abs.ExT Nat fun y => (32 - y < 32 - x ∧ y ≤ 32) ∧ True ∧ (Go.Proofs.Ytghhdjhobidbcaa.Sq.maskI (Go.Proofs.Ytghhdjhobidbcaa.Sq.isIn L) a y = z' ∧ (2 : Int) ^ y % (4294967296 : Int) = z'_1 ∧ (↑y : Int) + (1 : Int) = z'_2 ∧ a = a ∧ (0 = 0 ∧ List.length L = List.length L ∧ c = c) ∧ (0 : Int) = (0 : Int) ∧ True) ∧ True) ∧ (Go.Proofs.Ytghhdjhobidbcaa.Sq.isIn (Go.Proofs.Ytghhdjhobidbcaa.Abs.Atom.zsOf (Go.Proofs.Ytghhdjhobidbcaa.Abs.Atom.zs (List.take (List.length L) (List.drop 0 L)))) (Go.Proofs.Ytghhdjhobidbcaa.Abs.Atom.zOf (Go.Proofs.Ytghhdjhobidbcaa.Abs.Atom.z (z' % (4294967296 : Int)))) = Bool.false →
    ∀ (z' : Int), z' = (2 : Int) ^ x % (4294967296 : Int) * (2 : Int) % (4294967296 : Int) →
    ∀ (z'_1 : Int), z'_1 = ((↑x : Int) + (1 : Int) + (1 : Int)) % (18446744073709551616 : Int) →
    Go.Proofs.Ytghhdjhobidbcaa.Abs.ExT Nat fun y => (32 - y < 32 - x ∧ y ≤ 32) ∧ True ∧ (Go.Proofs.Ytghhdjhobidbcaa.Sq.maskI (Go.Proofs.Ytghhdjhobidbcaa.Sq.isIn L) a y = Go.Proofs.Ytghhdjhobidbcaa.Sq.maskI (Go.Proofs.Ytghhdjhobidbcaa.Sq.isIn L) a x ∧ (2 : Int) ^ y % (4294967296 : Int) = z' ∧ (↑y : Int) + (1 : Int) = z'_1 ∧ a = a ∧ (0 = 0 ∧ List.length L = List.length L ∧ c = c) ∧ (0 : Int) = (0 : Int) ∧ True) ∧ True)) ∧ (Decidable.decide (z' ≤ (4294967295 : Int)) = Bool.false →
    ∀ (z' : Int), z' = (2 : Int) ^ x % (4294967296 : Int) * (2 : Int) % (4294967296 : Int) →
    ∀ (z'_1 : Int), z'_1 = ((↑x : Int) + (1 : Int) + (1 : Int)) % (18446744073709551616 : Int) →
    Go.Proofs.Ytghhdjhobidbcaa.Abs.ExT Nat fun y => (32 - y < 32 - x ∧ y ≤ 32) ∧ True ∧ (Go.Proofs.Ytghhdjhobidbcaa.Sq.maskI (Go.Proofs.Ytghhdjhobidbcaa.Sq.isIn L) a y = Go.Proofs.Ytghhdjhobidbcaa.Sq.maskI (Go.Proofs.Ytghhdjhobidbcaa.Sq.isIn L) a x ∧ (2 : Int) ^ y % (4294967296 : Int) = z' ∧ (↑y : Int) + (1 : Int) = z'_1 ∧ a = a ∧ (0 = 0 ∧ List.length L = List.length L ∧ c = c) ∧ (0 : Int) = (0 : Int) ∧ True) ∧ True)) ∧ (Decidable.decide ((↑x : Int) + (1 : Int) ≤ (32 : Int)) = Bool.false →
    Go.Proofs.Ytghhdjhobidbcaa.Abs.ExT Unit fun z => True ∧ True ∧ (Go.Proofs.Ytghhdjhobidbcaa.Sq.maskI (Go.Proofs.Ytghhdjhobidbcaa.Sq.isIn L) a 32 = Go.Proofs.Ytghhdjhobidbcaa.Sq.maskI (Go.Proofs.Ytghhdjhobidbcaa.Sq.isIn L) a x ∧ a = a ∧ (0 = 0 ∧ List.length L = List.length L ∧ c = c) ∧ (0 : Int) = (0 : Int) ∧ True) ∧ True)) ∧ (∀ (z : Unit), True →
    Go.Proofs.Ytghhdjhobidbcaa.Sq.maskI (Go.Proofs.Ytghhdjhobidbcaa.Sq.isIn L) a 32 = Go.Proofs.Ytghhdjhobidbcaa.Sq.maskI (Go.Proofs.Ytghhdjhobidbcaa.Sq.isIn L) a 32 ∧ True ∧ True ∧ True) ∧ True
theorem rmaskf_eq (L : List Int) (c : Nat) (a : Int) : nestW Try.prog (hp [(901, .sints .u32 L U32)]) (rhHooks (hp [(901, .sints .u32 L U32)])) (annU [(RMASK, 0, rmaskA (isIn L) a)]) RMASK [.sint .u32 a, .sslice (901, 0) L.length c true 1] [] (endK (.sint .u32 (maskI (isIn L) a 32)) []) = rmaskf L c a := by kernel_rfl
def rmaskfS (L : List Int) (c : Nat) (a : Int) : Prop :=
    (Go.Proofs.Ytghhdjhobidbcaa.Abs.ExT Nat fun x => x ≤ 32 ∧ (Go.Proofs.Ytghhdjhobidbcaa.Sq.maskI (Go.Proofs.Ytghhdjhobidbcaa.Sq.isIn L) a x = (0 : Int) ∧ Go.Proofs.Ytghhdjhobidbcaa.Abs.inR Go.IntKind.u32 (Go.Proofs.Ytghhdjhobidbcaa.Sq.maskI (Go.Proofs.Ytghhdjhobidbcaa.Sq.isIn L) a x)) ∧ ((2 : Int) ^ x % (4294967296 : Int) = (1 : Int) ∧ Go.Proofs.Ytghhdjhobidbcaa.Abs.inR Go.IntKind.u32 ((2 : Int) ^ x % (4294967296 : Int))) ∧ (↑x : Int) + (1 : Int) = (1 : Int) ∧ Go.Proofs.Ytghhdjhobidbcaa.Abs.inR Go.IntKind.u64 ((↑x : Int) + (1 : Int))) ∧ ∀ (x : Nat), x ≤ 32 →
    ((↑x : Int) + (1 : Int) ≤ (32 : Int) →
    ∀ (z' : Int), z' = (a + ((↑x : Int) + (1 : Int))) % (18446744073709551616 : Int) →
    (z' ≤ (4294967295 : Int) →
    (0 + List.length L ≤ List.length L ∧ List.length (List.take (List.length L) L) ≤ 9223372036854775807) ∧ (Go.Proofs.Ytghhdjhobidbcaa.Sq.isIn (List.take (List.length L) L) (z' % (4294967296 : Int)) = Bool.true →
    ∀ (z' : Int), z' = (Go.Proofs.Ytghhdjhobidbcaa.Sq.maskI (Go.Proofs.Ytghhdjhobidbcaa.Sq.isIn L) a x + (2 : Int) ^ x % (4294967296 : Int)) % (4294967296 : Int) →
    ∀ (z'_1 : Int), z'_1 = (2 : Int) ^ x % (4294967296 : Int) * (2 : Int) % (4294967296 : Int) →
    ∀ (z'_2 : Int), z'_2 = ((↑x : Int) + (1 : Int) + (1 : Int)) % (18446744073709551616 : Int) →
    Go.Proofs.Ytghhdjhobidbcaa.Abs.ExT Nat fun y => (32 - y < 32 - x ∧ y ≤ 32) ∧ Go.Proofs.Ytghhdjhobidbcaa.Sq.maskI (Go.Proofs.Ytghhdjhobidbcaa.Sq.isIn L) a y = z' ∧ (2 : Int) ^ y % (4294967296 : Int) = z'_1 ∧ (↑y : Int) + (1 : Int) = z'_2) ∧ (Go.Proofs.Ytghhdjhobidbcaa.Sq.isIn (List.take (List.length L) L) (z' % (4294967296 : Int)) = Bool.false →
    ∀ (z' : Int), z' = (2 : Int) ^ x % (4294967296 : Int) * (2 : Int) % (4294967296 : Int) →
    ∀ (z'_1 : Int), z'_1 = ((↑x : Int) + (1 : Int) + (1 : Int)) % (18446744073709551616 : Int) →
    Go.Proofs.Ytghhdjhobidbcaa.Abs.ExT Nat fun y => (32 - y < 32 - x ∧ y ≤ 32) ∧ Go.Proofs.Ytghhdjhobidbcaa.Sq.maskI (Go.Proofs.Ytghhdjhobidbcaa.Sq.isIn L) a y = Go.Proofs.Ytghhdjhobidbcaa.Sq.maskI (Go.Proofs.Ytghhdjhobidbcaa.Sq.isIn L) a x ∧ (2 : Int) ^ y % (4294967296 : Int) = z' ∧ (↑y : Int) + (1 : Int) = z'_1)) ∧ (¬z' ≤ (4294967295 : Int) →
    ∀ (z' : Int), z' = (2 : Int) ^ x % (4294967296 : Int) * (2 : Int) % (4294967296 : Int) →
    ∀ (z'_1 : Int), z'_1 = ((↑x : Int) + (1 : Int) + (1 : Int)) % (18446744073709551616 : Int) →
    Go.Proofs.Ytghhdjhobidbcaa.Abs.ExT Nat fun y => (32 - y < 32 - x ∧ y ≤ 32) ∧ Go.Proofs.Ytghhdjhobidbcaa.Sq.maskI (Go.Proofs.Ytghhdjhobidbcaa.Sq.isIn L) a y = Go.Proofs.Ytghhdjhobidbcaa.Sq.maskI (Go.Proofs.Ytghhdjhobidbcaa.Sq.isIn L) a x ∧ (2 : Int) ^ y % (4294967296 : Int) = z' ∧ (↑y : Int) + (1 : Int) = z'_1)) ∧ (¬(↑x : Int) + (1 : Int) ≤ (32 : Int) →
    Go.Proofs.Ytghhdjhobidbcaa.Sq.maskI (Go.Proofs.Ytghhdjhobidbcaa.Sq.isIn L) a 32 = Go.Proofs.Ytghhdjhobidbcaa.Sq.maskI (Go.Proofs.Ytghhdjhobidbcaa.Sq.isIn L) a x)
theorem rmaskf_of (L : List Int) (c : Nat) (a : Int) (hS0 : rmaskfS L c a) : rmaskf L c a := by
  unfold rmaskfS at hS0
  unfold rmaskf
  exact ⟨(Exists.elim hS0.1 fun x1 k2 => ⟨x1, ⟨k2.1, ⟨trivial, ⟨⟨⟨k2.2.1.1, k2.2.1.2⟩, ⟨⟨k2.2.2.1.1, k2.2.2.1.2⟩, ⟨⟨k2.2.2.2.1, k2.2.2.2.2⟩, ⟨rfl, ⟨⟨rfl, ⟨rfl, rfl⟩⟩, ⟨rfl, trivial⟩⟩⟩⟩⟩⟩, trivial⟩⟩⟩⟩), ⟨(fun x3 => (fun k4 => ⟨(fun k5 => (fun x6 => (fun k7 => ⟨(fun k8 => ⟨⟨⟨((((((hS0.2 x3) k4).1 (of_decide_eq_true k5)) x6) k7).1 (of_decide_eq_true k8)).1.1, ((((((hS0.2 x3) k4).1 (of_decide_eq_true k5)) x6) k7).1 (of_decide_eq_true k8)).1.2⟩, trivial⟩, ⟨(fun k9 => (fun x10 => (fun k11 => (fun x12 => (fun k13 => (fun x14 => (fun k15 => (Exists.elim (((((((((((((hS0.2 x3) k4).1 (of_decide_eq_true k5)) x6) k7).1 (of_decide_eq_true k8)).2.1 k9) x10) k11) x12) k13) x14) k15) fun x16 k17 => ⟨x16, ⟨⟨k17.1.1, k17.1.2⟩, ⟨trivial, ⟨⟨k17.2.1, ⟨k17.2.2.1, ⟨k17.2.2.2, ⟨rfl, ⟨⟨rfl, ⟨rfl, rfl⟩⟩, ⟨rfl, trivial⟩⟩⟩⟩⟩⟩, trivial⟩⟩⟩⟩)))))))), (fun k18 => (fun x19 => (fun k20 => (fun x21 => (fun k22 => (Exists.elim (((((((((((hS0.2 x3) k4).1 (of_decide_eq_true k5)) x6) k7).1 (of_decide_eq_true k8)).2.2 k18) x19) k20) x21) k22) fun x23 k24 => ⟨x23, ⟨⟨k24.1.1, k24.1.2⟩, ⟨trivial, ⟨⟨k24.2.1, ⟨k24.2.2.1, ⟨k24.2.2.2, ⟨rfl, ⟨⟨rfl, ⟨rfl, rfl⟩⟩, ⟨rfl, trivial⟩⟩⟩⟩⟩⟩, trivial⟩⟩⟩⟩))))))⟩⟩), (fun k25 => (fun x26 => (fun k27 => (fun x28 => (fun k29 => (Exists.elim ((((((((((hS0.2 x3) k4).1 (of_decide_eq_true k5)) x6) k7).2 (of_decide_eq_false k25)) x26) k27) x28) k29) fun x30 k31 => ⟨x30, ⟨⟨k31.1.1, k31.1.2⟩, ⟨trivial, ⟨⟨k31.2.1, ⟨k31.2.2.1, ⟨k31.2.2.2, ⟨rfl, ⟨⟨rfl, ⟨rfl, rfl⟩⟩, ⟨rfl, trivial⟩⟩⟩⟩⟩⟩, trivial⟩⟩⟩⟩))))))⟩))), (fun k32 => ⟨(), ⟨trivial, ⟨trivial, ⟨⟨(((hS0.2 x3) k4).2 (of_decide_eq_false k32)), ⟨rfl, ⟨⟨rfl, ⟨rfl, rfl⟩⟩, ⟨rfl, trivial⟩⟩⟩⟩, trivial⟩⟩⟩⟩)⟩)), ⟨(fun _ => (fun _ => ⟨rfl, ⟨trivial, ⟨trivial, trivial⟩⟩⟩)), trivial⟩⟩⟩

theorem rhasfS_ok {L : List Int} {c : Nat} {z : Int} (hL : L.length ≤ 9223372036854775807) : rhasfS L c z := by
  unfold rhasfS
  simp only [Nat.zero_add, Nat.mul_one]
  repeat' (first
    | (with_reducible refine And.intro ?_ ?_)
    | (intro (h : false = true); cases h)
    | (intro (h : true = false); cases h)
    | (intro h; first | (replace h := of_decide_eq_true h) | (replace h := of_decide_eq_false h) | skip)
    | (with_reducible exact trivial)
    | (with_reducible rfl)
    | (with_reducible exact ⟨(), trivial, trivial, trivial, trivial⟩)
    | (with_reducible exact el3 hm.1 _)
    | (with_reducible exact Nat.le_trans (told_len _ _ _) (by omega))
    | omega
    | (with_reducible refine decide_eq_true ?_; omega)
    | (with_reducible refine decide_eq_false ?_; omega)
    | (simp only [in_u8, in_u16, in_u32, in_u64, in_i64, Nat.le_eq]; omega)
    | (exfalso; omega))
  · exact ⟨0, ⟨Nat.zero_le _, by simp⟩, by simp [in_i64]⟩
  · rename_i x hx hl
    exact isIn_iff.2 (h ▸ getD_mem (by omega))
  · rename_i x hx hl hn y
    exact ⟨x + 1, ⟨by omega, by omega, ntake hx.2 (fun e => hn e.symm) (by omega)⟩, by omega⟩
  · rename_i x hx
    have : x = L.length := by omega
    have h3 := hx.2
    rw [this, List.take_length] at h3
    exact decide_eq_false h3
  · exact decide_eq_false h
  · exact decide_eq_true h
theorem rhasH_ok {w0 : World} {RO : PT AObj} : Call1Ok Try.prog w0 RO RHAS (fun args st => got (rhasH RO args st)) := by
  refine hookR_ok U32 (by decide) ⟨_, rfl, rfl, by kernel_rfl⟩ (fun xs h _ => ?_) fun xs caps w φs us h _ hf hro hus => ?_
  · obtain ⟨L, _, rfl, _, _, h⟩ := atoms_ints h
    obtain ⟨z, _, rfl, _, h⟩ := atoms_int h
    obtain rfl := atoms_nil h
    exact ⟨rfl, rfl⟩
  · obtain ⟨L, _, rfl, hL, _, h⟩ := atoms_ints h
    obtain ⟨z, _, rfl, _, h⟩ := atoms_int h
    obtain rfl := atoms_nil h
    exact nest_run follows named hkNone_ok (rolow_of rfl) ((rhasf_eq L (caps 0) z).mpr (rhasf_of _ _ _ (rhasfS_ok hL))) hf hro hus
theorem rhHooks_ok {w0 : World} {RO : PT AObj} : HooksOk Try.prog w0 RO (rhHooks RO) := hkAdd_ok rhasH_ok hkNone_ok
theorem missP_pre {p : Int → Bool} {f : Int} {x c : Nat} (h : x ≤ c) : ∃ r, missP p f c = missP p f x ++ r := by
  obtain ⟨d, rfl⟩ : ∃ d, c = x + d := ⟨c - x, by omega⟩
  induction d with
  | zero => exact ⟨[], by simp⟩
  | succ d ih =>
    obtain ⟨r, hr⟩ := ih (by omega)
    refine ⟨r ++ (if p (f + ((x + d : Nat) : Int)) = true then [] else [f + ((x + d : Nat) : Int)]), ?_⟩
    rw [← Nat.add_assoc]
    simp only [missP]
    rw [hr, List.append_assoc]
theorem missP_full {p : Int → Bool} {f : Int} {x c m : Nat} (h : x ≤ c) (h2 : (missP p f x).length = m) : (missP p f c).take m = missP p f x := by
  obtain ⟨r, hr⟩ := missP_pre (p := p) (f := f) h
  rw [hr, ← h2, List.take_left]
theorem missP_all {p : Int → Bool} {f : Int} {c m : Nat} (h2 : (missP p f c).length ≤ m) : (missP p f c).take m = missP p f c := List.take_of_length_le h2
theorem missP_in {p : Int → Bool} {f z : Int} {x : Nat} (hz : z = f + (x : Int)) (hb : p z = false) : missP p f (x + 1) = missP p f x ++ [z] := by
  subst hz
  simp only [missP]
  rw [if_neg (by rw [hb]; decide)]
theorem missP_out {p : Int → Bool} {f z : Int} {x : Nat} (hz : z = f + (x : Int)) (hb : p z = true) : missP p f (x + 1) = missP p f x := by
  subst hz
  simp only [missP]
  rw [if_pos hb, List.append_nil]
theorem takeOne (a : Int) : List.take 1 [a] = [a] := rfl
set_option maxHeartbeats 4000000 in
theorem rmissfS_ok {L : List Int} {c : Nat} {f t m : Int} (hL : L.length ≤ 9223372036854775807) (hf : 0 ≤ f ∧ f ≤ 4294967295) (ht : 0 ≤ t ∧ t ≤ 4294967295) (hm : 0 ≤ m ∧ m ≤ 1000) : rmissfS L c f t m := by
  unfold rmissfS
  generalize hp : isIn L = p
  generalize hC : Int.toNat (t - f) = C
  simp only [List.take_length, takeOne, List.length_cons, List.length_nil, Nat.zero_add, hp]
  repeat' (first
    | (with_reducible refine And.intro ?_ ?_)
    | (intro (h : false = true); cases h)
    | (intro (h : true = false); cases h)
    | (intro h; first | (replace h := of_decide_eq_true h) | (replace h := of_decide_eq_false h) | skip)
    | (with_reducible exact trivial)
    | (with_reducible rfl)
    | (with_reducible exact ⟨(), trivial, trivial, trivial, trivial⟩)
    | (with_reducible exact el3 hm.1 _)
    | (with_reducible exact Nat.le_trans (told_len _ _ _) (by omega))
    | omega
    | (with_reducible refine decide_eq_true ?_; omega)
    | (with_reducible refine decide_eq_false ?_; omega)
    | (simp only [in_u8, in_u16, in_u32, in_u64, in_i64, Nat.le_eq]; omega)
    | (exfalso; omega))
  · exact ⟨0, ⟨Nat.zero_le _, Nat.zero_le _⟩, ⟨⟨rfl, rfl⟩, by omega⟩, rfl⟩
  · rename_i x hx h1 h2 h3 l hl z
    have e := missP_in (p := p) (f := f) (x := x) (z := (f + (x : Int)) % 4294967296) (by omega) (by simpa using h3)
    have e1 : (missP p f (x + 1)).length = (missP p f x).length + 1 := by rw [e]; simp
    exact ⟨x + 1, ⟨by omega, by omega, by omega⟩, ⟨⟨e1, e1⟩, by omega⟩, by rw [e, hl]⟩
  · rename_i x hx h1 h2 h3 z
    have e := missP_out (p := p) (f := f) (x := x) (z := (f + (x : Int)) % 4294967296) (by omega) (by simpa using h3)
    exact ⟨x + 1, ⟨by omega, by omega, by rw [e]; exact hx.2⟩, ⟨⟨by rw [e], by rw [e]⟩, by omega⟩, e⟩
  · rename_i x hx h1
    rw [missP_full hx.1 (by omega)]
  · rename_i x hx h1
    rw [missP_full hx.1 (by omega)]
  · rename_i x hx h1
    rw [missP_full hx.1 (by omega)]
  · rename_i x hx
    obtain rfl : x = C := by omega
    rw [missP_all hx.2]
  · rename_i x hx
    obtain rfl : x = C := by omega
    rw [missP_all hx.2]
  · rename_i x hx
    obtain rfl : x = C := by omega
    rw [missP_all hx.2]
theorem half_bit {m : Int} (hm : 0 ≤ m) (k : Nat) : m / 2 ^ k % 2 = 1 ↔ m.toNat.testBit k = true := by
  rw [Nat.testBit_eq_decide_div_mod_eq, decide_eq_true_eq]
  have := div_nat hm k
  have := el3 hm k
  omega
theorem half_next {m : Int} (hm : 0 ≤ m) (k : Nat) : m / 2 ^ (k + 1) = m / 2 ^ k / 2 := by
  rw [Int.ediv_ediv_of_nonneg (Int.le_of_lt (Int.pow_pos (by decide))), Int.pow_succ]
theorem told_add {a m z : Int} {k : Nat} (hm : 0 ≤ m) (hz : z = a + (k : Int) + 1) (h1 : z ≤ 4294967295) (hb : m / 2 ^ k % 2 = 1) : toldI a m (k + 1) = toldI a m k ++ [z] := by
  simp only [toldI]
  rw [if_pos ⟨(half_bit hm k).1 hb, by omega⟩, show a + 1 + (k : Int) = z by omega]
theorem told_not {a m z : Int} {k : Nat} (hm : 0 ≤ m) (hz : z = a + (k : Int) + 1) (h : ¬ (m / 2 ^ k % 2 = 1 ∧ z ≤ 4294967295)) : toldI a m (k + 1) = toldI a m k := by
  simp only [toldI]
  rw [if_neg (fun hh => h ⟨(half_bit hm k).2 hh.1, by omega⟩), List.append_nil]
set_option maxHeartbeats 4000000 in
theorem rtoldfS_ok {a m : Int} (ha : 0 ≤ a ∧ a ≤ 4294967295) (hm : 0 ≤ m ∧ m ≤ 4294967295) : rtoldfS a m := by
  unfold rtoldfS
  simp only [List.take_length, takeOne, List.length_cons, List.length_nil, Nat.zero_add]
  repeat' (first
    | (with_reducible refine And.intro ?_ ?_)
    | (intro (h : false = true); cases h)
    | (intro (h : true = false); cases h)
    | (intro h; first | (replace h := of_decide_eq_true h) | (replace h := of_decide_eq_false h) | skip)
    | (with_reducible exact trivial)
    | (with_reducible rfl)
    | (with_reducible exact ⟨(), trivial, trivial, trivial, trivial⟩)
    | (with_reducible exact el3 hm.1 _)
    | (with_reducible exact Nat.le_trans (told_len _ _ _) (by omega))
    | omega
    | (with_reducible refine decide_eq_true ?_; omega)
    | (with_reducible refine decide_eq_false ?_; omega)
    | (simp only [in_u8, in_u16, in_u32, in_u64, in_i64, Nat.le_eq]; omega)
    | (exfalso; omega))
  · exact ⟨0, by omega, ⟨by simp, ⟨rfl, rfl⟩, by omega, rfl, by rw [in_i64]; omega⟩, rfl⟩
  · rename_i x hx h1 z hz h2
    have := told_len a m x
    omega
  · rename_i x hx h1 z hz h2 h3 l hl y
    have e := told_add (a := a) (z := z % 4294967296) hm.1 (k := x) (by omega) (by omega) h2
    have e1 : (toldI a m (x + 1)).length = (toldI a m x).length + 1 := by rw [e]; simp
    exact ⟨x + 1, by omega, ⟨half_next hm.1 x, ⟨e1, e1⟩, by omega, by omega⟩, by rw [e, hl]⟩
  · rename_i x hx h1 z hz h2 h3 y
    have e := told_not (a := a) (z := z) hm.1 (k := x) (by omega) (fun hh => h3 hh.2)
    exact ⟨x + 1, by omega, ⟨half_next hm.1 x, ⟨by rw [e], by rw [e]⟩, by omega, by omega⟩, e⟩
  · rename_i x hx h1 z hz h2 y
    have e := told_not (a := a) (z := z) hm.1 (k := x) (by omega) (fun hh => h2 hh.1)
    exact ⟨x + 1, by omega, ⟨half_next hm.1 x, ⟨by rw [e], by rw [e]⟩, by omega, by omega⟩, e⟩
  · rename_i x hx
    obtain rfl : x = 32 := by omega
    rfl
  · rename_i x hx
    obtain rfl : x = 32 := by omega
    rfl
  · rename_i x hx
    obtain rfl : x = 32 := by omega
    rfl
theorem mask_add {p : Int → Bool} {a z v : Int} {k : Nat} (ha : 0 ≤ a) (hk : k < 32) (hz : z = a + 1 + k) (h : z ≤ 4294967295) (hp : p z = true) (hv : v = (maskI p a k + (2 : Int) ^ k % 4294967296) % 4294967296) : maskI p a (k + 1) = v := by
  have h1 := (mask_bound p a k)
  have h2 : (2 : Nat) ^ k ≤ 2 ^ 31 := Nat.pow_le_pow_right (by decide) (by omega)
  have e2 : (2 : Int) ^ k = ((2 ^ k : Nat) : Int) := by simp
  subst hz
  simp only [maskI]
  rw [if_pos ⟨hp, h⟩]
  omega
theorem mask_not {p : Int → Bool} {a z : Int} {k : Nat} (hz : z = a + 1 + k) (h : ¬ (p z = true ∧ z ≤ 4294967295)) : maskI p a (k + 1) = maskI p a k := by
  subst hz
  simp only [maskI]
  rw [if_neg h]
theorem pow_next (k : Nat) : (2 : Int) ^ (k + 1) % 4294967296 = (2 : Int) ^ k % 4294967296 * 2 % 4294967296 := by
  rw [Int.pow_succ]
  omega
set_option maxHeartbeats 4000000 in
theorem rmaskfS_ok {L : List Int} {c : Nat} {a : Int} (hL : L.length ≤ 9223372036854775807) (ha : 0 ≤ a ∧ a ≤ 4294967295) : rmaskfS L c a := by
  unfold rmaskfS
  generalize hp : isIn L = p
  simp only [List.take_length, hp]
  repeat' (first
    | (with_reducible refine And.intro ?_ ?_)
    | (intro (h : false = true); cases h)
    | (intro (h : true = false); cases h)
    | (intro h; first | (replace h := of_decide_eq_true h) | (replace h := of_decide_eq_false h) | skip)
    | (with_reducible exact trivial)
    | (with_reducible rfl)
    | (with_reducible exact ⟨(), trivial, trivial, trivial, trivial⟩)
    | (with_reducible exact el3 hm.1 _)
    | (with_reducible exact Nat.le_trans (told_len _ _ _) (by omega))
    | omega
    | (with_reducible refine decide_eq_true ?_; omega)
    | (with_reducible refine decide_eq_false ?_; omega)
    | (simp only [in_u8, in_u16, in_u32, in_u64, in_i64, Nat.le_eq]; omega)
    | (exfalso; omega))
  · exact ⟨0, by omega, ⟨rfl, by rw [in_u32]; simp [maskI]⟩, ⟨by simp, by simp [in_u32]⟩, by omega, by rw [in_u64]; omega⟩
  · rename_i x hx h1 z hz h2 h3 v hv w hw u
    exact ⟨x + 1, by omega, mask_add ha.1 (by omega) (by omega) (by omega) h3 hv, by rw [pow_next, hw], by omega⟩
  · rename_i x hx h1 z hz h2 h3 w hw u
    exact ⟨x + 1, by omega, mask_not (z := z % 4294967296) (by omega) (fun hh => by rw [h3] at hh; cases hh.1), by rw [pow_next, hw], by omega⟩
  · rename_i x hx h1 z hz h2 w hw u
    exact ⟨x + 1, by omega, mask_not (z := z) (by omega) (fun hh => h2 hh.2), by rw [pow_next, hw], by omega⟩
  · rename_i x hx
    obtain rfl : x = 32 := by omega
    rfl
noncomputable def rmissT (f t : Atom) (l : Atom) (m : Atom) : List Int := (missP (isIn l.zsOf) f.zOf (t.zOf - f.zOf).toNat).take m.zOf.toNat
noncomputable def rmissH (RO : PT AObj) : Hook := hookR [.one (.int .u32), .one (.int .u32), .one (.ints .u32), .one (.int .i64)] (fun xs => match xs with | [f, t, l, m] => 0 ≤ m.zOf ∧ m.zOf ≤ 1000 | _ => False)
  (fun xs => match xs with | [f, t, l, m] => .sslice (5000, 0) (rmissT f t l m).length (rmissT f t l m).length false 1 | _ => .undef) (fun xs => match xs with | [f, t, l, m] => [.sints .u32 (rmissT f t l m) U32] | _ => []) RO
theorem rmissH_ok {w0 : World} {RO : PT AObj} : Call1Ok Try.prog w0 RO RMISS (fun args st => got (rmissH RO args st)) := by
  refine hookR_ok U32 (by decide) ⟨_, rfl, rfl, by kernel_rfl⟩ (fun xs h _ => ?_) fun xs caps w φs us h hp hf hro hus => ?_
  · obtain ⟨f, _, rfl, _, h⟩ := atoms_int h
    obtain ⟨t, _, rfl, _, h⟩ := atoms_int h
    obtain ⟨L, _, rfl, _, _, h⟩ := atoms_ints h
    obtain ⟨m, _, rfl, _, h⟩ := atoms_int h
    obtain rfl := atoms_nil h
    exact ⟨rfl, rfl⟩
  · obtain ⟨f, _, rfl, i1, h⟩ := atoms_int h
    obtain ⟨t, _, rfl, i2, h⟩ := atoms_int h
    obtain ⟨L, _, rfl, hL, _, h⟩ := atoms_ints h
    obtain ⟨m, _, rfl, i3, h⟩ := atoms_int h
    obtain rfl := atoms_nil h
    exact nest_run follows named rhHooks_ok (rolow_of rfl) ((rmissf_eq L (caps 2) f t m).mpr (rmissf_of _ _ _ _ _ (rmissfS_ok hL ((in_u32 _).1 i1) ((in_u32 _).1 i2) hp))) hf hro hus
noncomputable def rtoldT (a m : Atom) : List Int := toldI a.zOf m.zOf 32
noncomputable def rtoldH (RO : PT AObj) : Hook := hookR [.one (.int .u32), .one (.int .u32)] (fun _ => True) (fun xs => match xs with | [a, m] => .sslice (5000, 0) (rtoldT a m).length (rtoldT a m).length false 1 | _ => .undef) (fun xs => match xs with | [a, m] => [.sints .u32 (rtoldT a m) U32] | _ => []) RO
theorem rtoldH_ok {w0 : World} {RO : PT AObj} : Call1Ok Try.prog w0 RO RTOLD (fun args st => got (rtoldH RO args st)) := by
  refine hookR_ok U32 (by decide) ⟨_, rfl, rfl, by kernel_rfl⟩ (fun xs h _ => ?_) fun xs caps w φs us h hp hf hro hus => ?_
  · obtain ⟨a, _, rfl, _, h⟩ := atoms_int h
    obtain ⟨m, _, rfl, _, h⟩ := atoms_int h
    obtain rfl := atoms_nil h
    exact ⟨rfl, rfl⟩
  · obtain ⟨a, _, rfl, i1, h⟩ := atoms_int h
    obtain ⟨m, _, rfl, i2, h⟩ := atoms_int h
    obtain rfl := atoms_nil h
    exact nest_run follows named hkNone_ok (rolow_of (entries := []) rfl) ((rtoldf_eq a m).mpr (rtoldf_of _ _ (rtoldfS_ok ((in_u32 _).1 i1) ((in_u32 _).1 i2)))) hf hro hus
noncomputable def rmaskH (RO : PT AObj) : Hook := hookR [.one (.int .u32), .one (.ints .u32)] (fun _ => True) (fun xs => match xs with | [a, l] => .sint .u32 (maskI (isIn l.zsOf) a.zOf 32) | _ => .undef) (fun _ => []) RO
theorem rmaskH_ok {w0 : World} {RO : PT AObj} : Call1Ok Try.prog w0 RO RMASK (fun args st => got (rmaskH RO args st)) := by
  refine hookR_ok U32 (by decide) ⟨_, rfl, rfl, by kernel_rfl⟩ (fun xs h _ => ?_) fun xs caps w φs us h hp hf hro hus => ?_
  · obtain ⟨a, _, rfl, _, h⟩ := atoms_int h
    obtain ⟨L, _, rfl, _, _, h⟩ := atoms_ints h
    obtain rfl := atoms_nil h
    exact ⟨rfl, rfl⟩
  · obtain ⟨a, _, rfl, i1, h⟩ := atoms_int h
    obtain ⟨L, _, rfl, hL, _, h⟩ := atoms_ints h
    obtain rfl := atoms_nil h
    exact nest_run follows named rhHooks_ok (rolow_of rfl) ((rmaskf_eq L (caps 1) a).mpr (rmaskf_of _ _ _ (rmaskfS_ok hL ((in_u32 _).1 i1)))) hf hro hus
end Go.Proofs.Ytghhdjhobidbcaa.Sq
