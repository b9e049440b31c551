/- seal: SealDerives: secrets that may not be; the statement's run. By an AI agent. -/
import Derived.Test.YtnhomnaamlbnpaaDoorSd2
import Derived.Test.YtnhomnaamlbnpaaDoorOt
namespace Go.Proofs.YtnhomnaamlbnpaaDoor.Sd
open Go Go.RowKit Go.ChangeShapes Go.WideShapes Go.ChangeAt Go.Deep Go.Proofs.YtnhomnaamlbnpaaDoor.Abs Go.Proofs.YtnhomnaamlbnpaaDoor.M Go.Proofs.YtnhomnaamlbnpaaDoor.Sha Go.Proofs.YtnhomnaamlbnpaaDoor.Rs Go.Proofs.YtnhomnaamlbnpaaDoor.Rm Go.Proofs.YtnhomnaamlbnpaaDoor.Ht Go.Proofs.YtnhomnaamlbnpaaDoor.Sg Go.Proofs.YtnhomnaamlbnpaaDoor.Sr
set_option linter.unusedVariables false
set_option linter.unusedSimpArgs false
set_option maxRecDepth 100000
abbrev MAYB : FuncId := 44
abbrev RMAY : FuncId := 17
noncomputable def mayH (RO : PT AObj) : Hook := hookR [.one .bytes] (fun _ => True) (fun xs => match xs with | [a] => .sbool (decide (1 ≤ a.lOf.length ∧ a.lOf.length ≤ 64)) | _ => .undef) (fun _ => []) RO
noncomputable def sdHkI (RO : PT AObj) : FuncId → Option Hook := hkAdd MAYB (mayH RO) (hkAdd RMAY (mayH RO) (hkAdd FEW (fewH RO) (hkAdd RTAG (tagH RO) (hkAdd WAKES trueH (hkAdd TAG (tagH RO) (hkAdd NUMBER numH hkNone))))))
noncomputable def sdWI (S lab : List UInt8) (L : List (List UInt8)) (n c1 c3 : Nat) (ty : TypeId) (dc : Dc) : Prop :=
  nestW Tryd.prog (roD S L n ty) (sdHkI (roD S L n ty)) (annU [(SDER, 0, sdA (min n 6))]) SDER [.sslice (900, 0) S.length c1 true 1, .sstr lab, .tslice 902 0 n c3 true 1] dc (fun u _ => isTrue u)
def k0 : List UInt8 := [UInt8.ofNat (Int.toNat (0 : Int)), UInt8.ofNat (Int.toNat (0 : Int)), UInt8.ofNat (Int.toNat (0 : Int)), UInt8.ofNat (Int.toNat (0 : Int)), UInt8.ofNat (Int.toNat (0 : Int)), UInt8.ofNat (Int.toNat (0 : Int)), UInt8.ofNat (Int.toNat (0 : Int)), UInt8.ofNat (Int.toNat (0 : Int)), UInt8.ofNat (Int.toNat (0 : Int)), UInt8.ofNat (Int.toNat (0 : Int)), UInt8.ofNat (Int.toNat (0 : Int)), UInt8.ofNat (Int.toNat (0 : Int)), UInt8.ofNat (Int.toNat (0 : Int)), UInt8.ofNat (Int.toNat (0 : Int)), UInt8.ofNat (Int.toNat (0 : Int)), UInt8.ofNat (Int.toNat (0 : Int)), UInt8.ofNat (Int.toNat (0 : Int)), UInt8.ofNat (Int.toNat (0 : Int)), UInt8.ofNat (Int.toNat (0 : Int)), UInt8.ofNat (Int.toNat (0 : Int)), UInt8.ofNat (Int.toNat (0 : Int)), UInt8.ofNat (Int.toNat (0 : Int)), UInt8.ofNat (Int.toNat (0 : Int)), UInt8.ofNat (Int.toNat (0 : Int)), UInt8.ofNat (Int.toNat (0 : Int)), UInt8.ofNat (Int.toNat (0 : Int)), UInt8.ofNat (Int.toNat (0 : Int)), UInt8.ofNat (Int.toNat (0 : Int)), UInt8.ofNat (Int.toNat (0 : Int)), UInt8.ofNat (Int.toNat (0 : Int)), UInt8.ofNat (Int.toNat (0 : Int)), UInt8.ofNat (Int.toNat (0 : Int))]
--forms
def mayf (L : List UInt8) (c : Nat) : Prop :=
    List.length L ≤ 9223372036854775807 ∧ (decide ((1 : Int) ≤ (↑(List.length L) : Int)) = true →
    List.length L ≤ 9223372036854775807 ∧ decide (1 ≤ List.length L ∧ List.length L ≤ 64) = decide ((↑(List.length L) : Int) ≤ (64 : Int)) ∧ True ∧ True ∧ True) ∧ (decide ((1 : Int) ≤ (↑(List.length L) : Int)) = false →
    decide (1 ≤ List.length L ∧ List.length L ≤ 64) = false ∧ True ∧ True ∧ True)
theorem mayf_eq (L : List UInt8) (c : Nat) : nestW Tryd.prog (roB L) hkNone (annU []) MAYB [.sslice (900, 0) L.length c true 1] [] (endK (.sbool (decide (1 ≤ L.length ∧ L.length ≤ 64))) []) = mayf L c := by kernel_rfl
def mayr (L : List UInt8) (c : Nat) : Prop :=
    List.length L ≤ 9223372036854775807 ∧ (decide ((1 : Int) ≤ (↑(List.length L) : Int)) = true →
    List.length L ≤ 9223372036854775807 ∧ decide (1 ≤ List.length L ∧ List.length L ≤ 64) = decide ((↑(List.length L) : Int) ≤ (64 : Int)) ∧ True ∧ True ∧ True) ∧ (decide ((1 : Int) ≤ (↑(List.length L) : Int)) = false →
    decide (1 ≤ List.length L ∧ List.length L ≤ 64) = false ∧ True ∧ True ∧ True)
theorem mayr_eq (L : List UInt8) (c : Nat) : nestW Tryd.prog (roB L) hkNone (annU []) RMAY [.sslice (900, 0) L.length c true 1] [] (endK (.sbool (decide (1 ≤ L.length ∧ L.length ≤ 64))) []) = mayr L c := by kernel_rfl
def sdE (S lab : List UInt8) (L : List (List UInt8)) (n c1 c3 : Nat) (ty : TypeId) : Prop :=
    (n = n ∧ List.length L = n ∧ n ≤ 9223372036854775807 ∧ ∀ (p : List UInt8), List.Mem p L →
    List.length p ≤ 9223372036854775807) ∧ ∀ (l' : List (List UInt8)), l' = fewL L n →
    List.length S ≤ 9223372036854775807 ∧ ∀ (z' : Int), z' = Min.min (↑(List.length S) : Int) (80 : Int) →
    (True ∧ (0 : Int) ≤ z' ∧ True ∧ 0 ≤ Int.toNat z' ∧ Int.toNat z' ≤ c1 ∧ c1 ≤ c1) ∧ ∀ (l'_1 : List UInt8), l'_1 = lab →
    ∀ (l'_2 : List UInt8), l'_2 = lab →
    List.length l'_2 ≤ 9223372036854775807 ∧ ∀ (z1 : Int), z1 = Min.min (↑(List.length l'_2) : Int) (40 : Int) →
    ((0 : Int) ≤ z1 ∧ True ∧ 0 ≤ Int.toNat z1 ∧ Int.toNat z1 ≤ List.length l'_1) ∧ ∀ (l'_3 : List UInt8), l'_3 = List.drop 0 (List.take (Int.toNat z1) l'_1) →
    ∀ (l'_4 : List UInt8), l'_4 = l'_3 →
    ∀ (l'_5 : List UInt8), l'_5 = l'_4 →
    ((0 + (Int.toNat z' - 0) ≤ List.length S ∧ List.length (List.take (Int.toNat z' - 0) (List.drop 0 S)) ≤ 9223372036854775807) ∧ True) ∧ (!decide (1 ≤ List.length (Atom.lOf (Atom.l (List.take (Int.toNat z' - 0) (List.drop 0 S)))) ∧ List.length (Atom.lOf (Atom.l (List.take (Int.toNat z' - 0) (List.drop 0 S)))) ≤ 64)) = true ∧ ∀ (l'_6 : List UInt8), l'_6 = l'_4 →
    ∀ (l'_7 : List UInt8), l'_7 = l'_6 →
    ∀ (l'_8 : List UInt8), l'_8 = l'_7 →
    List.length l'_8 ≤ 9223372036854775807 ∧ decide ((65535 : Int) < (↑(List.length l'_8) : Int)) = false ∧ ∀ (l'_9 : List UInt8), l'_9 = l'_7 →
    List.length l'_9 ≤ 9223372036854775807 ∧ (IntKind.u64 = IntKind.u64 ∧ (0 : Int) ≤ (↑(List.length l'_9) : Int) % (18446744073709551616 : Int) ∧ (↑(List.length l'_9) : Int) % (18446744073709551616 : Int) < (18446744073709551616 : Int) ∧ (0 : Int) ≤ (2 : Int) ∧ (2 : Int) ≤ (100 : Int)) ∧ ∀ (l'_10 : List UInt8), l'_10 = Go.Proofs.YtnhomnaamlbnpaaDoor.Pc.be 2 (Int.toNat ((↑(List.length l'_9) : Int) % (18446744073709551616 : Int))) →
    ∀ (l'_11 : List UInt8), l'_11 = l'_7 →
    (Nat.le 2 (List.length l'_10) ∧ 2 + (List.length l'_11) ≤ 65536 ∧ (false = true →
    2 ≤ (List.length l'_10))) ∧ ∀ (l'_12 : List UInt8), l'_12 = List.take 2 (List.drop 0 l'_10) ++ l'_11 →
    ((0 + (Int.toNat z' - 0) ≤ List.length S ∧ List.length (List.take (Int.toNat z' - 0) (List.drop 0 S)) ≤ 9223372036854775807) ∧ True) ∧ (!decide (1 ≤ List.length (Atom.lOf (Atom.l (List.take (Int.toNat z' - 0) (List.drop 0 S)))) ∧ List.length (Atom.lOf (Atom.l (List.take (Int.toNat z' - 0) (List.drop 0 S)))) ≤ 64)) = true ∧ Min.min n 6 ≤ 9223372036854775807 ∧ (ExT Nat fun x => x ≤ Min.min n 6 ∧ True ∧ (((↑x : Int) = (0 : Int) ∧ inR IntKind.i64 (↑x : Int)) ∧ tA z' c1 ∧ l'_4 = l'_4 ∧ (0 : Nat) = 0 ∧ (↑(List.length S) : Int) = (↑(List.length S) : Int) ∧ (1 : Int) = (1 : Int) ∧ tB n ∧ tD n c3 ∧ (1 : Int) = (1 : Int) ∧ l'_2 = l'_2 ∧ tB n ∧ l'_5 = l'_5 ∧ zs 32 ∧ (0 : Nat) = 0 ∧ tA z' c1 ∧ tA z' c1 ∧ (zs 32 ∧ (1 : Int) = (1 : Int) ∧ True) ∧ false = false ∧ ((0 : Nat) = 0 ∧ List.length S = List.length S ∧ c1 = c1) ∧ z1 = z1 ∧ zs 32 ∧ (zs 32 ∧ (1 : Int) = (1 : Int) ∧ True) ∧ false = false ∧ tB n ∧ (1 : Int) = (1 : Int) ∧ z' = z' ∧ (zs 32 ∧ (1 : Int) = (1 : Int) ∧ True) ∧ (↑(Min.min n 6) : Int) = (↑(Min.min n 6) : Int) ∧ tB n ∧ (1 : Int) = (1 : Int) ∧ (↑(List.length l'_2) : Int) = (↑(List.length l'_2) : Int) ∧ (zs 32 ∧ (1 : Int) = (1 : Int) ∧ True) ∧ tB n ∧ zs 32 ∧ (1 : Int) = (1 : Int) ∧ l'_1 = l'_1 ∧ l'_6 = l'_6 ∧ tA z' c1 ∧ false = false ∧ ((0 : Nat) = 0 ∧ List.length S = List.length S ∧ c1 = c1) ∧ l'_3 = l'_3 ∧ (1 : Int) = (1 : Int) ∧ zs 32 ∧ false = false ∧ True) ∧ zs 32 ∧ zs 32 ∧ l'_12 = l'_12 ∧ (Min.min n 6 = Min.min n 6 ∧ l' = l' ∧ True) ∧ zs 32 ∧ zs 32 ∧ True) ∧ (∀ (x : Nat), x ≤ Min.min n 6 →
    (decide ((↑x : Int) < (↑(Min.min n 6) : Int)) = true →
    ((0 : Int) ≤ (↑x : Int) ∧ (↑x : Int) < (↑(Min.min n 6) : Int)) ∧ 0 + Int.toNat (↑x : Int) < Min.min n 6 ∧ List.length (List.getD l' (0 + Int.toNat (↑x : Int)) []) ≤ 50000 ∧ ∀ (z2 : Int), z2 = (↑(Go.Proofs.YtnhomnaamlbnpaaDoor.Seal.tagOf [UInt8.ofNat 0, UInt8.ofNat 0, UInt8.ofNat 0, UInt8.ofNat 0, UInt8.ofNat 0, UInt8.ofNat 0, UInt8.ofNat 0, UInt8.ofNat 0, UInt8.ofNat 0, UInt8.ofNat 0, UInt8.ofNat 0, UInt8.ofNat 0, UInt8.ofNat 0, UInt8.ofNat 0, UInt8.ofNat 0, UInt8.ofNat 0, UInt8.ofNat 0, UInt8.ofNat 0, UInt8.ofNat 0, UInt8.ofNat 0, UInt8.ofNat 0, UInt8.ofNat 0, UInt8.ofNat 0, UInt8.ofNat 0, UInt8.ofNat 0, UInt8.ofNat 0, UInt8.ofNat 0, UInt8.ofNat 0, UInt8.ofNat 0, UInt8.ofNat 0, UInt8.ofNat 0, UInt8.ofNat 0] (List.getD l' (0 + Int.toNat (↑x : Int)) [])) : Int) →
    List.length (List.getD l' (0 + Int.toNat (↑x : Int)) []) ≤ 50000 ∧ ∀ (z3 : Int), z3 = (↑(Go.Proofs.YtnhomnaamlbnpaaDoor.Seal.tagOf [UInt8.ofNat 0, UInt8.ofNat 0, UInt8.ofNat 0, UInt8.ofNat 0, UInt8.ofNat 0, UInt8.ofNat 0, UInt8.ofNat 0, UInt8.ofNat 0, UInt8.ofNat 0, UInt8.ofNat 0, UInt8.ofNat 0, UInt8.ofNat 0, UInt8.ofNat 0, UInt8.ofNat 0, UInt8.ofNat 0, UInt8.ofNat 0, UInt8.ofNat 0, UInt8.ofNat 0, UInt8.ofNat 0, UInt8.ofNat 0, UInt8.ofNat 0, UInt8.ofNat 0, UInt8.ofNat 0, UInt8.ofNat 0, UInt8.ofNat 0, UInt8.ofNat 0, UInt8.ofNat 0, UInt8.ofNat 0, UInt8.ofNat 0, UInt8.ofNat 0, UInt8.ofNat 0, UInt8.ofNat 0] (List.getD l' (0 + Int.toNat (↑x : Int)) [])) : Int) →
    decide (z2 ≠ z3) = false ∧ inR IntKind.i64 ((↑x : Int) + (1 : Int)) ∧ ∀ (z4 : Int), z4 = (↑x : Int) + (1 : Int) →
    ExT Nat fun y => (Min.min n 6 - y < Min.min n 6 - x ∧ y ≤ Min.min n 6) ∧ True ∧ ((↑y : Int) = z4 ∧ tA z' c1 ∧ l'_4 = l'_4 ∧ (0 : Nat) = 0 ∧ (↑(List.length S) : Int) = (↑(List.length S) : Int) ∧ (1 : Int) = (1 : Int) ∧ tB n ∧ tD n c3 ∧ (1 : Int) = (1 : Int) ∧ l'_2 = l'_2 ∧ tB n ∧ l'_5 = l'_5 ∧ zs 32 ∧ (0 : Nat) = 0 ∧ tA z' c1 ∧ tA z' c1 ∧ (zs 32 ∧ (1 : Int) = (1 : Int) ∧ True) ∧ false = false ∧ ((0 : Nat) = 0 ∧ List.length S = List.length S ∧ c1 = c1) ∧ z1 = z1 ∧ zs 32 ∧ (zs 32 ∧ (1 : Int) = (1 : Int) ∧ True) ∧ false = false ∧ tB n ∧ (1 : Int) = (1 : Int) ∧ z' = z' ∧ (zs 32 ∧ (1 : Int) = (1 : Int) ∧ True) ∧ (↑(Min.min n 6) : Int) = (↑(Min.min n 6) : Int) ∧ tB n ∧ (1 : Int) = (1 : Int) ∧ (↑(List.length l'_2) : Int) = (↑(List.length l'_2) : Int) ∧ (zs 32 ∧ (1 : Int) = (1 : Int) ∧ True) ∧ tB n ∧ zs 32 ∧ (1 : Int) = (1 : Int) ∧ l'_1 = l'_1 ∧ l'_6 = l'_6 ∧ tA z' c1 ∧ false = false ∧ ((0 : Nat) = 0 ∧ List.length S = List.length S ∧ c1 = c1) ∧ l'_3 = l'_3 ∧ (1 : Int) = (1 : Int) ∧ zs 32 ∧ false = false ∧ True) ∧ zs 32 ∧ zs 32 ∧ l'_12 = l'_12 ∧ (Min.min n 6 = Min.min n 6 ∧ l' = l' ∧ True) ∧ zs 32 ∧ zs 32 ∧ True) ∧ (decide ((↑x : Int) < (↑(Min.min n 6) : Int)) = false →
    ExT Unit fun z => True ∧ True ∧ (tA z' c1 ∧ l'_4 = l'_4 ∧ (0 : Nat) = 0 ∧ (↑(List.length S) : Int) = (↑(List.length S) : Int) ∧ (1 : Int) = (1 : Int) ∧ tB n ∧ tD n c3 ∧ (1 : Int) = (1 : Int) ∧ l'_2 = l'_2 ∧ tB n ∧ l'_5 = l'_5 ∧ zs 32 ∧ (0 : Nat) = 0 ∧ tA z' c1 ∧ tA z' c1 ∧ (zs 32 ∧ (1 : Int) = (1 : Int) ∧ True) ∧ false = false ∧ ((0 : Nat) = 0 ∧ List.length S = List.length S ∧ c1 = c1) ∧ z1 = z1 ∧ zs 32 ∧ (zs 32 ∧ (1 : Int) = (1 : Int) ∧ True) ∧ false = false ∧ tB n ∧ (1 : Int) = (1 : Int) ∧ z' = z' ∧ (zs 32 ∧ (1 : Int) = (1 : Int) ∧ True) ∧ (↑(Min.min n 6) : Int) = (↑(Min.min n 6) : Int) ∧ tB n ∧ (1 : Int) = (1 : Int) ∧ (↑(List.length l'_2) : Int) = (↑(List.length l'_2) : Int) ∧ (zs 32 ∧ (1 : Int) = (1 : Int) ∧ True) ∧ tB n ∧ zs 32 ∧ (1 : Int) = (1 : Int) ∧ l'_1 = l'_1 ∧ l'_6 = l'_6 ∧ tA z' c1 ∧ false = false ∧ ((0 : Nat) = 0 ∧ List.length S = List.length S ∧ c1 = c1) ∧ l'_3 = l'_3 ∧ (1 : Int) = (1 : Int) ∧ zs 32 ∧ false = false ∧ True) ∧ zs 32 ∧ zs 32 ∧ l'_12 = l'_12 ∧ (Min.min n 6 = Min.min n 6 ∧ l' = l' ∧ True) ∧ zs 32 ∧ zs 32 ∧ True)) ∧ (∀ (z : Unit), True →
    true = true) ∧ True
theorem sdE_eq (S lab : List UInt8) (L : List (List UInt8)) (n c1 c3 : Nat) (ty : TypeId) : sdWI S lab L n c1 c3 ty [1, 0, 1] = sdE S lab L n c1 c3 ty := by kernel_rfl
def sdES (S lab : List UInt8) (L : List (List UInt8)) (n c1 c3 : Nat) (ty : TypeId) : Prop :=
    (List.length L = n ∧ n ≤ 9223372036854775807 ∧ ∀ (p : List UInt8), List.Mem p L →
    List.length p ≤ 9223372036854775807) ∧ ∀ (l' : List (List UInt8)), l' = fewL L n →
    List.length S ≤ 9223372036854775807 ∧ ∀ (z' : Int), z' = Min.min (↑(List.length S) : Int) (80 : Int) →
    ((0 : Int) ≤ z' ∧ 0 ≤ Int.toNat z' ∧ Int.toNat z' ≤ c1 ∧ c1 ≤ c1) ∧ ∀ (l'_1 : List UInt8), l'_1 = lab →
    ∀ (l'_2 : List UInt8), l'_2 = lab →
    List.length l'_2 ≤ 9223372036854775807 ∧ ∀ (z1 : Int), z1 = Min.min (↑(List.length l'_2) : Int) (40 : Int) →
    ((0 : Int) ≤ z1 ∧ 0 ≤ Int.toNat z1 ∧ Int.toNat z1 ≤ List.length l'_1) ∧ ∀ (l'_3 : List UInt8), l'_3 = List.take (Int.toNat z1) l'_1 →
    ∀ (l'_4 : List UInt8), l'_4 = l'_3 →
    ∀ (l'_5 : List UInt8), l'_5 = l'_4 →
    (0 + (Int.toNat z' - 0) ≤ List.length S ∧ List.length (List.take (Int.toNat z' - 0) S) ≤ 9223372036854775807) ∧ (!decide (1 ≤ List.length (List.take (Int.toNat z' - 0) S) ∧ List.length (List.take (Int.toNat z' - 0) S) ≤ 64)) = true ∧ ∀ (l'_6 : List UInt8), l'_6 = l'_4 →
    ∀ (l'_7 : List UInt8), l'_7 = l'_6 →
    ∀ (l'_8 : List UInt8), l'_8 = l'_7 →
    List.length l'_8 ≤ 9223372036854775807 ∧ decide ((65535 : Int) < (↑(List.length l'_8) : Int)) = false ∧ ∀ (l'_9 : List UInt8), l'_9 = l'_7 →
    List.length l'_9 ≤ 9223372036854775807 ∧ ((0 : Int) ≤ (↑(List.length l'_9) : Int) % (18446744073709551616 : Int) ∧ (↑(List.length l'_9) : Int) % (18446744073709551616 : Int) < (18446744073709551616 : Int) ∧ (0 : Int) ≤ (2 : Int) ∧ (2 : Int) ≤ (100 : Int)) ∧ ∀ (l'_10 : List UInt8), l'_10 = Go.Proofs.YtnhomnaamlbnpaaDoor.Pc.be 2 (Int.toNat ((↑(List.length l'_9) : Int) % (18446744073709551616 : Int))) →
    ∀ (l'_11 : List UInt8), l'_11 = l'_7 →
    (Nat.le 2 (List.length l'_10) ∧ 2 + (List.length l'_11) ≤ 65536) ∧ ∀ (l'_12 : List UInt8), l'_12 = List.take 2 l'_10 ++ l'_11 →
    (0 + (Int.toNat z' - 0) ≤ List.length S ∧ List.length (List.take (Int.toNat z' - 0) S) ≤ 9223372036854775807) ∧ (!decide (1 ≤ List.length (List.take (Int.toNat z' - 0) S) ∧ List.length (List.take (Int.toNat z' - 0) S) ≤ 64)) = true ∧ Min.min n 6 ≤ 9223372036854775807 ∧ (ExT Nat fun x => x ≤ Min.min n 6 ∧ (↑x : Int) = (0 : Int) ∧ inR IntKind.i64 (↑x : Int)) ∧ ∀ (x : Nat), x ≤ Min.min n 6 →
    (↑x : Int) < (↑(Min.min n 6) : Int) →
    ((0 : Int) ≤ (↑x : Int) ∧ (↑x : Int) < (↑(Min.min n 6) : Int)) ∧ 0 + x < Min.min n 6 ∧ List.length (List.getD l' (0 + x) []) ≤ 50000 ∧ ∀ (z' : Int), z' = (↑(Go.Proofs.YtnhomnaamlbnpaaDoor.Seal.tagOf [UInt8.ofNat 0, UInt8.ofNat 0, UInt8.ofNat 0, UInt8.ofNat 0, UInt8.ofNat 0, UInt8.ofNat 0, UInt8.ofNat 0, UInt8.ofNat 0, UInt8.ofNat 0, UInt8.ofNat 0, UInt8.ofNat 0, UInt8.ofNat 0, UInt8.ofNat 0, UInt8.ofNat 0, UInt8.ofNat 0, UInt8.ofNat 0, UInt8.ofNat 0, UInt8.ofNat 0, UInt8.ofNat 0, UInt8.ofNat 0, UInt8.ofNat 0, UInt8.ofNat 0, UInt8.ofNat 0, UInt8.ofNat 0, UInt8.ofNat 0, UInt8.ofNat 0, UInt8.ofNat 0, UInt8.ofNat 0, UInt8.ofNat 0, UInt8.ofNat 0, UInt8.ofNat 0, UInt8.ofNat 0] (List.getD l' (0 + x) [])) : Int) →
    List.length (List.getD l' (0 + x) []) ≤ 50000 ∧ ∀ (z2 : Int), z2 = (↑(Go.Proofs.YtnhomnaamlbnpaaDoor.Seal.tagOf [UInt8.ofNat 0, UInt8.ofNat 0, UInt8.ofNat 0, UInt8.ofNat 0, UInt8.ofNat 0, UInt8.ofNat 0, UInt8.ofNat 0, UInt8.ofNat 0, UInt8.ofNat 0, UInt8.ofNat 0, UInt8.ofNat 0, UInt8.ofNat 0, UInt8.ofNat 0, UInt8.ofNat 0, UInt8.ofNat 0, UInt8.ofNat 0, UInt8.ofNat 0, UInt8.ofNat 0, UInt8.ofNat 0, UInt8.ofNat 0, UInt8.ofNat 0, UInt8.ofNat 0, UInt8.ofNat 0, UInt8.ofNat 0, UInt8.ofNat 0, UInt8.ofNat 0, UInt8.ofNat 0, UInt8.ofNat 0, UInt8.ofNat 0, UInt8.ofNat 0, UInt8.ofNat 0, UInt8.ofNat 0] (List.getD l' (0 + x) [])) : Int) →
    decide (z' ≠ z2) = false ∧ inR IntKind.i64 ((↑x : Int) + (1 : Int)) ∧ ∀ (z' : Int), z' = (↑x : Int) + (1 : Int) →
    ExT Nat fun y => (Min.min n 6 - y < Min.min n 6 - x ∧ y ≤ Min.min n 6) ∧ (↑y : Int) = z'
theorem sdE_of (S lab : List UInt8) (L : List (List UInt8)) (n c1 c3 : Nat) (ty : TypeId) (hS0 : sdES S lab L n c1 c3 ty) : sdE S lab L n c1 c3 ty := by
  unfold sdES at hS0
  unfold sdE
  exact (have b168 := hS0.2; ⟨⟨rfl, hS0.1⟩, (fun x9 => have y166 := b168 x9; (fun k10 => have y165 := y166 k10; (have b164 := y165.2; ⟨y165.1, (fun x11 => have y162 := b164 x11; (fun k12 => have y161 := y162 k12; (have a159 := y161.1; have b160 := y161.2; ⟨⟨trivial, (have b18 := a159.2; ⟨a159.1, trivial, b18⟩)⟩, (fun x19 => have y158 := b160 x19; (fun k20 => have y157 := y158 k20; (fun x21 => have y156 := y157 x21; (fun k22 => have y155 := y156 k22; (have b154 := y155.2; ⟨y155.1, (fun x23 => have y152 := b154 x23; (fun k24 => have y151 := y152 k24; (have a149 := y151.1; have b150 := y151.2; ⟨(have b28 := a149.2; ⟨a149.1, trivial, b28⟩), (fun x29 => have y148 := b150 x29; (fun k30 => have y147 := y148 k30; (fun x31 => have y146 := y147 x31; (fun k32 => have y145 := y146 k32; (fun x33 => have y144 := y145 x33; (fun k34 => have y143 := y144 k34; (have b142 := y143.2; ⟨⟨y143.1, trivial⟩, (have b140 := b142.2; ⟨b142.1, (fun x37 => have y138 := b140 x37; (fun k38 => have y137 := y138 k38; (fun x39 => have y136 := y137 x39; (fun k40 => have y135 := y136 k40; (fun x41 => have y134 := y135 x41; (fun k42 => have y133 := y134 k42; (have b132 := y133.2; ⟨y133.1, (have b130 := b132.2; ⟨b132.1, (fun x43 => have y128 := b130 x43; (fun k44 => have y127 := y128 k44; (have b126 := y127.2; ⟨y127.1, (have b124 := b126.2; ⟨⟨rfl, b126.1⟩, (fun x51 => have y122 := b124 x51; (fun k52 => have y121 := y122 k52; (fun x53 => have y120 := y121 x53; (fun k54 => have y119 := y120 k54; (have a117 := y119.1; have b118 := y119.2; ⟨(have b56 := a117.2; ⟨a117.1, b56, (fun hf => nomatch hf)⟩), (fun x57 => have y116 := b118 x57; (fun k58 => have y115 := y116 k58; (have b114 := y115.2; ⟨⟨y115.1, trivial⟩, (have b112 := b114.2; ⟨b114.1, (have b110 := b112.2; ⟨b112.1, (have b108 := b110.2; ⟨(Exists.elim b110.1 fun x61 k62 => ⟨x61, (have b66 := k62.2; ⟨k62.1, trivial, ⟨b66, ⟨rfl, rfl, rfl⟩, rfl, rfl, rfl, rfl, ⟨rfl, rfl, rfl⟩, ⟨rfl, rfl, rfl⟩, rfl, rfl, ⟨rfl, rfl, rfl⟩, rfl, ⟨rfl, rfl, rfl, rfl, rfl, rfl, rfl, rfl, rfl, rfl, rfl, rfl, rfl, rfl, rfl, rfl, rfl, rfl, rfl, rfl, rfl, rfl, rfl, rfl, rfl, rfl, rfl, rfl, rfl, rfl, rfl, rfl, trivial⟩, rfl, ⟨rfl, rfl, rfl⟩, ⟨rfl, rfl, rfl⟩, ⟨⟨rfl, rfl, rfl, rfl, rfl, rfl, rfl, rfl, rfl, rfl, rfl, rfl, rfl, rfl, rfl, rfl, rfl, rfl, rfl, rfl, rfl, rfl, rfl, rfl, rfl, rfl, rfl, rfl, rfl, rfl, rfl, rfl, trivial⟩, rfl, trivial⟩, rfl, ⟨rfl, rfl, rfl⟩, rfl, ⟨rfl, rfl, rfl, rfl, rfl, rfl, rfl, rfl, rfl, rfl, rfl, rfl, rfl, rfl, rfl, rfl, rfl, rfl, rfl, rfl, rfl, rfl, rfl, rfl, rfl, rfl, rfl, rfl, rfl, rfl, rfl, rfl, trivial⟩, ⟨⟨rfl, rfl, rfl, rfl, rfl, rfl, rfl, rfl, rfl, rfl, rfl, rfl, rfl, rfl, rfl, rfl, rfl, rfl, rfl, rfl, rfl, rfl, rfl, rfl, rfl, rfl, rfl, rfl, rfl, rfl, rfl, rfl, trivial⟩, rfl, trivial⟩, rfl, ⟨rfl, rfl, rfl⟩, rfl, rfl, ⟨⟨rfl, rfl, rfl, rfl, rfl, rfl, rfl, rfl, rfl, rfl, rfl, rfl, rfl, rfl, rfl, rfl, rfl, rfl, rfl, rfl, rfl, rfl, rfl, rfl, rfl, rfl, rfl, rfl, rfl, rfl, rfl, rfl, trivial⟩, rfl, trivial⟩, rfl, ⟨rfl, rfl, rfl⟩, rfl, rfl, ⟨⟨rfl, rfl, rfl, rfl, rfl, rfl, rfl, rfl, rfl, rfl, rfl, rfl, rfl, rfl, rfl, rfl, rfl, rfl, rfl, rfl, rfl, rfl, rfl, rfl, rfl, rfl, rfl, rfl, rfl, rfl, rfl, rfl, trivial⟩, rfl, trivial⟩, ⟨rfl, rfl, rfl⟩, ⟨rfl, rfl, rfl, rfl, rfl, rfl, rfl, rfl, rfl, rfl, rfl, rfl, rfl, rfl, rfl, rfl, rfl, rfl, rfl, rfl, rfl, rfl, rfl, rfl, rfl, rfl, rfl, rfl, rfl, rfl, rfl, rfl, trivial⟩, rfl, rfl, rfl, ⟨rfl, rfl, rfl⟩, rfl, ⟨rfl, rfl, rfl⟩, rfl, rfl, ⟨rfl, rfl, rfl, rfl, rfl, rfl, rfl, rfl, rfl, rfl, rfl, rfl, rfl, rfl, rfl, rfl, rfl, rfl, rfl, rfl, rfl, rfl, rfl, rfl, rfl, rfl, rfl, rfl, rfl, rfl, rfl, rfl, trivial⟩, rfl, trivial⟩, ⟨rfl, rfl, rfl, rfl, rfl, rfl, rfl, rfl, rfl, rfl, rfl, rfl, rfl, rfl, rfl, rfl, rfl, rfl, rfl, rfl, rfl, rfl, rfl, rfl, rfl, rfl, rfl, rfl, rfl, rfl, rfl, rfl, trivial⟩, ⟨rfl, rfl, rfl, rfl, rfl, rfl, rfl, rfl, rfl, rfl, rfl, rfl, rfl, rfl, rfl, rfl, rfl, rfl, rfl, rfl, rfl, rfl, rfl, rfl, rfl, rfl, rfl, rfl, rfl, rfl, rfl, rfl, trivial⟩, rfl, ⟨rfl, rfl, trivial⟩, ⟨rfl, rfl, rfl, rfl, rfl, rfl, rfl, rfl, rfl, rfl, rfl, rfl, rfl, rfl, rfl, rfl, rfl, rfl, rfl, rfl, rfl, rfl, rfl, rfl, rfl, rfl, rfl, rfl, rfl, rfl, rfl, rfl, trivial⟩, ⟨rfl, rfl, rfl, rfl, rfl, rfl, rfl, rfl, rfl, rfl, rfl, rfl, rfl, rfl, rfl, rfl, rfl, rfl, rfl, rfl, rfl, rfl, rfl, rfl, rfl, rfl, rfl, rfl, rfl, rfl, rfl, rfl, trivial⟩, trivial⟩)⟩), (fun x67 => have y105 := b108 x67; (fun k68 => have y104 := y105 k68; ⟨(fun k69 => have y102 := y104 (of_decide_eq_true k69); (have b101 := y102.2; ⟨y102.1, (have b99 := b101.2; ⟨b101.1, (have b97 := b99.2; ⟨b99.1, (fun x72 => have y95 := b97 x72; (fun k73 => have y94 := y95 k73; (have b93 := y94.2; ⟨y94.1, (fun x74 => have y91 := b93 x74; (fun k75 => have y90 := y91 k75; (have b89 := y90.2; ⟨y90.1, (have b87 := b89.2; ⟨b89.1, (fun x76 => have y85 := b87 x76; (fun k77 => have y84 := y85 k77; (Exists.elim y84 fun x78 k79 => ⟨x78, (have b83 := k79.2; ⟨k79.1, trivial, ⟨b83, ⟨rfl, rfl, rfl⟩, rfl, rfl, rfl, rfl, ⟨rfl, rfl, rfl⟩, ⟨rfl, rfl, rfl⟩, rfl, rfl, ⟨rfl, rfl, rfl⟩, rfl, ⟨rfl, rfl, rfl, rfl, rfl, rfl, rfl, rfl, rfl, rfl, rfl, rfl, rfl, rfl, rfl, rfl, rfl, rfl, rfl, rfl, rfl, rfl, rfl, rfl, rfl, rfl, rfl, rfl, rfl, rfl, rfl, rfl, trivial⟩, rfl, ⟨rfl, rfl, rfl⟩, ⟨rfl, rfl, rfl⟩, ⟨⟨rfl, rfl, rfl, rfl, rfl, rfl, rfl, rfl, rfl, rfl, rfl, rfl, rfl, rfl, rfl, rfl, rfl, rfl, rfl, rfl, rfl, rfl, rfl, rfl, rfl, rfl, rfl, rfl, rfl, rfl, rfl, rfl, trivial⟩, rfl, trivial⟩, rfl, ⟨rfl, rfl, rfl⟩, rfl, ⟨rfl, rfl, rfl, rfl, rfl, rfl, rfl, rfl, rfl, rfl, rfl, rfl, rfl, rfl, rfl, rfl, rfl, rfl, rfl, rfl, rfl, rfl, rfl, rfl, rfl, rfl, rfl, rfl, rfl, rfl, rfl, rfl, trivial⟩, ⟨⟨rfl, rfl, rfl, rfl, rfl, rfl, rfl, rfl, rfl, rfl, rfl, rfl, rfl, rfl, rfl, rfl, rfl, rfl, rfl, rfl, rfl, rfl, rfl, rfl, rfl, rfl, rfl, rfl, rfl, rfl, rfl, rfl, trivial⟩, rfl, trivial⟩, rfl, ⟨rfl, rfl, rfl⟩, rfl, rfl, ⟨⟨rfl, rfl, rfl, rfl, rfl, rfl, rfl, rfl, rfl, rfl, rfl, rfl, rfl, rfl, rfl, rfl, rfl, rfl, rfl, rfl, rfl, rfl, rfl, rfl, rfl, rfl, rfl, rfl, rfl, rfl, rfl, rfl, trivial⟩, rfl, trivial⟩, rfl, ⟨rfl, rfl, rfl⟩, rfl, rfl, ⟨⟨rfl, rfl, rfl, rfl, rfl, rfl, rfl, rfl, rfl, rfl, rfl, rfl, rfl, rfl, rfl, rfl, rfl, rfl, rfl, rfl, rfl, rfl, rfl, rfl, rfl, rfl, rfl, rfl, rfl, rfl, rfl, rfl, trivial⟩, rfl, trivial⟩, ⟨rfl, rfl, rfl⟩, ⟨rfl, rfl, rfl, rfl, rfl, rfl, rfl, rfl, rfl, rfl, rfl, rfl, rfl, rfl, rfl, rfl, rfl, rfl, rfl, rfl, rfl, rfl, rfl, rfl, rfl, rfl, rfl, rfl, rfl, rfl, rfl, rfl, trivial⟩, rfl, rfl, rfl, ⟨rfl, rfl, rfl⟩, rfl, ⟨rfl, rfl, rfl⟩, rfl, rfl, ⟨rfl, rfl, rfl, rfl, rfl, rfl, rfl, rfl, rfl, rfl, rfl, rfl, rfl, rfl, rfl, rfl, rfl, rfl, rfl, rfl, rfl, rfl, rfl, rfl, rfl, rfl, rfl, rfl, rfl, rfl, rfl, rfl, trivial⟩, rfl, trivial⟩, ⟨rfl, rfl, rfl, rfl, rfl, rfl, rfl, rfl, rfl, rfl, rfl, rfl, rfl, rfl, rfl, rfl, rfl, rfl, rfl, rfl, rfl, rfl, rfl, rfl, rfl, rfl, rfl, rfl, rfl, rfl, rfl, rfl, trivial⟩, ⟨rfl, rfl, rfl, rfl, rfl, rfl, rfl, rfl, rfl, rfl, rfl, rfl, rfl, rfl, rfl, rfl, rfl, rfl, rfl, rfl, rfl, rfl, rfl, rfl, rfl, rfl, rfl, rfl, rfl, rfl, rfl, rfl, trivial⟩, rfl, ⟨rfl, rfl, trivial⟩, ⟨rfl, rfl, rfl, rfl, rfl, rfl, rfl, rfl, rfl, rfl, rfl, rfl, rfl, rfl, rfl, rfl, rfl, rfl, rfl, rfl, rfl, rfl, rfl, rfl, rfl, rfl, rfl, rfl, rfl, rfl, rfl, rfl, trivial⟩, ⟨rfl, rfl, rfl, rfl, rfl, rfl, rfl, rfl, rfl, rfl, rfl, rfl, rfl, rfl, rfl, rfl, rfl, rfl, rfl, rfl, rfl, rfl, rfl, rfl, rfl, rfl, rfl, rfl, rfl, rfl, rfl, rfl, trivial⟩, trivial⟩)⟩)))⟩)⟩)))⟩)))⟩)⟩)⟩)), (fun _ => ⟨(), trivial, trivial, ⟨⟨rfl, rfl, rfl⟩, rfl, rfl, rfl, rfl, ⟨rfl, rfl, rfl⟩, ⟨rfl, rfl, rfl⟩, rfl, rfl, ⟨rfl, rfl, rfl⟩, rfl, ⟨rfl, rfl, rfl, rfl, rfl, rfl, rfl, rfl, rfl, rfl, rfl, rfl, rfl, rfl, rfl, rfl, rfl, rfl, rfl, rfl, rfl, rfl, rfl, rfl, rfl, rfl, rfl, rfl, rfl, rfl, rfl, rfl, trivial⟩, rfl, ⟨rfl, rfl, rfl⟩, ⟨rfl, rfl, rfl⟩, ⟨⟨rfl, rfl, rfl, rfl, rfl, rfl, rfl, rfl, rfl, rfl, rfl, rfl, rfl, rfl, rfl, rfl, rfl, rfl, rfl, rfl, rfl, rfl, rfl, rfl, rfl, rfl, rfl, rfl, rfl, rfl, rfl, rfl, trivial⟩, rfl, trivial⟩, rfl, ⟨rfl, rfl, rfl⟩, rfl, ⟨rfl, rfl, rfl, rfl, rfl, rfl, rfl, rfl, rfl, rfl, rfl, rfl, rfl, rfl, rfl, rfl, rfl, rfl, rfl, rfl, rfl, rfl, rfl, rfl, rfl, rfl, rfl, rfl, rfl, rfl, rfl, rfl, trivial⟩, ⟨⟨rfl, rfl, rfl, rfl, rfl, rfl, rfl, rfl, rfl, rfl, rfl, rfl, rfl, rfl, rfl, rfl, rfl, rfl, rfl, rfl, rfl, rfl, rfl, rfl, rfl, rfl, rfl, rfl, rfl, rfl, rfl, rfl, trivial⟩, rfl, trivial⟩, rfl, ⟨rfl, rfl, rfl⟩, rfl, rfl, ⟨⟨rfl, rfl, rfl, rfl, rfl, rfl, rfl, rfl, rfl, rfl, rfl, rfl, rfl, rfl, rfl, rfl, rfl, rfl, rfl, rfl, rfl, rfl, rfl, rfl, rfl, rfl, rfl, rfl, rfl, rfl, rfl, rfl, trivial⟩, rfl, trivial⟩, rfl, ⟨rfl, rfl, rfl⟩, rfl, rfl, ⟨⟨rfl, rfl, rfl, rfl, rfl, rfl, rfl, rfl, rfl, rfl, rfl, rfl, rfl, rfl, rfl, rfl, rfl, rfl, rfl, rfl, rfl, rfl, rfl, rfl, rfl, rfl, rfl, rfl, rfl, rfl, rfl, rfl, trivial⟩, rfl, trivial⟩, ⟨rfl, rfl, rfl⟩, ⟨rfl, rfl, rfl, rfl, rfl, rfl, rfl, rfl, rfl, rfl, rfl, rfl, rfl, rfl, rfl, rfl, rfl, rfl, rfl, rfl, rfl, rfl, rfl, rfl, rfl, rfl, rfl, rfl, rfl, rfl, rfl, rfl, trivial⟩, rfl, rfl, rfl, ⟨rfl, rfl, rfl⟩, rfl, ⟨rfl, rfl, rfl⟩, rfl, rfl, ⟨rfl, rfl, rfl, rfl, rfl, rfl, rfl, rfl, rfl, rfl, rfl, rfl, rfl, rfl, rfl, rfl, rfl, rfl, rfl, rfl, rfl, rfl, rfl, rfl, rfl, rfl, rfl, rfl, rfl, rfl, rfl, rfl, trivial⟩, rfl, trivial⟩, ⟨rfl, rfl, rfl, rfl, rfl, rfl, rfl, rfl, rfl, rfl, rfl, rfl, rfl, rfl, rfl, rfl, rfl, rfl, rfl, rfl, rfl, rfl, rfl, rfl, rfl, rfl, rfl, rfl, rfl, rfl, rfl, rfl, trivial⟩, ⟨rfl, rfl, rfl, rfl, rfl, rfl, rfl, rfl, rfl, rfl, rfl, rfl, rfl, rfl, rfl, rfl, rfl, rfl, rfl, rfl, rfl, rfl, rfl, rfl, rfl, rfl, rfl, rfl, rfl, rfl, rfl, rfl, trivial⟩, rfl, ⟨rfl, rfl, trivial⟩, ⟨rfl, rfl, rfl, rfl, rfl, rfl, rfl, rfl, rfl, rfl, rfl, rfl, rfl, rfl, rfl, rfl, rfl, rfl, rfl, rfl, rfl, rfl, rfl, rfl, rfl, rfl, rfl, rfl, rfl, rfl, rfl, rfl, trivial⟩, ⟨rfl, rfl, rfl, rfl, rfl, rfl, rfl, rfl, rfl, rfl, rfl, rfl, rfl, rfl, rfl, rfl, rfl, rfl, rfl, rfl, rfl, rfl, rfl, rfl, rfl, rfl, rfl, rfl, rfl, rfl, rfl, rfl, trivial⟩, trivial⟩)⟩)), (fun _ => (fun _ => rfl)), trivial⟩)⟩)⟩)⟩)))⟩)))))⟩)⟩)))⟩)⟩)))))))⟩)⟩)))))))⟩)))⟩)))))⟩)))⟩)))⟩)
set_option maxHeartbeats 4000000 in
theorem sdE_ok {S lab : List UInt8} {L : List (List UInt8)} {n c1 c3 : Nat} {ty : TypeId} (hc : S.length ≤ c1) (h0 : S.length = 0 ∨ 64 < S.length) (hS : S.length ≤ 9223372036854775807) (hlab : lab.length ≤ 9223372036854775807) (hL : L.length = n) (hn : n ≤ 9223372036854775807) (hp : ∀ p ∈ L, p.length ≤ 9223372036854775807) : sdE S lab L n c1 c3 ty := by
  refine sdE_of _ _ _ _ _ _ _ ?_
  unfold sdES
  have hFm : ∀ p ∈ fewL L n, p.length ≤ 80 := fun p hp => few_mem hp
  generalize hF : fewL L n = F at *
  generalize hlb : List.take (min lab.length 40) lab = lb at *
  have hlb40 : lb.length ≤ 40 := by rw [← hlb, List.length_take]; omega
  refine ⟨⟨hL, hn, fun p h => hp p h⟩, el ⟨by omega, fun z hz => ⟨⟨by omega, by omega, by omega, Nat.le_refl _⟩, el (el ⟨hlab, fun z1 hz1 => ⟨⟨by omega, by omega, by omega⟩, ?_⟩⟩)⟩⟩⟩
  have hz40 : z1.toNat = min lab.length 40 := by omega
  rw [hz40, hlb]
  have ml : (List.take (z.toNat - 0) S).length = min S.length 80 := by rw [List.length_take]; omega
  have mk : (0 + (z.toNat - 0) ≤ S.length ∧ (List.take (z.toNat - 0) S).length ≤ 9223372036854775807) ∧ (!decide (1 ≤ (List.take (z.toNat - 0) S).length ∧ (List.take (z.toNat - 0) S).length ≤ 64)) = true :=
    ⟨⟨by omega, by omega⟩, by rw [decide_eq_false (by omega)]; rfl⟩
  refine el (el (el ⟨mk.1, mk.2, el (el (el ⟨by omega, decide_eq_false (by omega), el ⟨by omega, ⟨by omega, by omega, by omega, by omega⟩, ?_⟩⟩))⟩))
  have hmod : Int.toNat ((lb.length : Int) % (18446744073709551616 : Int)) = lb.length := by omega
  rw [hmod]
  refine el (el ⟨⟨by show 2 ≤ 2; omega, by omega⟩, fun l12 _ => ⟨mk.1, mk.2, by omega, ⟨0, Nat.zero_le _, rfl, by simp [in_i64]⟩, fun x hx h => ?_⟩⟩)
  have hg := getD_small hFm x
  rw [show 0 + x = x by omega]
  refine ⟨⟨by omega, h⟩, by omega, by omega, fun z' hz' => ⟨by omega, fun z2 hz2 => ⟨?_, by rw [in_i64]; omega, fun z3 hz3 => ⟨x + 1, ⟨by omega, by omega⟩, by omega⟩⟩⟩⟩
  rw [hz', hz2]
  exact decide_eq_false (fun h => h rfl)
theorem sdHk_ok {w0 : World} {RO : PT AObj} (ht : Tab w0) (hT : FTab w0) : HooksOk Tryd.prog w0 RO (sdHk RO) := hkAdd_ok fewH_ok (hkAdd_ok (rtagH_ok hT) (sgHooks_ok ht hT))
theorem may_dec {L : List UInt8} : decide (1 ≤ L.length ∧ L.length ≤ 64) = (decide ((1 : Int) ≤ (L.length : Int)) && decide ((L.length : Int) ≤ 64)) := by
  rw [Bool.eq_iff_iff]; simp; omega
theorem mayf_ok {L : List UInt8} {c : Nat} (h : L.length ≤ 9223372036854775807) : mayf L c := by
  unfold mayf
  rw [may_dec]
  refine ⟨h, fun h1 => ⟨h, by rw [h1]; rfl, trivial, trivial, trivial⟩, fun h1 => ⟨by rw [h1]; rfl, trivial, trivial, trivial⟩⟩
theorem mayr_ok {L : List UInt8} {c : Nat} (h : L.length ≤ 9223372036854775807) : mayr L c := mayf_ok (c := c) h
theorem mayH_ok {w0 : World} {RO : PT AObj} : Call1Ok Tryd.prog w0 RO MAYB (fun args st => got (mayH RO args st)) := by
  refine hookR_ok 5 (by decide) ⟨_, rfl, rfl, by kernel_rfl⟩ (fun xs h _ => ?_) fun xs caps w φs us h _ hf hro hus => ?_
  · obtain ⟨L, _, rfl, _, h⟩ := atoms_bytes h
    obtain rfl := atoms_nil h
    exact ⟨rfl, rfl⟩
  · obtain ⟨L, _, rfl, hL, h⟩ := atoms_bytes h
    obtain rfl := atoms_nil h
    have hl : ROlow (roB L) 1000 := rolow_of rfl
    have hF := mayf_ok (c := caps 0) hL
    rw [← mayf_eq] at hF
    exact nest_run (RO := roB L) Rs.follows Rs.named hkNone_ok hl hF hf hro hus
theorem mayR_ok {w0 : World} {RO : PT AObj} : Call1Ok Tryd.prog w0 RO RMAY (fun args st => got (mayH RO args st)) := by
  refine hookR_ok 5 (by decide) ⟨_, rfl, rfl, by kernel_rfl⟩ (fun xs h _ => ?_) fun xs caps w φs us h _ hf hro hus => ?_
  · obtain ⟨L, _, rfl, _, h⟩ := atoms_bytes h
    obtain rfl := atoms_nil h
    exact ⟨rfl, rfl⟩
  · obtain ⟨L, _, rfl, hL, h⟩ := atoms_bytes h
    obtain rfl := atoms_nil h
    have hl : ROlow (roB L) 1000 := rolow_of rfl
    have hF := mayr_ok (c := caps 0) hL
    rw [← mayr_eq] at hF
    exact nest_run (RO := roB L) Rs.follows Rs.named hkNone_ok hl hF hf hro hus
theorem sdHkI_ok {w0 : World} {RO : PT AObj} (ht : Tab w0) (hT : FTab w0) : HooksOk Tryd.prog w0 RO (sdHkI RO) :=
  hkAdd_ok mayH_ok (hkAdd_ok mayR_ok (hkAdd_ok fewH_ok (hkAdd_ok (rtagH_ok hT) (hkAdd_ok (trueH_ok ⟨_, rfl, rfl, by kernel_rfl⟩ fun w hb => wakes7 w (tabUp ht hb)) (hkAdd_ok (tagH_ok ht) (hkAdd_ok numH_ok hkNone_ok))))))
set_option maxHeartbeats 4000000 in
theorem derives_l (W : World) (v0 v1 v2 : Value) (S : List UInt8) (n : Nat) (L : List (List UInt8)) (h0 : Byts W (fun k => k < W.heap.size) v0 S) (h1 : Open.InString v1) (h2 : Ot.TabIn W v2 n [.ps L]) (hT : Tab W ∧ FTab W) :
    Calls Tryd.prog SDER #[v0, v1, v2] W fun e w' => e = .returned (.bool true) ∧ Below W.heap.size W w' := by
  obtain ⟨s, rfl, hs⟩ := h1
  obtain ⟨g1, c1, m1, hrel1, hobj1⟩ := lay_bytes h0
  obtain ⟨hl, hg, hnm, g3, c3, hc3, hrel3, hobj3⟩ := h2
  have hφ : Fresh0 (Ot.phiW W [(900, g1), (902, g3)]) 1000 W := Ot.phiW_fresh rfl
  have hro : RRel W (Ot.phiW W [(900, g1), (902, g3)]) (roD S L n TP) := by
    refine rrel_of fun x o hx => ?_
    simp only [List.mem_cons, List.not_mem_nil, or_false, Prod.mk.injEq] at hx
    rcases hx with ⟨rfl, rfl⟩ | ⟨rfl, rfl⟩
    · rcases hobj1 (Ot.phiW W [(900, g1), (902, g3)]) 5 with hb | ⟨u, e1, e2, e3⟩
      · exact .inl ⟨hb, Nat.le_refl _⟩
      · exact .inr ⟨g1.1, g1.2.1, g1.2.2, u, rfl, fun h => absurd h (by omega), e1, e2, e3⟩
    · rcases hobj3 [(900, g1), (902, g3)] TP with hb | ⟨u, e1, e2, e3⟩
      · exact .inl ⟨hb, by omega⟩
      · exact .inr ⟨g3.1, g3.2.1, g3.2.2, u, rfl, fun h => absurd h (by omega), e1, e2, e3⟩
  have r1 := hrel1 (Ot.phiW W [(900, g1), (902, g3)]) 900 rfl
  have r2 : VRel (Ot.phiW W [(900, g1), (902, g3)]) (.sstr s.data.toList) (.string s) := .sstr s
  have r3 := hrel3 [(900, g1), (902, g3)] 902 rfl
  have hcap := cap_of r1
  have hm : S.length ≤ 9223372036854775807 := by unfold maxLen at m1; omega
  have hlab : s.data.toList.length ≤ 9223372036854775807 := by rw [Array.length_toList]; show s.size ≤ _; unfold maxLen at hs; omega
  have hL : L.length = n := hl.1
  have hn : n ≤ 9223372036854775807 := by unfold maxLen at hnm; omega
  have hp : ∀ p ∈ L, p.length ≤ 9223372036854775807 := fun p hp => by
    have h4 : ∀ s ∈ L, s.length ≤ maxLen := hg (.ps L) (by simp)
    have := h4 p hp
    unfold maxLen at this; omega
  have hlow : ROlow (roD S L n TP) 1000 := rolow_of rfl
  have args : VRels (Ot.phiW W [(900, g1), (902, g3)]) [.sslice (900, 0) S.length c1 true 1, .sstr s.data.toList, .tslice 902 0 n c3 true 1] [v0, .string s, v2] := .cons _ _ _ _ r1 (.cons _ _ _ _ r2 (.cons _ _ _ _ r3 .nil))
  have go : ∀ dc, sdW S s.data.toList L n c1 c3 TP dc → Calls Tryd.prog SDER #[v0, .string s, v2] W fun e w' => e = .returned (.bool true) ∧ Below W.heap.size W w' := fun dc h => by
    refine (nest_run Rs.follows Rs.named (sdHk_ok hT.1 hT.2) hlow h hφ hro (us := [v0, .string s, v2]) args).mono fun e w' he => ?_
    obtain ⟨u, a, st', rfl, hu, ψ, k1, k2, _⟩ := he
    exact ⟨congrArg _ (isTrue_rel hu k1), k2.below⟩
  have goI : ∀ dc, sdWI S s.data.toList L n c1 c3 TP dc → Calls Tryd.prog SDER #[v0, .string s, v2] W fun e w' => e = .returned (.bool true) ∧ Below W.heap.size W w' := fun dc h => by
    refine (nest_run Rs.follows Rs.named (sdHkI_ok hT.1 hT.2) hlow h hφ hro (us := [v0, .string s, v2]) args).mono fun e w' he => ?_
    obtain ⟨u, a, st', rfl, hu, ψ, k1, k2, _⟩ := he
    exact ⟨congrArg _ (isTrue_rel hu k1), k2.below⟩
  rcases (by omega : (S.length = 0 ∨ 64 < S.length) ∨ (1 ≤ S.length ∧ S.length ≤ 64)) with k | k
  · have hF := sdE_ok (c3 := c3) (ty := TP) hcap k hm hlab hL hn hp
    rw [← sdE_eq] at hF
    exact goI _ hF
  · have hF := sdf_ok (c3 := c3) (ty := TP) hcap k.1 k.2 hlab hL hn hp
    rw [← sdf_eq] at hF
    exact go _ hF
theorem open_parts {H : Type} {enc : TypeId × Value → H} {W : World} {base : Nat} {v : Value} {d : DataW H} {p : List MemPlace} (hval : Value.okWide Tryd.prog W .any base TP v) (h : DataW.Trod enc Tryd.prog W 0 (fun _ => true) true TP v d p) : ∃ n L, Ot.TabIn W v n [.ps L] := by
  obtain ⟨a0, len, cap, rfl⟩ := okWide_slice Tryd.underlying23 hval
  obtain ⟨fuel, hf⟩ := h
  rcases open_slice1 Tryd.underlying23 (by kernel_rfl) hf with hcs | ⟨a, len', cap', m, n', V, D, Pl, hcs, hb, hl, hm, hmm, hx, hi⟩
  · have hcs := hcs.1
    simp [Value.cells] at hcs
    obtain ⟨rfl, rfl, rfl⟩ := hcs
    exact ⟨0, [], Ot.tabIn_none ⟨rfl, trivial⟩ (fun c hc => by simp at hc; subst hc; intro s hs; cases hs)⟩
  · simp [Value.cells] at hcs
    obtain ⟨rfl, rfl, rfl⟩ := hcs
    simp only [if_true] at hmm
    obtain ⟨L, hL⟩ := Ot.ps_in (W := W) (a := a) (wd := 1) (j := 0) (n := len) (ty := 22) Tryd.underlying22 Tryd.underlying5 (by kernel_rfl) fun i hi2 => by
      obtain ⟨q1, q2⟩ := hi i (by omega)
      exact ⟨_, _, _, by simpa using q1, q2⟩
    exact ⟨len, L, Ot.tab_in (cs := [.ps L]) (by simp) hl hm fun j c hj => by
      cases j with
      | zero => simp at hj; subst hj; exact hL
      | succ j => simp at hj⟩
end Go.Proofs.YtnhomnaamlbnpaaDoor.Sd
