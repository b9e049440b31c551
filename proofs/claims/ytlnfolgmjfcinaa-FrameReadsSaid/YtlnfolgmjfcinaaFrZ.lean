/- FrameReads, run. By an AI agent. -/
import Derived.Test.YtlnfolgmjfcinaaFrY
namespace Go.Proofs.Ytlnfolgmjfcinaa.Fr
open Go Go.RowKit Go.Proofs.Ytlnfolgmjfcinaa.Abs Go.Proofs.Ytlnfolgmjfcinaa.M
set_option linter.unusedVariables false
set_option linter.unusedSimpArgs false
abbrev READS : FuncId := 4
noncomputable def rdHooks (RO : PT AObj) : FuncId → Option Hook := hkAdd DEC (decH RO) (hkAdd RDEC (rdecH RO) (hkAdd TELLS trueH hkNone))
def frmC (k : IntKind) (b : Nat) (M : List UInt8) : List AVal := [.sint k (fv M 0 1), .sint .u32 (fv M 1 4), .sint .u32 (fv M 5 4), .sint .u32 (fv M 9 4), .sint .u32 (fv M 13 4), .sint .u32 (fv M 17 4), .sslice (b, 0) (dP M).length (dP M).length false 1]
def zT (M : List UInt8) : List (Nat × AVal) := [(3, .ptr (some (5002, 0))), (4, .sint .u64 (dT M)), (5, .sint .i64 (dErr M)), (6, .ptr (some (5004, 0))), (7, .sint .u64 (dT M)), (8, .sint .i64 (dErr M))]
def zO (M : List UInt8) : List (Nat × AObj) := [(5001, .sbytes (dP M) U8), (5002, .cells (frmC .i64 5001 M) 0), (5003, .sbytes (dP M) U8), (5004, .cells (frmC .u8 5003 M) 0)]
def zI (M : List UInt8) (x : Nat × List UInt8) : LS := ⟨[(0, .sslice (5000, 0) M.length M.length false 1), (9, .sint .i64 (x.1 : Int))] ++ zT M, (5000, .sbytes x.2 U8) :: zO M, 5005⟩
def zJ (M : List UInt8) (_ : Unit) : LS := ⟨zT M, zO M, 5005⟩
def zK (M : List UInt8) (x : Nat × List UInt8) : Prop := x.1 ≤ M.length ∧ x.2.length = M.length
noncomputable def zA (M : List UInt8) := loopA 5000 (zK M) (zI M) (fun _ => True) (zJ M) (tmpsN Try.prog READS) [(5000, 1000), (5001, 1001), (5002, 1002), (5003, 1003), (5004, 1004)]
noncomputable def zRound (L M : List UInt8) (i : Nat) (B : List UInt8) : Prop := execD Try.prog (roL L) (rdHooks (roL L)) 100 (roundOf Try.prog READS 0) (tmpsN Try.prog READS) ⟨none, []⟩ (zI M (i, B)).T (zI M (i, B)).S [] (fun r _ => roundK 5000 (zK M) (zI M) (fun x => M.length - x.1) [(5000, 5000), (5001, 5001), (5002, 5002), (5003, 5003), (5004, 5004)] (fun _ => True) (zJ M) [(5001, 5001), (5002, 5002), (5003, 5003), (5004, 5004)] 0 (i, B) r)
noncomputable def readsW (L M : List UInt8) (cap : Nat) : Prop := wpD Try.prog (roL L) (rdHooks (roL L)) (one1 0 (zA M)) 100 (bodyOf Try.prog READS) (tmpsN Try.prog READS) ⟨none, []⟩ (argsT [.sslice (900, 0) L.length cap true 1] 0 .leaf) ⟨.leaf, 1000, []⟩ [1, 1, 1, 1, 1, 1, 1, 1, 1, 2, 1] (fun r _ => endW Try.prog (roL L) Try.f4 r (fun v _ => isTrue v))
--forms
def zRf (L M : List UInt8) (i : Nat) (B : List UInt8) : Prop :=
    List.length M ≤ 9223372036854775807 ∧ (Decidable.decide ((↑(Prod.fst (i, B)) : Int) < (↑(List.length M) : Int)) = Bool.true →
    ((0 : Int) ≤ (↑(Prod.fst (i, B)) : Int) ∧ (↑(Prod.fst (i, B)) : Int) < (↑(List.length M) : Int)) ∧ 0 + Int.toNat (↑(Prod.fst (i, B)) : Int) * 1 < List.length (Prod.snd (i, B)) ∧ ((0 : Int) ≤ (↑(UInt8.toNat (List.getD (Prod.snd (i, B)) (0 + Int.toNat (↑(Prod.fst (i, B)) : Int) * 1) (0 : UInt8))) : Int) ∧ (0 : Int) ≤ (255 : Int)) ∧ ((0 : Int) ≤ (↑(Prod.fst (i, B)) : Int) ∧ (↑(Prod.fst (i, B)) : Int) < (↑(List.length M) : Int)) ∧ 0 + Int.toNat (↑(Prod.fst (i, B)) : Int) * 1 < List.length (Prod.snd (i, B)) ∧ ∀ (l' : List UInt8), l' = List.set (Prod.snd (i, B)) (0 + Int.toNat (↑(Prod.fst (i, B)) : Int) * 1) (UInt8.ofNat (Int.toNat (↑(Int.toNat (↑(UInt8.toNat (List.getD (Prod.snd (i, B)) (0 + Int.toNat (↑(Prod.fst (i, B)) : Int) * 1) (0 : UInt8))) : Int) ^^^ 255) : Int))) →
    Go.Proofs.Ytlnfolgmjfcinaa.Abs.inR Go.IntKind.i64 ((↑(Prod.fst (i, B)) : Int) + (1 : Int)) ∧ ∀ (z' : Int), z' = (↑(Prod.fst (i, B)) : Int) + (1 : Int) →
    ∃ y, (List.length M - Prod.fst y < List.length M - Prod.fst (i, B) ∧ Prod.fst y ≤ List.length M ∧ List.length (Prod.snd y) = List.length M) ∧ True ∧ ((0 = 0 ∧ List.length M = List.length M ∧ List.length M = List.length M) ∧ (↑(Prod.fst y) : Int) = z' ∧ 0 = 0 ∧ Go.Proofs.Ytlnfolgmjfcinaa.Fr.dT M = Go.Proofs.Ytlnfolgmjfcinaa.Fr.dT M ∧ Go.Proofs.Ytlnfolgmjfcinaa.Fr.dErr M = Go.Proofs.Ytlnfolgmjfcinaa.Fr.dErr M ∧ 0 = 0 ∧ Go.Proofs.Ytlnfolgmjfcinaa.Fr.dT M = Go.Proofs.Ytlnfolgmjfcinaa.Fr.dT M ∧ Go.Proofs.Ytlnfolgmjfcinaa.Fr.dErr M = Go.Proofs.Ytlnfolgmjfcinaa.Fr.dErr M ∧ True) ∧ Prod.snd y = l' ∧ Go.Proofs.Ytlnfolgmjfcinaa.Fr.dP M = Go.Proofs.Ytlnfolgmjfcinaa.Fr.dP M ∧ (Go.Proofs.Ytlnfolgmjfcinaa.Fr.fv M 0 1 = Go.Proofs.Ytlnfolgmjfcinaa.Fr.fv M 0 1 ∧ Go.Proofs.Ytlnfolgmjfcinaa.Fr.fv M 1 4 = Go.Proofs.Ytlnfolgmjfcinaa.Fr.fv M 1 4 ∧ Go.Proofs.Ytlnfolgmjfcinaa.Fr.fv M 5 4 = Go.Proofs.Ytlnfolgmjfcinaa.Fr.fv M 5 4 ∧ Go.Proofs.Ytlnfolgmjfcinaa.Fr.fv M 9 4 = Go.Proofs.Ytlnfolgmjfcinaa.Fr.fv M 9 4 ∧ Go.Proofs.Ytlnfolgmjfcinaa.Fr.fv M 13 4 = Go.Proofs.Ytlnfolgmjfcinaa.Fr.fv M 13 4 ∧ Go.Proofs.Ytlnfolgmjfcinaa.Fr.fv M 17 4 = Go.Proofs.Ytlnfolgmjfcinaa.Fr.fv M 17 4 ∧ (0 = 0 ∧ List.length (Go.Proofs.Ytlnfolgmjfcinaa.Fr.dP M) = List.length (Go.Proofs.Ytlnfolgmjfcinaa.Fr.dP M) ∧ List.length (Go.Proofs.Ytlnfolgmjfcinaa.Fr.dP M) = List.length (Go.Proofs.Ytlnfolgmjfcinaa.Fr.dP M)) ∧ True) ∧ Go.Proofs.Ytlnfolgmjfcinaa.Fr.dP M = Go.Proofs.Ytlnfolgmjfcinaa.Fr.dP M ∧ (Go.Proofs.Ytlnfolgmjfcinaa.Fr.fv M 0 1 = Go.Proofs.Ytlnfolgmjfcinaa.Fr.fv M 0 1 ∧ Go.Proofs.Ytlnfolgmjfcinaa.Fr.fv M 1 4 = Go.Proofs.Ytlnfolgmjfcinaa.Fr.fv M 1 4 ∧ Go.Proofs.Ytlnfolgmjfcinaa.Fr.fv M 5 4 = Go.Proofs.Ytlnfolgmjfcinaa.Fr.fv M 5 4 ∧ Go.Proofs.Ytlnfolgmjfcinaa.Fr.fv M 9 4 = Go.Proofs.Ytlnfolgmjfcinaa.Fr.fv M 9 4 ∧ Go.Proofs.Ytlnfolgmjfcinaa.Fr.fv M 13 4 = Go.Proofs.Ytlnfolgmjfcinaa.Fr.fv M 13 4 ∧ Go.Proofs.Ytlnfolgmjfcinaa.Fr.fv M 17 4 = Go.Proofs.Ytlnfolgmjfcinaa.Fr.fv M 17 4 ∧ (0 = 0 ∧ List.length (Go.Proofs.Ytlnfolgmjfcinaa.Fr.dP M) = List.length (Go.Proofs.Ytlnfolgmjfcinaa.Fr.dP M) ∧ List.length (Go.Proofs.Ytlnfolgmjfcinaa.Fr.dP M) = List.length (Go.Proofs.Ytlnfolgmjfcinaa.Fr.dP M)) ∧ True) ∧ True) ∧ (Decidable.decide ((↑(Prod.fst (i, B)) : Int) < (↑(List.length M) : Int)) = Bool.false →
    ∃ z : Unit, True ∧ True ∧ (0 = 0 ∧ Go.Proofs.Ytlnfolgmjfcinaa.Fr.dT M = Go.Proofs.Ytlnfolgmjfcinaa.Fr.dT M ∧ Go.Proofs.Ytlnfolgmjfcinaa.Fr.dErr M = Go.Proofs.Ytlnfolgmjfcinaa.Fr.dErr M ∧ 0 = 0 ∧ Go.Proofs.Ytlnfolgmjfcinaa.Fr.dT M = Go.Proofs.Ytlnfolgmjfcinaa.Fr.dT M ∧ Go.Proofs.Ytlnfolgmjfcinaa.Fr.dErr M = Go.Proofs.Ytlnfolgmjfcinaa.Fr.dErr M ∧ True) ∧ Go.Proofs.Ytlnfolgmjfcinaa.Fr.dP M = Go.Proofs.Ytlnfolgmjfcinaa.Fr.dP M ∧ (Go.Proofs.Ytlnfolgmjfcinaa.Fr.fv M 0 1 = Go.Proofs.Ytlnfolgmjfcinaa.Fr.fv M 0 1 ∧ Go.Proofs.Ytlnfolgmjfcinaa.Fr.fv M 1 4 = Go.Proofs.Ytlnfolgmjfcinaa.Fr.fv M 1 4 ∧ Go.Proofs.Ytlnfolgmjfcinaa.Fr.fv M 5 4 = Go.Proofs.Ytlnfolgmjfcinaa.Fr.fv M 5 4 ∧ Go.Proofs.Ytlnfolgmjfcinaa.Fr.fv M 9 4 = Go.Proofs.Ytlnfolgmjfcinaa.Fr.fv M 9 4 ∧ Go.Proofs.Ytlnfolgmjfcinaa.Fr.fv M 13 4 = Go.Proofs.Ytlnfolgmjfcinaa.Fr.fv M 13 4 ∧ Go.Proofs.Ytlnfolgmjfcinaa.Fr.fv M 17 4 = Go.Proofs.Ytlnfolgmjfcinaa.Fr.fv M 17 4 ∧ (0 = 0 ∧ List.length (Go.Proofs.Ytlnfolgmjfcinaa.Fr.dP M) = List.length (Go.Proofs.Ytlnfolgmjfcinaa.Fr.dP M) ∧ List.length (Go.Proofs.Ytlnfolgmjfcinaa.Fr.dP M) = List.length (Go.Proofs.Ytlnfolgmjfcinaa.Fr.dP M)) ∧ True) ∧ Go.Proofs.Ytlnfolgmjfcinaa.Fr.dP M = Go.Proofs.Ytlnfolgmjfcinaa.Fr.dP M ∧ (Go.Proofs.Ytlnfolgmjfcinaa.Fr.fv M 0 1 = Go.Proofs.Ytlnfolgmjfcinaa.Fr.fv M 0 1 ∧ Go.Proofs.Ytlnfolgmjfcinaa.Fr.fv M 1 4 = Go.Proofs.Ytlnfolgmjfcinaa.Fr.fv M 1 4 ∧ Go.Proofs.Ytlnfolgmjfcinaa.Fr.fv M 5 4 = Go.Proofs.Ytlnfolgmjfcinaa.Fr.fv M 5 4 ∧ Go.Proofs.Ytlnfolgmjfcinaa.Fr.fv M 9 4 = Go.Proofs.Ytlnfolgmjfcinaa.Fr.fv M 9 4 ∧ Go.Proofs.Ytlnfolgmjfcinaa.Fr.fv M 13 4 = Go.Proofs.Ytlnfolgmjfcinaa.Fr.fv M 13 4 ∧ Go.Proofs.Ytlnfolgmjfcinaa.Fr.fv M 17 4 = Go.Proofs.Ytlnfolgmjfcinaa.Fr.fv M 17 4 ∧ (0 = 0 ∧ List.length (Go.Proofs.Ytlnfolgmjfcinaa.Fr.dP M) = List.length (Go.Proofs.Ytlnfolgmjfcinaa.Fr.dP M) ∧ List.length (Go.Proofs.Ytlnfolgmjfcinaa.Fr.dP M) = List.length (Go.Proofs.Ytlnfolgmjfcinaa.Fr.dP M)) ∧ True) ∧ True)
theorem zRf_eq (L M : List UInt8) (i : Nat) (B : List UInt8) : zRound L M i B = zRf L M i B := by kernel_rfl
def readsf (L M : List UInt8) (cap : Nat) : Prop :=
    List.length L ≤ 9223372036854775807 ∧ ∀ (z' : Int), z' = Min.min (↑(List.length L) : Int) (700 : Int) →
    (True ∧ (0 : Int) ≤ z' ∧ True ∧ 0 ≤ Int.toNat z' ∧ Int.toNat z' ≤ cap ∧ cap ≤ cap) ∧ (0 + (Int.toNat z' - 0) ≤ List.length L ∧ Int.toNat z' ≤ 65536) ∧ ∀ (l' : List UInt8), l' = List.take (Int.toNat z' - 0) (List.drop 0 L) →
    ((0 + Int.toNat z' ≤ List.length l' ∧ List.length (List.take (Int.toNat z') (List.drop 0 l')) ≤ 9223372036854775807) ∧ True) ∧ ∀ (l'_1 : List UInt8), l'_1 = Go.Proofs.Ytlnfolgmjfcinaa.Fr.dP (Go.Proofs.Ytlnfolgmjfcinaa.Abs.Atom.lOf (Go.Proofs.Ytlnfolgmjfcinaa.Abs.Atom.l (List.take (Int.toNat z') (List.drop 0 l')))) →
    ((0 + Int.toNat z' ≤ List.length l' ∧ List.length (List.take (Int.toNat z') (List.drop 0 l')) ≤ 9223372036854775807) ∧ Nat.le (List.length (Go.Proofs.Ytlnfolgmjfcinaa.Abs.Atom.lOf (Go.Proofs.Ytlnfolgmjfcinaa.Abs.Atom.l (List.take (Int.toNat z') (List.drop 0 l'))))) 140737488355328) ∧ ∀ (l'_2 : List UInt8), l'_2 = Go.Proofs.Ytlnfolgmjfcinaa.Fr.dP (Go.Proofs.Ytlnfolgmjfcinaa.Abs.Atom.lOf (Go.Proofs.Ytlnfolgmjfcinaa.Abs.Atom.l (List.take (Int.toNat z') (List.drop 0 l')))) →
    ∃ x0, (Prod.fst x0 ≤ List.length M ∧ List.length (Prod.snd x0) = List.length M) ∧ (True ∧ ((0 = 0 ∧ List.length M = Int.toNat z' ∧ List.length M = Int.toNat z') ∧ ((↑(Prod.fst x0) : Int) = (0 : Int) ∧ Go.Proofs.Ytlnfolgmjfcinaa.Abs.inR Go.IntKind.i64 (↑(Prod.fst x0) : Int)) ∧ 0 = 0 ∧ Go.Proofs.Ytlnfolgmjfcinaa.Fr.dT M = Go.Proofs.Ytlnfolgmjfcinaa.Fr.dT (Go.Proofs.Ytlnfolgmjfcinaa.Abs.Atom.lOf (Go.Proofs.Ytlnfolgmjfcinaa.Abs.Atom.l (List.take (Int.toNat z') (List.drop 0 l')))) ∧ Go.Proofs.Ytlnfolgmjfcinaa.Fr.dErr M = Go.Proofs.Ytlnfolgmjfcinaa.Fr.dErr (Go.Proofs.Ytlnfolgmjfcinaa.Abs.Atom.lOf (Go.Proofs.Ytlnfolgmjfcinaa.Abs.Atom.l (List.take (Int.toNat z') (List.drop 0 l')))) ∧ 0 = 0 ∧ Go.Proofs.Ytlnfolgmjfcinaa.Fr.dT M = Go.Proofs.Ytlnfolgmjfcinaa.Fr.dT (Go.Proofs.Ytlnfolgmjfcinaa.Abs.Atom.lOf (Go.Proofs.Ytlnfolgmjfcinaa.Abs.Atom.l (List.take (Int.toNat z') (List.drop 0 l')))) ∧ Go.Proofs.Ytlnfolgmjfcinaa.Fr.dErr M = Go.Proofs.Ytlnfolgmjfcinaa.Fr.dErr (Go.Proofs.Ytlnfolgmjfcinaa.Abs.Atom.lOf (Go.Proofs.Ytlnfolgmjfcinaa.Abs.Atom.l (List.take (Int.toNat z') (List.drop 0 l')))) ∧ True) ∧ Prod.snd x0 = l' ∧ Go.Proofs.Ytlnfolgmjfcinaa.Fr.dP M = l'_1 ∧ (Go.Proofs.Ytlnfolgmjfcinaa.Fr.fv M 0 1 = Go.Proofs.Ytlnfolgmjfcinaa.Fr.fv (Go.Proofs.Ytlnfolgmjfcinaa.Abs.Atom.lOf (Go.Proofs.Ytlnfolgmjfcinaa.Abs.Atom.l (List.take (Int.toNat z') (List.drop 0 l')))) 0 1 ∧ Go.Proofs.Ytlnfolgmjfcinaa.Fr.fv M 1 4 = Go.Proofs.Ytlnfolgmjfcinaa.Fr.fv (Go.Proofs.Ytlnfolgmjfcinaa.Abs.Atom.lOf (Go.Proofs.Ytlnfolgmjfcinaa.Abs.Atom.l (List.take (Int.toNat z') (List.drop 0 l')))) 1 4 ∧ Go.Proofs.Ytlnfolgmjfcinaa.Fr.fv M 5 4 = Go.Proofs.Ytlnfolgmjfcinaa.Fr.fv (Go.Proofs.Ytlnfolgmjfcinaa.Abs.Atom.lOf (Go.Proofs.Ytlnfolgmjfcinaa.Abs.Atom.l (List.take (Int.toNat z') (List.drop 0 l')))) 5 4 ∧ Go.Proofs.Ytlnfolgmjfcinaa.Fr.fv M 9 4 = Go.Proofs.Ytlnfolgmjfcinaa.Fr.fv (Go.Proofs.Ytlnfolgmjfcinaa.Abs.Atom.lOf (Go.Proofs.Ytlnfolgmjfcinaa.Abs.Atom.l (List.take (Int.toNat z') (List.drop 0 l')))) 9 4 ∧ Go.Proofs.Ytlnfolgmjfcinaa.Fr.fv M 13 4 = Go.Proofs.Ytlnfolgmjfcinaa.Fr.fv (Go.Proofs.Ytlnfolgmjfcinaa.Abs.Atom.lOf (Go.Proofs.Ytlnfolgmjfcinaa.Abs.Atom.l (List.take (Int.toNat z') (List.drop 0 l')))) 13 4 ∧ Go.Proofs.Ytlnfolgmjfcinaa.Fr.fv M 17 4 = Go.Proofs.Ytlnfolgmjfcinaa.Fr.fv (Go.Proofs.Ytlnfolgmjfcinaa.Abs.Atom.lOf (Go.Proofs.Ytlnfolgmjfcinaa.Abs.Atom.l (List.take (Int.toNat z') (List.drop 0 l')))) 17 4 ∧ (0 = 0 ∧ List.length (Go.Proofs.Ytlnfolgmjfcinaa.Fr.dP M) = List.length (Go.Proofs.Ytlnfolgmjfcinaa.Fr.dP (Go.Proofs.Ytlnfolgmjfcinaa.Abs.Atom.lOf (Go.Proofs.Ytlnfolgmjfcinaa.Abs.Atom.l (List.take (Int.toNat z') (List.drop 0 l'))))) ∧ List.length (Go.Proofs.Ytlnfolgmjfcinaa.Fr.dP M) = List.length (Go.Proofs.Ytlnfolgmjfcinaa.Fr.dP (Go.Proofs.Ytlnfolgmjfcinaa.Abs.Atom.lOf (Go.Proofs.Ytlnfolgmjfcinaa.Abs.Atom.l (List.take (Int.toNat z') (List.drop 0 l')))))) ∧ True) ∧ Go.Proofs.Ytlnfolgmjfcinaa.Fr.dP M = l'_2 ∧ (Go.Proofs.Ytlnfolgmjfcinaa.Fr.fv M 0 1 = Go.Proofs.Ytlnfolgmjfcinaa.Fr.fv (Go.Proofs.Ytlnfolgmjfcinaa.Abs.Atom.lOf (Go.Proofs.Ytlnfolgmjfcinaa.Abs.Atom.l (List.take (Int.toNat z') (List.drop 0 l')))) 0 1 ∧ Go.Proofs.Ytlnfolgmjfcinaa.Fr.fv M 1 4 = Go.Proofs.Ytlnfolgmjfcinaa.Fr.fv (Go.Proofs.Ytlnfolgmjfcinaa.Abs.Atom.lOf (Go.Proofs.Ytlnfolgmjfcinaa.Abs.Atom.l (List.take (Int.toNat z') (List.drop 0 l')))) 1 4 ∧ Go.Proofs.Ytlnfolgmjfcinaa.Fr.fv M 5 4 = Go.Proofs.Ytlnfolgmjfcinaa.Fr.fv (Go.Proofs.Ytlnfolgmjfcinaa.Abs.Atom.lOf (Go.Proofs.Ytlnfolgmjfcinaa.Abs.Atom.l (List.take (Int.toNat z') (List.drop 0 l')))) 5 4 ∧ Go.Proofs.Ytlnfolgmjfcinaa.Fr.fv M 9 4 = Go.Proofs.Ytlnfolgmjfcinaa.Fr.fv (Go.Proofs.Ytlnfolgmjfcinaa.Abs.Atom.lOf (Go.Proofs.Ytlnfolgmjfcinaa.Abs.Atom.l (List.take (Int.toNat z') (List.drop 0 l')))) 9 4 ∧ Go.Proofs.Ytlnfolgmjfcinaa.Fr.fv M 13 4 = Go.Proofs.Ytlnfolgmjfcinaa.Fr.fv (Go.Proofs.Ytlnfolgmjfcinaa.Abs.Atom.lOf (Go.Proofs.Ytlnfolgmjfcinaa.Abs.Atom.l (List.take (Int.toNat z') (List.drop 0 l')))) 13 4 ∧ Go.Proofs.Ytlnfolgmjfcinaa.Fr.fv M 17 4 = Go.Proofs.Ytlnfolgmjfcinaa.Fr.fv (Go.Proofs.Ytlnfolgmjfcinaa.Abs.Atom.lOf (Go.Proofs.Ytlnfolgmjfcinaa.Abs.Atom.l (List.take (Int.toNat z') (List.drop 0 l')))) 17 4 ∧ (0 = 0 ∧ List.length (Go.Proofs.Ytlnfolgmjfcinaa.Fr.dP M) = List.length (Go.Proofs.Ytlnfolgmjfcinaa.Fr.dP (Go.Proofs.Ytlnfolgmjfcinaa.Abs.Atom.lOf (Go.Proofs.Ytlnfolgmjfcinaa.Abs.Atom.l (List.take (Int.toNat z') (List.drop 0 l'))))) ∧ List.length (Go.Proofs.Ytlnfolgmjfcinaa.Fr.dP M) = List.length (Go.Proofs.Ytlnfolgmjfcinaa.Fr.dP (Go.Proofs.Ytlnfolgmjfcinaa.Abs.Atom.lOf (Go.Proofs.Ytlnfolgmjfcinaa.Abs.Atom.l (List.take (Int.toNat z') (List.drop 0 l')))))) ∧ True) ∧ True) ∧ ∀ (z : Unit), True →
    Decidable.decide (Go.Proofs.Ytlnfolgmjfcinaa.Fr.fv M 0 1 = Go.Proofs.Ytlnfolgmjfcinaa.Fr.fv M 0 1) = Bool.true ∧ Decidable.decide (Go.Proofs.Ytlnfolgmjfcinaa.Fr.fv M 1 4 = Go.Proofs.Ytlnfolgmjfcinaa.Fr.fv M 1 4) = Bool.true ∧ Decidable.decide (Go.Proofs.Ytlnfolgmjfcinaa.Fr.fv M 5 4 = Go.Proofs.Ytlnfolgmjfcinaa.Fr.fv M 5 4) = Bool.true ∧ Decidable.decide (Go.Proofs.Ytlnfolgmjfcinaa.Fr.fv M 9 4 = Go.Proofs.Ytlnfolgmjfcinaa.Fr.fv M 9 4) = Bool.true ∧ Decidable.decide (Go.Proofs.Ytlnfolgmjfcinaa.Fr.fv M 13 4 = Go.Proofs.Ytlnfolgmjfcinaa.Fr.fv M 13 4) = Bool.true ∧ Decidable.decide (Go.Proofs.Ytlnfolgmjfcinaa.Fr.fv M 17 4 = Go.Proofs.Ytlnfolgmjfcinaa.Fr.fv M 17 4) = Bool.true ∧ 0 + List.length (Go.Proofs.Ytlnfolgmjfcinaa.Fr.dP M) ≤ List.length (Go.Proofs.Ytlnfolgmjfcinaa.Fr.dP M) ∧ ∀ (l' : List UInt8), l' = List.take (List.length (Go.Proofs.Ytlnfolgmjfcinaa.Fr.dP M)) (List.drop 0 (Go.Proofs.Ytlnfolgmjfcinaa.Fr.dP M)) →
    0 + List.length (Go.Proofs.Ytlnfolgmjfcinaa.Fr.dP M) ≤ List.length (Go.Proofs.Ytlnfolgmjfcinaa.Fr.dP M) ∧ ∀ (l'_3 : List UInt8), l'_3 = List.take (List.length (Go.Proofs.Ytlnfolgmjfcinaa.Fr.dP M)) (List.drop 0 (Go.Proofs.Ytlnfolgmjfcinaa.Fr.dP M)) →
    Decidable.decide (l' = l'_3) = Bool.true ∧ Decidable.decide (Go.Proofs.Ytlnfolgmjfcinaa.Fr.dT M = Go.Proofs.Ytlnfolgmjfcinaa.Fr.dT M) = Bool.true ∧ Decidable.decide (Go.Proofs.Ytlnfolgmjfcinaa.Fr.dErr M = Go.Proofs.Ytlnfolgmjfcinaa.Fr.dErr M) = Bool.true ∧ (Decidable.decide (Go.Proofs.Ytlnfolgmjfcinaa.Fr.dErr M = (0 : Int)) = Bool.true →
    Bool.true = Bool.true) ∧ (Decidable.decide (Go.Proofs.Ytlnfolgmjfcinaa.Fr.dErr M = (0 : Int)) = Bool.false →
    List.length (Go.Proofs.Ytlnfolgmjfcinaa.Fr.dP M) ≤ 9223372036854775807 ∧ Decidable.decide ((↑(List.length (Go.Proofs.Ytlnfolgmjfcinaa.Fr.dP M)) : Int) = (0 : Int)) = Bool.true ∧ Bool.true = Bool.true)
theorem readsf_eq (L M : List UInt8) (cap : Nat) : readsW L M cap = readsf L M cap := by kernel_rfl
theorem zRf_ok {L M : List UInt8} {i : Nat} {B : List UInt8} (hM : M.length ≤ 700) (hi : i ≤ M.length) (hB : B.length = M.length) : zRf L M i B := by
  unfold zRf
  simp only
  refine ⟨by omega, fun h => ?_, fun h => ?_⟩
  · have h := of_decide_eq_true h
    refine ⟨⟨by omega, by omega⟩, by omega, ⟨by omega, by omega⟩, ⟨by omega, by omega⟩, by omega, ?_⟩
    intro l hl
    have hll : l.length = B.length := by rw [hl, List.length_set]
    refine ⟨by rw [in_i64]; omega, ?_⟩
    intro z hz
    refine ⟨(i + 1, l), ⟨by simp only; omega, by simp only; omega, by simp only; omega⟩, ?_⟩
    simp
    omega
  · exact ⟨(), by simp⟩
theorem readsf_ok {L : List UInt8} {cap : Nat} (hL : L.length ≤ 9223372036854775807) (hc : L.length ≤ cap) : readsf L (L.take 700) cap := by
  unfold readsf
  have hMl : (L.take 700).length = min 700 L.length := List.length_take
  refine ⟨hL, ?_⟩
  intro z hz
  have e1 : List.take (z.toNat - 0) (List.drop 0 L) = L.take 700 := by
    rw [List.drop_zero]
    by_cases h : L.length ≤ 700
    · rw [List.take_of_length_le (by omega), List.take_of_length_le h]
    · rw [show z.toNat - 0 = 700 by omega]
  rw [e1]
  generalize hM : L.take 700 = M at *
  refine ⟨⟨trivial, by omega, trivial, by omega, by omega, Nat.le_refl _⟩, ⟨by omega, by omega⟩, ?_⟩
  intro l hl
  subst hl
  have e2 : List.take z.toNat (List.drop 0 l) = l := by rw [List.drop_zero, List.take_of_length_le (by omega)]
  simp only [e2, Atom.lOf]
  refine ⟨⟨⟨by omega, by omega⟩, trivial⟩, ?_⟩
  intro l1 hl1
  refine ⟨⟨⟨by omega, by omega⟩, show l.length ≤ 140737488355328 by omega⟩, ?_⟩
  intro l2 hl2
  refine ⟨(0, l), ⟨Nat.zero_le _, rfl⟩, ?_, ?_⟩
  · have hzl : l.length = z.toNat := by omega
    simp [hl1, hl2, hzl, in_i64]
  have hd : ∀ x : Int, decide (x = x) = true := fun x => decide_eq_true rfl
  have hPl : (dP l).length ≤ 700 := by
    unfold dP
    split
    · rw [List.length_take, List.length_drop]; omega
    · simp
  refine fun _ _ => ⟨by simp, by simp, by simp, by simp, by simp, by simp, by omega, ?_⟩
  intro l3 hl3
  refine ⟨by omega, ?_⟩
  intro l4 hl4
  refine ⟨by rw [hl3, hl4]; simp, by simp, by simp, fun _ => trivial, fun h => ?_⟩
  have h := of_decide_eq_false h
  have hdP : dP l = [] := if_neg h
  rw [hdP]
  simp
theorem rdHooks_ok {w0 : World} {RO : PT AObj} : HooksOk Try.prog w0 RO (rdHooks RO) := hkAdd_ok decH_ok (hkAdd_ok rdecH_ok (hkAdd_ok (trueH_ok ⟨_, rfl, rfl, by kernel_rfl⟩ fun w _ => tells_ok w) hkNone_ok))
theorem reads_law (W : World) (v0 : Value) (w0 : Open.InBytes W v0) : Calls Try.prog READS #[v0] W fun e w' => e = .returned (.bool true) ∧ Below W.heap.size W w' := by
  obtain ⟨L, hL⟩ := w0
  have hLl : L.length ≤ 9223372036854775807 := by obtain ⟨A, n, c, _, h1, _, h2, _⟩ := hL; unfold maxLen at h2; omega
  have hin : InAs W 0 [.one .bytes] [.l L] [v0] := .one _ _ _ _ _ _ _ (inB_bytes hL hLl) (.nil _)
  refine law_run (t := U8) (by decide) hin fun caps φs h hf hro hus => ?_
  have hc := cap_one hus
  have hMl : (L.take 700).length ≤ 700 := by rw [List.length_take]; omega
  have hA : AnnOk Try.prog (roL L) (one1 0 (zA (L.take 700))) W (bodyOf Try.prog READS) := annOk_one (a := .loop (roundOf Try.prog READS 0)) (by kernel_rfl)
    (loopT_ok 5000 (zK (L.take 700)) (zI (L.take 700)) (fun x => (L.take 700).length - x.1) [(5000, 5000), (5001, 5001), (5002, 5002), (5003, 5003), (5004, 5004)] (fun _ => True) (zJ (L.take 700)) [(5001, 5001), (5002, 5002), (5003, 5003), (5004, 5004)] (roL_low L) (fun x hx => (tri_execD follows named rdHooks_ok ((zRf_eq L (L.take 700) x.1 x.2).mpr (zRf_ok hMl hx.1 hx.2))).mono fun r ⟨_, hr⟩ => hr))
  exact fn_way follows named rdHooks_ok (g := READS) (fn := Try.f4) (body := bodyOf Try.prog READS) (by kernel_rfl) (by kernel_rfl) hA (RO := roL L) (f := 100) (next := 1000) (args := [.sslice (900, 0) L.length (caps 0) true 1]) (K := fun v _ => isTrue v) [1, 1, 1, 1, 1, 1, 1, 1, 1, 2, 1]
    (Eq.mp (by kernel_rfl) ((readsf_eq L (L.take 700) (caps 0)).mpr (readsf_ok hLl hc))) hf hro hus
end Go.Proofs.Ytlnfolgmjfcinaa.Fr
