/- credit: CreditRefused, run. By an AI agent. -/
import Derived.Test.YtacfalpoimjemaaCd
namespace Go.Proofs.Ytacfalpoimjemaa.Cr
open Go Go.RowKit Go.Proofs.Ytacfalpoimjemaa.Abs Go.Proofs.Ytacfalpoimjemaa.M
set_option linter.unusedVariables false
set_option linter.unusedSimpArgs false
abbrev REFUSED : FuncId := 5
noncomputable def crW (dc : Dc) (l s n t : Int) : Prop := nestW Try.prog (hp []) crHooks (crAnn [] crCalls) REFUSED [.sint .u8 l, .sint .u8 s, .sint .i64 n, .sint .u64 t] dc (fun v _ => isTrue v)
--forms
set_option maxRecDepth 100000 in
set_option maxHeartbeats 8000000 in
def crfA (l s n t : Int) : Prop :=
    inR IntKind.i64 ((1 : Int) + l) ∧ ∀ (z' : Int), z' = (1 : Int) + l →
    ((decide (z' < (1 : Int)) = true →
    ExT Unit fun z => True ∧ (False ∧ (0 : Int) = (1 : Int) ∧ True) ∧ True ∧ True ∧ False ∧ True) ∧ (decide (z' < (1 : Int)) = false →
    (decide ((8192 : Int) < z') = true →
    ExT Unit fun z => True ∧ (False ∧ (0 : Int) = (1 : Int) ∧ True) ∧ True ∧ True ∧ False ∧ True) ∧ (decide ((8192 : Int) < z') = false →
    ∀ (z1 : Int), z1 = ((0 : Int) + z' % (18446744073709551616 : Int)) % (18446744073709551616 : Int) →
    ExT Unit fun z => True ∧ ((0 : Nat) = 0 ∧ (0 : Int) = (0 : Int) ∧ True) ∧ True ∧ True ∧ (z' = z' % (18446744073709551616 : Int) ∧ ((0 : Int) = (0 : Int) ∧ inR IntKind.u64 (0 : Int)) ∧ z' = z1 ∧ True) ∧ True))) ∧ ∀ (z : Unit), True →
    ((decide (z' < (1 : Int)) = true →
    ExT Unit fun z => True ∧ (False ∧ (0 : Int) = (1 : Int) ∧ True) ∧ True ∧ True ∧ False ∧ (z' = z' ∧ (0 : Int) = (0 : Int) ∧ z' = z' ∧ True) ∧ True) ∧ (decide (z' < (1 : Int)) = false →
    (decide ((8192 : Int) < z') = true →
    ExT Unit fun z => True ∧ (False ∧ (0 : Int) = (1 : Int) ∧ True) ∧ True ∧ True ∧ False ∧ (z' = z' ∧ (0 : Int) = (0 : Int) ∧ z' = z' ∧ True) ∧ True) ∧ (decide ((8192 : Int) < z') = false →
    ∀ (z1 : Int), z1 = ((0 : Int) + z' % (18446744073709551616 : Int)) % (18446744073709551616 : Int) →
    ExT Unit fun z => True ∧ ((0 : Nat) = 0 ∧ (0 : Int) = (0 : Int) ∧ True) ∧ True ∧ True ∧ (z' = z' % (18446744073709551616 : Int) ∧ ((0 : Int) = (0 : Int) ∧ inR IntKind.u64 (0 : Int)) ∧ ((0 : Int) = (0 : Int) ∧ inR IntKind.u64 (0 : Int)) ∧ z' = z1 ∧ True) ∧ (z' = z' ∧ (0 : Int) = (0 : Int) ∧ z' = z' ∧ True) ∧ True))) ∧ ∀ (z : Unit), True →
    ∀ (z1 : Int), z1 = min s z' →
    ((decide (z' = (0 : Int)) = true →
    ExT Unit fun z => True ∧ (spE z1 (0 : Int) z' = (2 : Int) ∧ inR IntKind.i64 (spE z1 (0 : Int) z')) ∧ True ∧ True ∧ (z' = z' ∧ spN z1 (0 : Int) z' = (0 : Int) ∧ z' = z' ∧ True) ∧ (z' = z' ∧ (0 : Int) = (0 : Int) ∧ (0 : Int) = (0 : Int) ∧ z' = z' ∧ True) ∧ True) ∧ (decide (z' = (0 : Int)) = false →
    (decide (z1 < (0 : Int)) = true →
    ExT Unit fun z => True ∧ (spE z1 (0 : Int) z' = (1 : Int) ∧ inR IntKind.i64 (spE z1 (0 : Int) z')) ∧ True ∧ True ∧ (z' = z' ∧ spN z1 (0 : Int) z' = (0 : Int) ∧ z' = z' ∧ True) ∧ (z' = z' ∧ (0 : Int) = (0 : Int) ∧ (0 : Int) = (0 : Int) ∧ z' = z' ∧ True) ∧ True) ∧ (decide (z1 < (0 : Int)) = false →
    ((decide (z' = (0 : Int)) = true →
    ExT Unit fun z => True ∧ (z' - (0 : Int) = (0 : Int) ∧ inR IntKind.i64 (z' - (0 : Int))) ∧ True ∧ True ∧ (z' = z' ∧ (0 : Int) = (0 : Int) ∧ (0 : Int) = (0 : Int) ∧ z' = z' ∧ True) ∧ (z' = z' ∧ (0 : Int) = (0 : Int) ∧ z' = z' ∧ True) ∧ (z' = z' ∧ True) ∧ True) ∧ (decide (z' = (0 : Int)) = false →
    ∀ (z2 : Int), z2 = (z' - (0 : Int)) % (18446744073709551616 : Int) →
    inR IntKind.i64 z2 ∧ ExT Unit fun z => True ∧ z' - (0 : Int) = z2 ∧ True ∧ True ∧ (z' = z' ∧ (0 : Int) = (0 : Int) ∧ (0 : Int) = (0 : Int) ∧ z' = z' ∧ True) ∧ (z' = z' ∧ (0 : Int) = (0 : Int) ∧ z' = z' ∧ True) ∧ (z' = z' ∧ True) ∧ True)) ∧ ∀ (z : Unit), True →
    (decide (z' - (0 : Int) < z1) = true →
    ExT Unit fun z => True ∧ (spE z1 (0 : Int) z' = (8 : Int) ∧ inR IntKind.i64 (spE z1 (0 : Int) z')) ∧ True ∧ True ∧ (z' = z' ∧ spN z1 (0 : Int) z' = (0 : Int) ∧ z' = z' ∧ True) ∧ (z' = z' ∧ (0 : Int) = (0 : Int) ∧ (0 : Int) = (0 : Int) ∧ z' = z' ∧ True) ∧ True) ∧ (decide (z' - (0 : Int) < z1) = false →
    ∀ (z2 : Int), z2 = ((0 : Int) + z1 % (18446744073709551616 : Int)) % (18446744073709551616 : Int) →
    ExT Unit fun z => True ∧ (spE z1 (0 : Int) z' = (0 : Int) ∧ inR IntKind.i64 (spE z1 (0 : Int) z')) ∧ True ∧ True ∧ (z' = z' ∧ spN z1 (0 : Int) z' = z2 ∧ z' = z' ∧ True) ∧ (z' = z' ∧ (0 : Int) = (0 : Int) ∧ (0 : Int) = (0 : Int) ∧ z' = z' ∧ True) ∧ True)))) ∧ ∀ (z : Unit), True →
    decide (spE z1 (0 : Int) z' ≠ (0 : Int)) = false ∧ ((decide (z' = (0 : Int)) = true →
    ExT Unit fun z => True ∧ (tkE z1 (0 : Int) z' = (2 : Int) ∧ inR IntKind.i64 (tkE z1 (0 : Int) z')) ∧ True ∧ True ∧ (z' = z' ∧ tkN z1 (0 : Int) z' = (0 : Int) ∧ (0 : Int) = (0 : Int) ∧ z' = z' ∧ True) ∧ (z' = z' ∧ spN z1 (0 : Int) z' = spN z1 (0 : Int) z' ∧ z' = z' ∧ True) ∧ True) ∧ (decide (z' = (0 : Int)) = false →
    (decide (z1 < (0 : Int)) = true →
    ExT Unit fun z => True ∧ (tkE z1 (0 : Int) z' = (1 : Int) ∧ inR IntKind.i64 (tkE z1 (0 : Int) z')) ∧ True ∧ True ∧ (z' = z' ∧ tkN z1 (0 : Int) z' = (0 : Int) ∧ (0 : Int) = (0 : Int) ∧ z' = z' ∧ True) ∧ (z' = z' ∧ spN z1 (0 : Int) z' = spN z1 (0 : Int) z' ∧ z' = z' ∧ True) ∧ True) ∧ (decide (z1 < (0 : Int)) = false →
    ∀ (z2 : Int), z2 = (z' - (0 : Int)) % (18446744073709551616 : Int) →
    (decide (z2 < z1 % (18446744073709551616 : Int)) = true →
    ExT Unit fun z => True ∧ (tkE z1 (0 : Int) z' = (7 : Int) ∧ inR IntKind.i64 (tkE z1 (0 : Int) z')) ∧ True ∧ True ∧ (z' = z' ∧ tkN z1 (0 : Int) z' = (0 : Int) ∧ (0 : Int) = (0 : Int) ∧ z' = z' ∧ True) ∧ (z' = z' ∧ spN z1 (0 : Int) z' = spN z1 (0 : Int) z' ∧ z' = z' ∧ True) ∧ True) ∧ (decide (z2 < z1 % (18446744073709551616 : Int)) = false →
    ∀ (z3 : Int), z3 = ((0 : Int) + z1 % (18446744073709551616 : Int)) % (18446744073709551616 : Int) →
    ExT Unit fun z => True ∧ (tkE z1 (0 : Int) z' = (0 : Int) ∧ inR IntKind.i64 (tkE z1 (0 : Int) z')) ∧ True ∧ True ∧ (z' = z' ∧ tkN z1 (0 : Int) z' = z3 ∧ (0 : Int) = (0 : Int) ∧ z' = z' ∧ True) ∧ (z' = z' ∧ spN z1 (0 : Int) z' = spN z1 (0 : Int) z' ∧ z' = z' ∧ True) ∧ True)))) ∧ ∀ (z : Unit), True →
    decide (tkE z1 (0 : Int) z' ≠ (0 : Int)) = false ∧ ((decide (z' = (0 : Int)) = true →
    ExT Unit fun z => True ∧ (z' - spN z1 (0 : Int) z' = (0 : Int) ∧ inR IntKind.i64 (z' - spN z1 (0 : Int) z')) ∧ True ∧ True ∧ (z' = z' ∧ tkN z1 (0 : Int) z' = tkN z1 (0 : Int) z' ∧ (0 : Int) = (0 : Int) ∧ z' = z' ∧ True) ∧ (z' = z' ∧ spN z1 (0 : Int) z' = spN z1 (0 : Int) z' ∧ z' = z' ∧ True) ∧ True) ∧ (decide (z' = (0 : Int)) = false →
    ∀ (z2 : Int), z2 = (z' - spN z1 (0 : Int) z') % (18446744073709551616 : Int) →
    inR IntKind.i64 z2 ∧ ExT Unit fun z => True ∧ z' - spN z1 (0 : Int) z' = z2 ∧ True ∧ True ∧ (z' = z' ∧ tkN z1 (0 : Int) z' = tkN z1 (0 : Int) z' ∧ (0 : Int) = (0 : Int) ∧ z' = z' ∧ True) ∧ (z' = z' ∧ spN z1 (0 : Int) z' = spN z1 (0 : Int) z' ∧ z' = z' ∧ True) ∧ True)) ∧ ∀ (z : Unit), True →
    ((decide (z' = (0 : Int)) = true →
    ExT Unit fun z => True ∧ (tkN z1 (0 : Int) z' - (0 : Int) = (0 : Int) ∧ inR IntKind.i64 (tkN z1 (0 : Int) z' - (0 : Int))) ∧ True ∧ True ∧ (z' = z' ∧ tkN z1 (0 : Int) z' = tkN z1 (0 : Int) z' ∧ (0 : Int) = (0 : Int) ∧ z' = z' ∧ True) ∧ (z' = z' ∧ spN z1 (0 : Int) z' = spN z1 (0 : Int) z' ∧ z' = z' ∧ True) ∧ True) ∧ (decide (z' = (0 : Int)) = false →
    ∀ (z2 : Int), z2 = (tkN z1 (0 : Int) z' - (0 : Int)) % (18446744073709551616 : Int) →
    inR IntKind.i64 z2 ∧ ExT Unit fun z => True ∧ tkN z1 (0 : Int) z' - (0 : Int) = z2 ∧ True ∧ True ∧ (z' = z' ∧ tkN z1 (0 : Int) z' = tkN z1 (0 : Int) z' ∧ (0 : Int) = (0 : Int) ∧ z' = z' ∧ True) ∧ (z' = z' ∧ spN z1 (0 : Int) z' = spN z1 (0 : Int) z' ∧ z' = z' ∧ True) ∧ True)) ∧ ∀ (z : Unit), True →
    ((decide (z' = (0 : Int)) = true →
    ExT Unit fun z => True ∧ (spE n (spN z1 (0 : Int) z') z' = (2 : Int) ∧ inR IntKind.i64 (spE n (spN z1 (0 : Int) z') z')) ∧ True ∧ True ∧ (z' = z' ∧ spN n (spN z1 (0 : Int) z') z' = spN z1 (0 : Int) z' ∧ z' = z' ∧ True) ∧ (z' = z' ∧ tkN z1 (0 : Int) z' = tkN z1 (0 : Int) z' ∧ (0 : Int) = (0 : Int) ∧ z' = z' ∧ True) ∧ True) ∧ (decide (z' = (0 : Int)) = false →
    (decide (n < (0 : Int)) = true →
    ExT Unit fun z => True ∧ (spE n (spN z1 (0 : Int) z') z' = (1 : Int) ∧ inR IntKind.i64 (spE n (spN z1 (0 : Int) z') z')) ∧ True ∧ True ∧ (z' = z' ∧ spN n (spN z1 (0 : Int) z') z' = spN z1 (0 : Int) z' ∧ z' = z' ∧ True) ∧ (z' = z' ∧ tkN z1 (0 : Int) z' = tkN z1 (0 : Int) z' ∧ (0 : Int) = (0 : Int) ∧ z' = z' ∧ True) ∧ True) ∧ (decide (n < (0 : Int)) = false →
    ((decide (z' = (0 : Int)) = true →
    ExT Unit fun z => True ∧ (z' - spN z1 (0 : Int) z' = (0 : Int) ∧ inR IntKind.i64 (z' - spN z1 (0 : Int) z')) ∧ True ∧ True ∧ (z' = z' ∧ tkN z1 (0 : Int) z' = tkN z1 (0 : Int) z' ∧ (0 : Int) = (0 : Int) ∧ z' = z' ∧ True) ∧ (z' = z' ∧ spN z1 (0 : Int) z' = spN z1 (0 : Int) z' ∧ z' = z' ∧ True) ∧ (z' = z' ∧ True) ∧ True) ∧ (decide (z' = (0 : Int)) = false →
    ∀ (z2 : Int), z2 = (z' - spN z1 (0 : Int) z') % (18446744073709551616 : Int) →
    inR IntKind.i64 z2 ∧ ExT Unit fun z => True ∧ z' - spN z1 (0 : Int) z' = z2 ∧ True ∧ True ∧ (z' = z' ∧ tkN z1 (0 : Int) z' = tkN z1 (0 : Int) z' ∧ (0 : Int) = (0 : Int) ∧ z' = z' ∧ True) ∧ (z' = z' ∧ spN z1 (0 : Int) z' = spN z1 (0 : Int) z' ∧ z' = z' ∧ True) ∧ (z' = z' ∧ True) ∧ True)) ∧ ∀ (z : Unit), True →
    (decide (z' - spN z1 (0 : Int) z' < n) = true →
    ExT Unit fun z => True ∧ (spE n (spN z1 (0 : Int) z') z' = (8 : Int) ∧ inR IntKind.i64 (spE n (spN z1 (0 : Int) z') z')) ∧ True ∧ True ∧ (z' = z' ∧ spN n (spN z1 (0 : Int) z') z' = spN z1 (0 : Int) z' ∧ z' = z' ∧ True) ∧ (z' = z' ∧ tkN z1 (0 : Int) z' = tkN z1 (0 : Int) z' ∧ (0 : Int) = (0 : Int) ∧ z' = z' ∧ True) ∧ True) ∧ (decide (z' - spN z1 (0 : Int) z' < n) = false →
    ∀ (z2 : Int), z2 = (spN z1 (0 : Int) z' + n % (18446744073709551616 : Int)) % (18446744073709551616 : Int) →
    ExT Unit fun z => True ∧ (spE n (spN z1 (0 : Int) z') z' = (0 : Int) ∧ inR IntKind.i64 (spE n (spN z1 (0 : Int) z') z')) ∧ True ∧ True ∧ (z' = z' ∧ spN n (spN z1 (0 : Int) z') z' = z2 ∧ z' = z' ∧ True) ∧ (z' = z' ∧ tkN z1 (0 : Int) z' = tkN z1 (0 : Int) z' ∧ (0 : Int) = (0 : Int) ∧ z' = z' ∧ True) ∧ True)))) ∧ ∀ (z : Unit), True →
    ((decide (z' = (0 : Int)) = true →
    ExT Unit fun z => True ∧ (tkE n (tkN z1 (0 : Int) z') z' = (2 : Int) ∧ inR IntKind.i64 (tkE n (tkN z1 (0 : Int) z') z')) ∧ True ∧ True ∧ (z' = z' ∧ tkN n (tkN z1 (0 : Int) z') z' = tkN z1 (0 : Int) z' ∧ (0 : Int) = (0 : Int) ∧ z' = z' ∧ True) ∧ (z' = z' ∧ spN n (spN z1 (0 : Int) z') z' = spN n (spN z1 (0 : Int) z') z' ∧ z' = z' ∧ True) ∧ True) ∧ (decide (z' = (0 : Int)) = false →
    (decide (n < (0 : Int)) = true →
    ExT Unit fun z => True ∧ (tkE n (tkN z1 (0 : Int) z') z' = (1 : Int) ∧ inR IntKind.i64 (tkE n (tkN z1 (0 : Int) z') z')) ∧ True ∧ True ∧ (z' = z' ∧ tkN n (tkN z1 (0 : Int) z') z' = tkN z1 (0 : Int) z' ∧ (0 : Int) = (0 : Int) ∧ z' = z' ∧ True) ∧ (z' = z' ∧ spN n (spN z1 (0 : Int) z') z' = spN n (spN z1 (0 : Int) z') z' ∧ z' = z' ∧ True) ∧ True) ∧ (decide (n < (0 : Int)) = false →
    ∀ (z2 : Int), z2 = (z' - tkN z1 (0 : Int) z') % (18446744073709551616 : Int) →
    (decide (z2 < n % (18446744073709551616 : Int)) = true →
    ExT Unit fun z => True ∧ (tkE n (tkN z1 (0 : Int) z') z' = (7 : Int) ∧ inR IntKind.i64 (tkE n (tkN z1 (0 : Int) z') z')) ∧ True ∧ True ∧ (z' = z' ∧ tkN n (tkN z1 (0 : Int) z') z' = tkN z1 (0 : Int) z' ∧ (0 : Int) = (0 : Int) ∧ z' = z' ∧ True) ∧ (z' = z' ∧ spN n (spN z1 (0 : Int) z') z' = spN n (spN z1 (0 : Int) z') z' ∧ z' = z' ∧ True) ∧ True) ∧ (decide (z2 < n % (18446744073709551616 : Int)) = false →
    ∀ (z3 : Int), z3 = (tkN z1 (0 : Int) z' + n % (18446744073709551616 : Int)) % (18446744073709551616 : Int) →
    ExT Unit fun z => True ∧ (tkE n (tkN z1 (0 : Int) z') z' = (0 : Int) ∧ inR IntKind.i64 (tkE n (tkN z1 (0 : Int) z') z')) ∧ True ∧ True ∧ (z' = z' ∧ tkN n (tkN z1 (0 : Int) z') z' = z3 ∧ (0 : Int) = (0 : Int) ∧ z' = z' ∧ True) ∧ (z' = z' ∧ spN n (spN z1 (0 : Int) z') z' = spN n (spN z1 (0 : Int) z') z' ∧ z' = z' ∧ True) ∧ True)))) ∧ ∀ (z : Unit), True →
    decide (n < (0 : Int)) = true ∧ decide (spE n (spN z1 (0 : Int) z') z' ≠ (1 : Int)) = false ∧ decide (tkE n (tkN z1 (0 : Int) z') z' ≠ (1 : Int)) = false ∧ decide (z' - spN z1 (0 : Int) z' < n) = false ∧ decide (n < (0 : Int)) = true ∧ ((decide (z' = (0 : Int)) = true →
    ExT Unit fun z => True ∧ (z' - spN n (spN z1 (0 : Int) z') z' = (0 : Int) ∧ inR IntKind.i64 (z' - spN n (spN z1 (0 : Int) z') z')) ∧ True ∧ True ∧ (z' = z' ∧ tkN n (tkN z1 (0 : Int) z') z' = tkN n (tkN z1 (0 : Int) z') z' ∧ (0 : Int) = (0 : Int) ∧ z' = z' ∧ True) ∧ (z' = z' ∧ spN n (spN z1 (0 : Int) z') z' = spN n (spN z1 (0 : Int) z') z' ∧ z' = z' ∧ True) ∧ True) ∧ (decide (z' = (0 : Int)) = false →
    ∀ (z2 : Int), z2 = (z' - spN n (spN z1 (0 : Int) z') z') % (18446744073709551616 : Int) →
    inR IntKind.i64 z2 ∧ ExT Unit fun z => True ∧ z' - spN n (spN z1 (0 : Int) z') z' = z2 ∧ True ∧ True ∧ (z' = z' ∧ tkN n (tkN z1 (0 : Int) z') z' = tkN n (tkN z1 (0 : Int) z') z' ∧ (0 : Int) = (0 : Int) ∧ z' = z' ∧ True) ∧ (z' = z' ∧ spN n (spN z1 (0 : Int) z') z' = spN n (spN z1 (0 : Int) z') z' ∧ z' = z' ∧ True) ∧ True)) ∧ ∀ (z : Unit), True →
    decide (z' - spN n (spN z1 (0 : Int) z') z' ≠ z' - spN z1 (0 : Int) z') = false ∧ ((decide (z' = (0 : Int)) = true →
    ExT Unit fun z => True ∧ (tkN n (tkN z1 (0 : Int) z') z' - (0 : Int) = (0 : Int) ∧ inR IntKind.i64 (tkN n (tkN z1 (0 : Int) z') z' - (0 : Int))) ∧ True ∧ True ∧ (z' = z' ∧ tkN n (tkN z1 (0 : Int) z') z' = tkN n (tkN z1 (0 : Int) z') z' ∧ (0 : Int) = (0 : Int) ∧ z' = z' ∧ True) ∧ (z' = z' ∧ spN n (spN z1 (0 : Int) z') z' = spN n (spN z1 (0 : Int) z') z' ∧ z' = z' ∧ True) ∧ True) ∧ (decide (z' = (0 : Int)) = false →
    ∀ (z2 : Int), z2 = (tkN n (tkN z1 (0 : Int) z') z' - (0 : Int)) % (18446744073709551616 : Int) →
    inR IntKind.i64 z2 ∧ ExT Unit fun z => True ∧ tkN n (tkN z1 (0 : Int) z') z' - (0 : Int) = z2 ∧ True ∧ True ∧ (z' = z' ∧ tkN n (tkN z1 (0 : Int) z') z' = tkN n (tkN z1 (0 : Int) z') z' ∧ (0 : Int) = (0 : Int) ∧ z' = z' ∧ True) ∧ (z' = z' ∧ spN n (spN z1 (0 : Int) z') z' = spN n (spN z1 (0 : Int) z') z' ∧ z' = z' ∧ True) ∧ True)) ∧ ∀ (z : Unit), True →
    decide (tkN n (tkN z1 (0 : Int) z') z' - (0 : Int) ≠ tkN z1 (0 : Int) z' - (0 : Int)) = false ∧ decide ((0 : Int) ≤ n) = false ∧ ((decide (z' = (0 : Int)) = true →
    ExT Unit fun z => True ∧ (z' - spN n (spN z1 (0 : Int) z') z' = (0 : Int) ∧ inR IntKind.i64 (z' - spN n (spN z1 (0 : Int) z') z')) ∧ True ∧ True ∧ (z' = z' ∧ tkN n (tkN z1 (0 : Int) z') z' = tkN n (tkN z1 (0 : Int) z') z' ∧ (0 : Int) = (0 : Int) ∧ z' = z' ∧ True) ∧ (z' = z' ∧ spN n (spN z1 (0 : Int) z') z' = spN n (spN z1 (0 : Int) z') z' ∧ z' = z' ∧ True) ∧ True) ∧ (decide (z' = (0 : Int)) = false →
    ∀ (z2 : Int), z2 = (z' - spN n (spN z1 (0 : Int) z') z') % (18446744073709551616 : Int) →
    inR IntKind.i64 z2 ∧ ExT Unit fun z => True ∧ z' - spN n (spN z1 (0 : Int) z') z' = z2 ∧ True ∧ True ∧ (z' = z' ∧ tkN n (tkN z1 (0 : Int) z') z' = tkN n (tkN z1 (0 : Int) z') z' ∧ (0 : Int) = (0 : Int) ∧ z' = z' ∧ True) ∧ (z' = z' ∧ spN n (spN z1 (0 : Int) z') z' = spN n (spN z1 (0 : Int) z') z' ∧ z' = z' ∧ True) ∧ True)) ∧ ∀ (z : Unit), True →
    inR IntKind.i64 (z' - (z' - spN n (spN z1 (0 : Int) z') z')) ∧ ∀ (z2 : Int), z2 = z' - (z' - spN n (spN z1 (0 : Int) z') z') →
    ((decide (z' = (0 : Int)) = true →
    ExT Unit fun z => True ∧ (grE t (spN n (spN z1 (0 : Int) z') z') z' = (2 : Int) ∧ inR IntKind.i64 (grE t (spN n (spN z1 (0 : Int) z') z') z')) ∧ True ∧ True ∧ (z' = z' ∧ spN n (spN z1 (0 : Int) z') z' = spN n (spN z1 (0 : Int) z') z' ∧ grN t (spN n (spN z1 (0 : Int) z') z') z' z' = z' ∧ True) ∧ (z' = z' ∧ tkN n (tkN z1 (0 : Int) z') z' = tkN n (tkN z1 (0 : Int) z') z' ∧ (0 : Int) = (0 : Int) ∧ z' = z' ∧ True) ∧ True) ∧ (decide (z' = (0 : Int)) = false →
    ∀ (z3 : Int), z3 = (spN n (spN z1 (0 : Int) z') z' + z') % (18446744073709551616 : Int) →
    (decide (z3 < t) = true →
    ExT Unit fun z => True ∧ (grE t (spN n (spN z1 (0 : Int) z') z') z' = (24 : Int) ∧ inR IntKind.i64 (grE t (spN n (spN z1 (0 : Int) z') z') z')) ∧ True ∧ True ∧ (z' = z' ∧ spN n (spN z1 (0 : Int) z') z' = spN n (spN z1 (0 : Int) z') z' ∧ grN t (spN n (spN z1 (0 : Int) z') z') z' z' = z' ∧ True) ∧ (z' = z' ∧ tkN n (tkN z1 (0 : Int) z') z' = tkN n (tkN z1 (0 : Int) z') z' ∧ (0 : Int) = (0 : Int) ∧ z' = z' ∧ True) ∧ True) ∧ (decide (z3 < t) = false →
    ∀ (z4 : Int), z4 = max z' t →
    ExT Unit fun z => True ∧ (grE t (spN n (spN z1 (0 : Int) z') z') z' = (0 : Int) ∧ inR IntKind.i64 (grE t (spN n (spN z1 (0 : Int) z') z') z')) ∧ True ∧ True ∧ (z' = z' ∧ spN n (spN z1 (0 : Int) z') z' = spN n (spN z1 (0 : Int) z') z' ∧ grN t (spN n (spN z1 (0 : Int) z') z') z' z' = z4 ∧ True) ∧ (z' = z' ∧ tkN n (tkN z1 (0 : Int) z') z' = tkN n (tkN z1 (0 : Int) z') z' ∧ (0 : Int) = (0 : Int) ∧ z' = z' ∧ True) ∧ True))) ∧ ∀ (z : Unit), True →
    ∀ (z3 : Int), z3 = (z2 % (18446744073709551616 : Int) + z' % (18446744073709551616 : Int)) % (18446744073709551616 : Int) →
    (decide (z3 < t) = true →
    (decide (grE t (spN n (spN z1 (0 : Int) z') z') z' = (24 : Int)) = true →
    ((decide (z' = (0 : Int)) = true →
    ExT Unit fun z => True ∧ (grN t (spN n (spN z1 (0 : Int) z') z') z' z' - spN n (spN z1 (0 : Int) z') z' = (0 : Int) ∧ inR IntKind.i64 (grN t (spN n (spN z1 (0 : Int) z') z') z' z' - spN n (spN z1 (0 : Int) z') z')) ∧ True ∧ True ∧ (z' = z' ∧ tkN n (tkN z1 (0 : Int) z') z' = tkN n (tkN z1 (0 : Int) z') z' ∧ (0 : Int) = (0 : Int) ∧ z' = z' ∧ True) ∧ (z' = z' ∧ spN n (spN z1 (0 : Int) z') z' = spN n (spN z1 (0 : Int) z') z' ∧ grN t (spN n (spN z1 (0 : Int) z') z') z' z' = grN t (spN n (spN z1 (0 : Int) z') z') z' z' ∧ True) ∧ True) ∧ (decide (z' = (0 : Int)) = false →
    ∀ (z4 : Int), z4 = (grN t (spN n (spN z1 (0 : Int) z') z') z' z' - spN n (spN z1 (0 : Int) z') z') % (18446744073709551616 : Int) →
    inR IntKind.i64 z4 ∧ ExT Unit fun z => True ∧ grN t (spN n (spN z1 (0 : Int) z') z') z' z' - spN n (spN z1 (0 : Int) z') z' = z4 ∧ True ∧ True ∧ (z' = z' ∧ tkN n (tkN z1 (0 : Int) z') z' = tkN n (tkN z1 (0 : Int) z') z' ∧ (0 : Int) = (0 : Int) ∧ z' = z' ∧ True) ∧ (z' = z' ∧ spN n (spN z1 (0 : Int) z') z' = spN n (spN z1 (0 : Int) z') z' ∧ grN t (spN n (spN z1 (0 : Int) z') z') z' z' = grN t (spN n (spN z1 (0 : Int) z') z') z' z' ∧ True) ∧ True)) ∧ ∀ (z : Unit), True →
    (decide (grN t (spN n (spN z1 (0 : Int) z') z') z' z' - spN n (spN z1 (0 : Int) z') z' = z' - spN n (spN z1 (0 : Int) z') z') = true →
    true = true) ∧ (decide (grN t (spN n (spN z1 (0 : Int) z') z') z' z' - spN n (spN z1 (0 : Int) z') z' = z' - spN n (spN z1 (0 : Int) z') z') = false →
    false = true)) ∧ (decide (grE t (spN n (spN z1 (0 : Int) z') z') z' = (24 : Int)) = false →
    false = true)) ∧ (decide (z3 < t) = false →
    (decide (t ≤ z' % (18446744073709551616 : Int)) = true →
    (decide (grE t (spN n (spN z1 (0 : Int) z') z') z' = (0 : Int)) = true →
    ((decide (z' = (0 : Int)) = true →
    ExT Unit fun z => True ∧ (grN t (spN n (spN z1 (0 : Int) z') z') z' z' - spN n (spN z1 (0 : Int) z') z' = (0 : Int) ∧ inR IntKind.i64 (grN t (spN n (spN z1 (0 : Int) z') z') z' z' - spN n (spN z1 (0 : Int) z') z')) ∧ True ∧ True ∧ (z' = z' ∧ tkN n (tkN z1 (0 : Int) z') z' = tkN n (tkN z1 (0 : Int) z') z' ∧ (0 : Int) = (0 : Int) ∧ z' = z' ∧ True) ∧ (z' = z' ∧ spN n (spN z1 (0 : Int) z') z' = spN n (spN z1 (0 : Int) z') z' ∧ grN t (spN n (spN z1 (0 : Int) z') z') z' z' = grN t (spN n (spN z1 (0 : Int) z') z') z' z' ∧ True) ∧ True) ∧ (decide (z' = (0 : Int)) = false →
    ∀ (z4 : Int), z4 = (grN t (spN n (spN z1 (0 : Int) z') z') z' z' - spN n (spN z1 (0 : Int) z') z') % (18446744073709551616 : Int) →
    inR IntKind.i64 z4 ∧ ExT Unit fun z => True ∧ grN t (spN n (spN z1 (0 : Int) z') z') z' z' - spN n (spN z1 (0 : Int) z') z' = z4 ∧ True ∧ True ∧ (z' = z' ∧ tkN n (tkN z1 (0 : Int) z') z' = tkN n (tkN z1 (0 : Int) z') z' ∧ (0 : Int) = (0 : Int) ∧ z' = z' ∧ True) ∧ (z' = z' ∧ spN n (spN z1 (0 : Int) z') z' = spN n (spN z1 (0 : Int) z') z' ∧ grN t (spN n (spN z1 (0 : Int) z') z') z' z' = grN t (spN n (spN z1 (0 : Int) z') z') z' z' ∧ True) ∧ True)) ∧ ∀ (z : Unit), True →
    (decide (grN t (spN n (spN z1 (0 : Int) z') z') z' z' - spN n (spN z1 (0 : Int) z') z' = z' - spN n (spN z1 (0 : Int) z') z') = true →
    true = true) ∧ (decide (grN t (spN n (spN z1 (0 : Int) z') z') z' z' - spN n (spN z1 (0 : Int) z') z' = z' - spN n (spN z1 (0 : Int) z') z') = false →
    false = true)) ∧ (decide (grE t (spN n (spN z1 (0 : Int) z') z') z' = (0 : Int)) = false →
    false = true)) ∧ (decide (t ≤ z' % (18446744073709551616 : Int)) = false →
    (decide (grE t (spN n (spN z1 (0 : Int) z') z') z' = (0 : Int)) = true →
    ((decide (z' = (0 : Int)) = true →
    ExT Unit fun z => True ∧ (grN t (spN n (spN z1 (0 : Int) z') z') z' z' - spN n (spN z1 (0 : Int) z') z' = (0 : Int) ∧ inR IntKind.i64 (grN t (spN n (spN z1 (0 : Int) z') z') z' z' - spN n (spN z1 (0 : Int) z') z')) ∧ True ∧ True ∧ (z' = z' ∧ tkN n (tkN z1 (0 : Int) z') z' = tkN n (tkN z1 (0 : Int) z') z' ∧ (0 : Int) = (0 : Int) ∧ z' = z' ∧ True) ∧ (z' = z' ∧ spN n (spN z1 (0 : Int) z') z' = spN n (spN z1 (0 : Int) z') z' ∧ grN t (spN n (spN z1 (0 : Int) z') z') z' z' = grN t (spN n (spN z1 (0 : Int) z') z') z' z' ∧ True) ∧ True) ∧ (decide (z' = (0 : Int)) = false →
    ∀ (z4 : Int), z4 = (grN t (spN n (spN z1 (0 : Int) z') z') z' z' - spN n (spN z1 (0 : Int) z') z') % (18446744073709551616 : Int) →
    inR IntKind.i64 z4 ∧ ExT Unit fun z => True ∧ grN t (spN n (spN z1 (0 : Int) z') z') z' z' - spN n (spN z1 (0 : Int) z') z' = z4 ∧ True ∧ True ∧ (z' = z' ∧ tkN n (tkN z1 (0 : Int) z') z' = tkN n (tkN z1 (0 : Int) z') z' ∧ (0 : Int) = (0 : Int) ∧ z' = z' ∧ True) ∧ (z' = z' ∧ spN n (spN z1 (0 : Int) z') z' = spN n (spN z1 (0 : Int) z') z' ∧ grN t (spN n (spN z1 (0 : Int) z') z') z' z' = grN t (spN n (spN z1 (0 : Int) z') z') z' z' ∧ True) ∧ True)) ∧ ∀ (z : Unit), True →
    ∀ (z4 : Int), z4 = (t - z2 % (18446744073709551616 : Int)) % (18446744073709551616 : Int) →
    (decide ((grN t (spN n (spN z1 (0 : Int) z') z') z' z' - spN n (spN z1 (0 : Int) z') z') % (18446744073709551616 : Int) = z4) = true →
    true = true) ∧ (decide ((grN t (spN n (spN z1 (0 : Int) z') z') z' z' - spN n (spN z1 (0 : Int) z') z') % (18446744073709551616 : Int) = z4) = false →
    false = true)) ∧ (decide (grE t (spN n (spN z1 (0 : Int) z') z') z' = (0 : Int)) = false →
    false = true)))
set_option maxRecDepth 100000 in
set_option maxHeartbeats 8000000 in
theorem crfA_eq (l s n t : Int) : crW [0, 0, 1, 0, 0, 0, 1, 0, 0, 0] l s n t = crfA l s n t := by kernel_rfl
set_option maxRecDepth 100000 in
set_option maxHeartbeats 8000000 in
def crfAS (l s n t : Int) : Prop :=
    inR IntKind.i64 ((1 : Int) + l) ∧ ∀ (z' : Int), z' = (1 : Int) + l →
    ((z' < (1 : Int) →
    False) ∧ (¬z' < (1 : Int) →
    ((8192 : Int) < z' →
    False) ∧ (¬(8192 : Int) < z' →
    ∀ (z1 : Int), z1 = ((0 : Int) + z' % (18446744073709551616 : Int)) % (18446744073709551616 : Int) →
    z' = z' % (18446744073709551616 : Int) ∧ inR IntKind.u64 (0 : Int) ∧ z' = z1))) ∧ ((z' < (1 : Int) →
    False) ∧ (¬z' < (1 : Int) →
    ((8192 : Int) < z' →
    False) ∧ (¬(8192 : Int) < z' →
    ∀ (z1 : Int), z1 = ((0 : Int) + z' % (18446744073709551616 : Int)) % (18446744073709551616 : Int) →
    z' = z' % (18446744073709551616 : Int) ∧ inR IntKind.u64 (0 : Int) ∧ inR IntKind.u64 (0 : Int) ∧ z' = z1))) ∧ ∀ (z1 : Int), z1 = min s z' →
    ((z' = (0 : Int) →
    (spE z1 (0 : Int) z' = (2 : Int) ∧ inR IntKind.i64 (spE z1 (0 : Int) z')) ∧ spN z1 (0 : Int) z' = (0 : Int)) ∧ (¬z' = (0 : Int) →
    (z1 < (0 : Int) →
    (spE z1 (0 : Int) z' = (1 : Int) ∧ inR IntKind.i64 (spE z1 (0 : Int) z')) ∧ spN z1 (0 : Int) z' = (0 : Int)) ∧ (¬z1 < (0 : Int) →
    ((z' = (0 : Int) →
    z' - (0 : Int) = (0 : Int) ∧ inR IntKind.i64 (z' - (0 : Int))) ∧ (¬z' = (0 : Int) →
    ∀ (z2 : Int), z2 = (z' - (0 : Int)) % (18446744073709551616 : Int) →
    inR IntKind.i64 z2 ∧ z' - (0 : Int) = z2)) ∧ (z' - (0 : Int) < z1 →
    (spE z1 (0 : Int) z' = (8 : Int) ∧ inR IntKind.i64 (spE z1 (0 : Int) z')) ∧ spN z1 (0 : Int) z' = (0 : Int)) ∧ (¬z' - (0 : Int) < z1 →
    ∀ (z2 : Int), z2 = ((0 : Int) + z1 % (18446744073709551616 : Int)) % (18446744073709551616 : Int) →
    (spE z1 (0 : Int) z' = (0 : Int) ∧ inR IntKind.i64 (spE z1 (0 : Int) z')) ∧ spN z1 (0 : Int) z' = z2)))) ∧ decide (spE z1 (0 : Int) z' ≠ (0 : Int)) = false ∧ ((z' = (0 : Int) →
    (tkE z1 (0 : Int) z' = (2 : Int) ∧ inR IntKind.i64 (tkE z1 (0 : Int) z')) ∧ tkN z1 (0 : Int) z' = (0 : Int)) ∧ (¬z' = (0 : Int) →
    (z1 < (0 : Int) →
    (tkE z1 (0 : Int) z' = (1 : Int) ∧ inR IntKind.i64 (tkE z1 (0 : Int) z')) ∧ tkN z1 (0 : Int) z' = (0 : Int)) ∧ (¬z1 < (0 : Int) →
    ∀ (z2 : Int), z2 = (z' - (0 : Int)) % (18446744073709551616 : Int) →
    (z2 < z1 % (18446744073709551616 : Int) →
    (tkE z1 (0 : Int) z' = (7 : Int) ∧ inR IntKind.i64 (tkE z1 (0 : Int) z')) ∧ tkN z1 (0 : Int) z' = (0 : Int)) ∧ (¬z2 < z1 % (18446744073709551616 : Int) →
    ∀ (z3 : Int), z3 = ((0 : Int) + z1 % (18446744073709551616 : Int)) % (18446744073709551616 : Int) →
    (tkE z1 (0 : Int) z' = (0 : Int) ∧ inR IntKind.i64 (tkE z1 (0 : Int) z')) ∧ tkN z1 (0 : Int) z' = z3)))) ∧ decide (tkE z1 (0 : Int) z' ≠ (0 : Int)) = false ∧ ((z' = (0 : Int) →
    z' - spN z1 (0 : Int) z' = (0 : Int) ∧ inR IntKind.i64 (z' - spN z1 (0 : Int) z')) ∧ (¬z' = (0 : Int) →
    ∀ (z2 : Int), z2 = (z' - spN z1 (0 : Int) z') % (18446744073709551616 : Int) →
    inR IntKind.i64 z2 ∧ z' - spN z1 (0 : Int) z' = z2)) ∧ ((z' = (0 : Int) →
    tkN z1 (0 : Int) z' - (0 : Int) = (0 : Int) ∧ inR IntKind.i64 (tkN z1 (0 : Int) z' - (0 : Int))) ∧ (¬z' = (0 : Int) →
    ∀ (z2 : Int), z2 = (tkN z1 (0 : Int) z' - (0 : Int)) % (18446744073709551616 : Int) →
    inR IntKind.i64 z2 ∧ tkN z1 (0 : Int) z' - (0 : Int) = z2)) ∧ ((z' = (0 : Int) →
    (spE n (spN z1 (0 : Int) z') z' = (2 : Int) ∧ inR IntKind.i64 (spE n (spN z1 (0 : Int) z') z')) ∧ spN n (spN z1 (0 : Int) z') z' = spN z1 (0 : Int) z') ∧ (¬z' = (0 : Int) →
    (n < (0 : Int) →
    (spE n (spN z1 (0 : Int) z') z' = (1 : Int) ∧ inR IntKind.i64 (spE n (spN z1 (0 : Int) z') z')) ∧ spN n (spN z1 (0 : Int) z') z' = spN z1 (0 : Int) z') ∧ (¬n < (0 : Int) →
    ((z' = (0 : Int) →
    z' - spN z1 (0 : Int) z' = (0 : Int) ∧ inR IntKind.i64 (z' - spN z1 (0 : Int) z')) ∧ (¬z' = (0 : Int) →
    ∀ (z2 : Int), z2 = (z' - spN z1 (0 : Int) z') % (18446744073709551616 : Int) →
    inR IntKind.i64 z2 ∧ z' - spN z1 (0 : Int) z' = z2)) ∧ (z' - spN z1 (0 : Int) z' < n →
    (spE n (spN z1 (0 : Int) z') z' = (8 : Int) ∧ inR IntKind.i64 (spE n (spN z1 (0 : Int) z') z')) ∧ spN n (spN z1 (0 : Int) z') z' = spN z1 (0 : Int) z') ∧ (¬z' - spN z1 (0 : Int) z' < n →
    ∀ (z2 : Int), z2 = (spN z1 (0 : Int) z' + n % (18446744073709551616 : Int)) % (18446744073709551616 : Int) →
    (spE n (spN z1 (0 : Int) z') z' = (0 : Int) ∧ inR IntKind.i64 (spE n (spN z1 (0 : Int) z') z')) ∧ spN n (spN z1 (0 : Int) z') z' = z2)))) ∧ ((z' = (0 : Int) →
    (tkE n (tkN z1 (0 : Int) z') z' = (2 : Int) ∧ inR IntKind.i64 (tkE n (tkN z1 (0 : Int) z') z')) ∧ tkN n (tkN z1 (0 : Int) z') z' = tkN z1 (0 : Int) z') ∧ (¬z' = (0 : Int) →
    (n < (0 : Int) →
    (tkE n (tkN z1 (0 : Int) z') z' = (1 : Int) ∧ inR IntKind.i64 (tkE n (tkN z1 (0 : Int) z') z')) ∧ tkN n (tkN z1 (0 : Int) z') z' = tkN z1 (0 : Int) z') ∧ (¬n < (0 : Int) →
    ∀ (z2 : Int), z2 = (z' - tkN z1 (0 : Int) z') % (18446744073709551616 : Int) →
    (z2 < n % (18446744073709551616 : Int) →
    (tkE n (tkN z1 (0 : Int) z') z' = (7 : Int) ∧ inR IntKind.i64 (tkE n (tkN z1 (0 : Int) z') z')) ∧ tkN n (tkN z1 (0 : Int) z') z' = tkN z1 (0 : Int) z') ∧ (¬z2 < n % (18446744073709551616 : Int) →
    ∀ (z3 : Int), z3 = (tkN z1 (0 : Int) z' + n % (18446744073709551616 : Int)) % (18446744073709551616 : Int) →
    (tkE n (tkN z1 (0 : Int) z') z' = (0 : Int) ∧ inR IntKind.i64 (tkE n (tkN z1 (0 : Int) z') z')) ∧ tkN n (tkN z1 (0 : Int) z') z' = z3)))) ∧ decide (n < (0 : Int)) = true ∧ decide (spE n (spN z1 (0 : Int) z') z' ≠ (1 : Int)) = false ∧ decide (tkE n (tkN z1 (0 : Int) z') z' ≠ (1 : Int)) = false ∧ decide (z' - spN z1 (0 : Int) z' < n) = false ∧ decide (n < (0 : Int)) = true ∧ ((z' = (0 : Int) →
    z' - spN n (spN z1 (0 : Int) z') z' = (0 : Int) ∧ inR IntKind.i64 (z' - spN n (spN z1 (0 : Int) z') z')) ∧ (¬z' = (0 : Int) →
    ∀ (z2 : Int), z2 = (z' - spN n (spN z1 (0 : Int) z') z') % (18446744073709551616 : Int) →
    inR IntKind.i64 z2 ∧ z' - spN n (spN z1 (0 : Int) z') z' = z2)) ∧ decide (z' - spN n (spN z1 (0 : Int) z') z' ≠ z' - spN z1 (0 : Int) z') = false ∧ ((z' = (0 : Int) →
    tkN n (tkN z1 (0 : Int) z') z' - (0 : Int) = (0 : Int) ∧ inR IntKind.i64 (tkN n (tkN z1 (0 : Int) z') z' - (0 : Int))) ∧ (¬z' = (0 : Int) →
    ∀ (z2 : Int), z2 = (tkN n (tkN z1 (0 : Int) z') z' - (0 : Int)) % (18446744073709551616 : Int) →
    inR IntKind.i64 z2 ∧ tkN n (tkN z1 (0 : Int) z') z' - (0 : Int) = z2)) ∧ decide (tkN n (tkN z1 (0 : Int) z') z' - (0 : Int) ≠ tkN z1 (0 : Int) z' - (0 : Int)) = false ∧ decide ((0 : Int) ≤ n) = false ∧ ((z' = (0 : Int) →
    z' - spN n (spN z1 (0 : Int) z') z' = (0 : Int) ∧ inR IntKind.i64 (z' - spN n (spN z1 (0 : Int) z') z')) ∧ (¬z' = (0 : Int) →
    ∀ (z2 : Int), z2 = (z' - spN n (spN z1 (0 : Int) z') z') % (18446744073709551616 : Int) →
    inR IntKind.i64 z2 ∧ z' - spN n (spN z1 (0 : Int) z') z' = z2)) ∧ inR IntKind.i64 (z' - (z' - spN n (spN z1 (0 : Int) z') z')) ∧ ∀ (z2 : Int), z2 = z' - (z' - spN n (spN z1 (0 : Int) z') z') →
    ((z' = (0 : Int) →
    (grE t (spN n (spN z1 (0 : Int) z') z') z' = (2 : Int) ∧ inR IntKind.i64 (grE t (spN n (spN z1 (0 : Int) z') z') z')) ∧ grN t (spN n (spN z1 (0 : Int) z') z') z' z' = z') ∧ (¬z' = (0 : Int) →
    ∀ (z3 : Int), z3 = (spN n (spN z1 (0 : Int) z') z' + z') % (18446744073709551616 : Int) →
    (z3 < t →
    (grE t (spN n (spN z1 (0 : Int) z') z') z' = (24 : Int) ∧ inR IntKind.i64 (grE t (spN n (spN z1 (0 : Int) z') z') z')) ∧ grN t (spN n (spN z1 (0 : Int) z') z') z' z' = z') ∧ (¬z3 < t →
    ∀ (z4 : Int), z4 = max z' t →
    (grE t (spN n (spN z1 (0 : Int) z') z') z' = (0 : Int) ∧ inR IntKind.i64 (grE t (spN n (spN z1 (0 : Int) z') z') z')) ∧ grN t (spN n (spN z1 (0 : Int) z') z') z' z' = z4))) ∧ ∀ (z3 : Int), z3 = (z2 % (18446744073709551616 : Int) + z' % (18446744073709551616 : Int)) % (18446744073709551616 : Int) →
    (z3 < t →
    (grE t (spN n (spN z1 (0 : Int) z') z') z' = (24 : Int) →
    ((z' = (0 : Int) →
    grN t (spN n (spN z1 (0 : Int) z') z') z' z' - spN n (spN z1 (0 : Int) z') z' = (0 : Int) ∧ inR IntKind.i64 (grN t (spN n (spN z1 (0 : Int) z') z') z' z' - spN n (spN z1 (0 : Int) z') z')) ∧ (¬z' = (0 : Int) →
    ∀ (z4 : Int), z4 = (grN t (spN n (spN z1 (0 : Int) z') z') z' z' - spN n (spN z1 (0 : Int) z') z') % (18446744073709551616 : Int) →
    inR IntKind.i64 z4 ∧ grN t (spN n (spN z1 (0 : Int) z') z') z' z' - spN n (spN z1 (0 : Int) z') z' = z4)) ∧ (¬grN t (spN n (spN z1 (0 : Int) z') z') z' z' - spN n (spN z1 (0 : Int) z') z' = z' - spN n (spN z1 (0 : Int) z') z' →
    False)) ∧ (¬grE t (spN n (spN z1 (0 : Int) z') z') z' = (24 : Int) →
    False)) ∧ (¬z3 < t →
    (t ≤ z' % (18446744073709551616 : Int) →
    (grE t (spN n (spN z1 (0 : Int) z') z') z' = (0 : Int) →
    ((z' = (0 : Int) →
    grN t (spN n (spN z1 (0 : Int) z') z') z' z' - spN n (spN z1 (0 : Int) z') z' = (0 : Int) ∧ inR IntKind.i64 (grN t (spN n (spN z1 (0 : Int) z') z') z' z' - spN n (spN z1 (0 : Int) z') z')) ∧ (¬z' = (0 : Int) →
    ∀ (z4 : Int), z4 = (grN t (spN n (spN z1 (0 : Int) z') z') z' z' - spN n (spN z1 (0 : Int) z') z') % (18446744073709551616 : Int) →
    inR IntKind.i64 z4 ∧ grN t (spN n (spN z1 (0 : Int) z') z') z' z' - spN n (spN z1 (0 : Int) z') z' = z4)) ∧ (¬grN t (spN n (spN z1 (0 : Int) z') z') z' z' - spN n (spN z1 (0 : Int) z') z' = z' - spN n (spN z1 (0 : Int) z') z' →
    False)) ∧ (¬grE t (spN n (spN z1 (0 : Int) z') z') z' = (0 : Int) →
    False)) ∧ (¬t ≤ z' % (18446744073709551616 : Int) →
    (grE t (spN n (spN z1 (0 : Int) z') z') z' = (0 : Int) →
    ((z' = (0 : Int) →
    grN t (spN n (spN z1 (0 : Int) z') z') z' z' - spN n (spN z1 (0 : Int) z') z' = (0 : Int) ∧ inR IntKind.i64 (grN t (spN n (spN z1 (0 : Int) z') z') z' z' - spN n (spN z1 (0 : Int) z') z')) ∧ (¬z' = (0 : Int) →
    ∀ (z4 : Int), z4 = (grN t (spN n (spN z1 (0 : Int) z') z') z' z' - spN n (spN z1 (0 : Int) z') z') % (18446744073709551616 : Int) →
    inR IntKind.i64 z4 ∧ grN t (spN n (spN z1 (0 : Int) z') z') z' z' - spN n (spN z1 (0 : Int) z') z' = z4)) ∧ ∀ (z4 : Int), z4 = (t - z2 % (18446744073709551616 : Int)) % (18446744073709551616 : Int) →
    ¬(grN t (spN n (spN z1 (0 : Int) z') z') z' z' - spN n (spN z1 (0 : Int) z') z') % (18446744073709551616 : Int) = z4 →
    False) ∧ (¬grE t (spN n (spN z1 (0 : Int) z') z') z' = (0 : Int) →
    False)))
set_option maxRecDepth 100000 in
set_option maxHeartbeats 8000000 in
theorem crfA_of (l s n t : Int) (hS0 : crfAS l s n t) : crfA l s n t := by
  unfold crfAS at hS0
  unfold crfA
  exact (have b498 := hS0.2; ⟨hS0.1, (fun x1 => have y496 := b498 x1; (fun k2 => have y495 := y496 k2; (have a493 := y495.1; have b494 := y495.2; ⟨(have b20 := a493.2; ⟨(fun k3 => (a493.1 (of_decide_eq_true k3)).elim), (fun k4 => have y18 := b20 (of_decide_eq_false k4); (have b17 := y18.2; ⟨(fun k5 => (y18.1 (of_decide_eq_true k5)).elim), (fun k6 => have y15 := b17 (of_decide_eq_false k6); (fun x7 => have y14 := y15 x7; (fun k8 => have y13 := y14 k8; ⟨(), trivial, ⟨rfl, rfl, trivial⟩, trivial, trivial, (have b12 := y13.2; ⟨y13.1, (have b10 := b12.2; ⟨⟨rfl, b12.1⟩, b10, trivial⟩)⟩), trivial⟩)))⟩))⟩), (fun _ => (fun _ => (have a491 := b494.1; have b492 := b494.2; ⟨(have b41 := a491.2; ⟨(fun k22 => (a491.1 (of_decide_eq_true k22)).elim), (fun k23 => have y39 := b41 (of_decide_eq_false k23); (have b38 := y39.2; ⟨(fun k24 => (y39.1 (of_decide_eq_true k24)).elim), (fun k25 => have y36 := b38 (of_decide_eq_false k25); (fun x26 => have y35 := y36 x26; (fun k27 => have y34 := y35 k27; ⟨(), trivial, ⟨rfl, rfl, trivial⟩, trivial, trivial, (have b33 := y34.2; ⟨y34.1, (have b31 := b33.2; ⟨⟨rfl, b33.1⟩, (have b29 := b31.2; ⟨⟨rfl, b31.1⟩, b29, trivial⟩)⟩)⟩), ⟨rfl, rfl, rfl, trivial⟩, trivial⟩)))⟩))⟩), (fun _ => (fun _ => (fun x43 => have y490 := b492 x43; (fun k44 => have y489 := y490 k44; (have a487 := y489.1; have b488 := y489.2; ⟨(have b99 := a487.2; ⟨(fun k45 => have y50 := a487.1 (of_decide_eq_true k45); ⟨(), trivial, (have b49 := y50.2; ⟨y50.1, trivial, trivial, ⟨rfl, b49, rfl, trivial⟩, ⟨rfl, rfl, rfl, rfl, trivial⟩, trivial⟩)⟩), (fun k51 => have y97 := b99 (of_decide_eq_false k51); (have b96 := y97.2; ⟨(fun k52 => have y57 := y97.1 (of_decide_eq_true k52); ⟨(), trivial, (have b56 := y57.2; ⟨y57.1, trivial, trivial, ⟨rfl, b56, rfl, trivial⟩, ⟨rfl, rfl, rfl, rfl, trivial⟩, trivial⟩)⟩), (fun k58 => have y94 := b96 (of_decide_eq_false k58); (have a92 := y94.1; have b93 := y94.2; ⟨(have b72 := a92.2; ⟨(fun k59 => have y62 := a92.1 (of_decide_eq_true k59); ⟨(), trivial, y62, trivial, trivial, ⟨rfl, rfl, rfl, rfl, trivial⟩, ⟨rfl, rfl, rfl, trivial⟩, ⟨rfl, trivial⟩, trivial⟩), (fun k63 => have y70 := b72 (of_decide_eq_false k63); (fun x64 => have y69 := y70 x64; (fun k65 => have y68 := y69 k65; (have b67 := y68.2; ⟨y68.1, (), trivial, b67, trivial, trivial, ⟨rfl, rfl, rfl, rfl, trivial⟩, ⟨rfl, rfl, rfl, trivial⟩, ⟨rfl, trivial⟩, trivial⟩))))⟩), (fun _ => (fun _ => (have b91 := b93.2; ⟨(fun k74 => have y79 := b93.1 (of_decide_eq_true k74); ⟨(), trivial, (have b78 := y79.2; ⟨y79.1, trivial, trivial, ⟨rfl, b78, rfl, trivial⟩, ⟨rfl, rfl, rfl, rfl, trivial⟩, trivial⟩)⟩), (fun k80 => have y89 := b91 (of_decide_eq_false k80); (fun x81 => have y88 := y89 x81; (fun k82 => have y87 := y88 k82; ⟨(), trivial, (have b86 := y87.2; ⟨y87.1, trivial, trivial, ⟨rfl, b86, rfl, trivial⟩, ⟨rfl, rfl, rfl, rfl, trivial⟩, trivial⟩)⟩)))⟩)))⟩))⟩))⟩), (fun _ => (fun _ => (have b486 := b488.2; ⟨b488.1, (have a483 := b486.1; have b484 := b486.2; ⟨(have b142 := a483.2; ⟨(fun k101 => have y106 := a483.1 (of_decide_eq_true k101); ⟨(), trivial, (have b105 := y106.2; ⟨y106.1, trivial, trivial, ⟨rfl, b105, rfl, rfl, trivial⟩, ⟨rfl, rfl, rfl, trivial⟩, trivial⟩)⟩), (fun k107 => have y140 := b142 (of_decide_eq_false k107); (have b139 := y140.2; ⟨(fun k108 => have y113 := y140.1 (of_decide_eq_true k108); ⟨(), trivial, (have b112 := y113.2; ⟨y113.1, trivial, trivial, ⟨rfl, b112, rfl, rfl, trivial⟩, ⟨rfl, rfl, rfl, trivial⟩, trivial⟩)⟩), (fun k114 => have y137 := b139 (of_decide_eq_false k114); (fun x115 => have y136 := y137 x115; (fun k116 => have y135 := y136 k116; (have b134 := y135.2; ⟨(fun k117 => have y122 := y135.1 (of_decide_eq_true k117); ⟨(), trivial, (have b121 := y122.2; ⟨y122.1, trivial, trivial, ⟨rfl, b121, rfl, rfl, trivial⟩, ⟨rfl, rfl, rfl, trivial⟩, trivial⟩)⟩), (fun k123 => have y132 := b134 (of_decide_eq_false k123); (fun x124 => have y131 := y132 x124; (fun k125 => have y130 := y131 k125; ⟨(), trivial, (have b129 := y130.2; ⟨y130.1, trivial, trivial, ⟨rfl, b129, rfl, rfl, trivial⟩, ⟨rfl, rfl, rfl, trivial⟩, trivial⟩)⟩)))⟩))))⟩))⟩), (fun _ => (fun _ => (have b482 := b484.2; ⟨b484.1, (have a479 := b482.1; have b480 := b482.2; ⟨(have b157 := a479.2; ⟨(fun k144 => have y147 := a479.1 (of_decide_eq_true k144); ⟨(), trivial, y147, trivial, trivial, ⟨rfl, rfl, rfl, rfl, trivial⟩, ⟨rfl, rfl, rfl, trivial⟩, trivial⟩), (fun k148 => have y155 := b157 (of_decide_eq_false k148); (fun x149 => have y154 := y155 x149; (fun k150 => have y153 := y154 k150; (have b152 := y153.2; ⟨y153.1, (), trivial, b152, trivial, trivial, ⟨rfl, rfl, rfl, rfl, trivial⟩, ⟨rfl, rfl, rfl, trivial⟩, trivial⟩))))⟩), (fun _ => (fun _ => (have a477 := b480.1; have b478 := b480.2; ⟨(have b172 := a477.2; ⟨(fun k159 => have y162 := a477.1 (of_decide_eq_true k159); ⟨(), trivial, y162, trivial, trivial, ⟨rfl, rfl, rfl, rfl, trivial⟩, ⟨rfl, rfl, rfl, trivial⟩, trivial⟩), (fun k163 => have y170 := b172 (of_decide_eq_false k163); (fun x164 => have y169 := y170 x164; (fun k165 => have y168 := y169 k165; (have b167 := y168.2; ⟨y168.1, (), trivial, b167, trivial, trivial, ⟨rfl, rfl, rfl, rfl, trivial⟩, ⟨rfl, rfl, rfl, trivial⟩, trivial⟩))))⟩), (fun _ => (fun _ => (have a475 := b478.1; have b476 := b478.2; ⟨(have b228 := a475.2; ⟨(fun k174 => have y179 := a475.1 (of_decide_eq_true k174); ⟨(), trivial, (have b178 := y179.2; ⟨y179.1, trivial, trivial, ⟨rfl, b178, rfl, trivial⟩, ⟨rfl, rfl, rfl, rfl, trivial⟩, trivial⟩)⟩), (fun k180 => have y226 := b228 (of_decide_eq_false k180); (have b225 := y226.2; ⟨(fun k181 => have y186 := y226.1 (of_decide_eq_true k181); ⟨(), trivial, (have b185 := y186.2; ⟨y186.1, trivial, trivial, ⟨rfl, b185, rfl, trivial⟩, ⟨rfl, rfl, rfl, rfl, trivial⟩, trivial⟩)⟩), (fun k187 => have y223 := b225 (of_decide_eq_false k187); (have a221 := y223.1; have b222 := y223.2; ⟨(have b201 := a221.2; ⟨(fun k188 => have y191 := a221.1 (of_decide_eq_true k188); ⟨(), trivial, y191, trivial, trivial, ⟨rfl, rfl, rfl, rfl, trivial⟩, ⟨rfl, rfl, rfl, trivial⟩, ⟨rfl, trivial⟩, trivial⟩), (fun k192 => have y199 := b201 (of_decide_eq_false k192); (fun x193 => have y198 := y199 x193; (fun k194 => have y197 := y198 k194; (have b196 := y197.2; ⟨y197.1, (), trivial, b196, trivial, trivial, ⟨rfl, rfl, rfl, rfl, trivial⟩, ⟨rfl, rfl, rfl, trivial⟩, ⟨rfl, trivial⟩, trivial⟩))))⟩), (fun _ => (fun _ => (have b220 := b222.2; ⟨(fun k203 => have y208 := b222.1 (of_decide_eq_true k203); ⟨(), trivial, (have b207 := y208.2; ⟨y208.1, trivial, trivial, ⟨rfl, b207, rfl, trivial⟩, ⟨rfl, rfl, rfl, rfl, trivial⟩, trivial⟩)⟩), (fun k209 => have y218 := b220 (of_decide_eq_false k209); (fun x210 => have y217 := y218 x210; (fun k211 => have y216 := y217 k211; ⟨(), trivial, (have b215 := y216.2; ⟨y216.1, trivial, trivial, ⟨rfl, b215, rfl, trivial⟩, ⟨rfl, rfl, rfl, rfl, trivial⟩, trivial⟩)⟩)))⟩)))⟩))⟩))⟩), (fun _ => (fun _ => (have a473 := b476.1; have b474 := b476.2; ⟨(have b271 := a473.2; ⟨(fun k230 => have y235 := a473.1 (of_decide_eq_true k230); ⟨(), trivial, (have b234 := y235.2; ⟨y235.1, trivial, trivial, ⟨rfl, b234, rfl, rfl, trivial⟩, ⟨rfl, rfl, rfl, trivial⟩, trivial⟩)⟩), (fun k236 => have y269 := b271 (of_decide_eq_false k236); (have b268 := y269.2; ⟨(fun k237 => have y242 := y269.1 (of_decide_eq_true k237); ⟨(), trivial, (have b241 := y242.2; ⟨y242.1, trivial, trivial, ⟨rfl, b241, rfl, rfl, trivial⟩, ⟨rfl, rfl, rfl, trivial⟩, trivial⟩)⟩), (fun k243 => have y266 := b268 (of_decide_eq_false k243); (fun x244 => have y265 := y266 x244; (fun k245 => have y264 := y265 k245; (have b263 := y264.2; ⟨(fun k246 => have y251 := y264.1 (of_decide_eq_true k246); ⟨(), trivial, (have b250 := y251.2; ⟨y251.1, trivial, trivial, ⟨rfl, b250, rfl, rfl, trivial⟩, ⟨rfl, rfl, rfl, trivial⟩, trivial⟩)⟩), (fun k252 => have y261 := b263 (of_decide_eq_false k252); (fun x253 => have y260 := y261 x253; (fun k254 => have y259 := y260 k254; ⟨(), trivial, (have b258 := y259.2; ⟨y259.1, trivial, trivial, ⟨rfl, b258, rfl, rfl, trivial⟩, ⟨rfl, rfl, rfl, trivial⟩, trivial⟩)⟩)))⟩))))⟩))⟩), (fun _ => (fun _ => (have b472 := b474.2; ⟨b474.1, (have b470 := b472.2; ⟨b472.1, (have b468 := b470.2; ⟨b470.1, (have b466 := b468.2; ⟨b468.1, (have b464 := b466.2; ⟨b466.1, (have a461 := b464.1; have b462 := b464.2; ⟨(have b286 := a461.2; ⟨(fun k273 => have y276 := a461.1 (of_decide_eq_true k273); ⟨(), trivial, y276, trivial, trivial, ⟨rfl, rfl, rfl, rfl, trivial⟩, ⟨rfl, rfl, rfl, trivial⟩, trivial⟩), (fun k277 => have y284 := b286 (of_decide_eq_false k277); (fun x278 => have y283 := y284 x278; (fun k279 => have y282 := y283 k279; (have b281 := y282.2; ⟨y282.1, (), trivial, b281, trivial, trivial, ⟨rfl, rfl, rfl, rfl, trivial⟩, ⟨rfl, rfl, rfl, trivial⟩, trivial⟩))))⟩), (fun _ => (fun _ => (have b460 := b462.2; ⟨b462.1, (have a457 := b460.1; have b458 := b460.2; ⟨(have b301 := a457.2; ⟨(fun k288 => have y291 := a457.1 (of_decide_eq_true k288); ⟨(), trivial, y291, trivial, trivial, ⟨rfl, rfl, rfl, rfl, trivial⟩, ⟨rfl, rfl, rfl, trivial⟩, trivial⟩), (fun k292 => have y299 := b301 (of_decide_eq_false k292); (fun x293 => have y298 := y299 x293; (fun k294 => have y297 := y298 k294; (have b296 := y297.2; ⟨y297.1, (), trivial, b296, trivial, trivial, ⟨rfl, rfl, rfl, rfl, trivial⟩, ⟨rfl, rfl, rfl, trivial⟩, trivial⟩))))⟩), (fun _ => (fun _ => (have b456 := b458.2; ⟨b458.1, (have b454 := b456.2; ⟨b456.1, (have a451 := b454.1; have b452 := b454.2; ⟨(have b316 := a451.2; ⟨(fun k303 => have y306 := a451.1 (of_decide_eq_true k303); ⟨(), trivial, y306, trivial, trivial, ⟨rfl, rfl, rfl, rfl, trivial⟩, ⟨rfl, rfl, rfl, trivial⟩, trivial⟩), (fun k307 => have y314 := b316 (of_decide_eq_false k307); (fun x308 => have y313 := y314 x308; (fun k309 => have y312 := y313 k309; (have b311 := y312.2; ⟨y312.1, (), trivial, b311, trivial, trivial, ⟨rfl, rfl, rfl, rfl, trivial⟩, ⟨rfl, rfl, rfl, trivial⟩, trivial⟩))))⟩), (fun _ => (fun _ => (have b450 := b452.2; ⟨b452.1, (fun x318 => have y448 := b450 x318; (fun k319 => have y447 := y448 k319; (have a445 := y447.1; have b446 := y447.2; ⟨(have b351 := a445.2; ⟨(fun k320 => have y325 := a445.1 (of_decide_eq_true k320); ⟨(), trivial, (have b324 := y325.2; ⟨y325.1, trivial, trivial, ⟨rfl, rfl, b324, trivial⟩, ⟨rfl, rfl, rfl, rfl, trivial⟩, trivial⟩)⟩), (fun k326 => have y349 := b351 (of_decide_eq_false k326); (fun x327 => have y348 := y349 x327; (fun k328 => have y347 := y348 k328; (have b346 := y347.2; ⟨(fun k329 => have y334 := y347.1 (of_decide_eq_true k329); ⟨(), trivial, (have b333 := y334.2; ⟨y334.1, trivial, trivial, ⟨rfl, rfl, b333, trivial⟩, ⟨rfl, rfl, rfl, rfl, trivial⟩, trivial⟩)⟩), (fun k335 => have y344 := b346 (of_decide_eq_false k335); (fun x336 => have y343 := y344 x336; (fun k337 => have y342 := y343 k337; ⟨(), trivial, (have b341 := y342.2; ⟨y342.1, trivial, trivial, ⟨rfl, rfl, b341, trivial⟩, ⟨rfl, rfl, rfl, rfl, trivial⟩, trivial⟩)⟩)))⟩))))⟩), (fun _ => (fun _ => (fun x353 => have y444 := b446 x353; (fun k354 => have y443 := y444 k354; (have b442 := y443.2; ⟨(fun k355 => have y380 := y443.1 (of_decide_eq_true k355); (have b379 := y380.2; ⟨(fun k356 => have y376 := y380.1 (of_decide_eq_true k356); (have a374 := y376.1; have b375 := y376.2; ⟨(have b370 := a374.2; ⟨(fun k357 => have y360 := a374.1 (of_decide_eq_true k357); ⟨(), trivial, y360, trivial, trivial, ⟨rfl, rfl, rfl, rfl, trivial⟩, ⟨rfl, rfl, rfl, trivial⟩, trivial⟩), (fun k361 => have y368 := b370 (of_decide_eq_false k361); (fun x362 => have y367 := y368 x362; (fun k363 => have y366 := y367 k363; (have b365 := y366.2; ⟨y366.1, (), trivial, b365, trivial, trivial, ⟨rfl, rfl, rfl, rfl, trivial⟩, ⟨rfl, rfl, rfl, trivial⟩, trivial⟩))))⟩), (fun _ => (fun _ => ⟨(fun _ => rfl), (fun k373 => (b375 (of_decide_eq_false k373)).elim)⟩))⟩)), (fun k377 => (b379 (of_decide_eq_false k377)).elim)⟩)), (fun k381 => have y440 := b442 (of_decide_eq_false k381); (have b439 := y440.2; ⟨(fun k382 => have y407 := y440.1 (of_decide_eq_true k382); (have b406 := y407.2; ⟨(fun k383 => have y403 := y407.1 (of_decide_eq_true k383); (have a401 := y403.1; have b402 := y403.2; ⟨(have b397 := a401.2; ⟨(fun k384 => have y387 := a401.1 (of_decide_eq_true k384); ⟨(), trivial, y387, trivial, trivial, ⟨rfl, rfl, rfl, rfl, trivial⟩, ⟨rfl, rfl, rfl, trivial⟩, trivial⟩), (fun k388 => have y395 := b397 (of_decide_eq_false k388); (fun x389 => have y394 := y395 x389; (fun k390 => have y393 := y394 k390; (have b392 := y393.2; ⟨y393.1, (), trivial, b392, trivial, trivial, ⟨rfl, rfl, rfl, rfl, trivial⟩, ⟨rfl, rfl, rfl, trivial⟩, trivial⟩))))⟩), (fun _ => (fun _ => ⟨(fun _ => rfl), (fun k400 => (b402 (of_decide_eq_false k400)).elim)⟩))⟩)), (fun k404 => (b406 (of_decide_eq_false k404)).elim)⟩)), (fun k408 => have y437 := b439 (of_decide_eq_false k408); (have b436 := y437.2; ⟨(fun k409 => have y433 := y437.1 (of_decide_eq_true k409); (have a431 := y433.1; have b432 := y433.2; ⟨(have b423 := a431.2; ⟨(fun k410 => have y413 := a431.1 (of_decide_eq_true k410); ⟨(), trivial, y413, trivial, trivial, ⟨rfl, rfl, rfl, rfl, trivial⟩, ⟨rfl, rfl, rfl, trivial⟩, trivial⟩), (fun k414 => have y421 := b423 (of_decide_eq_false k414); (fun x415 => have y420 := y421 x415; (fun k416 => have y419 := y420 k416; (have b418 := y419.2; ⟨y419.1, (), trivial, b418, trivial, trivial, ⟨rfl, rfl, rfl, rfl, trivial⟩, ⟨rfl, rfl, rfl, trivial⟩, trivial⟩))))⟩), (fun _ => (fun _ => (fun x425 => have y430 := b432 x425; (fun k426 => have y429 := y430 k426; ⟨(fun _ => rfl), (fun k428 => (y429 (of_decide_eq_false k428)).elim)⟩))))⟩)), (fun k434 => (b436 (of_decide_eq_false k434)).elim)⟩))⟩))⟩)))))⟩)))⟩)))⟩)⟩)⟩)))⟩)⟩)))⟩)⟩)⟩)⟩)⟩)⟩)))⟩)))⟩)))⟩)))⟩)⟩)))⟩)⟩)))⟩)))))⟩)))⟩)))⟩)
set_option maxRecDepth 100000 in
set_option maxHeartbeats 8000000 in
def crfB (l s n t : Int) : Prop :=
    inR IntKind.i64 ((1 : Int) + l) ∧ ∀ (z' : Int), z' = (1 : Int) + l →
    ((decide (z' < (1 : Int)) = true →
    ExT Unit fun z => True ∧ (False ∧ (0 : Int) = (1 : Int) ∧ True) ∧ True ∧ True ∧ False ∧ True) ∧ (decide (z' < (1 : Int)) = false →
    (decide ((8192 : Int) < z') = true →
    ExT Unit fun z => True ∧ (False ∧ (0 : Int) = (1 : Int) ∧ True) ∧ True ∧ True ∧ False ∧ True) ∧ (decide ((8192 : Int) < z') = false →
    ∀ (z1 : Int), z1 = ((0 : Int) + z' % (18446744073709551616 : Int)) % (18446744073709551616 : Int) →
    ExT Unit fun z => True ∧ ((0 : Nat) = 0 ∧ (0 : Int) = (0 : Int) ∧ True) ∧ True ∧ True ∧ (z' = z' % (18446744073709551616 : Int) ∧ ((0 : Int) = (0 : Int) ∧ inR IntKind.u64 (0 : Int)) ∧ z' = z1 ∧ True) ∧ True))) ∧ ∀ (z : Unit), True →
    ((decide (z' < (1 : Int)) = true →
    ExT Unit fun z => True ∧ (False ∧ (0 : Int) = (1 : Int) ∧ True) ∧ True ∧ True ∧ False ∧ (z' = z' ∧ (0 : Int) = (0 : Int) ∧ z' = z' ∧ True) ∧ True) ∧ (decide (z' < (1 : Int)) = false →
    (decide ((8192 : Int) < z') = true →
    ExT Unit fun z => True ∧ (False ∧ (0 : Int) = (1 : Int) ∧ True) ∧ True ∧ True ∧ False ∧ (z' = z' ∧ (0 : Int) = (0 : Int) ∧ z' = z' ∧ True) ∧ True) ∧ (decide ((8192 : Int) < z') = false →
    ∀ (z1 : Int), z1 = ((0 : Int) + z' % (18446744073709551616 : Int)) % (18446744073709551616 : Int) →
    ExT Unit fun z => True ∧ ((0 : Nat) = 0 ∧ (0 : Int) = (0 : Int) ∧ True) ∧ True ∧ True ∧ (z' = z' % (18446744073709551616 : Int) ∧ ((0 : Int) = (0 : Int) ∧ inR IntKind.u64 (0 : Int)) ∧ ((0 : Int) = (0 : Int) ∧ inR IntKind.u64 (0 : Int)) ∧ z' = z1 ∧ True) ∧ (z' = z' ∧ (0 : Int) = (0 : Int) ∧ z' = z' ∧ True) ∧ True))) ∧ ∀ (z : Unit), True →
    ∀ (z1 : Int), z1 = min s z' →
    ((decide (z' = (0 : Int)) = true →
    ExT Unit fun z => True ∧ (spE z1 (0 : Int) z' = (2 : Int) ∧ inR IntKind.i64 (spE z1 (0 : Int) z')) ∧ True ∧ True ∧ (z' = z' ∧ spN z1 (0 : Int) z' = (0 : Int) ∧ z' = z' ∧ True) ∧ (z' = z' ∧ (0 : Int) = (0 : Int) ∧ (0 : Int) = (0 : Int) ∧ z' = z' ∧ True) ∧ True) ∧ (decide (z' = (0 : Int)) = false →
    (decide (z1 < (0 : Int)) = true →
    ExT Unit fun z => True ∧ (spE z1 (0 : Int) z' = (1 : Int) ∧ inR IntKind.i64 (spE z1 (0 : Int) z')) ∧ True ∧ True ∧ (z' = z' ∧ spN z1 (0 : Int) z' = (0 : Int) ∧ z' = z' ∧ True) ∧ (z' = z' ∧ (0 : Int) = (0 : Int) ∧ (0 : Int) = (0 : Int) ∧ z' = z' ∧ True) ∧ True) ∧ (decide (z1 < (0 : Int)) = false →
    ((decide (z' = (0 : Int)) = true →
    ExT Unit fun z => True ∧ (z' - (0 : Int) = (0 : Int) ∧ inR IntKind.i64 (z' - (0 : Int))) ∧ True ∧ True ∧ (z' = z' ∧ (0 : Int) = (0 : Int) ∧ (0 : Int) = (0 : Int) ∧ z' = z' ∧ True) ∧ (z' = z' ∧ (0 : Int) = (0 : Int) ∧ z' = z' ∧ True) ∧ (z' = z' ∧ True) ∧ True) ∧ (decide (z' = (0 : Int)) = false →
    ∀ (z2 : Int), z2 = (z' - (0 : Int)) % (18446744073709551616 : Int) →
    inR IntKind.i64 z2 ∧ ExT Unit fun z => True ∧ z' - (0 : Int) = z2 ∧ True ∧ True ∧ (z' = z' ∧ (0 : Int) = (0 : Int) ∧ (0 : Int) = (0 : Int) ∧ z' = z' ∧ True) ∧ (z' = z' ∧ (0 : Int) = (0 : Int) ∧ z' = z' ∧ True) ∧ (z' = z' ∧ True) ∧ True)) ∧ ∀ (z : Unit), True →
    (decide (z' - (0 : Int) < z1) = true →
    ExT Unit fun z => True ∧ (spE z1 (0 : Int) z' = (8 : Int) ∧ inR IntKind.i64 (spE z1 (0 : Int) z')) ∧ True ∧ True ∧ (z' = z' ∧ spN z1 (0 : Int) z' = (0 : Int) ∧ z' = z' ∧ True) ∧ (z' = z' ∧ (0 : Int) = (0 : Int) ∧ (0 : Int) = (0 : Int) ∧ z' = z' ∧ True) ∧ True) ∧ (decide (z' - (0 : Int) < z1) = false →
    ∀ (z2 : Int), z2 = ((0 : Int) + z1 % (18446744073709551616 : Int)) % (18446744073709551616 : Int) →
    ExT Unit fun z => True ∧ (spE z1 (0 : Int) z' = (0 : Int) ∧ inR IntKind.i64 (spE z1 (0 : Int) z')) ∧ True ∧ True ∧ (z' = z' ∧ spN z1 (0 : Int) z' = z2 ∧ z' = z' ∧ True) ∧ (z' = z' ∧ (0 : Int) = (0 : Int) ∧ (0 : Int) = (0 : Int) ∧ z' = z' ∧ True) ∧ True)))) ∧ ∀ (z : Unit), True →
    decide (spE z1 (0 : Int) z' ≠ (0 : Int)) = false ∧ ((decide (z' = (0 : Int)) = true →
    ExT Unit fun z => True ∧ (tkE z1 (0 : Int) z' = (2 : Int) ∧ inR IntKind.i64 (tkE z1 (0 : Int) z')) ∧ True ∧ True ∧ (z' = z' ∧ tkN z1 (0 : Int) z' = (0 : Int) ∧ (0 : Int) = (0 : Int) ∧ z' = z' ∧ True) ∧ (z' = z' ∧ spN z1 (0 : Int) z' = spN z1 (0 : Int) z' ∧ z' = z' ∧ True) ∧ True) ∧ (decide (z' = (0 : Int)) = false →
    (decide (z1 < (0 : Int)) = true →
    ExT Unit fun z => True ∧ (tkE z1 (0 : Int) z' = (1 : Int) ∧ inR IntKind.i64 (tkE z1 (0 : Int) z')) ∧ True ∧ True ∧ (z' = z' ∧ tkN z1 (0 : Int) z' = (0 : Int) ∧ (0 : Int) = (0 : Int) ∧ z' = z' ∧ True) ∧ (z' = z' ∧ spN z1 (0 : Int) z' = spN z1 (0 : Int) z' ∧ z' = z' ∧ True) ∧ True) ∧ (decide (z1 < (0 : Int)) = false →
    ∀ (z2 : Int), z2 = (z' - (0 : Int)) % (18446744073709551616 : Int) →
    (decide (z2 < z1 % (18446744073709551616 : Int)) = true →
    ExT Unit fun z => True ∧ (tkE z1 (0 : Int) z' = (7 : Int) ∧ inR IntKind.i64 (tkE z1 (0 : Int) z')) ∧ True ∧ True ∧ (z' = z' ∧ tkN z1 (0 : Int) z' = (0 : Int) ∧ (0 : Int) = (0 : Int) ∧ z' = z' ∧ True) ∧ (z' = z' ∧ spN z1 (0 : Int) z' = spN z1 (0 : Int) z' ∧ z' = z' ∧ True) ∧ True) ∧ (decide (z2 < z1 % (18446744073709551616 : Int)) = false →
    ∀ (z3 : Int), z3 = ((0 : Int) + z1 % (18446744073709551616 : Int)) % (18446744073709551616 : Int) →
    ExT Unit fun z => True ∧ (tkE z1 (0 : Int) z' = (0 : Int) ∧ inR IntKind.i64 (tkE z1 (0 : Int) z')) ∧ True ∧ True ∧ (z' = z' ∧ tkN z1 (0 : Int) z' = z3 ∧ (0 : Int) = (0 : Int) ∧ z' = z' ∧ True) ∧ (z' = z' ∧ spN z1 (0 : Int) z' = spN z1 (0 : Int) z' ∧ z' = z' ∧ True) ∧ True)))) ∧ ∀ (z : Unit), True →
    decide (tkE z1 (0 : Int) z' ≠ (0 : Int)) = false ∧ ((decide (z' = (0 : Int)) = true →
    ExT Unit fun z => True ∧ (z' - spN z1 (0 : Int) z' = (0 : Int) ∧ inR IntKind.i64 (z' - spN z1 (0 : Int) z')) ∧ True ∧ True ∧ (z' = z' ∧ tkN z1 (0 : Int) z' = tkN z1 (0 : Int) z' ∧ (0 : Int) = (0 : Int) ∧ z' = z' ∧ True) ∧ (z' = z' ∧ spN z1 (0 : Int) z' = spN z1 (0 : Int) z' ∧ z' = z' ∧ True) ∧ True) ∧ (decide (z' = (0 : Int)) = false →
    ∀ (z2 : Int), z2 = (z' - spN z1 (0 : Int) z') % (18446744073709551616 : Int) →
    inR IntKind.i64 z2 ∧ ExT Unit fun z => True ∧ z' - spN z1 (0 : Int) z' = z2 ∧ True ∧ True ∧ (z' = z' ∧ tkN z1 (0 : Int) z' = tkN z1 (0 : Int) z' ∧ (0 : Int) = (0 : Int) ∧ z' = z' ∧ True) ∧ (z' = z' ∧ spN z1 (0 : Int) z' = spN z1 (0 : Int) z' ∧ z' = z' ∧ True) ∧ True)) ∧ ∀ (z : Unit), True →
    ((decide (z' = (0 : Int)) = true →
    ExT Unit fun z => True ∧ (tkN z1 (0 : Int) z' - (0 : Int) = (0 : Int) ∧ inR IntKind.i64 (tkN z1 (0 : Int) z' - (0 : Int))) ∧ True ∧ True ∧ (z' = z' ∧ tkN z1 (0 : Int) z' = tkN z1 (0 : Int) z' ∧ (0 : Int) = (0 : Int) ∧ z' = z' ∧ True) ∧ (z' = z' ∧ spN z1 (0 : Int) z' = spN z1 (0 : Int) z' ∧ z' = z' ∧ True) ∧ True) ∧ (decide (z' = (0 : Int)) = false →
    ∀ (z2 : Int), z2 = (tkN z1 (0 : Int) z' - (0 : Int)) % (18446744073709551616 : Int) →
    inR IntKind.i64 z2 ∧ ExT Unit fun z => True ∧ tkN z1 (0 : Int) z' - (0 : Int) = z2 ∧ True ∧ True ∧ (z' = z' ∧ tkN z1 (0 : Int) z' = tkN z1 (0 : Int) z' ∧ (0 : Int) = (0 : Int) ∧ z' = z' ∧ True) ∧ (z' = z' ∧ spN z1 (0 : Int) z' = spN z1 (0 : Int) z' ∧ z' = z' ∧ True) ∧ True)) ∧ ∀ (z : Unit), True →
    ((decide (z' = (0 : Int)) = true →
    ExT Unit fun z => True ∧ (spE n (spN z1 (0 : Int) z') z' = (2 : Int) ∧ inR IntKind.i64 (spE n (spN z1 (0 : Int) z') z')) ∧ True ∧ True ∧ (z' = z' ∧ spN n (spN z1 (0 : Int) z') z' = spN z1 (0 : Int) z' ∧ z' = z' ∧ True) ∧ (z' = z' ∧ tkN z1 (0 : Int) z' = tkN z1 (0 : Int) z' ∧ (0 : Int) = (0 : Int) ∧ z' = z' ∧ True) ∧ True) ∧ (decide (z' = (0 : Int)) = false →
    (decide (n < (0 : Int)) = true →
    ExT Unit fun z => True ∧ (spE n (spN z1 (0 : Int) z') z' = (1 : Int) ∧ inR IntKind.i64 (spE n (spN z1 (0 : Int) z') z')) ∧ True ∧ True ∧ (z' = z' ∧ spN n (spN z1 (0 : Int) z') z' = spN z1 (0 : Int) z' ∧ z' = z' ∧ True) ∧ (z' = z' ∧ tkN z1 (0 : Int) z' = tkN z1 (0 : Int) z' ∧ (0 : Int) = (0 : Int) ∧ z' = z' ∧ True) ∧ True) ∧ (decide (n < (0 : Int)) = false →
    ((decide (z' = (0 : Int)) = true →
    ExT Unit fun z => True ∧ (z' - spN z1 (0 : Int) z' = (0 : Int) ∧ inR IntKind.i64 (z' - spN z1 (0 : Int) z')) ∧ True ∧ True ∧ (z' = z' ∧ tkN z1 (0 : Int) z' = tkN z1 (0 : Int) z' ∧ (0 : Int) = (0 : Int) ∧ z' = z' ∧ True) ∧ (z' = z' ∧ spN z1 (0 : Int) z' = spN z1 (0 : Int) z' ∧ z' = z' ∧ True) ∧ (z' = z' ∧ True) ∧ True) ∧ (decide (z' = (0 : Int)) = false →
    ∀ (z2 : Int), z2 = (z' - spN z1 (0 : Int) z') % (18446744073709551616 : Int) →
    inR IntKind.i64 z2 ∧ ExT Unit fun z => True ∧ z' - spN z1 (0 : Int) z' = z2 ∧ True ∧ True ∧ (z' = z' ∧ tkN z1 (0 : Int) z' = tkN z1 (0 : Int) z' ∧ (0 : Int) = (0 : Int) ∧ z' = z' ∧ True) ∧ (z' = z' ∧ spN z1 (0 : Int) z' = spN z1 (0 : Int) z' ∧ z' = z' ∧ True) ∧ (z' = z' ∧ True) ∧ True)) ∧ ∀ (z : Unit), True →
    (decide (z' - spN z1 (0 : Int) z' < n) = true →
    ExT Unit fun z => True ∧ (spE n (spN z1 (0 : Int) z') z' = (8 : Int) ∧ inR IntKind.i64 (spE n (spN z1 (0 : Int) z') z')) ∧ True ∧ True ∧ (z' = z' ∧ spN n (spN z1 (0 : Int) z') z' = spN z1 (0 : Int) z' ∧ z' = z' ∧ True) ∧ (z' = z' ∧ tkN z1 (0 : Int) z' = tkN z1 (0 : Int) z' ∧ (0 : Int) = (0 : Int) ∧ z' = z' ∧ True) ∧ True) ∧ (decide (z' - spN z1 (0 : Int) z' < n) = false →
    ∀ (z2 : Int), z2 = (spN z1 (0 : Int) z' + n % (18446744073709551616 : Int)) % (18446744073709551616 : Int) →
    ExT Unit fun z => True ∧ (spE n (spN z1 (0 : Int) z') z' = (0 : Int) ∧ inR IntKind.i64 (spE n (spN z1 (0 : Int) z') z')) ∧ True ∧ True ∧ (z' = z' ∧ spN n (spN z1 (0 : Int) z') z' = z2 ∧ z' = z' ∧ True) ∧ (z' = z' ∧ tkN z1 (0 : Int) z' = tkN z1 (0 : Int) z' ∧ (0 : Int) = (0 : Int) ∧ z' = z' ∧ True) ∧ True)))) ∧ ∀ (z : Unit), True →
    ((decide (z' = (0 : Int)) = true →
    ExT Unit fun z => True ∧ (tkE n (tkN z1 (0 : Int) z') z' = (2 : Int) ∧ inR IntKind.i64 (tkE n (tkN z1 (0 : Int) z') z')) ∧ True ∧ True ∧ (z' = z' ∧ tkN n (tkN z1 (0 : Int) z') z' = tkN z1 (0 : Int) z' ∧ (0 : Int) = (0 : Int) ∧ z' = z' ∧ True) ∧ (z' = z' ∧ spN n (spN z1 (0 : Int) z') z' = spN n (spN z1 (0 : Int) z') z' ∧ z' = z' ∧ True) ∧ True) ∧ (decide (z' = (0 : Int)) = false →
    (decide (n < (0 : Int)) = true →
    ExT Unit fun z => True ∧ (tkE n (tkN z1 (0 : Int) z') z' = (1 : Int) ∧ inR IntKind.i64 (tkE n (tkN z1 (0 : Int) z') z')) ∧ True ∧ True ∧ (z' = z' ∧ tkN n (tkN z1 (0 : Int) z') z' = tkN z1 (0 : Int) z' ∧ (0 : Int) = (0 : Int) ∧ z' = z' ∧ True) ∧ (z' = z' ∧ spN n (spN z1 (0 : Int) z') z' = spN n (spN z1 (0 : Int) z') z' ∧ z' = z' ∧ True) ∧ True) ∧ (decide (n < (0 : Int)) = false →
    ∀ (z2 : Int), z2 = (z' - tkN z1 (0 : Int) z') % (18446744073709551616 : Int) →
    (decide (z2 < n % (18446744073709551616 : Int)) = true →
    ExT Unit fun z => True ∧ (tkE n (tkN z1 (0 : Int) z') z' = (7 : Int) ∧ inR IntKind.i64 (tkE n (tkN z1 (0 : Int) z') z')) ∧ True ∧ True ∧ (z' = z' ∧ tkN n (tkN z1 (0 : Int) z') z' = tkN z1 (0 : Int) z' ∧ (0 : Int) = (0 : Int) ∧ z' = z' ∧ True) ∧ (z' = z' ∧ spN n (spN z1 (0 : Int) z') z' = spN n (spN z1 (0 : Int) z') z' ∧ z' = z' ∧ True) ∧ True) ∧ (decide (z2 < n % (18446744073709551616 : Int)) = false →
    ∀ (z3 : Int), z3 = (tkN z1 (0 : Int) z' + n % (18446744073709551616 : Int)) % (18446744073709551616 : Int) →
    ExT Unit fun z => True ∧ (tkE n (tkN z1 (0 : Int) z') z' = (0 : Int) ∧ inR IntKind.i64 (tkE n (tkN z1 (0 : Int) z') z')) ∧ True ∧ True ∧ (z' = z' ∧ tkN n (tkN z1 (0 : Int) z') z' = z3 ∧ (0 : Int) = (0 : Int) ∧ z' = z' ∧ True) ∧ (z' = z' ∧ spN n (spN z1 (0 : Int) z') z' = spN n (spN z1 (0 : Int) z') z' ∧ z' = z' ∧ True) ∧ True)))) ∧ ∀ (z : Unit), True →
    decide (n < (0 : Int)) = false ∧ decide (z' - spN z1 (0 : Int) z' < n) = true ∧ decide (spE n (spN z1 (0 : Int) z') z' ≠ (8 : Int)) = false ∧ decide (tkE n (tkN z1 (0 : Int) z') z' ≠ (7 : Int)) = false ∧ decide (n < (0 : Int)) = false ∧ decide (z' - spN z1 (0 : Int) z' < n) = true ∧ ((decide (z' = (0 : Int)) = true →
    ExT Unit fun z => True ∧ (z' - spN n (spN z1 (0 : Int) z') z' = (0 : Int) ∧ inR IntKind.i64 (z' - spN n (spN z1 (0 : Int) z') z')) ∧ True ∧ True ∧ (z' = z' ∧ tkN n (tkN z1 (0 : Int) z') z' = tkN n (tkN z1 (0 : Int) z') z' ∧ (0 : Int) = (0 : Int) ∧ z' = z' ∧ True) ∧ (z' = z' ∧ spN n (spN z1 (0 : Int) z') z' = spN n (spN z1 (0 : Int) z') z' ∧ z' = z' ∧ True) ∧ True) ∧ (decide (z' = (0 : Int)) = false →
    ∀ (z2 : Int), z2 = (z' - spN n (spN z1 (0 : Int) z') z') % (18446744073709551616 : Int) →
    inR IntKind.i64 z2 ∧ ExT Unit fun z => True ∧ z' - spN n (spN z1 (0 : Int) z') z' = z2 ∧ True ∧ True ∧ (z' = z' ∧ tkN n (tkN z1 (0 : Int) z') z' = tkN n (tkN z1 (0 : Int) z') z' ∧ (0 : Int) = (0 : Int) ∧ z' = z' ∧ True) ∧ (z' = z' ∧ spN n (spN z1 (0 : Int) z') z' = spN n (spN z1 (0 : Int) z') z' ∧ z' = z' ∧ True) ∧ True)) ∧ ∀ (z : Unit), True →
    decide (z' - spN n (spN z1 (0 : Int) z') z' ≠ z' - spN z1 (0 : Int) z') = false ∧ ((decide (z' = (0 : Int)) = true →
    ExT Unit fun z => True ∧ (tkN n (tkN z1 (0 : Int) z') z' - (0 : Int) = (0 : Int) ∧ inR IntKind.i64 (tkN n (tkN z1 (0 : Int) z') z' - (0 : Int))) ∧ True ∧ True ∧ (z' = z' ∧ tkN n (tkN z1 (0 : Int) z') z' = tkN n (tkN z1 (0 : Int) z') z' ∧ (0 : Int) = (0 : Int) ∧ z' = z' ∧ True) ∧ (z' = z' ∧ spN n (spN z1 (0 : Int) z') z' = spN n (spN z1 (0 : Int) z') z' ∧ z' = z' ∧ True) ∧ True) ∧ (decide (z' = (0 : Int)) = false →
    ∀ (z2 : Int), z2 = (tkN n (tkN z1 (0 : Int) z') z' - (0 : Int)) % (18446744073709551616 : Int) →
    inR IntKind.i64 z2 ∧ ExT Unit fun z => True ∧ tkN n (tkN z1 (0 : Int) z') z' - (0 : Int) = z2 ∧ True ∧ True ∧ (z' = z' ∧ tkN n (tkN z1 (0 : Int) z') z' = tkN n (tkN z1 (0 : Int) z') z' ∧ (0 : Int) = (0 : Int) ∧ z' = z' ∧ True) ∧ (z' = z' ∧ spN n (spN z1 (0 : Int) z') z' = spN n (spN z1 (0 : Int) z') z' ∧ z' = z' ∧ True) ∧ True)) ∧ ∀ (z : Unit), True →
    decide (tkN n (tkN z1 (0 : Int) z') z' - (0 : Int) ≠ tkN z1 (0 : Int) z' - (0 : Int)) = false ∧ decide ((0 : Int) ≤ n) = true ∧ decide (n ≤ z' - spN z1 (0 : Int) z') = false ∧ ((decide (z' = (0 : Int)) = true →
    ExT Unit fun z => True ∧ (z' - spN n (spN z1 (0 : Int) z') z' = (0 : Int) ∧ inR IntKind.i64 (z' - spN n (spN z1 (0 : Int) z') z')) ∧ True ∧ True ∧ (z' = z' ∧ tkN n (tkN z1 (0 : Int) z') z' = tkN n (tkN z1 (0 : Int) z') z' ∧ (0 : Int) = (0 : Int) ∧ z' = z' ∧ True) ∧ (z' = z' ∧ spN n (spN z1 (0 : Int) z') z' = spN n (spN z1 (0 : Int) z') z' ∧ z' = z' ∧ True) ∧ True) ∧ (decide (z' = (0 : Int)) = false →
    ∀ (z2 : Int), z2 = (z' - spN n (spN z1 (0 : Int) z') z') % (18446744073709551616 : Int) →
    inR IntKind.i64 z2 ∧ ExT Unit fun z => True ∧ z' - spN n (spN z1 (0 : Int) z') z' = z2 ∧ True ∧ True ∧ (z' = z' ∧ tkN n (tkN z1 (0 : Int) z') z' = tkN n (tkN z1 (0 : Int) z') z' ∧ (0 : Int) = (0 : Int) ∧ z' = z' ∧ True) ∧ (z' = z' ∧ spN n (spN z1 (0 : Int) z') z' = spN n (spN z1 (0 : Int) z') z' ∧ z' = z' ∧ True) ∧ True)) ∧ ∀ (z : Unit), True →
    inR IntKind.i64 (z' - (z' - spN n (spN z1 (0 : Int) z') z')) ∧ ∀ (z2 : Int), z2 = z' - (z' - spN n (spN z1 (0 : Int) z') z') →
    ((decide (z' = (0 : Int)) = true →
    ExT Unit fun z => True ∧ (grE t (spN n (spN z1 (0 : Int) z') z') z' = (2 : Int) ∧ inR IntKind.i64 (grE t (spN n (spN z1 (0 : Int) z') z') z')) ∧ True ∧ True ∧ (z' = z' ∧ spN n (spN z1 (0 : Int) z') z' = spN n (spN z1 (0 : Int) z') z' ∧ grN t (spN n (spN z1 (0 : Int) z') z') z' z' = z' ∧ True) ∧ (z' = z' ∧ tkN n (tkN z1 (0 : Int) z') z' = tkN n (tkN z1 (0 : Int) z') z' ∧ (0 : Int) = (0 : Int) ∧ z' = z' ∧ True) ∧ True) ∧ (decide (z' = (0 : Int)) = false →
    ∀ (z3 : Int), z3 = (spN n (spN z1 (0 : Int) z') z' + z') % (18446744073709551616 : Int) →
    (decide (z3 < t) = true →
    ExT Unit fun z => True ∧ (grE t (spN n (spN z1 (0 : Int) z') z') z' = (24 : Int) ∧ inR IntKind.i64 (grE t (spN n (spN z1 (0 : Int) z') z') z')) ∧ True ∧ True ∧ (z' = z' ∧ spN n (spN z1 (0 : Int) z') z' = spN n (spN z1 (0 : Int) z') z' ∧ grN t (spN n (spN z1 (0 : Int) z') z') z' z' = z' ∧ True) ∧ (z' = z' ∧ tkN n (tkN z1 (0 : Int) z') z' = tkN n (tkN z1 (0 : Int) z') z' ∧ (0 : Int) = (0 : Int) ∧ z' = z' ∧ True) ∧ True) ∧ (decide (z3 < t) = false →
    ∀ (z4 : Int), z4 = max z' t →
    ExT Unit fun z => True ∧ (grE t (spN n (spN z1 (0 : Int) z') z') z' = (0 : Int) ∧ inR IntKind.i64 (grE t (spN n (spN z1 (0 : Int) z') z') z')) ∧ True ∧ True ∧ (z' = z' ∧ spN n (spN z1 (0 : Int) z') z' = spN n (spN z1 (0 : Int) z') z' ∧ grN t (spN n (spN z1 (0 : Int) z') z') z' z' = z4 ∧ True) ∧ (z' = z' ∧ tkN n (tkN z1 (0 : Int) z') z' = tkN n (tkN z1 (0 : Int) z') z' ∧ (0 : Int) = (0 : Int) ∧ z' = z' ∧ True) ∧ True))) ∧ ∀ (z : Unit), True →
    ∀ (z3 : Int), z3 = (z2 % (18446744073709551616 : Int) + z' % (18446744073709551616 : Int)) % (18446744073709551616 : Int) →
    (decide (z3 < t) = true →
    (decide (grE t (spN n (spN z1 (0 : Int) z') z') z' = (24 : Int)) = true →
    ((decide (z' = (0 : Int)) = true →
    ExT Unit fun z => True ∧ (grN t (spN n (spN z1 (0 : Int) z') z') z' z' - spN n (spN z1 (0 : Int) z') z' = (0 : Int) ∧ inR IntKind.i64 (grN t (spN n (spN z1 (0 : Int) z') z') z' z' - spN n (spN z1 (0 : Int) z') z')) ∧ True ∧ True ∧ (z' = z' ∧ tkN n (tkN z1 (0 : Int) z') z' = tkN n (tkN z1 (0 : Int) z') z' ∧ (0 : Int) = (0 : Int) ∧ z' = z' ∧ True) ∧ (z' = z' ∧ spN n (spN z1 (0 : Int) z') z' = spN n (spN z1 (0 : Int) z') z' ∧ grN t (spN n (spN z1 (0 : Int) z') z') z' z' = grN t (spN n (spN z1 (0 : Int) z') z') z' z' ∧ True) ∧ True) ∧ (decide (z' = (0 : Int)) = false →
    ∀ (z4 : Int), z4 = (grN t (spN n (spN z1 (0 : Int) z') z') z' z' - spN n (spN z1 (0 : Int) z') z') % (18446744073709551616 : Int) →
    inR IntKind.i64 z4 ∧ ExT Unit fun z => True ∧ grN t (spN n (spN z1 (0 : Int) z') z') z' z' - spN n (spN z1 (0 : Int) z') z' = z4 ∧ True ∧ True ∧ (z' = z' ∧ tkN n (tkN z1 (0 : Int) z') z' = tkN n (tkN z1 (0 : Int) z') z' ∧ (0 : Int) = (0 : Int) ∧ z' = z' ∧ True) ∧ (z' = z' ∧ spN n (spN z1 (0 : Int) z') z' = spN n (spN z1 (0 : Int) z') z' ∧ grN t (spN n (spN z1 (0 : Int) z') z') z' z' = grN t (spN n (spN z1 (0 : Int) z') z') z' z' ∧ True) ∧ True)) ∧ ∀ (z : Unit), True →
    (decide (grN t (spN n (spN z1 (0 : Int) z') z') z' z' - spN n (spN z1 (0 : Int) z') z' = z' - spN n (spN z1 (0 : Int) z') z') = true →
    true = true) ∧ (decide (grN t (spN n (spN z1 (0 : Int) z') z') z' z' - spN n (spN z1 (0 : Int) z') z' = z' - spN n (spN z1 (0 : Int) z') z') = false →
    false = true)) ∧ (decide (grE t (spN n (spN z1 (0 : Int) z') z') z' = (24 : Int)) = false →
    false = true)) ∧ (decide (z3 < t) = false →
    (decide (t ≤ z' % (18446744073709551616 : Int)) = true →
    (decide (grE t (spN n (spN z1 (0 : Int) z') z') z' = (0 : Int)) = true →
    ((decide (z' = (0 : Int)) = true →
    ExT Unit fun z => True ∧ (grN t (spN n (spN z1 (0 : Int) z') z') z' z' - spN n (spN z1 (0 : Int) z') z' = (0 : Int) ∧ inR IntKind.i64 (grN t (spN n (spN z1 (0 : Int) z') z') z' z' - spN n (spN z1 (0 : Int) z') z')) ∧ True ∧ True ∧ (z' = z' ∧ tkN n (tkN z1 (0 : Int) z') z' = tkN n (tkN z1 (0 : Int) z') z' ∧ (0 : Int) = (0 : Int) ∧ z' = z' ∧ True) ∧ (z' = z' ∧ spN n (spN z1 (0 : Int) z') z' = spN n (spN z1 (0 : Int) z') z' ∧ grN t (spN n (spN z1 (0 : Int) z') z') z' z' = grN t (spN n (spN z1 (0 : Int) z') z') z' z' ∧ True) ∧ True) ∧ (decide (z' = (0 : Int)) = false →
    ∀ (z4 : Int), z4 = (grN t (spN n (spN z1 (0 : Int) z') z') z' z' - spN n (spN z1 (0 : Int) z') z') % (18446744073709551616 : Int) →
    inR IntKind.i64 z4 ∧ ExT Unit fun z => True ∧ grN t (spN n (spN z1 (0 : Int) z') z') z' z' - spN n (spN z1 (0 : Int) z') z' = z4 ∧ True ∧ True ∧ (z' = z' ∧ tkN n (tkN z1 (0 : Int) z') z' = tkN n (tkN z1 (0 : Int) z') z' ∧ (0 : Int) = (0 : Int) ∧ z' = z' ∧ True) ∧ (z' = z' ∧ spN n (spN z1 (0 : Int) z') z' = spN n (spN z1 (0 : Int) z') z' ∧ grN t (spN n (spN z1 (0 : Int) z') z') z' z' = grN t (spN n (spN z1 (0 : Int) z') z') z' z' ∧ True) ∧ True)) ∧ ∀ (z : Unit), True →
    (decide (grN t (spN n (spN z1 (0 : Int) z') z') z' z' - spN n (spN z1 (0 : Int) z') z' = z' - spN n (spN z1 (0 : Int) z') z') = true →
    true = true) ∧ (decide (grN t (spN n (spN z1 (0 : Int) z') z') z' z' - spN n (spN z1 (0 : Int) z') z' = z' - spN n (spN z1 (0 : Int) z') z') = false →
    false = true)) ∧ (decide (grE t (spN n (spN z1 (0 : Int) z') z') z' = (0 : Int)) = false →
    false = true)) ∧ (decide (t ≤ z' % (18446744073709551616 : Int)) = false →
    (decide (grE t (spN n (spN z1 (0 : Int) z') z') z' = (0 : Int)) = true →
    ((decide (z' = (0 : Int)) = true →
    ExT Unit fun z => True ∧ (grN t (spN n (spN z1 (0 : Int) z') z') z' z' - spN n (spN z1 (0 : Int) z') z' = (0 : Int) ∧ inR IntKind.i64 (grN t (spN n (spN z1 (0 : Int) z') z') z' z' - spN n (spN z1 (0 : Int) z') z')) ∧ True ∧ True ∧ (z' = z' ∧ tkN n (tkN z1 (0 : Int) z') z' = tkN n (tkN z1 (0 : Int) z') z' ∧ (0 : Int) = (0 : Int) ∧ z' = z' ∧ True) ∧ (z' = z' ∧ spN n (spN z1 (0 : Int) z') z' = spN n (spN z1 (0 : Int) z') z' ∧ grN t (spN n (spN z1 (0 : Int) z') z') z' z' = grN t (spN n (spN z1 (0 : Int) z') z') z' z' ∧ True) ∧ True) ∧ (decide (z' = (0 : Int)) = false →
    ∀ (z4 : Int), z4 = (grN t (spN n (spN z1 (0 : Int) z') z') z' z' - spN n (spN z1 (0 : Int) z') z') % (18446744073709551616 : Int) →
    inR IntKind.i64 z4 ∧ ExT Unit fun z => True ∧ grN t (spN n (spN z1 (0 : Int) z') z') z' z' - spN n (spN z1 (0 : Int) z') z' = z4 ∧ True ∧ True ∧ (z' = z' ∧ tkN n (tkN z1 (0 : Int) z') z' = tkN n (tkN z1 (0 : Int) z') z' ∧ (0 : Int) = (0 : Int) ∧ z' = z' ∧ True) ∧ (z' = z' ∧ spN n (spN z1 (0 : Int) z') z' = spN n (spN z1 (0 : Int) z') z' ∧ grN t (spN n (spN z1 (0 : Int) z') z') z' z' = grN t (spN n (spN z1 (0 : Int) z') z') z' z' ∧ True) ∧ True)) ∧ ∀ (z : Unit), True →
    ∀ (z4 : Int), z4 = (t - z2 % (18446744073709551616 : Int)) % (18446744073709551616 : Int) →
    (decide ((grN t (spN n (spN z1 (0 : Int) z') z') z' z' - spN n (spN z1 (0 : Int) z') z') % (18446744073709551616 : Int) = z4) = true →
    true = true) ∧ (decide ((grN t (spN n (spN z1 (0 : Int) z') z') z' z' - spN n (spN z1 (0 : Int) z') z') % (18446744073709551616 : Int) = z4) = false →
    false = true)) ∧ (decide (grE t (spN n (spN z1 (0 : Int) z') z') z' = (0 : Int)) = false →
    false = true)))
set_option maxRecDepth 100000 in
set_option maxHeartbeats 8000000 in
theorem crfB_eq (l s n t : Int) : crW [0, 0, 0, 1, 0, 0, 0, 1, 0, 0, 1, 0] l s n t = crfB l s n t := by kernel_rfl
set_option maxRecDepth 100000 in
set_option maxHeartbeats 8000000 in
def crfBS (l s n t : Int) : Prop :=
    inR IntKind.i64 ((1 : Int) + l) ∧ ∀ (z' : Int), z' = (1 : Int) + l →
    ((z' < (1 : Int) →
    False) ∧ (¬z' < (1 : Int) →
    ((8192 : Int) < z' →
    False) ∧ (¬(8192 : Int) < z' →
    ∀ (z1 : Int), z1 = ((0 : Int) + z' % (18446744073709551616 : Int)) % (18446744073709551616 : Int) →
    z' = z' % (18446744073709551616 : Int) ∧ inR IntKind.u64 (0 : Int) ∧ z' = z1))) ∧ ((z' < (1 : Int) →
    False) ∧ (¬z' < (1 : Int) →
    ((8192 : Int) < z' →
    False) ∧ (¬(8192 : Int) < z' →
    ∀ (z1 : Int), z1 = ((0 : Int) + z' % (18446744073709551616 : Int)) % (18446744073709551616 : Int) →
    z' = z' % (18446744073709551616 : Int) ∧ inR IntKind.u64 (0 : Int) ∧ inR IntKind.u64 (0 : Int) ∧ z' = z1))) ∧ ∀ (z1 : Int), z1 = min s z' →
    ((z' = (0 : Int) →
    (spE z1 (0 : Int) z' = (2 : Int) ∧ inR IntKind.i64 (spE z1 (0 : Int) z')) ∧ spN z1 (0 : Int) z' = (0 : Int)) ∧ (¬z' = (0 : Int) →
    (z1 < (0 : Int) →
    (spE z1 (0 : Int) z' = (1 : Int) ∧ inR IntKind.i64 (spE z1 (0 : Int) z')) ∧ spN z1 (0 : Int) z' = (0 : Int)) ∧ (¬z1 < (0 : Int) →
    ((z' = (0 : Int) →
    z' - (0 : Int) = (0 : Int) ∧ inR IntKind.i64 (z' - (0 : Int))) ∧ (¬z' = (0 : Int) →
    ∀ (z2 : Int), z2 = (z' - (0 : Int)) % (18446744073709551616 : Int) →
    inR IntKind.i64 z2 ∧ z' - (0 : Int) = z2)) ∧ (z' - (0 : Int) < z1 →
    (spE z1 (0 : Int) z' = (8 : Int) ∧ inR IntKind.i64 (spE z1 (0 : Int) z')) ∧ spN z1 (0 : Int) z' = (0 : Int)) ∧ (¬z' - (0 : Int) < z1 →
    ∀ (z2 : Int), z2 = ((0 : Int) + z1 % (18446744073709551616 : Int)) % (18446744073709551616 : Int) →
    (spE z1 (0 : Int) z' = (0 : Int) ∧ inR IntKind.i64 (spE z1 (0 : Int) z')) ∧ spN z1 (0 : Int) z' = z2)))) ∧ decide (spE z1 (0 : Int) z' ≠ (0 : Int)) = false ∧ ((z' = (0 : Int) →
    (tkE z1 (0 : Int) z' = (2 : Int) ∧ inR IntKind.i64 (tkE z1 (0 : Int) z')) ∧ tkN z1 (0 : Int) z' = (0 : Int)) ∧ (¬z' = (0 : Int) →
    (z1 < (0 : Int) →
    (tkE z1 (0 : Int) z' = (1 : Int) ∧ inR IntKind.i64 (tkE z1 (0 : Int) z')) ∧ tkN z1 (0 : Int) z' = (0 : Int)) ∧ (¬z1 < (0 : Int) →
    ∀ (z2 : Int), z2 = (z' - (0 : Int)) % (18446744073709551616 : Int) →
    (z2 < z1 % (18446744073709551616 : Int) →
    (tkE z1 (0 : Int) z' = (7 : Int) ∧ inR IntKind.i64 (tkE z1 (0 : Int) z')) ∧ tkN z1 (0 : Int) z' = (0 : Int)) ∧ (¬z2 < z1 % (18446744073709551616 : Int) →
    ∀ (z3 : Int), z3 = ((0 : Int) + z1 % (18446744073709551616 : Int)) % (18446744073709551616 : Int) →
    (tkE z1 (0 : Int) z' = (0 : Int) ∧ inR IntKind.i64 (tkE z1 (0 : Int) z')) ∧ tkN z1 (0 : Int) z' = z3)))) ∧ decide (tkE z1 (0 : Int) z' ≠ (0 : Int)) = false ∧ ((z' = (0 : Int) →
    z' - spN z1 (0 : Int) z' = (0 : Int) ∧ inR IntKind.i64 (z' - spN z1 (0 : Int) z')) ∧ (¬z' = (0 : Int) →
    ∀ (z2 : Int), z2 = (z' - spN z1 (0 : Int) z') % (18446744073709551616 : Int) →
    inR IntKind.i64 z2 ∧ z' - spN z1 (0 : Int) z' = z2)) ∧ ((z' = (0 : Int) →
    tkN z1 (0 : Int) z' - (0 : Int) = (0 : Int) ∧ inR IntKind.i64 (tkN z1 (0 : Int) z' - (0 : Int))) ∧ (¬z' = (0 : Int) →
    ∀ (z2 : Int), z2 = (tkN z1 (0 : Int) z' - (0 : Int)) % (18446744073709551616 : Int) →
    inR IntKind.i64 z2 ∧ tkN z1 (0 : Int) z' - (0 : Int) = z2)) ∧ ((z' = (0 : Int) →
    (spE n (spN z1 (0 : Int) z') z' = (2 : Int) ∧ inR IntKind.i64 (spE n (spN z1 (0 : Int) z') z')) ∧ spN n (spN z1 (0 : Int) z') z' = spN z1 (0 : Int) z') ∧ (¬z' = (0 : Int) →
    (n < (0 : Int) →
    (spE n (spN z1 (0 : Int) z') z' = (1 : Int) ∧ inR IntKind.i64 (spE n (spN z1 (0 : Int) z') z')) ∧ spN n (spN z1 (0 : Int) z') z' = spN z1 (0 : Int) z') ∧ (¬n < (0 : Int) →
    ((z' = (0 : Int) →
    z' - spN z1 (0 : Int) z' = (0 : Int) ∧ inR IntKind.i64 (z' - spN z1 (0 : Int) z')) ∧ (¬z' = (0 : Int) →
    ∀ (z2 : Int), z2 = (z' - spN z1 (0 : Int) z') % (18446744073709551616 : Int) →
    inR IntKind.i64 z2 ∧ z' - spN z1 (0 : Int) z' = z2)) ∧ (z' - spN z1 (0 : Int) z' < n →
    (spE n (spN z1 (0 : Int) z') z' = (8 : Int) ∧ inR IntKind.i64 (spE n (spN z1 (0 : Int) z') z')) ∧ spN n (spN z1 (0 : Int) z') z' = spN z1 (0 : Int) z') ∧ (¬z' - spN z1 (0 : Int) z' < n →
    ∀ (z2 : Int), z2 = (spN z1 (0 : Int) z' + n % (18446744073709551616 : Int)) % (18446744073709551616 : Int) →
    (spE n (spN z1 (0 : Int) z') z' = (0 : Int) ∧ inR IntKind.i64 (spE n (spN z1 (0 : Int) z') z')) ∧ spN n (spN z1 (0 : Int) z') z' = z2)))) ∧ ((z' = (0 : Int) →
    (tkE n (tkN z1 (0 : Int) z') z' = (2 : Int) ∧ inR IntKind.i64 (tkE n (tkN z1 (0 : Int) z') z')) ∧ tkN n (tkN z1 (0 : Int) z') z' = tkN z1 (0 : Int) z') ∧ (¬z' = (0 : Int) →
    (n < (0 : Int) →
    (tkE n (tkN z1 (0 : Int) z') z' = (1 : Int) ∧ inR IntKind.i64 (tkE n (tkN z1 (0 : Int) z') z')) ∧ tkN n (tkN z1 (0 : Int) z') z' = tkN z1 (0 : Int) z') ∧ (¬n < (0 : Int) →
    ∀ (z2 : Int), z2 = (z' - tkN z1 (0 : Int) z') % (18446744073709551616 : Int) →
    (z2 < n % (18446744073709551616 : Int) →
    (tkE n (tkN z1 (0 : Int) z') z' = (7 : Int) ∧ inR IntKind.i64 (tkE n (tkN z1 (0 : Int) z') z')) ∧ tkN n (tkN z1 (0 : Int) z') z' = tkN z1 (0 : Int) z') ∧ (¬z2 < n % (18446744073709551616 : Int) →
    ∀ (z3 : Int), z3 = (tkN z1 (0 : Int) z' + n % (18446744073709551616 : Int)) % (18446744073709551616 : Int) →
    (tkE n (tkN z1 (0 : Int) z') z' = (0 : Int) ∧ inR IntKind.i64 (tkE n (tkN z1 (0 : Int) z') z')) ∧ tkN n (tkN z1 (0 : Int) z') z' = z3)))) ∧ decide (n < (0 : Int)) = false ∧ decide (z' - spN z1 (0 : Int) z' < n) = true ∧ decide (spE n (spN z1 (0 : Int) z') z' ≠ (8 : Int)) = false ∧ decide (tkE n (tkN z1 (0 : Int) z') z' ≠ (7 : Int)) = false ∧ decide (n < (0 : Int)) = false ∧ decide (z' - spN z1 (0 : Int) z' < n) = true ∧ ((z' = (0 : Int) →
    z' - spN n (spN z1 (0 : Int) z') z' = (0 : Int) ∧ inR IntKind.i64 (z' - spN n (spN z1 (0 : Int) z') z')) ∧ (¬z' = (0 : Int) →
    ∀ (z2 : Int), z2 = (z' - spN n (spN z1 (0 : Int) z') z') % (18446744073709551616 : Int) →
    inR IntKind.i64 z2 ∧ z' - spN n (spN z1 (0 : Int) z') z' = z2)) ∧ decide (z' - spN n (spN z1 (0 : Int) z') z' ≠ z' - spN z1 (0 : Int) z') = false ∧ ((z' = (0 : Int) →
    tkN n (tkN z1 (0 : Int) z') z' - (0 : Int) = (0 : Int) ∧ inR IntKind.i64 (tkN n (tkN z1 (0 : Int) z') z' - (0 : Int))) ∧ (¬z' = (0 : Int) →
    ∀ (z2 : Int), z2 = (tkN n (tkN z1 (0 : Int) z') z' - (0 : Int)) % (18446744073709551616 : Int) →
    inR IntKind.i64 z2 ∧ tkN n (tkN z1 (0 : Int) z') z' - (0 : Int) = z2)) ∧ decide (tkN n (tkN z1 (0 : Int) z') z' - (0 : Int) ≠ tkN z1 (0 : Int) z' - (0 : Int)) = false ∧ decide ((0 : Int) ≤ n) = true ∧ decide (n ≤ z' - spN z1 (0 : Int) z') = false ∧ ((z' = (0 : Int) →
    z' - spN n (spN z1 (0 : Int) z') z' = (0 : Int) ∧ inR IntKind.i64 (z' - spN n (spN z1 (0 : Int) z') z')) ∧ (¬z' = (0 : Int) →
    ∀ (z2 : Int), z2 = (z' - spN n (spN z1 (0 : Int) z') z') % (18446744073709551616 : Int) →
    inR IntKind.i64 z2 ∧ z' - spN n (spN z1 (0 : Int) z') z' = z2)) ∧ inR IntKind.i64 (z' - (z' - spN n (spN z1 (0 : Int) z') z')) ∧ ∀ (z2 : Int), z2 = z' - (z' - spN n (spN z1 (0 : Int) z') z') →
    ((z' = (0 : Int) →
    (grE t (spN n (spN z1 (0 : Int) z') z') z' = (2 : Int) ∧ inR IntKind.i64 (grE t (spN n (spN z1 (0 : Int) z') z') z')) ∧ grN t (spN n (spN z1 (0 : Int) z') z') z' z' = z') ∧ (¬z' = (0 : Int) →
    ∀ (z3 : Int), z3 = (spN n (spN z1 (0 : Int) z') z' + z') % (18446744073709551616 : Int) →
    (z3 < t →
    (grE t (spN n (spN z1 (0 : Int) z') z') z' = (24 : Int) ∧ inR IntKind.i64 (grE t (spN n (spN z1 (0 : Int) z') z') z')) ∧ grN t (spN n (spN z1 (0 : Int) z') z') z' z' = z') ∧ (¬z3 < t →
    ∀ (z4 : Int), z4 = max z' t →
    (grE t (spN n (spN z1 (0 : Int) z') z') z' = (0 : Int) ∧ inR IntKind.i64 (grE t (spN n (spN z1 (0 : Int) z') z') z')) ∧ grN t (spN n (spN z1 (0 : Int) z') z') z' z' = z4))) ∧ ∀ (z3 : Int), z3 = (z2 % (18446744073709551616 : Int) + z' % (18446744073709551616 : Int)) % (18446744073709551616 : Int) →
    (z3 < t →
    (grE t (spN n (spN z1 (0 : Int) z') z') z' = (24 : Int) →
    ((z' = (0 : Int) →
    grN t (spN n (spN z1 (0 : Int) z') z') z' z' - spN n (spN z1 (0 : Int) z') z' = (0 : Int) ∧ inR IntKind.i64 (grN t (spN n (spN z1 (0 : Int) z') z') z' z' - spN n (spN z1 (0 : Int) z') z')) ∧ (¬z' = (0 : Int) →
    ∀ (z4 : Int), z4 = (grN t (spN n (spN z1 (0 : Int) z') z') z' z' - spN n (spN z1 (0 : Int) z') z') % (18446744073709551616 : Int) →
    inR IntKind.i64 z4 ∧ grN t (spN n (spN z1 (0 : Int) z') z') z' z' - spN n (spN z1 (0 : Int) z') z' = z4)) ∧ (¬grN t (spN n (spN z1 (0 : Int) z') z') z' z' - spN n (spN z1 (0 : Int) z') z' = z' - spN n (spN z1 (0 : Int) z') z' →
    False)) ∧ (¬grE t (spN n (spN z1 (0 : Int) z') z') z' = (24 : Int) →
    False)) ∧ (¬z3 < t →
    (t ≤ z' % (18446744073709551616 : Int) →
    (grE t (spN n (spN z1 (0 : Int) z') z') z' = (0 : Int) →
    ((z' = (0 : Int) →
    grN t (spN n (spN z1 (0 : Int) z') z') z' z' - spN n (spN z1 (0 : Int) z') z' = (0 : Int) ∧ inR IntKind.i64 (grN t (spN n (spN z1 (0 : Int) z') z') z' z' - spN n (spN z1 (0 : Int) z') z')) ∧ (¬z' = (0 : Int) →
    ∀ (z4 : Int), z4 = (grN t (spN n (spN z1 (0 : Int) z') z') z' z' - spN n (spN z1 (0 : Int) z') z') % (18446744073709551616 : Int) →
    inR IntKind.i64 z4 ∧ grN t (spN n (spN z1 (0 : Int) z') z') z' z' - spN n (spN z1 (0 : Int) z') z' = z4)) ∧ (¬grN t (spN n (spN z1 (0 : Int) z') z') z' z' - spN n (spN z1 (0 : Int) z') z' = z' - spN n (spN z1 (0 : Int) z') z' →
    False)) ∧ (¬grE t (spN n (spN z1 (0 : Int) z') z') z' = (0 : Int) →
    False)) ∧ (¬t ≤ z' % (18446744073709551616 : Int) →
    (grE t (spN n (spN z1 (0 : Int) z') z') z' = (0 : Int) →
    ((z' = (0 : Int) →
    grN t (spN n (spN z1 (0 : Int) z') z') z' z' - spN n (spN z1 (0 : Int) z') z' = (0 : Int) ∧ inR IntKind.i64 (grN t (spN n (spN z1 (0 : Int) z') z') z' z' - spN n (spN z1 (0 : Int) z') z')) ∧ (¬z' = (0 : Int) →
    ∀ (z4 : Int), z4 = (grN t (spN n (spN z1 (0 : Int) z') z') z' z' - spN n (spN z1 (0 : Int) z') z') % (18446744073709551616 : Int) →
    inR IntKind.i64 z4 ∧ grN t (spN n (spN z1 (0 : Int) z') z') z' z' - spN n (spN z1 (0 : Int) z') z' = z4)) ∧ ∀ (z4 : Int), z4 = (t - z2 % (18446744073709551616 : Int)) % (18446744073709551616 : Int) →
    ¬(grN t (spN n (spN z1 (0 : Int) z') z') z' z' - spN n (spN z1 (0 : Int) z') z') % (18446744073709551616 : Int) = z4 →
    False) ∧ (¬grE t (spN n (spN z1 (0 : Int) z') z') z' = (0 : Int) →
    False)))
set_option maxRecDepth 100000 in
set_option maxHeartbeats 8000000 in
theorem crfB_of (l s n t : Int) (hS0 : crfBS l s n t) : crfB l s n t := by
  unfold crfBS at hS0
  unfold crfB
  exact (have b502 := hS0.2; ⟨hS0.1, (fun x1 => have y500 := b502 x1; (fun k2 => have y499 := y500 k2; (have a497 := y499.1; have b498 := y499.2; ⟨(have b20 := a497.2; ⟨(fun k3 => (a497.1 (of_decide_eq_true k3)).elim), (fun k4 => have y18 := b20 (of_decide_eq_false k4); (have b17 := y18.2; ⟨(fun k5 => (y18.1 (of_decide_eq_true k5)).elim), (fun k6 => have y15 := b17 (of_decide_eq_false k6); (fun x7 => have y14 := y15 x7; (fun k8 => have y13 := y14 k8; ⟨(), trivial, ⟨rfl, rfl, trivial⟩, trivial, trivial, (have b12 := y13.2; ⟨y13.1, (have b10 := b12.2; ⟨⟨rfl, b12.1⟩, b10, trivial⟩)⟩), trivial⟩)))⟩))⟩), (fun _ => (fun _ => (have a495 := b498.1; have b496 := b498.2; ⟨(have b41 := a495.2; ⟨(fun k22 => (a495.1 (of_decide_eq_true k22)).elim), (fun k23 => have y39 := b41 (of_decide_eq_false k23); (have b38 := y39.2; ⟨(fun k24 => (y39.1 (of_decide_eq_true k24)).elim), (fun k25 => have y36 := b38 (of_decide_eq_false k25); (fun x26 => have y35 := y36 x26; (fun k27 => have y34 := y35 k27; ⟨(), trivial, ⟨rfl, rfl, trivial⟩, trivial, trivial, (have b33 := y34.2; ⟨y34.1, (have b31 := b33.2; ⟨⟨rfl, b33.1⟩, (have b29 := b31.2; ⟨⟨rfl, b31.1⟩, b29, trivial⟩)⟩)⟩), ⟨rfl, rfl, rfl, trivial⟩, trivial⟩)))⟩))⟩), (fun _ => (fun _ => (fun x43 => have y494 := b496 x43; (fun k44 => have y493 := y494 k44; (have a491 := y493.1; have b492 := y493.2; ⟨(have b99 := a491.2; ⟨(fun k45 => have y50 := a491.1 (of_decide_eq_true k45); ⟨(), trivial, (have b49 := y50.2; ⟨y50.1, trivial, trivial, ⟨rfl, b49, rfl, trivial⟩, ⟨rfl, rfl, rfl, rfl, trivial⟩, trivial⟩)⟩), (fun k51 => have y97 := b99 (of_decide_eq_false k51); (have b96 := y97.2; ⟨(fun k52 => have y57 := y97.1 (of_decide_eq_true k52); ⟨(), trivial, (have b56 := y57.2; ⟨y57.1, trivial, trivial, ⟨rfl, b56, rfl, trivial⟩, ⟨rfl, rfl, rfl, rfl, trivial⟩, trivial⟩)⟩), (fun k58 => have y94 := b96 (of_decide_eq_false k58); (have a92 := y94.1; have b93 := y94.2; ⟨(have b72 := a92.2; ⟨(fun k59 => have y62 := a92.1 (of_decide_eq_true k59); ⟨(), trivial, y62, trivial, trivial, ⟨rfl, rfl, rfl, rfl, trivial⟩, ⟨rfl, rfl, rfl, trivial⟩, ⟨rfl, trivial⟩, trivial⟩), (fun k63 => have y70 := b72 (of_decide_eq_false k63); (fun x64 => have y69 := y70 x64; (fun k65 => have y68 := y69 k65; (have b67 := y68.2; ⟨y68.1, (), trivial, b67, trivial, trivial, ⟨rfl, rfl, rfl, rfl, trivial⟩, ⟨rfl, rfl, rfl, trivial⟩, ⟨rfl, trivial⟩, trivial⟩))))⟩), (fun _ => (fun _ => (have b91 := b93.2; ⟨(fun k74 => have y79 := b93.1 (of_decide_eq_true k74); ⟨(), trivial, (have b78 := y79.2; ⟨y79.1, trivial, trivial, ⟨rfl, b78, rfl, trivial⟩, ⟨rfl, rfl, rfl, rfl, trivial⟩, trivial⟩)⟩), (fun k80 => have y89 := b91 (of_decide_eq_false k80); (fun x81 => have y88 := y89 x81; (fun k82 => have y87 := y88 k82; ⟨(), trivial, (have b86 := y87.2; ⟨y87.1, trivial, trivial, ⟨rfl, b86, rfl, trivial⟩, ⟨rfl, rfl, rfl, rfl, trivial⟩, trivial⟩)⟩)))⟩)))⟩))⟩))⟩), (fun _ => (fun _ => (have b490 := b492.2; ⟨b492.1, (have a487 := b490.1; have b488 := b490.2; ⟨(have b142 := a487.2; ⟨(fun k101 => have y106 := a487.1 (of_decide_eq_true k101); ⟨(), trivial, (have b105 := y106.2; ⟨y106.1, trivial, trivial, ⟨rfl, b105, rfl, rfl, trivial⟩, ⟨rfl, rfl, rfl, trivial⟩, trivial⟩)⟩), (fun k107 => have y140 := b142 (of_decide_eq_false k107); (have b139 := y140.2; ⟨(fun k108 => have y113 := y140.1 (of_decide_eq_true k108); ⟨(), trivial, (have b112 := y113.2; ⟨y113.1, trivial, trivial, ⟨rfl, b112, rfl, rfl, trivial⟩, ⟨rfl, rfl, rfl, trivial⟩, trivial⟩)⟩), (fun k114 => have y137 := b139 (of_decide_eq_false k114); (fun x115 => have y136 := y137 x115; (fun k116 => have y135 := y136 k116; (have b134 := y135.2; ⟨(fun k117 => have y122 := y135.1 (of_decide_eq_true k117); ⟨(), trivial, (have b121 := y122.2; ⟨y122.1, trivial, trivial, ⟨rfl, b121, rfl, rfl, trivial⟩, ⟨rfl, rfl, rfl, trivial⟩, trivial⟩)⟩), (fun k123 => have y132 := b134 (of_decide_eq_false k123); (fun x124 => have y131 := y132 x124; (fun k125 => have y130 := y131 k125; ⟨(), trivial, (have b129 := y130.2; ⟨y130.1, trivial, trivial, ⟨rfl, b129, rfl, rfl, trivial⟩, ⟨rfl, rfl, rfl, trivial⟩, trivial⟩)⟩)))⟩))))⟩))⟩), (fun _ => (fun _ => (have b486 := b488.2; ⟨b488.1, (have a483 := b486.1; have b484 := b486.2; ⟨(have b157 := a483.2; ⟨(fun k144 => have y147 := a483.1 (of_decide_eq_true k144); ⟨(), trivial, y147, trivial, trivial, ⟨rfl, rfl, rfl, rfl, trivial⟩, ⟨rfl, rfl, rfl, trivial⟩, trivial⟩), (fun k148 => have y155 := b157 (of_decide_eq_false k148); (fun x149 => have y154 := y155 x149; (fun k150 => have y153 := y154 k150; (have b152 := y153.2; ⟨y153.1, (), trivial, b152, trivial, trivial, ⟨rfl, rfl, rfl, rfl, trivial⟩, ⟨rfl, rfl, rfl, trivial⟩, trivial⟩))))⟩), (fun _ => (fun _ => (have a481 := b484.1; have b482 := b484.2; ⟨(have b172 := a481.2; ⟨(fun k159 => have y162 := a481.1 (of_decide_eq_true k159); ⟨(), trivial, y162, trivial, trivial, ⟨rfl, rfl, rfl, rfl, trivial⟩, ⟨rfl, rfl, rfl, trivial⟩, trivial⟩), (fun k163 => have y170 := b172 (of_decide_eq_false k163); (fun x164 => have y169 := y170 x164; (fun k165 => have y168 := y169 k165; (have b167 := y168.2; ⟨y168.1, (), trivial, b167, trivial, trivial, ⟨rfl, rfl, rfl, rfl, trivial⟩, ⟨rfl, rfl, rfl, trivial⟩, trivial⟩))))⟩), (fun _ => (fun _ => (have a479 := b482.1; have b480 := b482.2; ⟨(have b228 := a479.2; ⟨(fun k174 => have y179 := a479.1 (of_decide_eq_true k174); ⟨(), trivial, (have b178 := y179.2; ⟨y179.1, trivial, trivial, ⟨rfl, b178, rfl, trivial⟩, ⟨rfl, rfl, rfl, rfl, trivial⟩, trivial⟩)⟩), (fun k180 => have y226 := b228 (of_decide_eq_false k180); (have b225 := y226.2; ⟨(fun k181 => have y186 := y226.1 (of_decide_eq_true k181); ⟨(), trivial, (have b185 := y186.2; ⟨y186.1, trivial, trivial, ⟨rfl, b185, rfl, trivial⟩, ⟨rfl, rfl, rfl, rfl, trivial⟩, trivial⟩)⟩), (fun k187 => have y223 := b225 (of_decide_eq_false k187); (have a221 := y223.1; have b222 := y223.2; ⟨(have b201 := a221.2; ⟨(fun k188 => have y191 := a221.1 (of_decide_eq_true k188); ⟨(), trivial, y191, trivial, trivial, ⟨rfl, rfl, rfl, rfl, trivial⟩, ⟨rfl, rfl, rfl, trivial⟩, ⟨rfl, trivial⟩, trivial⟩), (fun k192 => have y199 := b201 (of_decide_eq_false k192); (fun x193 => have y198 := y199 x193; (fun k194 => have y197 := y198 k194; (have b196 := y197.2; ⟨y197.1, (), trivial, b196, trivial, trivial, ⟨rfl, rfl, rfl, rfl, trivial⟩, ⟨rfl, rfl, rfl, trivial⟩, ⟨rfl, trivial⟩, trivial⟩))))⟩), (fun _ => (fun _ => (have b220 := b222.2; ⟨(fun k203 => have y208 := b222.1 (of_decide_eq_true k203); ⟨(), trivial, (have b207 := y208.2; ⟨y208.1, trivial, trivial, ⟨rfl, b207, rfl, trivial⟩, ⟨rfl, rfl, rfl, rfl, trivial⟩, trivial⟩)⟩), (fun k209 => have y218 := b220 (of_decide_eq_false k209); (fun x210 => have y217 := y218 x210; (fun k211 => have y216 := y217 k211; ⟨(), trivial, (have b215 := y216.2; ⟨y216.1, trivial, trivial, ⟨rfl, b215, rfl, trivial⟩, ⟨rfl, rfl, rfl, rfl, trivial⟩, trivial⟩)⟩)))⟩)))⟩))⟩))⟩), (fun _ => (fun _ => (have a477 := b480.1; have b478 := b480.2; ⟨(have b271 := a477.2; ⟨(fun k230 => have y235 := a477.1 (of_decide_eq_true k230); ⟨(), trivial, (have b234 := y235.2; ⟨y235.1, trivial, trivial, ⟨rfl, b234, rfl, rfl, trivial⟩, ⟨rfl, rfl, rfl, trivial⟩, trivial⟩)⟩), (fun k236 => have y269 := b271 (of_decide_eq_false k236); (have b268 := y269.2; ⟨(fun k237 => have y242 := y269.1 (of_decide_eq_true k237); ⟨(), trivial, (have b241 := y242.2; ⟨y242.1, trivial, trivial, ⟨rfl, b241, rfl, rfl, trivial⟩, ⟨rfl, rfl, rfl, trivial⟩, trivial⟩)⟩), (fun k243 => have y266 := b268 (of_decide_eq_false k243); (fun x244 => have y265 := y266 x244; (fun k245 => have y264 := y265 k245; (have b263 := y264.2; ⟨(fun k246 => have y251 := y264.1 (of_decide_eq_true k246); ⟨(), trivial, (have b250 := y251.2; ⟨y251.1, trivial, trivial, ⟨rfl, b250, rfl, rfl, trivial⟩, ⟨rfl, rfl, rfl, trivial⟩, trivial⟩)⟩), (fun k252 => have y261 := b263 (of_decide_eq_false k252); (fun x253 => have y260 := y261 x253; (fun k254 => have y259 := y260 k254; ⟨(), trivial, (have b258 := y259.2; ⟨y259.1, trivial, trivial, ⟨rfl, b258, rfl, rfl, trivial⟩, ⟨rfl, rfl, rfl, trivial⟩, trivial⟩)⟩)))⟩))))⟩))⟩), (fun _ => (fun _ => (have b476 := b478.2; ⟨b478.1, (have b474 := b476.2; ⟨b476.1, (have b472 := b474.2; ⟨b474.1, (have b470 := b472.2; ⟨b472.1, (have b468 := b470.2; ⟨b470.1, (have b466 := b468.2; ⟨b468.1, (have a463 := b466.1; have b464 := b466.2; ⟨(have b286 := a463.2; ⟨(fun k273 => have y276 := a463.1 (of_decide_eq_true k273); ⟨(), trivial, y276, trivial, trivial, ⟨rfl, rfl, rfl, rfl, trivial⟩, ⟨rfl, rfl, rfl, trivial⟩, trivial⟩), (fun k277 => have y284 := b286 (of_decide_eq_false k277); (fun x278 => have y283 := y284 x278; (fun k279 => have y282 := y283 k279; (have b281 := y282.2; ⟨y282.1, (), trivial, b281, trivial, trivial, ⟨rfl, rfl, rfl, rfl, trivial⟩, ⟨rfl, rfl, rfl, trivial⟩, trivial⟩))))⟩), (fun _ => (fun _ => (have b462 := b464.2; ⟨b464.1, (have a459 := b462.1; have b460 := b462.2; ⟨(have b301 := a459.2; ⟨(fun k288 => have y291 := a459.1 (of_decide_eq_true k288); ⟨(), trivial, y291, trivial, trivial, ⟨rfl, rfl, rfl, rfl, trivial⟩, ⟨rfl, rfl, rfl, trivial⟩, trivial⟩), (fun k292 => have y299 := b301 (of_decide_eq_false k292); (fun x293 => have y298 := y299 x293; (fun k294 => have y297 := y298 k294; (have b296 := y297.2; ⟨y297.1, (), trivial, b296, trivial, trivial, ⟨rfl, rfl, rfl, rfl, trivial⟩, ⟨rfl, rfl, rfl, trivial⟩, trivial⟩))))⟩), (fun _ => (fun _ => (have b458 := b460.2; ⟨b460.1, (have b456 := b458.2; ⟨b458.1, (have b454 := b456.2; ⟨b456.1, (have a451 := b454.1; have b452 := b454.2; ⟨(have b316 := a451.2; ⟨(fun k303 => have y306 := a451.1 (of_decide_eq_true k303); ⟨(), trivial, y306, trivial, trivial, ⟨rfl, rfl, rfl, rfl, trivial⟩, ⟨rfl, rfl, rfl, trivial⟩, trivial⟩), (fun k307 => have y314 := b316 (of_decide_eq_false k307); (fun x308 => have y313 := y314 x308; (fun k309 => have y312 := y313 k309; (have b311 := y312.2; ⟨y312.1, (), trivial, b311, trivial, trivial, ⟨rfl, rfl, rfl, rfl, trivial⟩, ⟨rfl, rfl, rfl, trivial⟩, trivial⟩))))⟩), (fun _ => (fun _ => (have b450 := b452.2; ⟨b452.1, (fun x318 => have y448 := b450 x318; (fun k319 => have y447 := y448 k319; (have a445 := y447.1; have b446 := y447.2; ⟨(have b351 := a445.2; ⟨(fun k320 => have y325 := a445.1 (of_decide_eq_true k320); ⟨(), trivial, (have b324 := y325.2; ⟨y325.1, trivial, trivial, ⟨rfl, rfl, b324, trivial⟩, ⟨rfl, rfl, rfl, rfl, trivial⟩, trivial⟩)⟩), (fun k326 => have y349 := b351 (of_decide_eq_false k326); (fun x327 => have y348 := y349 x327; (fun k328 => have y347 := y348 k328; (have b346 := y347.2; ⟨(fun k329 => have y334 := y347.1 (of_decide_eq_true k329); ⟨(), trivial, (have b333 := y334.2; ⟨y334.1, trivial, trivial, ⟨rfl, rfl, b333, trivial⟩, ⟨rfl, rfl, rfl, rfl, trivial⟩, trivial⟩)⟩), (fun k335 => have y344 := b346 (of_decide_eq_false k335); (fun x336 => have y343 := y344 x336; (fun k337 => have y342 := y343 k337; ⟨(), trivial, (have b341 := y342.2; ⟨y342.1, trivial, trivial, ⟨rfl, rfl, b341, trivial⟩, ⟨rfl, rfl, rfl, rfl, trivial⟩, trivial⟩)⟩)))⟩))))⟩), (fun _ => (fun _ => (fun x353 => have y444 := b446 x353; (fun k354 => have y443 := y444 k354; (have b442 := y443.2; ⟨(fun k355 => have y380 := y443.1 (of_decide_eq_true k355); (have b379 := y380.2; ⟨(fun k356 => have y376 := y380.1 (of_decide_eq_true k356); (have a374 := y376.1; have b375 := y376.2; ⟨(have b370 := a374.2; ⟨(fun k357 => have y360 := a374.1 (of_decide_eq_true k357); ⟨(), trivial, y360, trivial, trivial, ⟨rfl, rfl, rfl, rfl, trivial⟩, ⟨rfl, rfl, rfl, trivial⟩, trivial⟩), (fun k361 => have y368 := b370 (of_decide_eq_false k361); (fun x362 => have y367 := y368 x362; (fun k363 => have y366 := y367 k363; (have b365 := y366.2; ⟨y366.1, (), trivial, b365, trivial, trivial, ⟨rfl, rfl, rfl, rfl, trivial⟩, ⟨rfl, rfl, rfl, trivial⟩, trivial⟩))))⟩), (fun _ => (fun _ => ⟨(fun _ => rfl), (fun k373 => (b375 (of_decide_eq_false k373)).elim)⟩))⟩)), (fun k377 => (b379 (of_decide_eq_false k377)).elim)⟩)), (fun k381 => have y440 := b442 (of_decide_eq_false k381); (have b439 := y440.2; ⟨(fun k382 => have y407 := y440.1 (of_decide_eq_true k382); (have b406 := y407.2; ⟨(fun k383 => have y403 := y407.1 (of_decide_eq_true k383); (have a401 := y403.1; have b402 := y403.2; ⟨(have b397 := a401.2; ⟨(fun k384 => have y387 := a401.1 (of_decide_eq_true k384); ⟨(), trivial, y387, trivial, trivial, ⟨rfl, rfl, rfl, rfl, trivial⟩, ⟨rfl, rfl, rfl, trivial⟩, trivial⟩), (fun k388 => have y395 := b397 (of_decide_eq_false k388); (fun x389 => have y394 := y395 x389; (fun k390 => have y393 := y394 k390; (have b392 := y393.2; ⟨y393.1, (), trivial, b392, trivial, trivial, ⟨rfl, rfl, rfl, rfl, trivial⟩, ⟨rfl, rfl, rfl, trivial⟩, trivial⟩))))⟩), (fun _ => (fun _ => ⟨(fun _ => rfl), (fun k400 => (b402 (of_decide_eq_false k400)).elim)⟩))⟩)), (fun k404 => (b406 (of_decide_eq_false k404)).elim)⟩)), (fun k408 => have y437 := b439 (of_decide_eq_false k408); (have b436 := y437.2; ⟨(fun k409 => have y433 := y437.1 (of_decide_eq_true k409); (have a431 := y433.1; have b432 := y433.2; ⟨(have b423 := a431.2; ⟨(fun k410 => have y413 := a431.1 (of_decide_eq_true k410); ⟨(), trivial, y413, trivial, trivial, ⟨rfl, rfl, rfl, rfl, trivial⟩, ⟨rfl, rfl, rfl, trivial⟩, trivial⟩), (fun k414 => have y421 := b423 (of_decide_eq_false k414); (fun x415 => have y420 := y421 x415; (fun k416 => have y419 := y420 k416; (have b418 := y419.2; ⟨y419.1, (), trivial, b418, trivial, trivial, ⟨rfl, rfl, rfl, rfl, trivial⟩, ⟨rfl, rfl, rfl, trivial⟩, trivial⟩))))⟩), (fun _ => (fun _ => (fun x425 => have y430 := b432 x425; (fun k426 => have y429 := y430 k426; ⟨(fun _ => rfl), (fun k428 => (y429 (of_decide_eq_false k428)).elim)⟩))))⟩)), (fun k434 => (b436 (of_decide_eq_false k434)).elim)⟩))⟩))⟩)))))⟩)))⟩)))⟩)⟩)⟩)⟩)))⟩)⟩)))⟩)⟩)⟩)⟩)⟩)⟩)⟩)))⟩)))⟩)))⟩)))⟩)⟩)))⟩)⟩)))⟩)))))⟩)))⟩)))⟩)
set_option maxRecDepth 100000 in
set_option maxHeartbeats 8000000 in
def crfC (l s n t : Int) : Prop :=
    inR IntKind.i64 ((1 : Int) + l) ∧ ∀ (z' : Int), z' = (1 : Int) + l →
    ((decide (z' < (1 : Int)) = true →
    ExT Unit fun z => True ∧ (False ∧ (0 : Int) = (1 : Int) ∧ True) ∧ True ∧ True ∧ False ∧ True) ∧ (decide (z' < (1 : Int)) = false →
    (decide ((8192 : Int) < z') = true →
    ExT Unit fun z => True ∧ (False ∧ (0 : Int) = (1 : Int) ∧ True) ∧ True ∧ True ∧ False ∧ True) ∧ (decide ((8192 : Int) < z') = false →
    ∀ (z1 : Int), z1 = ((0 : Int) + z' % (18446744073709551616 : Int)) % (18446744073709551616 : Int) →
    ExT Unit fun z => True ∧ ((0 : Nat) = 0 ∧ (0 : Int) = (0 : Int) ∧ True) ∧ True ∧ True ∧ (z' = z' % (18446744073709551616 : Int) ∧ ((0 : Int) = (0 : Int) ∧ inR IntKind.u64 (0 : Int)) ∧ z' = z1 ∧ True) ∧ True))) ∧ ∀ (z : Unit), True →
    ((decide (z' < (1 : Int)) = true →
    ExT Unit fun z => True ∧ (False ∧ (0 : Int) = (1 : Int) ∧ True) ∧ True ∧ True ∧ False ∧ (z' = z' ∧ (0 : Int) = (0 : Int) ∧ z' = z' ∧ True) ∧ True) ∧ (decide (z' < (1 : Int)) = false →
    (decide ((8192 : Int) < z') = true →
    ExT Unit fun z => True ∧ (False ∧ (0 : Int) = (1 : Int) ∧ True) ∧ True ∧ True ∧ False ∧ (z' = z' ∧ (0 : Int) = (0 : Int) ∧ z' = z' ∧ True) ∧ True) ∧ (decide ((8192 : Int) < z') = false →
    ∀ (z1 : Int), z1 = ((0 : Int) + z' % (18446744073709551616 : Int)) % (18446744073709551616 : Int) →
    ExT Unit fun z => True ∧ ((0 : Nat) = 0 ∧ (0 : Int) = (0 : Int) ∧ True) ∧ True ∧ True ∧ (z' = z' % (18446744073709551616 : Int) ∧ ((0 : Int) = (0 : Int) ∧ inR IntKind.u64 (0 : Int)) ∧ ((0 : Int) = (0 : Int) ∧ inR IntKind.u64 (0 : Int)) ∧ z' = z1 ∧ True) ∧ (z' = z' ∧ (0 : Int) = (0 : Int) ∧ z' = z' ∧ True) ∧ True))) ∧ ∀ (z : Unit), True →
    ∀ (z1 : Int), z1 = min s z' →
    ((decide (z' = (0 : Int)) = true →
    ExT Unit fun z => True ∧ (spE z1 (0 : Int) z' = (2 : Int) ∧ inR IntKind.i64 (spE z1 (0 : Int) z')) ∧ True ∧ True ∧ (z' = z' ∧ spN z1 (0 : Int) z' = (0 : Int) ∧ z' = z' ∧ True) ∧ (z' = z' ∧ (0 : Int) = (0 : Int) ∧ (0 : Int) = (0 : Int) ∧ z' = z' ∧ True) ∧ True) ∧ (decide (z' = (0 : Int)) = false →
    (decide (z1 < (0 : Int)) = true →
    ExT Unit fun z => True ∧ (spE z1 (0 : Int) z' = (1 : Int) ∧ inR IntKind.i64 (spE z1 (0 : Int) z')) ∧ True ∧ True ∧ (z' = z' ∧ spN z1 (0 : Int) z' = (0 : Int) ∧ z' = z' ∧ True) ∧ (z' = z' ∧ (0 : Int) = (0 : Int) ∧ (0 : Int) = (0 : Int) ∧ z' = z' ∧ True) ∧ True) ∧ (decide (z1 < (0 : Int)) = false →
    ((decide (z' = (0 : Int)) = true →
    ExT Unit fun z => True ∧ (z' - (0 : Int) = (0 : Int) ∧ inR IntKind.i64 (z' - (0 : Int))) ∧ True ∧ True ∧ (z' = z' ∧ (0 : Int) = (0 : Int) ∧ (0 : Int) = (0 : Int) ∧ z' = z' ∧ True) ∧ (z' = z' ∧ (0 : Int) = (0 : Int) ∧ z' = z' ∧ True) ∧ (z' = z' ∧ True) ∧ True) ∧ (decide (z' = (0 : Int)) = false →
    ∀ (z2 : Int), z2 = (z' - (0 : Int)) % (18446744073709551616 : Int) →
    inR IntKind.i64 z2 ∧ ExT Unit fun z => True ∧ z' - (0 : Int) = z2 ∧ True ∧ True ∧ (z' = z' ∧ (0 : Int) = (0 : Int) ∧ (0 : Int) = (0 : Int) ∧ z' = z' ∧ True) ∧ (z' = z' ∧ (0 : Int) = (0 : Int) ∧ z' = z' ∧ True) ∧ (z' = z' ∧ True) ∧ True)) ∧ ∀ (z : Unit), True →
    (decide (z' - (0 : Int) < z1) = true →
    ExT Unit fun z => True ∧ (spE z1 (0 : Int) z' = (8 : Int) ∧ inR IntKind.i64 (spE z1 (0 : Int) z')) ∧ True ∧ True ∧ (z' = z' ∧ spN z1 (0 : Int) z' = (0 : Int) ∧ z' = z' ∧ True) ∧ (z' = z' ∧ (0 : Int) = (0 : Int) ∧ (0 : Int) = (0 : Int) ∧ z' = z' ∧ True) ∧ True) ∧ (decide (z' - (0 : Int) < z1) = false →
    ∀ (z2 : Int), z2 = ((0 : Int) + z1 % (18446744073709551616 : Int)) % (18446744073709551616 : Int) →
    ExT Unit fun z => True ∧ (spE z1 (0 : Int) z' = (0 : Int) ∧ inR IntKind.i64 (spE z1 (0 : Int) z')) ∧ True ∧ True ∧ (z' = z' ∧ spN z1 (0 : Int) z' = z2 ∧ z' = z' ∧ True) ∧ (z' = z' ∧ (0 : Int) = (0 : Int) ∧ (0 : Int) = (0 : Int) ∧ z' = z' ∧ True) ∧ True)))) ∧ ∀ (z : Unit), True →
    decide (spE z1 (0 : Int) z' ≠ (0 : Int)) = false ∧ ((decide (z' = (0 : Int)) = true →
    ExT Unit fun z => True ∧ (tkE z1 (0 : Int) z' = (2 : Int) ∧ inR IntKind.i64 (tkE z1 (0 : Int) z')) ∧ True ∧ True ∧ (z' = z' ∧ tkN z1 (0 : Int) z' = (0 : Int) ∧ (0 : Int) = (0 : Int) ∧ z' = z' ∧ True) ∧ (z' = z' ∧ spN z1 (0 : Int) z' = spN z1 (0 : Int) z' ∧ z' = z' ∧ True) ∧ True) ∧ (decide (z' = (0 : Int)) = false →
    (decide (z1 < (0 : Int)) = true →
    ExT Unit fun z => True ∧ (tkE z1 (0 : Int) z' = (1 : Int) ∧ inR IntKind.i64 (tkE z1 (0 : Int) z')) ∧ True ∧ True ∧ (z' = z' ∧ tkN z1 (0 : Int) z' = (0 : Int) ∧ (0 : Int) = (0 : Int) ∧ z' = z' ∧ True) ∧ (z' = z' ∧ spN z1 (0 : Int) z' = spN z1 (0 : Int) z' ∧ z' = z' ∧ True) ∧ True) ∧ (decide (z1 < (0 : Int)) = false →
    ∀ (z2 : Int), z2 = (z' - (0 : Int)) % (18446744073709551616 : Int) →
    (decide (z2 < z1 % (18446744073709551616 : Int)) = true →
    ExT Unit fun z => True ∧ (tkE z1 (0 : Int) z' = (7 : Int) ∧ inR IntKind.i64 (tkE z1 (0 : Int) z')) ∧ True ∧ True ∧ (z' = z' ∧ tkN z1 (0 : Int) z' = (0 : Int) ∧ (0 : Int) = (0 : Int) ∧ z' = z' ∧ True) ∧ (z' = z' ∧ spN z1 (0 : Int) z' = spN z1 (0 : Int) z' ∧ z' = z' ∧ True) ∧ True) ∧ (decide (z2 < z1 % (18446744073709551616 : Int)) = false →
    ∀ (z3 : Int), z3 = ((0 : Int) + z1 % (18446744073709551616 : Int)) % (18446744073709551616 : Int) →
    ExT Unit fun z => True ∧ (tkE z1 (0 : Int) z' = (0 : Int) ∧ inR IntKind.i64 (tkE z1 (0 : Int) z')) ∧ True ∧ True ∧ (z' = z' ∧ tkN z1 (0 : Int) z' = z3 ∧ (0 : Int) = (0 : Int) ∧ z' = z' ∧ True) ∧ (z' = z' ∧ spN z1 (0 : Int) z' = spN z1 (0 : Int) z' ∧ z' = z' ∧ True) ∧ True)))) ∧ ∀ (z : Unit), True →
    decide (tkE z1 (0 : Int) z' ≠ (0 : Int)) = false ∧ ((decide (z' = (0 : Int)) = true →
    ExT Unit fun z => True ∧ (z' - spN z1 (0 : Int) z' = (0 : Int) ∧ inR IntKind.i64 (z' - spN z1 (0 : Int) z')) ∧ True ∧ True ∧ (z' = z' ∧ tkN z1 (0 : Int) z' = tkN z1 (0 : Int) z' ∧ (0 : Int) = (0 : Int) ∧ z' = z' ∧ True) ∧ (z' = z' ∧ spN z1 (0 : Int) z' = spN z1 (0 : Int) z' ∧ z' = z' ∧ True) ∧ True) ∧ (decide (z' = (0 : Int)) = false →
    ∀ (z2 : Int), z2 = (z' - spN z1 (0 : Int) z') % (18446744073709551616 : Int) →
    inR IntKind.i64 z2 ∧ ExT Unit fun z => True ∧ z' - spN z1 (0 : Int) z' = z2 ∧ True ∧ True ∧ (z' = z' ∧ tkN z1 (0 : Int) z' = tkN z1 (0 : Int) z' ∧ (0 : Int) = (0 : Int) ∧ z' = z' ∧ True) ∧ (z' = z' ∧ spN z1 (0 : Int) z' = spN z1 (0 : Int) z' ∧ z' = z' ∧ True) ∧ True)) ∧ ∀ (z : Unit), True →
    ((decide (z' = (0 : Int)) = true →
    ExT Unit fun z => True ∧ (tkN z1 (0 : Int) z' - (0 : Int) = (0 : Int) ∧ inR IntKind.i64 (tkN z1 (0 : Int) z' - (0 : Int))) ∧ True ∧ True ∧ (z' = z' ∧ tkN z1 (0 : Int) z' = tkN z1 (0 : Int) z' ∧ (0 : Int) = (0 : Int) ∧ z' = z' ∧ True) ∧ (z' = z' ∧ spN z1 (0 : Int) z' = spN z1 (0 : Int) z' ∧ z' = z' ∧ True) ∧ True) ∧ (decide (z' = (0 : Int)) = false →
    ∀ (z2 : Int), z2 = (tkN z1 (0 : Int) z' - (0 : Int)) % (18446744073709551616 : Int) →
    inR IntKind.i64 z2 ∧ ExT Unit fun z => True ∧ tkN z1 (0 : Int) z' - (0 : Int) = z2 ∧ True ∧ True ∧ (z' = z' ∧ tkN z1 (0 : Int) z' = tkN z1 (0 : Int) z' ∧ (0 : Int) = (0 : Int) ∧ z' = z' ∧ True) ∧ (z' = z' ∧ spN z1 (0 : Int) z' = spN z1 (0 : Int) z' ∧ z' = z' ∧ True) ∧ True)) ∧ ∀ (z : Unit), True →
    ((decide (z' = (0 : Int)) = true →
    ExT Unit fun z => True ∧ (spE n (spN z1 (0 : Int) z') z' = (2 : Int) ∧ inR IntKind.i64 (spE n (spN z1 (0 : Int) z') z')) ∧ True ∧ True ∧ (z' = z' ∧ spN n (spN z1 (0 : Int) z') z' = spN z1 (0 : Int) z' ∧ z' = z' ∧ True) ∧ (z' = z' ∧ tkN z1 (0 : Int) z' = tkN z1 (0 : Int) z' ∧ (0 : Int) = (0 : Int) ∧ z' = z' ∧ True) ∧ True) ∧ (decide (z' = (0 : Int)) = false →
    (decide (n < (0 : Int)) = true →
    ExT Unit fun z => True ∧ (spE n (spN z1 (0 : Int) z') z' = (1 : Int) ∧ inR IntKind.i64 (spE n (spN z1 (0 : Int) z') z')) ∧ True ∧ True ∧ (z' = z' ∧ spN n (spN z1 (0 : Int) z') z' = spN z1 (0 : Int) z' ∧ z' = z' ∧ True) ∧ (z' = z' ∧ tkN z1 (0 : Int) z' = tkN z1 (0 : Int) z' ∧ (0 : Int) = (0 : Int) ∧ z' = z' ∧ True) ∧ True) ∧ (decide (n < (0 : Int)) = false →
    ((decide (z' = (0 : Int)) = true →
    ExT Unit fun z => True ∧ (z' - spN z1 (0 : Int) z' = (0 : Int) ∧ inR IntKind.i64 (z' - spN z1 (0 : Int) z')) ∧ True ∧ True ∧ (z' = z' ∧ tkN z1 (0 : Int) z' = tkN z1 (0 : Int) z' ∧ (0 : Int) = (0 : Int) ∧ z' = z' ∧ True) ∧ (z' = z' ∧ spN z1 (0 : Int) z' = spN z1 (0 : Int) z' ∧ z' = z' ∧ True) ∧ (z' = z' ∧ True) ∧ True) ∧ (decide (z' = (0 : Int)) = false →
    ∀ (z2 : Int), z2 = (z' - spN z1 (0 : Int) z') % (18446744073709551616 : Int) →
    inR IntKind.i64 z2 ∧ ExT Unit fun z => True ∧ z' - spN z1 (0 : Int) z' = z2 ∧ True ∧ True ∧ (z' = z' ∧ tkN z1 (0 : Int) z' = tkN z1 (0 : Int) z' ∧ (0 : Int) = (0 : Int) ∧ z' = z' ∧ True) ∧ (z' = z' ∧ spN z1 (0 : Int) z' = spN z1 (0 : Int) z' ∧ z' = z' ∧ True) ∧ (z' = z' ∧ True) ∧ True)) ∧ ∀ (z : Unit), True →
    (decide (z' - spN z1 (0 : Int) z' < n) = true →
    ExT Unit fun z => True ∧ (spE n (spN z1 (0 : Int) z') z' = (8 : Int) ∧ inR IntKind.i64 (spE n (spN z1 (0 : Int) z') z')) ∧ True ∧ True ∧ (z' = z' ∧ spN n (spN z1 (0 : Int) z') z' = spN z1 (0 : Int) z' ∧ z' = z' ∧ True) ∧ (z' = z' ∧ tkN z1 (0 : Int) z' = tkN z1 (0 : Int) z' ∧ (0 : Int) = (0 : Int) ∧ z' = z' ∧ True) ∧ True) ∧ (decide (z' - spN z1 (0 : Int) z' < n) = false →
    ∀ (z2 : Int), z2 = (spN z1 (0 : Int) z' + n % (18446744073709551616 : Int)) % (18446744073709551616 : Int) →
    ExT Unit fun z => True ∧ (spE n (spN z1 (0 : Int) z') z' = (0 : Int) ∧ inR IntKind.i64 (spE n (spN z1 (0 : Int) z') z')) ∧ True ∧ True ∧ (z' = z' ∧ spN n (spN z1 (0 : Int) z') z' = z2 ∧ z' = z' ∧ True) ∧ (z' = z' ∧ tkN z1 (0 : Int) z' = tkN z1 (0 : Int) z' ∧ (0 : Int) = (0 : Int) ∧ z' = z' ∧ True) ∧ True)))) ∧ ∀ (z : Unit), True →
    ((decide (z' = (0 : Int)) = true →
    ExT Unit fun z => True ∧ (tkE n (tkN z1 (0 : Int) z') z' = (2 : Int) ∧ inR IntKind.i64 (tkE n (tkN z1 (0 : Int) z') z')) ∧ True ∧ True ∧ (z' = z' ∧ tkN n (tkN z1 (0 : Int) z') z' = tkN z1 (0 : Int) z' ∧ (0 : Int) = (0 : Int) ∧ z' = z' ∧ True) ∧ (z' = z' ∧ spN n (spN z1 (0 : Int) z') z' = spN n (spN z1 (0 : Int) z') z' ∧ z' = z' ∧ True) ∧ True) ∧ (decide (z' = (0 : Int)) = false →
    (decide (n < (0 : Int)) = true →
    ExT Unit fun z => True ∧ (tkE n (tkN z1 (0 : Int) z') z' = (1 : Int) ∧ inR IntKind.i64 (tkE n (tkN z1 (0 : Int) z') z')) ∧ True ∧ True ∧ (z' = z' ∧ tkN n (tkN z1 (0 : Int) z') z' = tkN z1 (0 : Int) z' ∧ (0 : Int) = (0 : Int) ∧ z' = z' ∧ True) ∧ (z' = z' ∧ spN n (spN z1 (0 : Int) z') z' = spN n (spN z1 (0 : Int) z') z' ∧ z' = z' ∧ True) ∧ True) ∧ (decide (n < (0 : Int)) = false →
    ∀ (z2 : Int), z2 = (z' - tkN z1 (0 : Int) z') % (18446744073709551616 : Int) →
    (decide (z2 < n % (18446744073709551616 : Int)) = true →
    ExT Unit fun z => True ∧ (tkE n (tkN z1 (0 : Int) z') z' = (7 : Int) ∧ inR IntKind.i64 (tkE n (tkN z1 (0 : Int) z') z')) ∧ True ∧ True ∧ (z' = z' ∧ tkN n (tkN z1 (0 : Int) z') z' = tkN z1 (0 : Int) z' ∧ (0 : Int) = (0 : Int) ∧ z' = z' ∧ True) ∧ (z' = z' ∧ spN n (spN z1 (0 : Int) z') z' = spN n (spN z1 (0 : Int) z') z' ∧ z' = z' ∧ True) ∧ True) ∧ (decide (z2 < n % (18446744073709551616 : Int)) = false →
    ∀ (z3 : Int), z3 = (tkN z1 (0 : Int) z' + n % (18446744073709551616 : Int)) % (18446744073709551616 : Int) →
    ExT Unit fun z => True ∧ (tkE n (tkN z1 (0 : Int) z') z' = (0 : Int) ∧ inR IntKind.i64 (tkE n (tkN z1 (0 : Int) z') z')) ∧ True ∧ True ∧ (z' = z' ∧ tkN n (tkN z1 (0 : Int) z') z' = z3 ∧ (0 : Int) = (0 : Int) ∧ z' = z' ∧ True) ∧ (z' = z' ∧ spN n (spN z1 (0 : Int) z') z' = spN n (spN z1 (0 : Int) z') z' ∧ z' = z' ∧ True) ∧ True)))) ∧ ∀ (z : Unit), True →
    decide (n < (0 : Int)) = false ∧ decide (z' - spN z1 (0 : Int) z' < n) = false ∧ decide (n < (0 : Int)) = false ∧ decide (z' - spN z1 (0 : Int) z' < n) = false ∧ decide ((0 : Int) ≤ n) = true ∧ decide (n ≤ z' - spN z1 (0 : Int) z') = true ∧ decide (spE n (spN z1 (0 : Int) z') z' ≠ (0 : Int)) = false ∧ decide (tkE n (tkN z1 (0 : Int) z') z' ≠ (0 : Int)) = false ∧ ((decide (z' = (0 : Int)) = true →
    ExT Unit fun z => True ∧ (z' - spN n (spN z1 (0 : Int) z') z' = (0 : Int) ∧ inR IntKind.i64 (z' - spN n (spN z1 (0 : Int) z') z')) ∧ True ∧ True ∧ (z' = z' ∧ tkN n (tkN z1 (0 : Int) z') z' = tkN n (tkN z1 (0 : Int) z') z' ∧ (0 : Int) = (0 : Int) ∧ z' = z' ∧ True) ∧ (z' = z' ∧ spN n (spN z1 (0 : Int) z') z' = spN n (spN z1 (0 : Int) z') z' ∧ z' = z' ∧ True) ∧ True) ∧ (decide (z' = (0 : Int)) = false →
    ∀ (z2 : Int), z2 = (z' - spN n (spN z1 (0 : Int) z') z') % (18446744073709551616 : Int) →
    inR IntKind.i64 z2 ∧ ExT Unit fun z => True ∧ z' - spN n (spN z1 (0 : Int) z') z' = z2 ∧ True ∧ True ∧ (z' = z' ∧ tkN n (tkN z1 (0 : Int) z') z' = tkN n (tkN z1 (0 : Int) z') z' ∧ (0 : Int) = (0 : Int) ∧ z' = z' ∧ True) ∧ (z' = z' ∧ spN n (spN z1 (0 : Int) z') z' = spN n (spN z1 (0 : Int) z') z' ∧ z' = z' ∧ True) ∧ True)) ∧ ∀ (z : Unit), True →
    inR IntKind.i64 (z' - spN z1 (0 : Int) z' - n) ∧ ∀ (z2 : Int), z2 = z' - spN z1 (0 : Int) z' - n →
    decide (z' - spN n (spN z1 (0 : Int) z') z' ≠ z2) = false ∧ ((decide (z' = (0 : Int)) = true →
    ExT Unit fun z => True ∧ (tkN n (tkN z1 (0 : Int) z') z' - (0 : Int) = (0 : Int) ∧ inR IntKind.i64 (tkN n (tkN z1 (0 : Int) z') z' - (0 : Int))) ∧ True ∧ True ∧ (z' = z' ∧ tkN n (tkN z1 (0 : Int) z') z' = tkN n (tkN z1 (0 : Int) z') z' ∧ (0 : Int) = (0 : Int) ∧ z' = z' ∧ True) ∧ (z' = z' ∧ spN n (spN z1 (0 : Int) z') z' = spN n (spN z1 (0 : Int) z') z' ∧ z' = z' ∧ True) ∧ True) ∧ (decide (z' = (0 : Int)) = false →
    ∀ (z3 : Int), z3 = (tkN n (tkN z1 (0 : Int) z') z' - (0 : Int)) % (18446744073709551616 : Int) →
    inR IntKind.i64 z3 ∧ ExT Unit fun z => True ∧ tkN n (tkN z1 (0 : Int) z') z' - (0 : Int) = z3 ∧ True ∧ True ∧ (z' = z' ∧ tkN n (tkN z1 (0 : Int) z') z' = tkN n (tkN z1 (0 : Int) z') z' ∧ (0 : Int) = (0 : Int) ∧ z' = z' ∧ True) ∧ (z' = z' ∧ spN n (spN z1 (0 : Int) z') z' = spN n (spN z1 (0 : Int) z') z' ∧ z' = z' ∧ True) ∧ True)) ∧ ∀ (z : Unit), True →
    inR IntKind.i64 (tkN z1 (0 : Int) z' - (0 : Int) + n) ∧ ∀ (z3 : Int), z3 = tkN z1 (0 : Int) z' - (0 : Int) + n →
    decide (tkN n (tkN z1 (0 : Int) z') z' - (0 : Int) ≠ z3) = false ∧ ((decide (z' = (0 : Int)) = true →
    ExT Unit fun z => True ∧ (z' - spN n (spN z1 (0 : Int) z') z' = (0 : Int) ∧ inR IntKind.i64 (z' - spN n (spN z1 (0 : Int) z') z')) ∧ True ∧ True ∧ (z' = z' ∧ tkN n (tkN z1 (0 : Int) z') z' = tkN n (tkN z1 (0 : Int) z') z' ∧ (0 : Int) = (0 : Int) ∧ z' = z' ∧ True) ∧ (z' = z' ∧ spN n (spN z1 (0 : Int) z') z' = spN n (spN z1 (0 : Int) z') z' ∧ z' = z' ∧ True) ∧ True) ∧ (decide (z' = (0 : Int)) = false →
    ∀ (z4 : Int), z4 = (z' - spN n (spN z1 (0 : Int) z') z') % (18446744073709551616 : Int) →
    inR IntKind.i64 z4 ∧ ExT Unit fun z => True ∧ z' - spN n (spN z1 (0 : Int) z') z' = z4 ∧ True ∧ True ∧ (z' = z' ∧ tkN n (tkN z1 (0 : Int) z') z' = tkN n (tkN z1 (0 : Int) z') z' ∧ (0 : Int) = (0 : Int) ∧ z' = z' ∧ True) ∧ (z' = z' ∧ spN n (spN z1 (0 : Int) z') z' = spN n (spN z1 (0 : Int) z') z' ∧ z' = z' ∧ True) ∧ True)) ∧ ∀ (z : Unit), True →
    inR IntKind.i64 (z' - (z' - spN n (spN z1 (0 : Int) z') z')) ∧ ∀ (z4 : Int), z4 = z' - (z' - spN n (spN z1 (0 : Int) z') z') →
    ((decide (z' = (0 : Int)) = true →
    ExT Unit fun z => True ∧ (grE t (spN n (spN z1 (0 : Int) z') z') z' = (2 : Int) ∧ inR IntKind.i64 (grE t (spN n (spN z1 (0 : Int) z') z') z')) ∧ True ∧ True ∧ (z' = z' ∧ spN n (spN z1 (0 : Int) z') z' = spN n (spN z1 (0 : Int) z') z' ∧ grN t (spN n (spN z1 (0 : Int) z') z') z' z' = z' ∧ True) ∧ (z' = z' ∧ tkN n (tkN z1 (0 : Int) z') z' = tkN n (tkN z1 (0 : Int) z') z' ∧ (0 : Int) = (0 : Int) ∧ z' = z' ∧ True) ∧ True) ∧ (decide (z' = (0 : Int)) = false →
    ∀ (z5 : Int), z5 = (spN n (spN z1 (0 : Int) z') z' + z') % (18446744073709551616 : Int) →
    (decide (z5 < t) = true →
    ExT Unit fun z => True ∧ (grE t (spN n (spN z1 (0 : Int) z') z') z' = (24 : Int) ∧ inR IntKind.i64 (grE t (spN n (spN z1 (0 : Int) z') z') z')) ∧ True ∧ True ∧ (z' = z' ∧ spN n (spN z1 (0 : Int) z') z' = spN n (spN z1 (0 : Int) z') z' ∧ grN t (spN n (spN z1 (0 : Int) z') z') z' z' = z' ∧ True) ∧ (z' = z' ∧ tkN n (tkN z1 (0 : Int) z') z' = tkN n (tkN z1 (0 : Int) z') z' ∧ (0 : Int) = (0 : Int) ∧ z' = z' ∧ True) ∧ True) ∧ (decide (z5 < t) = false →
    ∀ (z6 : Int), z6 = max z' t →
    ExT Unit fun z => True ∧ (grE t (spN n (spN z1 (0 : Int) z') z') z' = (0 : Int) ∧ inR IntKind.i64 (grE t (spN n (spN z1 (0 : Int) z') z') z')) ∧ True ∧ True ∧ (z' = z' ∧ spN n (spN z1 (0 : Int) z') z' = spN n (spN z1 (0 : Int) z') z' ∧ grN t (spN n (spN z1 (0 : Int) z') z') z' z' = z6 ∧ True) ∧ (z' = z' ∧ tkN n (tkN z1 (0 : Int) z') z' = tkN n (tkN z1 (0 : Int) z') z' ∧ (0 : Int) = (0 : Int) ∧ z' = z' ∧ True) ∧ True))) ∧ ∀ (z : Unit), True →
    ∀ (z5 : Int), z5 = (z4 % (18446744073709551616 : Int) + z' % (18446744073709551616 : Int)) % (18446744073709551616 : Int) →
    (decide (z5 < t) = true →
    (decide (grE t (spN n (spN z1 (0 : Int) z') z') z' = (24 : Int)) = true →
    ((decide (z' = (0 : Int)) = true →
    ExT Unit fun z => True ∧ (grN t (spN n (spN z1 (0 : Int) z') z') z' z' - spN n (spN z1 (0 : Int) z') z' = (0 : Int) ∧ inR IntKind.i64 (grN t (spN n (spN z1 (0 : Int) z') z') z' z' - spN n (spN z1 (0 : Int) z') z')) ∧ True ∧ True ∧ (z' = z' ∧ tkN n (tkN z1 (0 : Int) z') z' = tkN n (tkN z1 (0 : Int) z') z' ∧ (0 : Int) = (0 : Int) ∧ z' = z' ∧ True) ∧ (z' = z' ∧ spN n (spN z1 (0 : Int) z') z' = spN n (spN z1 (0 : Int) z') z' ∧ grN t (spN n (spN z1 (0 : Int) z') z') z' z' = grN t (spN n (spN z1 (0 : Int) z') z') z' z' ∧ True) ∧ True) ∧ (decide (z' = (0 : Int)) = false →
    ∀ (z6 : Int), z6 = (grN t (spN n (spN z1 (0 : Int) z') z') z' z' - spN n (spN z1 (0 : Int) z') z') % (18446744073709551616 : Int) →
    inR IntKind.i64 z6 ∧ ExT Unit fun z => True ∧ grN t (spN n (spN z1 (0 : Int) z') z') z' z' - spN n (spN z1 (0 : Int) z') z' = z6 ∧ True ∧ True ∧ (z' = z' ∧ tkN n (tkN z1 (0 : Int) z') z' = tkN n (tkN z1 (0 : Int) z') z' ∧ (0 : Int) = (0 : Int) ∧ z' = z' ∧ True) ∧ (z' = z' ∧ spN n (spN z1 (0 : Int) z') z' = spN n (spN z1 (0 : Int) z') z' ∧ grN t (spN n (spN z1 (0 : Int) z') z') z' z' = grN t (spN n (spN z1 (0 : Int) z') z') z' z' ∧ True) ∧ True)) ∧ ∀ (z : Unit), True →
    (decide (grN t (spN n (spN z1 (0 : Int) z') z') z' z' - spN n (spN z1 (0 : Int) z') z' = z' - spN n (spN z1 (0 : Int) z') z') = true →
    true = true) ∧ (decide (grN t (spN n (spN z1 (0 : Int) z') z') z' z' - spN n (spN z1 (0 : Int) z') z' = z' - spN n (spN z1 (0 : Int) z') z') = false →
    false = true)) ∧ (decide (grE t (spN n (spN z1 (0 : Int) z') z') z' = (24 : Int)) = false →
    false = true)) ∧ (decide (z5 < t) = false →
    (decide (t ≤ z' % (18446744073709551616 : Int)) = true →
    (decide (grE t (spN n (spN z1 (0 : Int) z') z') z' = (0 : Int)) = true →
    ((decide (z' = (0 : Int)) = true →
    ExT Unit fun z => True ∧ (grN t (spN n (spN z1 (0 : Int) z') z') z' z' - spN n (spN z1 (0 : Int) z') z' = (0 : Int) ∧ inR IntKind.i64 (grN t (spN n (spN z1 (0 : Int) z') z') z' z' - spN n (spN z1 (0 : Int) z') z')) ∧ True ∧ True ∧ (z' = z' ∧ tkN n (tkN z1 (0 : Int) z') z' = tkN n (tkN z1 (0 : Int) z') z' ∧ (0 : Int) = (0 : Int) ∧ z' = z' ∧ True) ∧ (z' = z' ∧ spN n (spN z1 (0 : Int) z') z' = spN n (spN z1 (0 : Int) z') z' ∧ grN t (spN n (spN z1 (0 : Int) z') z') z' z' = grN t (spN n (spN z1 (0 : Int) z') z') z' z' ∧ True) ∧ True) ∧ (decide (z' = (0 : Int)) = false →
    ∀ (z6 : Int), z6 = (grN t (spN n (spN z1 (0 : Int) z') z') z' z' - spN n (spN z1 (0 : Int) z') z') % (18446744073709551616 : Int) →
    inR IntKind.i64 z6 ∧ ExT Unit fun z => True ∧ grN t (spN n (spN z1 (0 : Int) z') z') z' z' - spN n (spN z1 (0 : Int) z') z' = z6 ∧ True ∧ True ∧ (z' = z' ∧ tkN n (tkN z1 (0 : Int) z') z' = tkN n (tkN z1 (0 : Int) z') z' ∧ (0 : Int) = (0 : Int) ∧ z' = z' ∧ True) ∧ (z' = z' ∧ spN n (spN z1 (0 : Int) z') z' = spN n (spN z1 (0 : Int) z') z' ∧ grN t (spN n (spN z1 (0 : Int) z') z') z' z' = grN t (spN n (spN z1 (0 : Int) z') z') z' z' ∧ True) ∧ True)) ∧ ∀ (z : Unit), True →
    (decide (grN t (spN n (spN z1 (0 : Int) z') z') z' z' - spN n (spN z1 (0 : Int) z') z' = z' - spN n (spN z1 (0 : Int) z') z') = true →
    true = true) ∧ (decide (grN t (spN n (spN z1 (0 : Int) z') z') z' z' - spN n (spN z1 (0 : Int) z') z' = z' - spN n (spN z1 (0 : Int) z') z') = false →
    false = true)) ∧ (decide (grE t (spN n (spN z1 (0 : Int) z') z') z' = (0 : Int)) = false →
    false = true)) ∧ (decide (t ≤ z' % (18446744073709551616 : Int)) = false →
    (decide (grE t (spN n (spN z1 (0 : Int) z') z') z' = (0 : Int)) = true →
    ((decide (z' = (0 : Int)) = true →
    ExT Unit fun z => True ∧ (grN t (spN n (spN z1 (0 : Int) z') z') z' z' - spN n (spN z1 (0 : Int) z') z' = (0 : Int) ∧ inR IntKind.i64 (grN t (spN n (spN z1 (0 : Int) z') z') z' z' - spN n (spN z1 (0 : Int) z') z')) ∧ True ∧ True ∧ (z' = z' ∧ tkN n (tkN z1 (0 : Int) z') z' = tkN n (tkN z1 (0 : Int) z') z' ∧ (0 : Int) = (0 : Int) ∧ z' = z' ∧ True) ∧ (z' = z' ∧ spN n (spN z1 (0 : Int) z') z' = spN n (spN z1 (0 : Int) z') z' ∧ grN t (spN n (spN z1 (0 : Int) z') z') z' z' = grN t (spN n (spN z1 (0 : Int) z') z') z' z' ∧ True) ∧ True) ∧ (decide (z' = (0 : Int)) = false →
    ∀ (z6 : Int), z6 = (grN t (spN n (spN z1 (0 : Int) z') z') z' z' - spN n (spN z1 (0 : Int) z') z') % (18446744073709551616 : Int) →
    inR IntKind.i64 z6 ∧ ExT Unit fun z => True ∧ grN t (spN n (spN z1 (0 : Int) z') z') z' z' - spN n (spN z1 (0 : Int) z') z' = z6 ∧ True ∧ True ∧ (z' = z' ∧ tkN n (tkN z1 (0 : Int) z') z' = tkN n (tkN z1 (0 : Int) z') z' ∧ (0 : Int) = (0 : Int) ∧ z' = z' ∧ True) ∧ (z' = z' ∧ spN n (spN z1 (0 : Int) z') z' = spN n (spN z1 (0 : Int) z') z' ∧ grN t (spN n (spN z1 (0 : Int) z') z') z' z' = grN t (spN n (spN z1 (0 : Int) z') z') z' z' ∧ True) ∧ True)) ∧ ∀ (z : Unit), True →
    ∀ (z6 : Int), z6 = (t - z4 % (18446744073709551616 : Int)) % (18446744073709551616 : Int) →
    (decide ((grN t (spN n (spN z1 (0 : Int) z') z') z' z' - spN n (spN z1 (0 : Int) z') z') % (18446744073709551616 : Int) = z6) = true →
    true = true) ∧ (decide ((grN t (spN n (spN z1 (0 : Int) z') z') z' z' - spN n (spN z1 (0 : Int) z') z') % (18446744073709551616 : Int) = z6) = false →
    false = true)) ∧ (decide (grE t (spN n (spN z1 (0 : Int) z') z') z' = (0 : Int)) = false →
    false = true)))
set_option maxRecDepth 100000 in
set_option maxHeartbeats 8000000 in
theorem crfC_eq (l s n t : Int) : crW [0, 0, 0, 0, 0, 0, 1, 1, 0, 0, 0, 0] l s n t = crfC l s n t := by kernel_rfl
set_option maxRecDepth 100000 in
set_option maxHeartbeats 8000000 in
def crfCS (l s n t : Int) : Prop :=
    inR IntKind.i64 ((1 : Int) + l) ∧ ∀ (z' : Int), z' = (1 : Int) + l →
    ((z' < (1 : Int) →
    False) ∧ (¬z' < (1 : Int) →
    ((8192 : Int) < z' →
    False) ∧ (¬(8192 : Int) < z' →
    ∀ (z1 : Int), z1 = ((0 : Int) + z' % (18446744073709551616 : Int)) % (18446744073709551616 : Int) →
    z' = z' % (18446744073709551616 : Int) ∧ inR IntKind.u64 (0 : Int) ∧ z' = z1))) ∧ ((z' < (1 : Int) →
    False) ∧ (¬z' < (1 : Int) →
    ((8192 : Int) < z' →
    False) ∧ (¬(8192 : Int) < z' →
    ∀ (z1 : Int), z1 = ((0 : Int) + z' % (18446744073709551616 : Int)) % (18446744073709551616 : Int) →
    z' = z' % (18446744073709551616 : Int) ∧ inR IntKind.u64 (0 : Int) ∧ inR IntKind.u64 (0 : Int) ∧ z' = z1))) ∧ ∀ (z1 : Int), z1 = min s z' →
    ((z' = (0 : Int) →
    (spE z1 (0 : Int) z' = (2 : Int) ∧ inR IntKind.i64 (spE z1 (0 : Int) z')) ∧ spN z1 (0 : Int) z' = (0 : Int)) ∧ (¬z' = (0 : Int) →
    (z1 < (0 : Int) →
    (spE z1 (0 : Int) z' = (1 : Int) ∧ inR IntKind.i64 (spE z1 (0 : Int) z')) ∧ spN z1 (0 : Int) z' = (0 : Int)) ∧ (¬z1 < (0 : Int) →
    ((z' = (0 : Int) →
    z' - (0 : Int) = (0 : Int) ∧ inR IntKind.i64 (z' - (0 : Int))) ∧ (¬z' = (0 : Int) →
    ∀ (z2 : Int), z2 = (z' - (0 : Int)) % (18446744073709551616 : Int) →
    inR IntKind.i64 z2 ∧ z' - (0 : Int) = z2)) ∧ (z' - (0 : Int) < z1 →
    (spE z1 (0 : Int) z' = (8 : Int) ∧ inR IntKind.i64 (spE z1 (0 : Int) z')) ∧ spN z1 (0 : Int) z' = (0 : Int)) ∧ (¬z' - (0 : Int) < z1 →
    ∀ (z2 : Int), z2 = ((0 : Int) + z1 % (18446744073709551616 : Int)) % (18446744073709551616 : Int) →
    (spE z1 (0 : Int) z' = (0 : Int) ∧ inR IntKind.i64 (spE z1 (0 : Int) z')) ∧ spN z1 (0 : Int) z' = z2)))) ∧ decide (spE z1 (0 : Int) z' ≠ (0 : Int)) = false ∧ ((z' = (0 : Int) →
    (tkE z1 (0 : Int) z' = (2 : Int) ∧ inR IntKind.i64 (tkE z1 (0 : Int) z')) ∧ tkN z1 (0 : Int) z' = (0 : Int)) ∧ (¬z' = (0 : Int) →
    (z1 < (0 : Int) →
    (tkE z1 (0 : Int) z' = (1 : Int) ∧ inR IntKind.i64 (tkE z1 (0 : Int) z')) ∧ tkN z1 (0 : Int) z' = (0 : Int)) ∧ (¬z1 < (0 : Int) →
    ∀ (z2 : Int), z2 = (z' - (0 : Int)) % (18446744073709551616 : Int) →
    (z2 < z1 % (18446744073709551616 : Int) →
    (tkE z1 (0 : Int) z' = (7 : Int) ∧ inR IntKind.i64 (tkE z1 (0 : Int) z')) ∧ tkN z1 (0 : Int) z' = (0 : Int)) ∧ (¬z2 < z1 % (18446744073709551616 : Int) →
    ∀ (z3 : Int), z3 = ((0 : Int) + z1 % (18446744073709551616 : Int)) % (18446744073709551616 : Int) →
    (tkE z1 (0 : Int) z' = (0 : Int) ∧ inR IntKind.i64 (tkE z1 (0 : Int) z')) ∧ tkN z1 (0 : Int) z' = z3)))) ∧ decide (tkE z1 (0 : Int) z' ≠ (0 : Int)) = false ∧ ((z' = (0 : Int) →
    z' - spN z1 (0 : Int) z' = (0 : Int) ∧ inR IntKind.i64 (z' - spN z1 (0 : Int) z')) ∧ (¬z' = (0 : Int) →
    ∀ (z2 : Int), z2 = (z' - spN z1 (0 : Int) z') % (18446744073709551616 : Int) →
    inR IntKind.i64 z2 ∧ z' - spN z1 (0 : Int) z' = z2)) ∧ ((z' = (0 : Int) →
    tkN z1 (0 : Int) z' - (0 : Int) = (0 : Int) ∧ inR IntKind.i64 (tkN z1 (0 : Int) z' - (0 : Int))) ∧ (¬z' = (0 : Int) →
    ∀ (z2 : Int), z2 = (tkN z1 (0 : Int) z' - (0 : Int)) % (18446744073709551616 : Int) →
    inR IntKind.i64 z2 ∧ tkN z1 (0 : Int) z' - (0 : Int) = z2)) ∧ ((z' = (0 : Int) →
    (spE n (spN z1 (0 : Int) z') z' = (2 : Int) ∧ inR IntKind.i64 (spE n (spN z1 (0 : Int) z') z')) ∧ spN n (spN z1 (0 : Int) z') z' = spN z1 (0 : Int) z') ∧ (¬z' = (0 : Int) →
    (n < (0 : Int) →
    (spE n (spN z1 (0 : Int) z') z' = (1 : Int) ∧ inR IntKind.i64 (spE n (spN z1 (0 : Int) z') z')) ∧ spN n (spN z1 (0 : Int) z') z' = spN z1 (0 : Int) z') ∧ (¬n < (0 : Int) →
    ((z' = (0 : Int) →
    z' - spN z1 (0 : Int) z' = (0 : Int) ∧ inR IntKind.i64 (z' - spN z1 (0 : Int) z')) ∧ (¬z' = (0 : Int) →
    ∀ (z2 : Int), z2 = (z' - spN z1 (0 : Int) z') % (18446744073709551616 : Int) →
    inR IntKind.i64 z2 ∧ z' - spN z1 (0 : Int) z' = z2)) ∧ (z' - spN z1 (0 : Int) z' < n →
    (spE n (spN z1 (0 : Int) z') z' = (8 : Int) ∧ inR IntKind.i64 (spE n (spN z1 (0 : Int) z') z')) ∧ spN n (spN z1 (0 : Int) z') z' = spN z1 (0 : Int) z') ∧ (¬z' - spN z1 (0 : Int) z' < n →
    ∀ (z2 : Int), z2 = (spN z1 (0 : Int) z' + n % (18446744073709551616 : Int)) % (18446744073709551616 : Int) →
    (spE n (spN z1 (0 : Int) z') z' = (0 : Int) ∧ inR IntKind.i64 (spE n (spN z1 (0 : Int) z') z')) ∧ spN n (spN z1 (0 : Int) z') z' = z2)))) ∧ ((z' = (0 : Int) →
    (tkE n (tkN z1 (0 : Int) z') z' = (2 : Int) ∧ inR IntKind.i64 (tkE n (tkN z1 (0 : Int) z') z')) ∧ tkN n (tkN z1 (0 : Int) z') z' = tkN z1 (0 : Int) z') ∧ (¬z' = (0 : Int) →
    (n < (0 : Int) →
    (tkE n (tkN z1 (0 : Int) z') z' = (1 : Int) ∧ inR IntKind.i64 (tkE n (tkN z1 (0 : Int) z') z')) ∧ tkN n (tkN z1 (0 : Int) z') z' = tkN z1 (0 : Int) z') ∧ (¬n < (0 : Int) →
    ∀ (z2 : Int), z2 = (z' - tkN z1 (0 : Int) z') % (18446744073709551616 : Int) →
    (z2 < n % (18446744073709551616 : Int) →
    (tkE n (tkN z1 (0 : Int) z') z' = (7 : Int) ∧ inR IntKind.i64 (tkE n (tkN z1 (0 : Int) z') z')) ∧ tkN n (tkN z1 (0 : Int) z') z' = tkN z1 (0 : Int) z') ∧ (¬z2 < n % (18446744073709551616 : Int) →
    ∀ (z3 : Int), z3 = (tkN z1 (0 : Int) z' + n % (18446744073709551616 : Int)) % (18446744073709551616 : Int) →
    (tkE n (tkN z1 (0 : Int) z') z' = (0 : Int) ∧ inR IntKind.i64 (tkE n (tkN z1 (0 : Int) z') z')) ∧ tkN n (tkN z1 (0 : Int) z') z' = z3)))) ∧ decide (n < (0 : Int)) = false ∧ decide (z' - spN z1 (0 : Int) z' < n) = false ∧ decide (n < (0 : Int)) = false ∧ decide (z' - spN z1 (0 : Int) z' < n) = false ∧ decide ((0 : Int) ≤ n) = true ∧ decide (n ≤ z' - spN z1 (0 : Int) z') = true ∧ decide (spE n (spN z1 (0 : Int) z') z' ≠ (0 : Int)) = false ∧ decide (tkE n (tkN z1 (0 : Int) z') z' ≠ (0 : Int)) = false ∧ ((z' = (0 : Int) →
    z' - spN n (spN z1 (0 : Int) z') z' = (0 : Int) ∧ inR IntKind.i64 (z' - spN n (spN z1 (0 : Int) z') z')) ∧ (¬z' = (0 : Int) →
    ∀ (z2 : Int), z2 = (z' - spN n (spN z1 (0 : Int) z') z') % (18446744073709551616 : Int) →
    inR IntKind.i64 z2 ∧ z' - spN n (spN z1 (0 : Int) z') z' = z2)) ∧ inR IntKind.i64 (z' - spN z1 (0 : Int) z' - n) ∧ ∀ (z2 : Int), z2 = z' - spN z1 (0 : Int) z' - n →
    decide (z' - spN n (spN z1 (0 : Int) z') z' ≠ z2) = false ∧ ((z' = (0 : Int) →
    tkN n (tkN z1 (0 : Int) z') z' - (0 : Int) = (0 : Int) ∧ inR IntKind.i64 (tkN n (tkN z1 (0 : Int) z') z' - (0 : Int))) ∧ (¬z' = (0 : Int) →
    ∀ (z3 : Int), z3 = (tkN n (tkN z1 (0 : Int) z') z' - (0 : Int)) % (18446744073709551616 : Int) →
    inR IntKind.i64 z3 ∧ tkN n (tkN z1 (0 : Int) z') z' - (0 : Int) = z3)) ∧ inR IntKind.i64 (tkN z1 (0 : Int) z' - (0 : Int) + n) ∧ ∀ (z3 : Int), z3 = tkN z1 (0 : Int) z' - (0 : Int) + n →
    decide (tkN n (tkN z1 (0 : Int) z') z' - (0 : Int) ≠ z3) = false ∧ ((z' = (0 : Int) →
    z' - spN n (spN z1 (0 : Int) z') z' = (0 : Int) ∧ inR IntKind.i64 (z' - spN n (spN z1 (0 : Int) z') z')) ∧ (¬z' = (0 : Int) →
    ∀ (z4 : Int), z4 = (z' - spN n (spN z1 (0 : Int) z') z') % (18446744073709551616 : Int) →
    inR IntKind.i64 z4 ∧ z' - spN n (spN z1 (0 : Int) z') z' = z4)) ∧ inR IntKind.i64 (z' - (z' - spN n (spN z1 (0 : Int) z') z')) ∧ ∀ (z4 : Int), z4 = z' - (z' - spN n (spN z1 (0 : Int) z') z') →
    ((z' = (0 : Int) →
    (grE t (spN n (spN z1 (0 : Int) z') z') z' = (2 : Int) ∧ inR IntKind.i64 (grE t (spN n (spN z1 (0 : Int) z') z') z')) ∧ grN t (spN n (spN z1 (0 : Int) z') z') z' z' = z') ∧ (¬z' = (0 : Int) →
    ∀ (z5 : Int), z5 = (spN n (spN z1 (0 : Int) z') z' + z') % (18446744073709551616 : Int) →
    (z5 < t →
    (grE t (spN n (spN z1 (0 : Int) z') z') z' = (24 : Int) ∧ inR IntKind.i64 (grE t (spN n (spN z1 (0 : Int) z') z') z')) ∧ grN t (spN n (spN z1 (0 : Int) z') z') z' z' = z') ∧ (¬z5 < t →
    ∀ (z6 : Int), z6 = max z' t →
    (grE t (spN n (spN z1 (0 : Int) z') z') z' = (0 : Int) ∧ inR IntKind.i64 (grE t (spN n (spN z1 (0 : Int) z') z') z')) ∧ grN t (spN n (spN z1 (0 : Int) z') z') z' z' = z6))) ∧ ∀ (z5 : Int), z5 = (z4 % (18446744073709551616 : Int) + z' % (18446744073709551616 : Int)) % (18446744073709551616 : Int) →
    (z5 < t →
    (grE t (spN n (spN z1 (0 : Int) z') z') z' = (24 : Int) →
    ((z' = (0 : Int) →
    grN t (spN n (spN z1 (0 : Int) z') z') z' z' - spN n (spN z1 (0 : Int) z') z' = (0 : Int) ∧ inR IntKind.i64 (grN t (spN n (spN z1 (0 : Int) z') z') z' z' - spN n (spN z1 (0 : Int) z') z')) ∧ (¬z' = (0 : Int) →
    ∀ (z6 : Int), z6 = (grN t (spN n (spN z1 (0 : Int) z') z') z' z' - spN n (spN z1 (0 : Int) z') z') % (18446744073709551616 : Int) →
    inR IntKind.i64 z6 ∧ grN t (spN n (spN z1 (0 : Int) z') z') z' z' - spN n (spN z1 (0 : Int) z') z' = z6)) ∧ (¬grN t (spN n (spN z1 (0 : Int) z') z') z' z' - spN n (spN z1 (0 : Int) z') z' = z' - spN n (spN z1 (0 : Int) z') z' →
    False)) ∧ (¬grE t (spN n (spN z1 (0 : Int) z') z') z' = (24 : Int) →
    False)) ∧ (¬z5 < t →
    (t ≤ z' % (18446744073709551616 : Int) →
    (grE t (spN n (spN z1 (0 : Int) z') z') z' = (0 : Int) →
    ((z' = (0 : Int) →
    grN t (spN n (spN z1 (0 : Int) z') z') z' z' - spN n (spN z1 (0 : Int) z') z' = (0 : Int) ∧ inR IntKind.i64 (grN t (spN n (spN z1 (0 : Int) z') z') z' z' - spN n (spN z1 (0 : Int) z') z')) ∧ (¬z' = (0 : Int) →
    ∀ (z6 : Int), z6 = (grN t (spN n (spN z1 (0 : Int) z') z') z' z' - spN n (spN z1 (0 : Int) z') z') % (18446744073709551616 : Int) →
    inR IntKind.i64 z6 ∧ grN t (spN n (spN z1 (0 : Int) z') z') z' z' - spN n (spN z1 (0 : Int) z') z' = z6)) ∧ (¬grN t (spN n (spN z1 (0 : Int) z') z') z' z' - spN n (spN z1 (0 : Int) z') z' = z' - spN n (spN z1 (0 : Int) z') z' →
    False)) ∧ (¬grE t (spN n (spN z1 (0 : Int) z') z') z' = (0 : Int) →
    False)) ∧ (¬t ≤ z' % (18446744073709551616 : Int) →
    (grE t (spN n (spN z1 (0 : Int) z') z') z' = (0 : Int) →
    ((z' = (0 : Int) →
    grN t (spN n (spN z1 (0 : Int) z') z') z' z' - spN n (spN z1 (0 : Int) z') z' = (0 : Int) ∧ inR IntKind.i64 (grN t (spN n (spN z1 (0 : Int) z') z') z' z' - spN n (spN z1 (0 : Int) z') z')) ∧ (¬z' = (0 : Int) →
    ∀ (z6 : Int), z6 = (grN t (spN n (spN z1 (0 : Int) z') z') z' z' - spN n (spN z1 (0 : Int) z') z') % (18446744073709551616 : Int) →
    inR IntKind.i64 z6 ∧ grN t (spN n (spN z1 (0 : Int) z') z') z' z' - spN n (spN z1 (0 : Int) z') z' = z6)) ∧ ∀ (z6 : Int), z6 = (t - z4 % (18446744073709551616 : Int)) % (18446744073709551616 : Int) →
    ¬(grN t (spN n (spN z1 (0 : Int) z') z') z' z' - spN n (spN z1 (0 : Int) z') z') % (18446744073709551616 : Int) = z6 →
    False) ∧ (¬grE t (spN n (spN z1 (0 : Int) z') z') z' = (0 : Int) →
    False)))
set_option maxRecDepth 100000 in
set_option maxHeartbeats 8000000 in
theorem crfC_of (l s n t : Int) (hS0 : crfCS l s n t) : crfC l s n t := by
  unfold crfCS at hS0
  unfold crfC
  exact (have b514 := hS0.2; ⟨hS0.1, (fun x1 => have y512 := b514 x1; (fun k2 => have y511 := y512 k2; (have a509 := y511.1; have b510 := y511.2; ⟨(have b20 := a509.2; ⟨(fun k3 => (a509.1 (of_decide_eq_true k3)).elim), (fun k4 => have y18 := b20 (of_decide_eq_false k4); (have b17 := y18.2; ⟨(fun k5 => (y18.1 (of_decide_eq_true k5)).elim), (fun k6 => have y15 := b17 (of_decide_eq_false k6); (fun x7 => have y14 := y15 x7; (fun k8 => have y13 := y14 k8; ⟨(), trivial, ⟨rfl, rfl, trivial⟩, trivial, trivial, (have b12 := y13.2; ⟨y13.1, (have b10 := b12.2; ⟨⟨rfl, b12.1⟩, b10, trivial⟩)⟩), trivial⟩)))⟩))⟩), (fun _ => (fun _ => (have a507 := b510.1; have b508 := b510.2; ⟨(have b41 := a507.2; ⟨(fun k22 => (a507.1 (of_decide_eq_true k22)).elim), (fun k23 => have y39 := b41 (of_decide_eq_false k23); (have b38 := y39.2; ⟨(fun k24 => (y39.1 (of_decide_eq_true k24)).elim), (fun k25 => have y36 := b38 (of_decide_eq_false k25); (fun x26 => have y35 := y36 x26; (fun k27 => have y34 := y35 k27; ⟨(), trivial, ⟨rfl, rfl, trivial⟩, trivial, trivial, (have b33 := y34.2; ⟨y34.1, (have b31 := b33.2; ⟨⟨rfl, b33.1⟩, (have b29 := b31.2; ⟨⟨rfl, b31.1⟩, b29, trivial⟩)⟩)⟩), ⟨rfl, rfl, rfl, trivial⟩, trivial⟩)))⟩))⟩), (fun _ => (fun _ => (fun x43 => have y506 := b508 x43; (fun k44 => have y505 := y506 k44; (have a503 := y505.1; have b504 := y505.2; ⟨(have b99 := a503.2; ⟨(fun k45 => have y50 := a503.1 (of_decide_eq_true k45); ⟨(), trivial, (have b49 := y50.2; ⟨y50.1, trivial, trivial, ⟨rfl, b49, rfl, trivial⟩, ⟨rfl, rfl, rfl, rfl, trivial⟩, trivial⟩)⟩), (fun k51 => have y97 := b99 (of_decide_eq_false k51); (have b96 := y97.2; ⟨(fun k52 => have y57 := y97.1 (of_decide_eq_true k52); ⟨(), trivial, (have b56 := y57.2; ⟨y57.1, trivial, trivial, ⟨rfl, b56, rfl, trivial⟩, ⟨rfl, rfl, rfl, rfl, trivial⟩, trivial⟩)⟩), (fun k58 => have y94 := b96 (of_decide_eq_false k58); (have a92 := y94.1; have b93 := y94.2; ⟨(have b72 := a92.2; ⟨(fun k59 => have y62 := a92.1 (of_decide_eq_true k59); ⟨(), trivial, y62, trivial, trivial, ⟨rfl, rfl, rfl, rfl, trivial⟩, ⟨rfl, rfl, rfl, trivial⟩, ⟨rfl, trivial⟩, trivial⟩), (fun k63 => have y70 := b72 (of_decide_eq_false k63); (fun x64 => have y69 := y70 x64; (fun k65 => have y68 := y69 k65; (have b67 := y68.2; ⟨y68.1, (), trivial, b67, trivial, trivial, ⟨rfl, rfl, rfl, rfl, trivial⟩, ⟨rfl, rfl, rfl, trivial⟩, ⟨rfl, trivial⟩, trivial⟩))))⟩), (fun _ => (fun _ => (have b91 := b93.2; ⟨(fun k74 => have y79 := b93.1 (of_decide_eq_true k74); ⟨(), trivial, (have b78 := y79.2; ⟨y79.1, trivial, trivial, ⟨rfl, b78, rfl, trivial⟩, ⟨rfl, rfl, rfl, rfl, trivial⟩, trivial⟩)⟩), (fun k80 => have y89 := b91 (of_decide_eq_false k80); (fun x81 => have y88 := y89 x81; (fun k82 => have y87 := y88 k82; ⟨(), trivial, (have b86 := y87.2; ⟨y87.1, trivial, trivial, ⟨rfl, b86, rfl, trivial⟩, ⟨rfl, rfl, rfl, rfl, trivial⟩, trivial⟩)⟩)))⟩)))⟩))⟩))⟩), (fun _ => (fun _ => (have b502 := b504.2; ⟨b504.1, (have a499 := b502.1; have b500 := b502.2; ⟨(have b142 := a499.2; ⟨(fun k101 => have y106 := a499.1 (of_decide_eq_true k101); ⟨(), trivial, (have b105 := y106.2; ⟨y106.1, trivial, trivial, ⟨rfl, b105, rfl, rfl, trivial⟩, ⟨rfl, rfl, rfl, trivial⟩, trivial⟩)⟩), (fun k107 => have y140 := b142 (of_decide_eq_false k107); (have b139 := y140.2; ⟨(fun k108 => have y113 := y140.1 (of_decide_eq_true k108); ⟨(), trivial, (have b112 := y113.2; ⟨y113.1, trivial, trivial, ⟨rfl, b112, rfl, rfl, trivial⟩, ⟨rfl, rfl, rfl, trivial⟩, trivial⟩)⟩), (fun k114 => have y137 := b139 (of_decide_eq_false k114); (fun x115 => have y136 := y137 x115; (fun k116 => have y135 := y136 k116; (have b134 := y135.2; ⟨(fun k117 => have y122 := y135.1 (of_decide_eq_true k117); ⟨(), trivial, (have b121 := y122.2; ⟨y122.1, trivial, trivial, ⟨rfl, b121, rfl, rfl, trivial⟩, ⟨rfl, rfl, rfl, trivial⟩, trivial⟩)⟩), (fun k123 => have y132 := b134 (of_decide_eq_false k123); (fun x124 => have y131 := y132 x124; (fun k125 => have y130 := y131 k125; ⟨(), trivial, (have b129 := y130.2; ⟨y130.1, trivial, trivial, ⟨rfl, b129, rfl, rfl, trivial⟩, ⟨rfl, rfl, rfl, trivial⟩, trivial⟩)⟩)))⟩))))⟩))⟩), (fun _ => (fun _ => (have b498 := b500.2; ⟨b500.1, (have a495 := b498.1; have b496 := b498.2; ⟨(have b157 := a495.2; ⟨(fun k144 => have y147 := a495.1 (of_decide_eq_true k144); ⟨(), trivial, y147, trivial, trivial, ⟨rfl, rfl, rfl, rfl, trivial⟩, ⟨rfl, rfl, rfl, trivial⟩, trivial⟩), (fun k148 => have y155 := b157 (of_decide_eq_false k148); (fun x149 => have y154 := y155 x149; (fun k150 => have y153 := y154 k150; (have b152 := y153.2; ⟨y153.1, (), trivial, b152, trivial, trivial, ⟨rfl, rfl, rfl, rfl, trivial⟩, ⟨rfl, rfl, rfl, trivial⟩, trivial⟩))))⟩), (fun _ => (fun _ => (have a493 := b496.1; have b494 := b496.2; ⟨(have b172 := a493.2; ⟨(fun k159 => have y162 := a493.1 (of_decide_eq_true k159); ⟨(), trivial, y162, trivial, trivial, ⟨rfl, rfl, rfl, rfl, trivial⟩, ⟨rfl, rfl, rfl, trivial⟩, trivial⟩), (fun k163 => have y170 := b172 (of_decide_eq_false k163); (fun x164 => have y169 := y170 x164; (fun k165 => have y168 := y169 k165; (have b167 := y168.2; ⟨y168.1, (), trivial, b167, trivial, trivial, ⟨rfl, rfl, rfl, rfl, trivial⟩, ⟨rfl, rfl, rfl, trivial⟩, trivial⟩))))⟩), (fun _ => (fun _ => (have a491 := b494.1; have b492 := b494.2; ⟨(have b228 := a491.2; ⟨(fun k174 => have y179 := a491.1 (of_decide_eq_true k174); ⟨(), trivial, (have b178 := y179.2; ⟨y179.1, trivial, trivial, ⟨rfl, b178, rfl, trivial⟩, ⟨rfl, rfl, rfl, rfl, trivial⟩, trivial⟩)⟩), (fun k180 => have y226 := b228 (of_decide_eq_false k180); (have b225 := y226.2; ⟨(fun k181 => have y186 := y226.1 (of_decide_eq_true k181); ⟨(), trivial, (have b185 := y186.2; ⟨y186.1, trivial, trivial, ⟨rfl, b185, rfl, trivial⟩, ⟨rfl, rfl, rfl, rfl, trivial⟩, trivial⟩)⟩), (fun k187 => have y223 := b225 (of_decide_eq_false k187); (have a221 := y223.1; have b222 := y223.2; ⟨(have b201 := a221.2; ⟨(fun k188 => have y191 := a221.1 (of_decide_eq_true k188); ⟨(), trivial, y191, trivial, trivial, ⟨rfl, rfl, rfl, rfl, trivial⟩, ⟨rfl, rfl, rfl, trivial⟩, ⟨rfl, trivial⟩, trivial⟩), (fun k192 => have y199 := b201 (of_decide_eq_false k192); (fun x193 => have y198 := y199 x193; (fun k194 => have y197 := y198 k194; (have b196 := y197.2; ⟨y197.1, (), trivial, b196, trivial, trivial, ⟨rfl, rfl, rfl, rfl, trivial⟩, ⟨rfl, rfl, rfl, trivial⟩, ⟨rfl, trivial⟩, trivial⟩))))⟩), (fun _ => (fun _ => (have b220 := b222.2; ⟨(fun k203 => have y208 := b222.1 (of_decide_eq_true k203); ⟨(), trivial, (have b207 := y208.2; ⟨y208.1, trivial, trivial, ⟨rfl, b207, rfl, trivial⟩, ⟨rfl, rfl, rfl, rfl, trivial⟩, trivial⟩)⟩), (fun k209 => have y218 := b220 (of_decide_eq_false k209); (fun x210 => have y217 := y218 x210; (fun k211 => have y216 := y217 k211; ⟨(), trivial, (have b215 := y216.2; ⟨y216.1, trivial, trivial, ⟨rfl, b215, rfl, trivial⟩, ⟨rfl, rfl, rfl, rfl, trivial⟩, trivial⟩)⟩)))⟩)))⟩))⟩))⟩), (fun _ => (fun _ => (have a489 := b492.1; have b490 := b492.2; ⟨(have b271 := a489.2; ⟨(fun k230 => have y235 := a489.1 (of_decide_eq_true k230); ⟨(), trivial, (have b234 := y235.2; ⟨y235.1, trivial, trivial, ⟨rfl, b234, rfl, rfl, trivial⟩, ⟨rfl, rfl, rfl, trivial⟩, trivial⟩)⟩), (fun k236 => have y269 := b271 (of_decide_eq_false k236); (have b268 := y269.2; ⟨(fun k237 => have y242 := y269.1 (of_decide_eq_true k237); ⟨(), trivial, (have b241 := y242.2; ⟨y242.1, trivial, trivial, ⟨rfl, b241, rfl, rfl, trivial⟩, ⟨rfl, rfl, rfl, trivial⟩, trivial⟩)⟩), (fun k243 => have y266 := b268 (of_decide_eq_false k243); (fun x244 => have y265 := y266 x244; (fun k245 => have y264 := y265 k245; (have b263 := y264.2; ⟨(fun k246 => have y251 := y264.1 (of_decide_eq_true k246); ⟨(), trivial, (have b250 := y251.2; ⟨y251.1, trivial, trivial, ⟨rfl, b250, rfl, rfl, trivial⟩, ⟨rfl, rfl, rfl, trivial⟩, trivial⟩)⟩), (fun k252 => have y261 := b263 (of_decide_eq_false k252); (fun x253 => have y260 := y261 x253; (fun k254 => have y259 := y260 k254; ⟨(), trivial, (have b258 := y259.2; ⟨y259.1, trivial, trivial, ⟨rfl, b258, rfl, rfl, trivial⟩, ⟨rfl, rfl, rfl, trivial⟩, trivial⟩)⟩)))⟩))))⟩))⟩), (fun _ => (fun _ => (have b488 := b490.2; ⟨b490.1, (have b486 := b488.2; ⟨b488.1, (have b484 := b486.2; ⟨b486.1, (have b482 := b484.2; ⟨b484.1, (have b480 := b482.2; ⟨b482.1, (have b478 := b480.2; ⟨b480.1, (have b476 := b478.2; ⟨b478.1, (have b474 := b476.2; ⟨b476.1, (have a471 := b474.1; have b472 := b474.2; ⟨(have b286 := a471.2; ⟨(fun k273 => have y276 := a471.1 (of_decide_eq_true k273); ⟨(), trivial, y276, trivial, trivial, ⟨rfl, rfl, rfl, rfl, trivial⟩, ⟨rfl, rfl, rfl, trivial⟩, trivial⟩), (fun k277 => have y284 := b286 (of_decide_eq_false k277); (fun x278 => have y283 := y284 x278; (fun k279 => have y282 := y283 k279; (have b281 := y282.2; ⟨y282.1, (), trivial, b281, trivial, trivial, ⟨rfl, rfl, rfl, rfl, trivial⟩, ⟨rfl, rfl, rfl, trivial⟩, trivial⟩))))⟩), (fun _ => (fun _ => (have b470 := b472.2; ⟨b472.1, (fun x288 => have y468 := b470 x288; (fun k289 => have y467 := y468 k289; (have b466 := y467.2; ⟨y467.1, (have a463 := b466.1; have b464 := b466.2; ⟨(have b303 := a463.2; ⟨(fun k290 => have y293 := a463.1 (of_decide_eq_true k290); ⟨(), trivial, y293, trivial, trivial, ⟨rfl, rfl, rfl, rfl, trivial⟩, ⟨rfl, rfl, rfl, trivial⟩, trivial⟩), (fun k294 => have y301 := b303 (of_decide_eq_false k294); (fun x295 => have y300 := y301 x295; (fun k296 => have y299 := y300 k296; (have b298 := y299.2; ⟨y299.1, (), trivial, b298, trivial, trivial, ⟨rfl, rfl, rfl, rfl, trivial⟩, ⟨rfl, rfl, rfl, trivial⟩, trivial⟩))))⟩), (fun _ => (fun _ => (have b462 := b464.2; ⟨b464.1, (fun x305 => have y460 := b462 x305; (fun k306 => have y459 := y460 k306; (have b458 := y459.2; ⟨y459.1, (have a455 := b458.1; have b456 := b458.2; ⟨(have b320 := a455.2; ⟨(fun k307 => have y310 := a455.1 (of_decide_eq_true k307); ⟨(), trivial, y310, trivial, trivial, ⟨rfl, rfl, rfl, rfl, trivial⟩, ⟨rfl, rfl, rfl, trivial⟩, trivial⟩), (fun k311 => have y318 := b320 (of_decide_eq_false k311); (fun x312 => have y317 := y318 x312; (fun k313 => have y316 := y317 k313; (have b315 := y316.2; ⟨y316.1, (), trivial, b315, trivial, trivial, ⟨rfl, rfl, rfl, rfl, trivial⟩, ⟨rfl, rfl, rfl, trivial⟩, trivial⟩))))⟩), (fun _ => (fun _ => (have b454 := b456.2; ⟨b456.1, (fun x322 => have y452 := b454 x322; (fun k323 => have y451 := y452 k323; (have a449 := y451.1; have b450 := y451.2; ⟨(have b355 := a449.2; ⟨(fun k324 => have y329 := a449.1 (of_decide_eq_true k324); ⟨(), trivial, (have b328 := y329.2; ⟨y329.1, trivial, trivial, ⟨rfl, rfl, b328, trivial⟩, ⟨rfl, rfl, rfl, rfl, trivial⟩, trivial⟩)⟩), (fun k330 => have y353 := b355 (of_decide_eq_false k330); (fun x331 => have y352 := y353 x331; (fun k332 => have y351 := y352 k332; (have b350 := y351.2; ⟨(fun k333 => have y338 := y351.1 (of_decide_eq_true k333); ⟨(), trivial, (have b337 := y338.2; ⟨y338.1, trivial, trivial, ⟨rfl, rfl, b337, trivial⟩, ⟨rfl, rfl, rfl, rfl, trivial⟩, trivial⟩)⟩), (fun k339 => have y348 := b350 (of_decide_eq_false k339); (fun x340 => have y347 := y348 x340; (fun k341 => have y346 := y347 k341; ⟨(), trivial, (have b345 := y346.2; ⟨y346.1, trivial, trivial, ⟨rfl, rfl, b345, trivial⟩, ⟨rfl, rfl, rfl, rfl, trivial⟩, trivial⟩)⟩)))⟩))))⟩), (fun _ => (fun _ => (fun x357 => have y448 := b450 x357; (fun k358 => have y447 := y448 k358; (have b446 := y447.2; ⟨(fun k359 => have y384 := y447.1 (of_decide_eq_true k359); (have b383 := y384.2; ⟨(fun k360 => have y380 := y384.1 (of_decide_eq_true k360); (have a378 := y380.1; have b379 := y380.2; ⟨(have b374 := a378.2; ⟨(fun k361 => have y364 := a378.1 (of_decide_eq_true k361); ⟨(), trivial, y364, trivial, trivial, ⟨rfl, rfl, rfl, rfl, trivial⟩, ⟨rfl, rfl, rfl, trivial⟩, trivial⟩), (fun k365 => have y372 := b374 (of_decide_eq_false k365); (fun x366 => have y371 := y372 x366; (fun k367 => have y370 := y371 k367; (have b369 := y370.2; ⟨y370.1, (), trivial, b369, trivial, trivial, ⟨rfl, rfl, rfl, rfl, trivial⟩, ⟨rfl, rfl, rfl, trivial⟩, trivial⟩))))⟩), (fun _ => (fun _ => ⟨(fun _ => rfl), (fun k377 => (b379 (of_decide_eq_false k377)).elim)⟩))⟩)), (fun k381 => (b383 (of_decide_eq_false k381)).elim)⟩)), (fun k385 => have y444 := b446 (of_decide_eq_false k385); (have b443 := y444.2; ⟨(fun k386 => have y411 := y444.1 (of_decide_eq_true k386); (have b410 := y411.2; ⟨(fun k387 => have y407 := y411.1 (of_decide_eq_true k387); (have a405 := y407.1; have b406 := y407.2; ⟨(have b401 := a405.2; ⟨(fun k388 => have y391 := a405.1 (of_decide_eq_true k388); ⟨(), trivial, y391, trivial, trivial, ⟨rfl, rfl, rfl, rfl, trivial⟩, ⟨rfl, rfl, rfl, trivial⟩, trivial⟩), (fun k392 => have y399 := b401 (of_decide_eq_false k392); (fun x393 => have y398 := y399 x393; (fun k394 => have y397 := y398 k394; (have b396 := y397.2; ⟨y397.1, (), trivial, b396, trivial, trivial, ⟨rfl, rfl, rfl, rfl, trivial⟩, ⟨rfl, rfl, rfl, trivial⟩, trivial⟩))))⟩), (fun _ => (fun _ => ⟨(fun _ => rfl), (fun k404 => (b406 (of_decide_eq_false k404)).elim)⟩))⟩)), (fun k408 => (b410 (of_decide_eq_false k408)).elim)⟩)), (fun k412 => have y441 := b443 (of_decide_eq_false k412); (have b440 := y441.2; ⟨(fun k413 => have y437 := y441.1 (of_decide_eq_true k413); (have a435 := y437.1; have b436 := y437.2; ⟨(have b427 := a435.2; ⟨(fun k414 => have y417 := a435.1 (of_decide_eq_true k414); ⟨(), trivial, y417, trivial, trivial, ⟨rfl, rfl, rfl, rfl, trivial⟩, ⟨rfl, rfl, rfl, trivial⟩, trivial⟩), (fun k418 => have y425 := b427 (of_decide_eq_false k418); (fun x419 => have y424 := y425 x419; (fun k420 => have y423 := y424 k420; (have b422 := y423.2; ⟨y423.1, (), trivial, b422, trivial, trivial, ⟨rfl, rfl, rfl, rfl, trivial⟩, ⟨rfl, rfl, rfl, trivial⟩, trivial⟩))))⟩), (fun _ => (fun _ => (fun x429 => have y434 := b436 x429; (fun k430 => have y433 := y434 k430; ⟨(fun _ => rfl), (fun k432 => (y433 (of_decide_eq_false k432)).elim)⟩))))⟩)), (fun k438 => (b440 (of_decide_eq_false k438)).elim)⟩))⟩))⟩)))))⟩)))⟩)))⟩)⟩)))⟩)))⟩)⟩)))⟩)))⟩)⟩)⟩)⟩)⟩)⟩)⟩)⟩)⟩)))⟩)))⟩)))⟩)))⟩)⟩)))⟩)⟩)))⟩)))))⟩)))⟩)))⟩)

theorem crfA_ok {l s n t : Int} (hl : 0 ≤ l ∧ l ≤ 255) (hs : 0 ≤ s ∧ s ≤ 255) (hn : n < 0) (hn1 : -9223372036854775808 ≤ n) (ht : 0 ≤ t ∧ t ≤ 18446744073709551615) : crfA l s n t := by
  refine crfA_of _ _ _ _ ?_
  unfold crfAS
  repeat' (first
    | (with_reducible refine And.intro ?_ ?_)
    | (intro (h : false = true); cases h)
    | (intro (h : true = false); cases h)
    | (intro h; first | (replace h := of_decide_eq_true h) | (replace h := of_decide_eq_false h) | skip)
    | (with_reducible exact trivial)
    | (with_reducible rfl)
    | (with_reducible exact ⟨(), trivial, trivial, trivial, trivial⟩)
    | (with_reducible refine decide_eq_true ?_; (simp only [spE, spN, tkE, tkN, usE, usN, grE, grN, in_u64, in_i64, ne_eq] at *; omega))
    | (with_reducible refine decide_eq_false ?_; (simp only [spE, spN, tkE, tkN, usE, usN, grE, grN, in_u64, in_i64, ne_eq] at *; omega))
    | (simp only [spE, spN, tkE, tkN, usE, usN, grE, grN, in_u64, in_i64, ne_eq] at *; omega)
    | omega
    | (with_reducible refine decide_eq_true ?_; omega)
    | (with_reducible refine decide_eq_false ?_; omega)
    | (simp only [in_u8, in_u16, in_u32, in_u64, in_i64, Nat.le_eq]; omega)
    | (exfalso; omega))
set_option maxHeartbeats 4000000 in
theorem crfB_ok {l s n t : Int} (hl : 0 ≤ l ∧ l ≤ 255) (hs : 0 ≤ s ∧ s ≤ 255) (hn : 1 + l - min s (1 + l) < n) (hn1 : n ≤ 9223372036854775807) (ht : 0 ≤ t ∧ t ≤ 18446744073709551615) : crfB l s n t := by
  refine crfB_of _ _ _ _ ?_
  unfold crfBS
  repeat' (first
    | (with_reducible refine And.intro ?_ ?_)
    | (intro (h : false = true); cases h)
    | (intro (h : true = false); cases h)
    | (intro h; first | (replace h := of_decide_eq_true h) | (replace h := of_decide_eq_false h) | skip)
    | (with_reducible exact trivial)
    | (with_reducible rfl)
    | (with_reducible exact ⟨(), trivial, trivial, trivial, trivial⟩)
    | (with_reducible refine decide_eq_true ?_; (simp only [spE, spN, tkE, tkN, usE, usN, grE, grN, in_u64, in_i64, ne_eq] at *; omega))
    | (with_reducible refine decide_eq_false ?_; (simp only [spE, spN, tkE, tkN, usE, usN, grE, grN, in_u64, in_i64, ne_eq] at *; omega))
    | (simp only [spE, spN, tkE, tkN, usE, usN, grE, grN, in_u64, in_i64, ne_eq] at *; omega)
    | omega
    | (with_reducible refine decide_eq_true ?_; omega)
    | (with_reducible refine decide_eq_false ?_; omega)
    | (simp only [in_u8, in_u16, in_u32, in_u64, in_i64, Nat.le_eq]; omega)
    | (exfalso; omega))
set_option maxHeartbeats 4000000 in
theorem crfC_ok {l s n t : Int} (hl : 0 ≤ l ∧ l ≤ 255) (hs : 0 ≤ s ∧ s ≤ 255) (hn : n ≤ 1 + l - min s (1 + l)) (hn1 : 0 ≤ n) (ht : 0 ≤ t ∧ t ≤ 18446744073709551615) : crfC l s n t := by
  refine crfC_of _ _ _ _ ?_
  unfold crfCS
  repeat' (first
    | (with_reducible refine And.intro ?_ ?_)
    | (intro (h : false = true); cases h)
    | (intro (h : true = false); cases h)
    | (intro h; first | (replace h := of_decide_eq_true h) | (replace h := of_decide_eq_false h) | skip)
    | (with_reducible exact trivial)
    | (with_reducible rfl)
    | (with_reducible exact ⟨(), trivial, trivial, trivial, trivial⟩)
    | (with_reducible refine decide_eq_true ?_; (simp only [spE, spN, tkE, tkN, usE, usN, grE, grN, in_u64, in_i64, ne_eq] at *; omega))
    | (with_reducible refine decide_eq_false ?_; (simp only [spE, spN, tkE, tkN, usE, usN, grE, grN, in_u64, in_i64, ne_eq] at *; omega))
    | (simp only [spE, spN, tkE, tkN, usE, usN, grE, grN, in_u64, in_i64, ne_eq] at *; omega)
    | omega
    | (with_reducible refine decide_eq_true ?_; omega)
    | (with_reducible refine decide_eq_false ?_; omega)
    | (simp only [in_u8, in_u16, in_u32, in_u64, in_i64, Nat.le_eq]; omega)
    | (exfalso; omega))
set_option maxRecDepth 100000 in
theorem refused_law (W : World) (v0 v1 v2 v3 : Value) (w0 : Open.InNat .u8 256 v0) (w1 : Open.InNat .u8 256 v1) (w2 : Open.InInt v2) (w3 : Open.InNat .u64 18446744073709551616 v3) : Calls Try.prog REFUSED #[v0, v1, v2, v3] W fun e w' => e = .returned (.bool true) ∧ Below W.heap.size W w' := by
  obtain ⟨a, rfl, ha⟩ := w0
  obtain ⟨b, rfl, hb⟩ := w1
  obtain ⟨n, rfl, hn⟩ := w2
  obtain ⟨t, rfl, ht⟩ := w3
  have hin : InAs W 0 [.one (.int .u8), .one (.int .u8), .one (.int .i64), .one (.int .u64)] [.z (a : Int), .z (b : Int), .z n, .z (t : Int)] [.int .u8 (a : Int), .int .u8 (b : Int), .int .i64 n, .int .u64 (t : Int)] :=
    .one _ _ _ _ _ _ _ (inB_int (by rw [in_u8]; omega)) (.one _ _ _ _ _ _ _ (inB_int (by rw [in_u8]; omega)) (.one _ _ _ _ _ _ _ (inB_int (by rw [in_i64]; omega)) (.one _ _ _ _ _ _ _ (inB_int (by rw [in_u64]; omega)) (.nil _))))
  refine law_run (t := 0) (by decide) hin fun caps φs h hf hro hus => ?_
  rcases (by omega : n < 0 ∨ 1 + (a : Int) - min (b : Int) (1 + (a : Int)) < n ∨ (0 ≤ n ∧ n ≤ 1 + (a : Int) - min (b : Int) (1 + (a : Int)))) with k | k | k
  · have hF := crfA_ok (l := (a : Int)) (s := (b : Int)) (n := n) (t := (t : Int)) (by omega) (by omega) k (by omega) (by omega)
    rw [← crfA_eq] at hF
    exact nest_run follows named crHooks_ok (rolow_of (entries := []) rfl) hF hf hro hus
  · have hF := crfB_ok (l := (a : Int)) (s := (b : Int)) (n := n) (t := (t : Int)) (by omega) (by omega) k (by omega) (by omega)
    rw [← crfB_eq] at hF
    exact nest_run follows named crHooks_ok (rolow_of (entries := []) rfl) hF hf hro hus
  · have hF := crfC_ok (l := (a : Int)) (s := (b : Int)) (n := n) (t := (t : Int)) (by omega) (by omega) k.2 k.1 (by omega)
    rw [← crfC_eq] at hF
    exact nest_run follows named crHooks_ok (rolow_of (entries := []) rfl) hF hf hro hus
end Go.Proofs.Ytacfalpoimjemaa.Cr
