/- seq: SeqOnce, run. By an AI agent. -/
import Derived.Test.YtghhdjhobidbcaaSqG
namespace Go.Proofs.Ytghhdjhobidbcaa.Sq
open Go Go.RowKit Go.Proofs.Ytghhdjhobidbcaa.Abs Go.Proofs.Ytghhdjhobidbcaa.M
set_option linter.unusedVariables false
set_option linter.unusedSimpArgs false
abbrev ONCE : FuncId := 7
def oI (n m : Int) (k : Nat) : LS := ⟨[(5, .sint .i64 n), (6, .ptr (some (5000, 0))), (24, .sint .i64 m), (25, .sint .i64 (k : Int))], [(5000, .cells [.sint .u32 n, .sint .u32 (min (k : Int) n)] 0)], 5001⟩
def oJ (_ : Unit) : LS := ⟨[], [], 5001⟩
noncomputable def oA (n m : Int) := loopA 5000 (fun (k : Nat) => k ≤ m.toNat) (oI n m) (fun _ => True) oJ (tmpsN Try.prog ONCE) [(5000, 1000)]
noncomputable def oRound (n m : Int) (k : Nat) (dc : Dc) : Prop := execD Try.prog .leaf wkHooks 100 (roundOf Try.prog ONCE 0) (tmpsN Try.prog ONCE) ⟨none, []⟩ (oI n m k).T (oI n m k).S dc (fun r _ => roundK 5000 (fun (k : Nat) => k ≤ m.toNat) (oI n m) (fun (k : Nat) => m.toNat - k) [(5000, 5000)] (fun _ => True) oJ [] 0 k r)
noncomputable def oW (l m : Int) (dc : Dc) : Prop := wpD Try.prog .leaf wkHooks (one1 0 (oA (1 + l % 40) m)) 100 (bodyOf Try.prog ONCE) (tmpsN Try.prog ONCE) ⟨none, []⟩ (argsT [.sint .u8 l, .sint .u8 m] 0 .leaf) ⟨.leaf, 1000, []⟩ dc (fun r _ => endW Try.prog .leaf Try.f7 r (fun v _ => isTrue v))
--forms
def oRf (n m : Int) (k : Nat) : Prop :=
    (Decidable.decide ((↑k : Int) < m) = Bool.true →
    (Decidable.decide (n = (0 : Int)) = Bool.true →
    (Decidable.decide ((↑k : Int) < n) = Bool.true →
    False) ∧ (Decidable.decide ((↑k : Int) < n) = Bool.false →
    (Decidable.decide (n ≤ (↑k : Int)) = Bool.true →
    False) ∧ (Decidable.decide (n ≤ (↑k : Int)) = Bool.false →
    Go.Proofs.Ytghhdjhobidbcaa.Abs.inR Go.IntKind.i64 ((↑k : Int) + (1 : Int)) ∧ ∀ (z' : Int), z' = (↑k : Int) + (1 : Int) →
    ∀ (z'_1 : Int), z'_1 = Min.min z' n →
    (Decidable.decide (Min.min (↑k : Int) n ≠ z'_1) = Bool.true →
    False) ∧ (Decidable.decide (Min.min (↑k : Int) n ≠ z'_1) = Bool.false →
    ∀ (z' : Int), z' = (n - Min.min (↑k : Int) n) % (4294967296 : Int) →
    Go.Proofs.Ytghhdjhobidbcaa.Abs.inR Go.IntKind.i64 (n - (↑k : Int)) ∧ ∀ (z'_2 : Int), z'_2 = n - (↑k : Int) →
    Go.Proofs.Ytghhdjhobidbcaa.Abs.inR Go.IntKind.i64 (z'_2 - (1 : Int)) ∧ ∀ (z'_3 : Int), z'_3 = z'_2 - (1 : Int) →
    ∀ (z'_4 : Int), z'_4 = Max.max z'_3 (0 : Int) →
    (Decidable.decide (z' ≠ z'_4) = Bool.true →
    False) ∧ (Decidable.decide (z' ≠ z'_4) = Bool.false →
    Go.Proofs.Ytghhdjhobidbcaa.Abs.inR Go.IntKind.i64 ((↑k : Int) + (1 : Int)) ∧ ∀ (z' : Int), z' = (↑k : Int) + (1 : Int) →
    ∃ y, (Int.toNat m - y < Int.toNat m - k ∧ Nat.le y (Int.toNat m)) ∧ True ∧ (n = n ∧ 0 = 0 ∧ m = m ∧ (↑y : Int) = z' ∧ True) ∧ (n = n ∧ Min.min (↑y : Int) n = Min.min (↑k : Int) n ∧ True) ∧ True))))) ∧ (Decidable.decide (n = (0 : Int)) = Bool.false →
    (Decidable.decide (Min.min (↑k : Int) n = n) = Bool.true →
    (Decidable.decide ((↑k : Int) < n) = Bool.true →
    False) ∧ (Decidable.decide ((↑k : Int) < n) = Bool.false →
    (Decidable.decide (n ≤ (↑k : Int)) = Bool.true →
    Go.Proofs.Ytghhdjhobidbcaa.Abs.inR Go.IntKind.i64 ((↑k : Int) + (1 : Int)) ∧ ∀ (z' : Int), z' = (↑k : Int) + (1 : Int) →
    ∀ (z'_1 : Int), z'_1 = Min.min z' n →
    (Decidable.decide (Min.min (↑k : Int) n ≠ z'_1) = Bool.true →
    False) ∧ (Decidable.decide (Min.min (↑k : Int) n ≠ z'_1) = Bool.false →
    ∀ (z' : Int), z' = (n - Min.min (↑k : Int) n) % (4294967296 : Int) →
    Go.Proofs.Ytghhdjhobidbcaa.Abs.inR Go.IntKind.i64 (n - (↑k : Int)) ∧ ∀ (z'_2 : Int), z'_2 = n - (↑k : Int) →
    Go.Proofs.Ytghhdjhobidbcaa.Abs.inR Go.IntKind.i64 (z'_2 - (1 : Int)) ∧ ∀ (z'_3 : Int), z'_3 = z'_2 - (1 : Int) →
    ∀ (z'_4 : Int), z'_4 = Max.max z'_3 (0 : Int) →
    (Decidable.decide (z' ≠ z'_4) = Bool.true →
    False) ∧ (Decidable.decide (z' ≠ z'_4) = Bool.false →
    Go.Proofs.Ytghhdjhobidbcaa.Abs.inR Go.IntKind.i64 ((↑k : Int) + (1 : Int)) ∧ ∀ (z' : Int), z' = (↑k : Int) + (1 : Int) →
    ∃ y, (Int.toNat m - y < Int.toNat m - k ∧ Nat.le y (Int.toNat m)) ∧ True ∧ (n = n ∧ 0 = 0 ∧ m = m ∧ (↑y : Int) = z' ∧ True) ∧ (n = n ∧ Min.min (↑y : Int) n = Min.min (↑k : Int) n ∧ True) ∧ True))) ∧ (Decidable.decide (n ≤ (↑k : Int)) = Bool.false →
    Go.Proofs.Ytghhdjhobidbcaa.Abs.inR Go.IntKind.i64 ((↑k : Int) + (1 : Int)) ∧ ∀ (z' : Int), z' = (↑k : Int) + (1 : Int) →
    ∀ (z'_1 : Int), z'_1 = Min.min z' n →
    (Decidable.decide (Min.min (↑k : Int) n ≠ z'_1) = Bool.true →
    False) ∧ (Decidable.decide (Min.min (↑k : Int) n ≠ z'_1) = Bool.false →
    ∀ (z' : Int), z' = (n - Min.min (↑k : Int) n) % (4294967296 : Int) →
    Go.Proofs.Ytghhdjhobidbcaa.Abs.inR Go.IntKind.i64 (n - (↑k : Int)) ∧ ∀ (z'_2 : Int), z'_2 = n - (↑k : Int) →
    Go.Proofs.Ytghhdjhobidbcaa.Abs.inR Go.IntKind.i64 (z'_2 - (1 : Int)) ∧ ∀ (z'_3 : Int), z'_3 = z'_2 - (1 : Int) →
    ∀ (z'_4 : Int), z'_4 = Max.max z'_3 (0 : Int) →
    (Decidable.decide (z' ≠ z'_4) = Bool.true →
    False) ∧ (Decidable.decide (z' ≠ z'_4) = Bool.false →
    Go.Proofs.Ytghhdjhobidbcaa.Abs.inR Go.IntKind.i64 ((↑k : Int) + (1 : Int)) ∧ ∀ (z' : Int), z' = (↑k : Int) + (1 : Int) →
    ∃ y, (Int.toNat m - y < Int.toNat m - k ∧ Nat.le y (Int.toNat m)) ∧ True ∧ (n = n ∧ 0 = 0 ∧ m = m ∧ (↑y : Int) = z' ∧ True) ∧ (n = n ∧ Min.min (↑y : Int) n = Min.min (↑k : Int) n ∧ True) ∧ True))))) ∧ (Decidable.decide (Min.min (↑k : Int) n = n) = Bool.false →
    ∀ (z' : Int), z' = (Min.min (↑k : Int) n + (1 : Int)) % (4294967296 : Int) →
    (Decidable.decide ((↑k : Int) < n) = Bool.true →
    (Decidable.decide (Min.min (↑k : Int) n ≠ (↑k : Int) % (4294967296 : Int)) = Bool.true →
    False) ∧ (Decidable.decide (Min.min (↑k : Int) n ≠ (↑k : Int) % (4294967296 : Int)) = Bool.false →
    (Decidable.decide (n ≤ (↑k : Int)) = Bool.true →
    False) ∧ (Decidable.decide (n ≤ (↑k : Int)) = Bool.false →
    Go.Proofs.Ytghhdjhobidbcaa.Abs.inR Go.IntKind.i64 ((↑k : Int) + (1 : Int)) ∧ ∀ (z'_1 : Int), z'_1 = (↑k : Int) + (1 : Int) →
    ∀ (z'_2 : Int), z'_2 = Min.min z'_1 n →
    (Decidable.decide (z' ≠ z'_2) = Bool.true →
    False) ∧ (Decidable.decide (z' ≠ z'_2) = Bool.false →
    ∀ (z'_3 : Int), z'_3 = (n - z') % (4294967296 : Int) →
    Go.Proofs.Ytghhdjhobidbcaa.Abs.inR Go.IntKind.i64 (n - (↑k : Int)) ∧ ∀ (z'_4 : Int), z'_4 = n - (↑k : Int) →
    Go.Proofs.Ytghhdjhobidbcaa.Abs.inR Go.IntKind.i64 (z'_4 - (1 : Int)) ∧ ∀ (z'_5 : Int), z'_5 = z'_4 - (1 : Int) →
    ∀ (z'_6 : Int), z'_6 = Max.max z'_5 (0 : Int) →
    (Decidable.decide (z'_3 ≠ z'_6) = Bool.true →
    False) ∧ (Decidable.decide (z'_3 ≠ z'_6) = Bool.false →
    Go.Proofs.Ytghhdjhobidbcaa.Abs.inR Go.IntKind.i64 ((↑k : Int) + (1 : Int)) ∧ ∀ (z'_7 : Int), z'_7 = (↑k : Int) + (1 : Int) →
    ∃ y, (Int.toNat m - y < Int.toNat m - k ∧ Nat.le y (Int.toNat m)) ∧ True ∧ (n = n ∧ 0 = 0 ∧ m = m ∧ (↑y : Int) = z'_7 ∧ True) ∧ (n = n ∧ Min.min (↑y : Int) n = z' ∧ True) ∧ True))))) ∧ (Decidable.decide ((↑k : Int) < n) = Bool.false →
    (Decidable.decide (n ≤ (↑k : Int)) = Bool.true →
    False) ∧ (Decidable.decide (n ≤ (↑k : Int)) = Bool.false →
    Go.Proofs.Ytghhdjhobidbcaa.Abs.inR Go.IntKind.i64 ((↑k : Int) + (1 : Int)) ∧ ∀ (z'_1 : Int), z'_1 = (↑k : Int) + (1 : Int) →
    ∀ (z'_2 : Int), z'_2 = Min.min z'_1 n →
    (Decidable.decide (z' ≠ z'_2) = Bool.true →
    False) ∧ (Decidable.decide (z' ≠ z'_2) = Bool.false →
    ∀ (z'_3 : Int), z'_3 = (n - z') % (4294967296 : Int) →
    Go.Proofs.Ytghhdjhobidbcaa.Abs.inR Go.IntKind.i64 (n - (↑k : Int)) ∧ ∀ (z'_4 : Int), z'_4 = n - (↑k : Int) →
    Go.Proofs.Ytghhdjhobidbcaa.Abs.inR Go.IntKind.i64 (z'_4 - (1 : Int)) ∧ ∀ (z'_5 : Int), z'_5 = z'_4 - (1 : Int) →
    ∀ (z'_6 : Int), z'_6 = Max.max z'_5 (0 : Int) →
    (Decidable.decide (z'_3 ≠ z'_6) = Bool.true →
    False) ∧ (Decidable.decide (z'_3 ≠ z'_6) = Bool.false →
    Go.Proofs.Ytghhdjhobidbcaa.Abs.inR Go.IntKind.i64 ((↑k : Int) + (1 : Int)) ∧ ∀ (z'_7 : Int), z'_7 = (↑k : Int) + (1 : Int) →
    ∃ y, (Int.toNat m - y < Int.toNat m - k ∧ Nat.le y (Int.toNat m)) ∧ True ∧ (n = n ∧ 0 = 0 ∧ m = m ∧ (↑y : Int) = z'_7 ∧ True) ∧ (n = n ∧ Min.min (↑y : Int) n = z' ∧ True) ∧ True))))))) ∧ (Decidable.decide ((↑k : Int) < m) = Bool.false →
    ∃ z : Unit, True ∧ True ∧ True ∧ True)
theorem oRf_eq (n m : Int) (k : Nat) : oRound n m k [] = oRf n m k := by kernel_rfl
def of_ (l m : Int) : Prop :=
    ((0 : Int) ≤ l ∧ (0 : Int) < (40 : Int)) ∧ Go.Proofs.Ytghhdjhobidbcaa.Abs.inR Go.IntKind.i64 ((1 : Int) + l % (40 : Int)) ∧ ∀ (z' : Int), z' = (1 : Int) + l % (40 : Int) →
    Decidable.decide (z' % (4294967296 : Int) < (1 : Int)) = Bool.false ∧ Decidable.decide ((2147483648 : Int) < z' % (4294967296 : Int)) = Bool.false ∧
    ∃ x0, Nat.le x0 (Int.toNat m) ∧ (True ∧ ((1 : Int) + l % (40 : Int) = z' ∧ 0 = 0 ∧ m = m ∧ ((↑x0 : Int) = (0 : Int) ∧ Go.Proofs.Ytghhdjhobidbcaa.Abs.inR Go.IntKind.i64 (↑x0 : Int)) ∧ True) ∧ ((1 : Int) + l % (40 : Int) = z' % (4294967296 : Int) ∧ (Min.min (↑x0 : Int) ((1 : Int) + l % (40 : Int)) = (0 : Int) ∧ Go.Proofs.Ytghhdjhobidbcaa.Abs.inR Go.IntKind.u32 (Min.min (↑x0 : Int) ((1 : Int) + l % (40 : Int)))) ∧ True) ∧ True) ∧ ∀ (z : Unit), True →
    Bool.true = Bool.true
theorem of__eq (l m : Int) : oW l m [0, 0] = of_ l m := by kernel_rfl

theorem oRf_ok {n m : Int} {k : Nat} (hn : 1 ≤ n ∧ n ≤ 40) (hm : 0 ≤ m ∧ m ≤ 255) (hk : k ≤ m.toNat) : oRf n m k := by
  unfold oRf
  repeat' (first
    | (with_reducible refine And.intro ?_ ?_)
    | (intro h; first | (have h := of_decide_eq_true h) | (have h := of_decide_eq_false h) | skip)
    | exact trivial
    | exact ⟨(), trivial, trivial, trivial, trivial⟩
    | rfl
    | omega
    | exact decide_eq_true (by omega)
    | exact decide_eq_false (by omega)
    | (simp only [in_u8, in_u16, in_u32, in_u64, in_i64]; omega)
    | (show (_ : Nat) ≤ _; omega)
    | (exfalso; omega))
  all_goals refine ⟨k + 1, ?_⟩
  repeat' (first
    | (with_reducible refine And.intro ?_ ?_)
    | (intro h; first | (have h := of_decide_eq_true h) | (have h := of_decide_eq_false h) | skip)
    | exact trivial
    | exact ⟨(), trivial, trivial, trivial, trivial⟩
    | rfl
    | omega
    | exact decide_eq_true (by omega)
    | exact decide_eq_false (by omega)
    | (simp only [in_u8, in_u16, in_u32, in_u64, in_i64]; omega)
    | (show (_ : Nat) ≤ _; omega)
    | (exfalso; omega))
theorem of_ok {l m : Int} (hl : 0 ≤ l ∧ l ≤ 255) (hm : 0 ≤ m ∧ m ≤ 255) : of_ l m := by
  unfold of_
  repeat' (first
    | (with_reducible refine And.intro ?_ ?_)
    | (intro h; first | (have h := of_decide_eq_true h) | (have h := of_decide_eq_false h) | skip)
    | exact trivial
    | exact ⟨(), trivial, trivial, trivial, trivial⟩
    | rfl
    | omega
    | exact decide_eq_true (by omega)
    | exact decide_eq_false (by omega)
    | (simp only [in_u8, in_u16, in_u32, in_u64, in_i64]; omega)
    | (show (_ : Nat) ≤ _; omega)
    | (exfalso; omega))
  refine ⟨0, ?_⟩
  repeat' (first
    | (with_reducible refine And.intro ?_ ?_)
    | (intro h; first | (have h := of_decide_eq_true h) | (have h := of_decide_eq_false h) | skip)
    | exact trivial
    | exact ⟨(), trivial, trivial, trivial, trivial⟩
    | rfl
    | omega
    | exact decide_eq_true (by omega)
    | exact decide_eq_false (by omega)
    | (simp only [in_u8, in_u16, in_u32, in_u64, in_i64]; omega)
    | (show (_ : Nat) ≤ _; omega)
    | (exfalso; omega))
theorem once_law (W : World) (v0 v1 : Value) (w0 : Open.InNat .u8 256 v0) (w1 : Open.InNat .u8 256 v1) : Calls Try.prog ONCE #[v0, v1] W fun e w' => e = .returned (.bool true) ∧ Below W.heap.size W w' := by
  obtain ⟨l, rfl, hl⟩ := w0
  obtain ⟨m, rfl, hm⟩ := w1
  have hin : InAs W 0 [.one (.int .u8), .one (.int .u8)] [.z (l : Int), .z (m : Int)] [.int .u8 (l : Int), .int .u8 (m : Int)] :=
    .one _ _ _ _ _ _ _ (inB_int (by rw [in_u8]; omega)) (.one _ _ _ _ _ _ _ (inB_int (by rw [in_u8]; omega)) (.nil _))
  refine law_run (t := 0) (by decide) hin fun caps φs h hf hro hus => ?_
  have hA : AnnOk Try.prog .leaf (one1 0 (oA (1 + (l : Int) % 40) (m : Int))) W (bodyOf Try.prog ONCE) := annOk_one (a := .loop (roundOf Try.prog ONCE 0)) (by kernel_rfl)
    (loopT_ok 5000 (fun (k : Nat) => k ≤ (m : Int).toNat) (oI (1 + (l : Int) % 40) (m : Int)) (fun (k : Nat) => (m : Int).toNat - k) [(5000, 5000)] (fun _ => True) oJ [] (rolow_of (entries := []) rfl) (fun k hk => (tri_execD follows named wkHooks_ok ((oRf_eq (1 + (l : Int) % 40) (m : Int) k).mpr (oRf_ok (by omega) (by omega) hk))).mono fun r ⟨_, hr⟩ => hr))
  exact fn_way follows named wkHooks_ok (g := ONCE) (fn := Try.f7) (body := bodyOf Try.prog ONCE) (by kernel_rfl) (by kernel_rfl) hA (RO := .leaf) (f := 100) (next := 1000) (args := [.sint .u8 (l : Int), .sint .u8 (m : Int)]) (K := fun v _ => isTrue v) [0, 0]
    (Eq.mp (by kernel_rfl) ((of__eq (l : Int) (m : Int)).mpr (of_ok (by omega) (by omega)))) hf hro hus
end Go.Proofs.Ytghhdjhobidbcaa.Sq
