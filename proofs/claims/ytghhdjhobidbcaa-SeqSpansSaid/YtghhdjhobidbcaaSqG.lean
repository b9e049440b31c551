/- seq: SeqGives, run. By an AI agent. -/
import Derived.Test.YtghhdjhobidbcaaHk4
import Derived.Test.YtghhdjhobidbcaaTw2
import Derived.Test.YtghhdjhobidbcaaSqK
import Derived.Test.YtghhdjhobidbcaaOpen
namespace Go.Proofs.Ytghhdjhobidbcaa.Sq
open Go Go.RowKit Go.Proofs.Ytghhdjhobidbcaa.Abs Go.Proofs.Ytghhdjhobidbcaa.M
set_option linter.unusedVariables false
set_option linter.unusedSimpArgs false
theorem follows : (Try.prog).follows .mixedOrders = true := by kernel_rfl
theorem named : ∀ (f : FuncId) (fn : Func), (Try.prog).funcs[f]? = some fn → (fn.name == "runtime.NumGoroutine") = false := named_of (P := Try.prog) (by kernel_rfl)
abbrev WAKES : FuncId := 11
noncomputable def wkHooks : FuncId → Option Hook := hkAdd WAKES trueH hkNone
theorem wkHooks_ok {w0 : World} {RO : PT AObj} : HooksOk Try.prog w0 RO wkHooks := hkAdd_ok (trueH_ok ⟨_, rfl, rfl, by kernel_rfl⟩ fun w _ => wakes_any w) hkNone_ok
abbrev GIVES : FuncId := 3
def gO (L u : Int) : List (Nat × AObj) := [(5000, .cells [.sint .u32 L, .sint .u32 u] 0), (5001, .cells [.sint .u32 u, .sint .u32 L] 0)]
def gI (L m : Int) (k : Nat) : LS := ⟨[(5, .ptr (some (5000, 0))), (7, .ptr (some (5001, 0))), (34, .sint .u8 m), (35, .sint .u8 (k : Int))], gO L (min (k : Int) L), 5002⟩
def gJ (_ : Unit) : LS := ⟨[], [], 5002⟩
noncomputable def gA (L m : Int) := loopA 5000 (fun (k : Nat) => k ≤ m.toNat) (gI L m) (fun _ => True) gJ (tmpsN Try.prog GIVES) [(5000, 1000), (5001, 1001)]
noncomputable def gRound (L m : Int) (k : Nat) (dc : Dc) : Prop := execD Try.prog .leaf wkHooks 100 (roundOf Try.prog GIVES 0) (tmpsN Try.prog GIVES) ⟨none, []⟩ (gI L m k).T (gI L m k).S dc (fun r _ => roundK 5000 (fun (k : Nat) => k ≤ m.toNat) (gI L m) (fun (k : Nat) => m.toNat - k) [(5000, 5000), (5001, 5001)] (fun _ => True) gJ [] 0 k r)
noncomputable def gW (ann : Ann) (L m : Int) (dc : Dc) : Prop := wpD Try.prog .leaf wkHooks ann 100 (bodyOf Try.prog GIVES) (tmpsN Try.prog GIVES) ⟨none, []⟩ (argsT [.sint .u32 L, .sint .u8 m] 0 .leaf) ⟨.leaf, 1000, []⟩ dc (fun r _ => endW Try.prog .leaf Try.f3 r (fun v _ => isTrue v))
--forms
def gRf (L m : Int) (k : Nat) : Prop :=
    (Decidable.decide ((↑k : Int) < m) = Bool.true →
    (Decidable.decide (L = (0 : Int)) = Bool.true →
    (Decidable.decide (L ≤ Min.min (↑k : Int) L) = Bool.true →
    False) ∧ (Decidable.decide (L ≤ Min.min (↑k : Int) L) = Bool.false →
    ∀ (z' : Int), z' = (Min.min (↑k : Int) L + (1 : Int)) % (4294967296 : Int) →
    ∀ (z'_1 : Int), z'_1 = (z' - (1 : Int)) % (4294967296 : Int) →
    (Decidable.decide ((0 : Int) ≠ z'_1) = Bool.true →
    False) ∧ (Decidable.decide ((0 : Int) ≠ z'_1) = Bool.false →
    False))) ∧ (Decidable.decide (L = (0 : Int)) = Bool.false →
    (Decidable.decide (Min.min (↑k : Int) L = L) = Bool.true →
    (Decidable.decide (L ≤ Min.min (↑k : Int) L) = Bool.true →
    (Decidable.decide (Min.min (↑k : Int) L ≠ Min.min (↑k : Int) L) = Bool.true →
    False) ∧ (Decidable.decide (Min.min (↑k : Int) L ≠ Min.min (↑k : Int) L) = Bool.false →
    ∀ (z' : Int), z' = (L - Min.min (↑k : Int) L) % (4294967296 : Int) →
    ∀ (z'_1 : Int), z'_1 = (L - Min.min (↑k : Int) L) % (4294967296 : Int) →
    (Decidable.decide (z' ≠ z'_1) = Bool.true →
    False) ∧ (Decidable.decide (z' ≠ z'_1) = Bool.false →
    ∀ (z' : Int), z' = ((↑k : Int) + (1 : Int)) % (256 : Int) →
    ∃ y, (Int.toNat m - y < Int.toNat m - k ∧ Nat.le y (Int.toNat m)) ∧ True ∧ (0 = 0 ∧ 0 = 0 ∧ m = m ∧ (↑y : Int) = z' ∧ True) ∧ (L = L ∧ Min.min (↑y : Int) L = Min.min (↑k : Int) L ∧ True) ∧ (Min.min (↑y : Int) L = Min.min (↑k : Int) L ∧ L = L ∧ True) ∧ True))) ∧ (Decidable.decide (L ≤ Min.min (↑k : Int) L) = Bool.false →
    ∀ (z' : Int), z' = (Min.min (↑k : Int) L + (1 : Int)) % (4294967296 : Int) →
    ∀ (z'_1 : Int), z'_1 = (z' - (1 : Int)) % (4294967296 : Int) →
    (Decidable.decide ((0 : Int) ≠ z'_1) = Bool.true →
    False) ∧ (Decidable.decide ((0 : Int) ≠ z'_1) = Bool.false →
    False))) ∧ (Decidable.decide (Min.min (↑k : Int) L = L) = Bool.false →
    ∀ (z' : Int), z' = (Min.min (↑k : Int) L + (1 : Int)) % (4294967296 : Int) →
    (Decidable.decide (L ≤ Min.min (↑k : Int) L) = Bool.true →
    (Decidable.decide (Min.min (↑k : Int) L ≠ (0 : Int)) = Bool.true →
    False) ∧ (Decidable.decide (Min.min (↑k : Int) L ≠ (0 : Int)) = Bool.false →
    False)) ∧ (Decidable.decide (L ≤ Min.min (↑k : Int) L) = Bool.false →
    ∀ (z'_1 : Int), z'_1 = (Min.min (↑k : Int) L + (1 : Int)) % (4294967296 : Int) →
    ∀ (z'_2 : Int), z'_2 = (z'_1 - (1 : Int)) % (4294967296 : Int) →
    (Decidable.decide (Min.min (↑k : Int) L ≠ z'_2) = Bool.true →
    False) ∧ (Decidable.decide (Min.min (↑k : Int) L ≠ z'_2) = Bool.false →
    (Decidable.decide (z' ≠ z'_1) = Bool.true →
    False) ∧ (Decidable.decide (z' ≠ z'_1) = Bool.false →
    ∀ (z'_3 : Int), z'_3 = (L - z') % (4294967296 : Int) →
    ∀ (z'_4 : Int), z'_4 = (L - z'_1) % (4294967296 : Int) →
    (Decidable.decide (z'_3 ≠ z'_4) = Bool.true →
    False) ∧ (Decidable.decide (z'_3 ≠ z'_4) = Bool.false →
    ∀ (z'_5 : Int), z'_5 = ((↑k : Int) + (1 : Int)) % (256 : Int) →
    ∃ y, (Int.toNat m - y < Int.toNat m - k ∧ Nat.le y (Int.toNat m)) ∧ True ∧ (0 = 0 ∧ 0 = 0 ∧ m = m ∧ (↑y : Int) = z'_5 ∧ True) ∧ (L = L ∧ Min.min (↑y : Int) L = z' ∧ True) ∧ (Min.min (↑y : Int) L = z'_1 ∧ L = L ∧ True) ∧ True))))))) ∧ (Decidable.decide ((↑k : Int) < m) = Bool.false →
    ∃ z : Unit, True ∧ True ∧ True ∧ True)
theorem gRf_eq (L m : Int) (k : Nat) : gRound L m k [] = gRf L m k := by kernel_rfl
def gfA (L m : Int) : Prop :=
    Decidable.decide (L < (1 : Int)) = Bool.true ∧ Decidable.decide (L = (0 : Int)) = Bool.true ∧ Bool.true = Bool.true
theorem gfA_eq (L m : Int) : gW (fun _ => none) L m [1, 1] = gfA L m := by kernel_rfl
def gfB (L m : Int) : Prop :=
    Decidable.decide (L < (1 : Int)) = Bool.false ∧ Decidable.decide ((2147483648 : Int) < L) = Bool.false ∧ Decidable.decide (L = (0 : Int)) = Bool.false ∧ Decidable.decide ((2147483648 : Int) < L) = Bool.false ∧ ((0 : Int) ≤ m ∧ (0 : Int) < (101 : Int)) ∧
    ∃ x0, Nat.le x0 (Int.toNat (m % (101 : Int))) ∧ (True ∧ (0 = 0 ∧ 0 = 0 ∧ m % (101 : Int) = m % (101 : Int) ∧ ((↑x0 : Int) = (0 : Int) ∧ Go.Proofs.Ytghhdjhobidbcaa.Abs.inR Go.IntKind.u8 (↑x0 : Int)) ∧ True) ∧ (L = L ∧ (Min.min (↑x0 : Int) L = (0 : Int) ∧ Go.Proofs.Ytghhdjhobidbcaa.Abs.inR Go.IntKind.u32 (Min.min (↑x0 : Int) L)) ∧ True) ∧ ((Min.min (↑x0 : Int) L = (0 : Int) ∧ Go.Proofs.Ytghhdjhobidbcaa.Abs.inR Go.IntKind.u32 (Min.min (↑x0 : Int) L)) ∧ L = L ∧ True) ∧ True) ∧ ∀ (z : Unit), True →
    Bool.true = Bool.true
theorem gfB_eq (L m : Int) : gW (one1 0 (gA L (m % 101))) L m [0, 0, 0, 0] = gfB L m := by kernel_rfl
def gfC (L m : Int) : Prop :=
    Decidable.decide (L < (1 : Int)) = Bool.false ∧ Decidable.decide ((2147483648 : Int) < L) = Bool.true ∧ Decidable.decide (L = (0 : Int)) = Bool.false ∧ Decidable.decide ((2147483648 : Int) < L) = Bool.true ∧ Bool.true = Bool.true
theorem gfC_eq (L m : Int) : gW (fun _ => none) L m [0, 1, 0, 1] = gfC L m := by kernel_rfl

theorem gRf_ok {L m : Int} {k : Nat} (hL : 1 ≤ L ∧ L ≤ 2147483648) (hm : 0 ≤ m ∧ m ≤ 255) (hk : k ≤ m.toNat) : gRf L m k := by
  unfold gRf
  repeat' (first
    | (with_reducible refine And.intro ?_ ?_)
    | (intro h; first | (have h := of_decide_eq_true h) | (have h := of_decide_eq_false h) | skip)
    | exact trivial
    | rfl
    | omega
    | exact decide_eq_true (by omega)
    | exact decide_eq_false (by omega)
    | (simp only [in_u8, in_u16, in_u32, in_u64, in_i64]; omega)
    | (show (_ : Nat) ≤ _; omega)
    | (exfalso; omega))
  · refine ⟨k + 1, ?_⟩
    repeat' (first
      | (with_reducible refine And.intro ?_ ?_)
      | (intro h; first | (have h := of_decide_eq_true h) | (have h := of_decide_eq_false h) | skip)
      | exact trivial
      | rfl
      | omega
      | exact decide_eq_true (by omega)
      | exact decide_eq_false (by omega)
      | (simp only [in_u8, in_u16, in_u32, in_u64, in_i64]; omega)
      | (show (_ : Nat) ≤ _; omega)
      | (exfalso; omega))
  · refine ⟨k + 1, ?_⟩
    repeat' (first
      | (with_reducible refine And.intro ?_ ?_)
      | (intro h; first | (have h := of_decide_eq_true h) | (have h := of_decide_eq_false h) | skip)
      | exact trivial
      | rfl
      | omega
      | exact decide_eq_true (by omega)
      | exact decide_eq_false (by omega)
      | (simp only [in_u8, in_u16, in_u32, in_u64, in_i64]; omega)
      | (show (_ : Nat) ≤ _; omega)
      | (exfalso; omega))
  · exact ⟨(), trivial, trivial, trivial, trivial⟩
theorem gfB_ok {L m : Int} (hL : 1 ≤ L ∧ L ≤ 2147483648) (hm : 0 ≤ m ∧ m ≤ 255) : gfB L m := by
  unfold gfB
  repeat' (first
    | (with_reducible refine And.intro ?_ ?_)
    | (intro h; first | (have h := of_decide_eq_true h) | (have h := of_decide_eq_false h) | skip)
    | exact trivial
    | rfl
    | omega
    | exact decide_eq_true (by omega)
    | exact decide_eq_false (by omega)
    | (simp only [in_u8, in_u16, in_u32, in_u64, in_i64]; omega)
    | (show (_ : Nat) ≤ _; omega)
    | (exfalso; omega))
  refine ⟨0, ?_⟩
  repeat' (first
    | (with_reducible refine And.intro ?_ ?_)
    | (intro h; first | (have h := of_decide_eq_true h) | (have h := of_decide_eq_false h) | skip)
    | exact trivial
    | rfl
    | omega
    | exact decide_eq_true (by omega)
    | exact decide_eq_false (by omega)
    | (simp only [in_u8, in_u16, in_u32, in_u64, in_i64]; omega)
    | (show (_ : Nat) ≤ _; omega)
    | (exfalso; omega))
theorem gfA_ok {L m : Int} (hL : L = 0) : gfA L m := by
  unfold gfA
  repeat' (first
    | (with_reducible refine And.intro ?_ ?_)
    | (intro h; first | (have h := of_decide_eq_true h) | (have h := of_decide_eq_false h) | skip)
    | exact trivial
    | rfl
    | omega
    | exact decide_eq_true (by omega)
    | exact decide_eq_false (by omega)
    | (simp only [in_u8, in_u16, in_u32, in_u64, in_i64]; omega)
    | (show (_ : Nat) ≤ _; omega)
    | (exfalso; omega))
theorem gfC_ok {L m : Int} (hL : 2147483648 < L) : gfC L m := by
  unfold gfC
  repeat' (first
    | (with_reducible refine And.intro ?_ ?_)
    | (intro h; first | (have h := of_decide_eq_true h) | (have h := of_decide_eq_false h) | skip)
    | exact trivial
    | rfl
    | omega
    | exact decide_eq_true (by omega)
    | exact decide_eq_false (by omega)
    | (simp only [in_u8, in_u16, in_u32, in_u64, in_i64]; omega)
    | (show (_ : Nat) ≤ _; omega)
    | (exfalso; omega))
theorem gives_law (W : World) (v0 v1 : Value) (w0 : Open.InNat .u32 4294967296 v0) (w1 : Open.InNat .u8 256 v1) : Calls Try.prog GIVES #[v0, v1] W fun e w' => e = .returned (.bool true) ∧ Below W.heap.size W w' := by
  obtain ⟨L, rfl, hL⟩ := w0
  obtain ⟨m, rfl, hm⟩ := w1
  have hin : InAs W 0 [.one (.int .u32), .one (.int .u8)] [.z (L : Int), .z (m : Int)] [.int .u32 (L : Int), .int .u8 (m : Int)] :=
    .one _ _ _ _ _ _ _ (inB_int (by rw [in_u32]; omega)) (.one _ _ _ _ _ _ _ (inB_int (by rw [in_u8]; omega)) (.nil _))
  refine law_run (t := 0) (by decide) hin fun caps φs h hf hro hus => ?_
  have go : ∀ (ann : Ann) dc, AnnOk Try.prog .leaf ann W (bodyOf Try.prog GIVES) → gW ann (L : Int) (m : Int) dc → _ := fun ann dc hA hw =>
    fn_way follows named wkHooks_ok (g := GIVES) (fn := Try.f3) (body := bodyOf Try.prog GIVES) (by kernel_rfl) (by kernel_rfl) hA (RO := .leaf) (f := 100) (next := 1000) (args := [.sint .u32 (L : Int), .sint .u8 (m : Int)]) (K := fun v _ => isTrue v) dc (Eq.mp (by kernel_rfl) hw) hf hro hus
  have hA : ∀ {w0 : World}, 1 ≤ (L : Int) ∧ (L : Int) ≤ 2147483648 → AnnOk Try.prog .leaf (one1 0 (gA (L : Int) ((m : Int) % 101))) w0 (bodyOf Try.prog GIVES) := fun h1 => annOk_one (a := .loop (roundOf Try.prog GIVES 0)) (by kernel_rfl)
    (loopT_ok 5000 (fun (k : Nat) => k ≤ ((m : Int) % 101).toNat) (gI (L : Int) ((m : Int) % 101)) (fun (k : Nat) => ((m : Int) % 101).toNat - k) [(5000, 5000), (5001, 5001)] (fun _ => True) gJ [] (rolow_of (entries := []) rfl) (fun k hk => (tri_execD follows named wkHooks_ok ((gRf_eq (L : Int) ((m : Int) % 101) k).mpr (gRf_ok h1 (by omega) hk))).mono fun r ⟨_, hr⟩ => hr))
  rcases (by omega : (L : Int) = 0 ∨ (1 ≤ (L : Int) ∧ (L : Int) ≤ 2147483648) ∨ 2147483648 < (L : Int)) with h1 | h1 | h1
  · exact go _ [1, 1] annOk_none (by rw [gfA_eq]; exact gfA_ok h1)
  · exact go _ [0, 0, 0, 0] (hA h1) (by rw [gfB_eq]; exact gfB_ok h1 (by omega))
  · exact go _ [0, 1, 0, 1] annOk_none (by rw [gfC_eq]; exact gfC_ok h1)
end Go.Proofs.Ytghhdjhobidbcaa.Sq
