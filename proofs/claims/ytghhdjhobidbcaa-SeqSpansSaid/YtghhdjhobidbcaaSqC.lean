/- seq: slices.Contains, slices.Equal, slices.IsSorted of uint32s. By an AI agent. -/
import Derived.Test.YtghhdjhobidbcaaHk4
import Derived.Test.YtghhdjhobidbcaaNd
import Derived.Test.YtghhdjhobidbcaaSqG
namespace Go.Proofs.Ytghhdjhobidbcaa.Sq
open Go Go.RowKit Go.Proofs.Ytghhdjhobidbcaa.Abs Go.Proofs.Ytghhdjhobidbcaa.M
set_option linter.unusedVariables false
set_option linter.unusedSimpArgs false
abbrev U32 : TypeId := 22
abbrev CONT : FuncId := 17
abbrev INDEX : FuncId := 38
noncomputable abbrev roI (L : List Int) : PT AObj := hp [(900, .sints .u32 L U32)]
def conA (L : List Int) (z : Int) (τ : PT AVal) (st : St) : USpec :=
  { X := Nat, ok := fun i => i ≤ L.length ∧ z ∉ L.take i, m := fun i => L.length - i, I := fun i => ([(8, .sint .i64 (i : Int))], []), dc := [],
    outs := [(.exit 0, { Z := Unit, post := fun _ => decide (z ∈ L) = false, J := fun _ => ([], []) }), (.ret, { Z := Nat, post := fun i => i < L.length ∧ L.getD i 0 = z, J := fun i => ([(4, .sint .i64 (i : Int))], []) })] }
abbrev SORTED : FuncId := 30
abbrev EQU : FuncId := 19
noncomputable abbrev roII (L M : List Int) : PT AObj := hp [(900, .sints .u32 L U32), (901, .sints .u32 M U32)]
def Sorted (L : List Int) : Prop := ∀ i : Nat, i + 1 < L.length → L.getD i 0 ≤ L.getD (i + 1) 0
def sorA (L : List Int) (τ : PT AVal) (st : St) : USpec :=
  { X := Int, ok := fun i => -1 ≤ i ∧ i < L.length, m := fun i => (i + 1).toNat, I := fun i => ([(3, .sint .i64 i)], []), dc := [],
    outs := [(.exit 0, { Z := Unit, post := fun _ => True, J := fun _ => ([], []) })] }
def equA (L M : List Int) (τ : PT AVal) (st : St) : USpec :=
  { X := Nat, ok := fun i => i ≤ L.length ∧ L.length = M.length ∧ L.take i = M.take i, m := fun i => L.length - i, I := fun i => ([(13, .sint .i64 (i : Int))], []), dc := [],
    outs := [(.exit 0, { Z := Unit, post := fun _ => decide (L = M) = true, J := fun _ => ([], []) }), (.ret, { Z := Unit, post := fun _ => decide (L = M) = false, J := fun _ => ([(4, .bool false)], []) })] }
--forms
def sorf (L : List Int) (c : Nat) : Prop :=
    List.length L ≤ 9223372036854775807 ∧ Go.Proofs.Ytghhdjhobidbcaa.Abs.inR Go.IntKind.i64 ((↑(List.length L) : Int) - (1 : Int)) ∧ ∀ (z' : Int), z' = (↑(List.length L) : Int) - (1 : Int) →
    (Go.Proofs.Ytghhdjhobidbcaa.Abs.ExT Int fun x => ((-1 : Int) ≤ x ∧ x < (↑(List.length L) : Int)) ∧ True ∧ (x = z' ∧ (0 = 0 ∧ List.length L = List.length L ∧ c = c) ∧ (↑(List.length L) : Int) = (↑(List.length L) : Int) ∧ (0 = 0 ∧ List.length L = List.length L ∧ c = c) ∧ z' = z' ∧ True) ∧ True) ∧ (∀ (x : Int), (-1 : Int) ≤ x ∧ x < (↑(List.length L) : Int) →
    (Decidable.decide ((0 : Int) < x) = Bool.true →
    ((0 : Int) ≤ x ∧ x < (↑(List.length L) : Int)) ∧ 0 + Int.toNat x * 1 < List.length L ∧ Go.Proofs.Ytghhdjhobidbcaa.Abs.inR Go.IntKind.i64 (x - (1 : Int)) ∧ ∀ (z'_1 : Int), z'_1 = x - (1 : Int) →
    ((0 : Int) ≤ z'_1 ∧ z'_1 < (↑(List.length L) : Int)) ∧ 0 + Int.toNat z'_1 * 1 < List.length L ∧ (Decidable.decide (List.getD L (0 + Int.toNat x * 1) (0 : Int) ≠ List.getD L (0 + Int.toNat x * 1) (0 : Int)) = Bool.true →
    ((!Decidable.decide (List.getD L (0 + Int.toNat z'_1 * 1) (0 : Int) ≠ List.getD L (0 + Int.toNat z'_1 * 1) (0 : Int))) = Bool.true →
    False) ∧ ((!Decidable.decide (List.getD L (0 + Int.toNat z'_1 * 1) (0 : Int) ≠ List.getD L (0 + Int.toNat z'_1 * 1) (0 : Int))) = Bool.false →
    (Decidable.decide (List.getD L (0 + Int.toNat x * 1) (0 : Int) < List.getD L (0 + Int.toNat z'_1 * 1) (0 : Int)) = Bool.true →
    False) ∧ (Decidable.decide (List.getD L (0 + Int.toNat x * 1) (0 : Int) < List.getD L (0 + Int.toNat z'_1 * 1) (0 : Int)) = Bool.false →
    Go.Proofs.Ytghhdjhobidbcaa.Abs.inR Go.IntKind.i64 (x - (1 : Int)) ∧ ∀ (z'_2 : Int), z'_2 = x - (1 : Int) →
    Go.Proofs.Ytghhdjhobidbcaa.Abs.ExT Int fun y => (Int.toNat (y + (1 : Int)) < Int.toNat (x + (1 : Int)) ∧ (-1 : Int) ≤ y ∧ y < (↑(List.length L) : Int)) ∧ True ∧ (y = z'_2 ∧ (0 = 0 ∧ List.length L = List.length L ∧ c = c) ∧ (↑(List.length L) : Int) = (↑(List.length L) : Int) ∧ (0 = 0 ∧ List.length L = List.length L ∧ c = c) ∧ z' = z' ∧ True) ∧ True))) ∧ (Decidable.decide (List.getD L (0 + Int.toNat x * 1) (0 : Int) ≠ List.getD L (0 + Int.toNat x * 1) (0 : Int)) = Bool.false →
    (Decidable.decide (List.getD L (0 + Int.toNat x * 1) (0 : Int) < List.getD L (0 + Int.toNat z'_1 * 1) (0 : Int)) = Bool.true →
    False) ∧ (Decidable.decide (List.getD L (0 + Int.toNat x * 1) (0 : Int) < List.getD L (0 + Int.toNat z'_1 * 1) (0 : Int)) = Bool.false →
    Go.Proofs.Ytghhdjhobidbcaa.Abs.inR Go.IntKind.i64 (x - (1 : Int)) ∧ ∀ (z'_2 : Int), z'_2 = x - (1 : Int) →
    Go.Proofs.Ytghhdjhobidbcaa.Abs.ExT Int fun y => (Int.toNat (y + (1 : Int)) < Int.toNat (x + (1 : Int)) ∧ (-1 : Int) ≤ y ∧ y < (↑(List.length L) : Int)) ∧ True ∧ (y = z'_2 ∧ (0 = 0 ∧ List.length L = List.length L ∧ c = c) ∧ (↑(List.length L) : Int) = (↑(List.length L) : Int) ∧ (0 = 0 ∧ List.length L = List.length L ∧ c = c) ∧ z' = z' ∧ True) ∧ True))) ∧ (Decidable.decide ((0 : Int) < x) = Bool.false →
    Go.Proofs.Ytghhdjhobidbcaa.Abs.ExT Unit fun z => True ∧ True ∧ ((0 = 0 ∧ List.length L = List.length L ∧ c = c) ∧ (↑(List.length L) : Int) = (↑(List.length L) : Int) ∧ (0 = 0 ∧ List.length L = List.length L ∧ c = c) ∧ z' = z' ∧ True) ∧ True)) ∧ (∀ (z : Unit), True →
    Bool.true = Bool.true ∧ True ∧ True ∧ True) ∧ True
theorem sorf_eq (L : List Int) (c : Nat) : nestW Try.prog (roI L) hkNone (annU [(SORTED, 0, sorA L)]) SORTED [.sslice (900, 0) L.length c true 1] [] (endK (.bool true) []) = sorf L c := by kernel_rfl
def equf (L M : List Int) (c1 c2 : Nat) : Prop :=
    List.length L ≤ 9223372036854775807 ∧ List.length M ≤ 9223372036854775807 ∧ (Decidable.decide ((↑(List.length L) : Int) ≠ (↑(List.length M) : Int)) = Bool.true →
    Decidable.decide (L = M) = Bool.false ∧ True ∧ True ∧ True) ∧ (Decidable.decide ((↑(List.length L) : Int) ≠ (↑(List.length M) : Int)) = Bool.false →
    List.length L ≤ 9223372036854775807 ∧ (Go.Proofs.Ytghhdjhobidbcaa.Abs.ExT Nat fun x => (x ≤ List.length L ∧ List.length L = List.length M ∧ List.take x L = List.take x M) ∧ True ∧ (((↑x : Int) = (0 : Int) ∧ Go.Proofs.Ytghhdjhobidbcaa.Abs.inR Go.IntKind.i64 (↑x : Int)) ∧ (0 = 0 ∧ List.length L = List.length L ∧ c1 = c1) ∧ (0 = 0 ∧ List.length M = List.length M ∧ c2 = c2) ∧ (↑(List.length L) : Int) = (↑(List.length L) : Int) ∧ (0 = 0 ∧ List.length L = List.length L ∧ c1 = c1) ∧ (↑(List.length M) : Int) = (↑(List.length M) : Int) ∧ (0 = 0 ∧ List.length M = List.length M ∧ c2 = c2) ∧ (↑(List.length L) : Int) = (↑(List.length L) : Int) ∧ (0 = 0 ∧ List.length L = List.length L ∧ c1 = c1) ∧ Decidable.decide ((↑(List.length L) : Int) ≠ (↑(List.length M) : Int)) = Decidable.decide ((↑(List.length L) : Int) ≠ (↑(List.length M) : Int)) ∧ True) ∧ True) ∧ (∀ (x : Nat), x ≤ List.length L ∧ List.length L = List.length M ∧ List.take x L = List.take x M →
    (Decidable.decide ((↑x : Int) < (↑(List.length L) : Int)) = Bool.true →
    ((0 : Int) ≤ (↑x : Int) ∧ (↑x : Int) < (↑(List.length L) : Int)) ∧ 0 + Int.toNat (↑x : Int) * 1 < List.length L ∧ ((0 : Int) ≤ (↑x : Int) ∧ (↑x : Int) < (↑(List.length M) : Int)) ∧ 0 + Int.toNat (↑x : Int) * 1 < List.length M ∧ (Decidable.decide (List.getD L (0 + Int.toNat (↑x : Int) * 1) (0 : Int) ≠ List.getD M (0 + Int.toNat (↑x : Int) * 1) (0 : Int)) = Bool.true →
    Go.Proofs.Ytghhdjhobidbcaa.Abs.ExT Unit fun z => Decidable.decide (L = M) = Bool.false ∧ True ∧ (Bool.false = Bool.false ∧ (0 = 0 ∧ List.length L = List.length L ∧ c1 = c1) ∧ (0 = 0 ∧ List.length M = List.length M ∧ c2 = c2) ∧ (↑(List.length L) : Int) = (↑(List.length L) : Int) ∧ (0 = 0 ∧ List.length L = List.length L ∧ c1 = c1) ∧ (↑(List.length M) : Int) = (↑(List.length M) : Int) ∧ (0 = 0 ∧ List.length M = List.length M ∧ c2 = c2) ∧ (↑(List.length L) : Int) = (↑(List.length L) : Int) ∧ (0 = 0 ∧ List.length L = List.length L ∧ c1 = c1) ∧ Decidable.decide ((↑(List.length L) : Int) ≠ (↑(List.length M) : Int)) = Decidable.decide ((↑(List.length L) : Int) ≠ (↑(List.length M) : Int)) ∧ True) ∧ True) ∧ (Decidable.decide (List.getD L (0 + Int.toNat (↑x : Int) * 1) (0 : Int) ≠ List.getD M (0 + Int.toNat (↑x : Int) * 1) (0 : Int)) = Bool.false →
    Go.Proofs.Ytghhdjhobidbcaa.Abs.inR Go.IntKind.i64 ((↑x : Int) + (1 : Int)) ∧ ∀ (z' : Int), z' = (↑x : Int) + (1 : Int) →
    Go.Proofs.Ytghhdjhobidbcaa.Abs.ExT Nat fun y => (List.length L - y < List.length L - x ∧ y ≤ List.length L ∧ List.length L = List.length M ∧ List.take y L = List.take y M) ∧ True ∧ ((↑y : Int) = z' ∧ (0 = 0 ∧ List.length L = List.length L ∧ c1 = c1) ∧ (0 = 0 ∧ List.length M = List.length M ∧ c2 = c2) ∧ (↑(List.length L) : Int) = (↑(List.length L) : Int) ∧ (0 = 0 ∧ List.length L = List.length L ∧ c1 = c1) ∧ (↑(List.length M) : Int) = (↑(List.length M) : Int) ∧ (0 = 0 ∧ List.length M = List.length M ∧ c2 = c2) ∧ (↑(List.length L) : Int) = (↑(List.length L) : Int) ∧ (0 = 0 ∧ List.length L = List.length L ∧ c1 = c1) ∧ Decidable.decide ((↑(List.length L) : Int) ≠ (↑(List.length M) : Int)) = Decidable.decide ((↑(List.length L) : Int) ≠ (↑(List.length M) : Int)) ∧ True) ∧ True)) ∧ (Decidable.decide ((↑x : Int) < (↑(List.length L) : Int)) = Bool.false →
    Go.Proofs.Ytghhdjhobidbcaa.Abs.ExT Unit fun z => Decidable.decide (L = M) = Bool.true ∧ True ∧ ((0 = 0 ∧ List.length L = List.length L ∧ c1 = c1) ∧ (0 = 0 ∧ List.length M = List.length M ∧ c2 = c2) ∧ (↑(List.length L) : Int) = (↑(List.length L) : Int) ∧ (0 = 0 ∧ List.length L = List.length L ∧ c1 = c1) ∧ (↑(List.length M) : Int) = (↑(List.length M) : Int) ∧ (0 = 0 ∧ List.length M = List.length M ∧ c2 = c2) ∧ (↑(List.length L) : Int) = (↑(List.length L) : Int) ∧ (0 = 0 ∧ List.length L = List.length L ∧ c1 = c1) ∧ Decidable.decide ((↑(List.length L) : Int) ≠ (↑(List.length M) : Int)) = Decidable.decide ((↑(List.length L) : Int) ≠ (↑(List.length M) : Int)) ∧ True) ∧ True)) ∧ (∀ (z : Unit), Decidable.decide (L = M) = Bool.true →
    Decidable.decide (L = M) = Bool.true ∧ True ∧ True ∧ True) ∧ (∀ (z : Unit), Decidable.decide (L = M) = Bool.false →
    Decidable.decide (L = M) = Bool.false ∧ True ∧ True ∧ True) ∧ True)
theorem equf_eq (L M : List Int) (c1 c2 : Nat) : nestW Try.prog (roII L M) hkNone (annU [(EQU, 0, equA L M)]) EQU [.sslice (900, 0) L.length c1 true 1, .sslice (901, 0) M.length c2 true 1] [] (endK (.sbool (decide (L = M))) []) = equf L M c1 c2 := by kernel_rfl
def conf (L : List Int) (c : Nat) (z : Int) : Prop :=
    List.length L ≤ 9223372036854775807 ∧ (Go.Proofs.Ytghhdjhobidbcaa.Abs.ExT Nat fun x => (x ≤ List.length L ∧ ¬z ∈ List.take x L) ∧ True ∧ (((↑x : Int) = (0 : Int) ∧ Go.Proofs.Ytghhdjhobidbcaa.Abs.inR Go.IntKind.i64 (↑x : Int)) ∧ (0 = 0 ∧ List.length L = List.length L ∧ c = c) ∧ z = z ∧ (↑(List.length L) : Int) = (↑(List.length L) : Int) ∧ (0 = 0 ∧ List.length L = List.length L ∧ c = c) ∧ True) ∧ True) ∧ (∀ (x : Nat), x ≤ List.length L ∧ ¬z ∈ List.take x L →
    (Decidable.decide ((↑x : Int) < (↑(List.length L) : Int)) = Bool.true →
    ((0 : Int) ≤ (↑x : Int) ∧ (↑x : Int) < (↑(List.length L) : Int)) ∧ 0 + Int.toNat (↑x : Int) * 1 < List.length L ∧ (Decidable.decide (z = List.getD L (0 + Int.toNat (↑x : Int) * 1) (0 : Int)) = Bool.true →
    Go.Proofs.Ytghhdjhobidbcaa.Abs.ExT Nat fun z_1 => (z_1 < List.length L ∧ List.getD L z_1 (0 : Int) = z) ∧ True ∧ ((↑z_1 : Int) = (↑x : Int) ∧ (0 = 0 ∧ List.length L = List.length L ∧ c = c) ∧ z = z ∧ (↑(List.length L) : Int) = (↑(List.length L) : Int) ∧ (0 = 0 ∧ List.length L = List.length L ∧ c = c) ∧ True) ∧ True) ∧ (Decidable.decide (z = List.getD L (0 + Int.toNat (↑x : Int) * 1) (0 : Int)) = Bool.false →
    Go.Proofs.Ytghhdjhobidbcaa.Abs.inR Go.IntKind.i64 ((↑x : Int) + (1 : Int)) ∧ ∀ (z' : Int), z' = (↑x : Int) + (1 : Int) →
    Go.Proofs.Ytghhdjhobidbcaa.Abs.ExT Nat fun y => (List.length L - y < List.length L - x ∧ y ≤ List.length L ∧ ¬z ∈ List.take y L) ∧ True ∧ ((↑y : Int) = z' ∧ (0 = 0 ∧ List.length L = List.length L ∧ c = c) ∧ z = z ∧ (↑(List.length L) : Int) = (↑(List.length L) : Int) ∧ (0 = 0 ∧ List.length L = List.length L ∧ c = c) ∧ True) ∧ True)) ∧ (Decidable.decide ((↑x : Int) < (↑(List.length L) : Int)) = Bool.false →
    Go.Proofs.Ytghhdjhobidbcaa.Abs.ExT Unit fun z_1 => Decidable.decide (z ∈ L) = Bool.false ∧ True ∧ ((0 = 0 ∧ List.length L = List.length L ∧ c = c) ∧ z = z ∧ (↑(List.length L) : Int) = (↑(List.length L) : Int) ∧ (0 = 0 ∧ List.length L = List.length L ∧ c = c) ∧ True) ∧ True)) ∧ (∀ (z_1 : Unit), Decidable.decide (z ∈ L) = Bool.false →
    Decidable.decide (z ∈ L) = Bool.false ∧ True ∧ True ∧ True) ∧ (∀ (z_1 : Nat), z_1 < List.length L ∧ List.getD L z_1 (0 : Int) = z →
    Decidable.decide (z ∈ L) = Decidable.decide ((0 : Int) ≤ (↑z_1 : Int)) ∧ True ∧ True ∧ True) ∧ True
theorem conf_eq (L : List Int) (c : Nat) (z : Int) : nestW Try.prog (roI L) hkNone (annU [(INDEX, 0, conA L z)]) CONT [.sslice (900, 0) L.length c true 1, .sint .u32 z] [] (endK (.sbool (decide (z ∈ L))) []) = conf L c z := by kernel_rfl

theorem ntake {L : List Int} {z d : Int} {i : Nat} (h : z ∉ L.take i) (h2 : ¬ z = L.getD i d) (hi : i < L.length) : z ∉ L.take (i + 1) := by
  rw [List.take_add_one, List.getElem?_eq_getElem hi]
  rw [List.getD_eq_getElem?_getD, List.getElem?_eq_getElem hi] at h2
  simp only [Option.getD_some] at h2
  simp only [Option.toList_some, List.mem_append, List.mem_singleton, not_or]
  exact ⟨h, h2⟩
theorem getD_mem {L : List Int} {i : Nat} (h : i < L.length) : L.getD i 0 ∈ L := by
  rw [List.getD_eq_getElem?_getD, List.getElem?_eq_getElem h]
  exact List.getElem_mem h
theorem conf_ok {L : List Int} {c : Nat} {z : Int} (hL : L.length ≤ 9223372036854775807) : conf L c z := by
  unfold conf
  have e : ∀ i : Nat, 0 + Int.toNat (i : Int) * 1 = i := by omega
  simp only [e]
  repeat' (first
    | (with_reducible refine And.intro ?_ ?_)
    | (intro h; first | (replace h := of_decide_eq_true h) | (replace h := of_decide_eq_false h) | skip)
    | exact trivial
    | exact ⟨(), trivial, trivial, trivial, trivial⟩
    | rfl
    | omega
    | exact decide_eq_true (by omega)
    | exact decide_eq_false (by omega)
    | (simp only [in_u8, in_u16, in_u32, in_u64, in_i64]; omega)
    | (show (_ : Nat) ≤ _; omega)
    | (exfalso; omega))
  · exact ⟨0, ⟨Nat.zero_le _, by simp⟩, by simp [in_i64]⟩
  · rename_i x h1 h2
    exact ⟨x, ⟨by omega, h.symm⟩, by simp⟩
  · rename_i x h1 h2 h3 z'
    exact ⟨x + 1, ⟨by omega, by omega, ntake h1.2 h3 (by omega)⟩, by simp; omega⟩
  · rename_i x h1
    refine ⟨(), ?_, by simp⟩
    have : x = L.length := by omega
    subst this
    have h3 := h1.2
    rw [List.take_length] at h3
    exact decide_eq_false h3
  · rename_i x
    rw [decide_eq_true (show (0 : Int) ≤ (x : Int) by omega)]
    exact decide_eq_true (h.2 ▸ getD_mem h.1)
noncomputable def conH (RO : PT AObj) : Hook := hookR [.one (.ints .u32), .one (.int .u32)] (fun _ => True) (fun xs => match xs with | [a, b] => .sbool (decide (b.zOf ∈ a.zsOf)) | _ => .undef) (fun _ => []) RO
theorem conH_ok {w0 : World} {RO : PT AObj} : Call1Ok Try.prog w0 RO CONT (fun args st => got (conH RO args st)) := by
  refine hookR_ok U32 (by decide) ⟨_, rfl, rfl, by kernel_rfl⟩ (fun xs h _ => ?_) fun xs caps w φs us h _ hf hro hus => ?_
  · obtain ⟨L, _, rfl, _, _, h⟩ := atoms_ints h
    obtain ⟨z, _, rfl, _, h⟩ := atoms_int h
    obtain rfl := atoms_nil h
    exact ⟨rfl, rfl⟩
  · obtain ⟨L, _, rfl, hL, _, h⟩ := atoms_ints h
    obtain ⟨z, _, rfl, _, h⟩ := atoms_int h
    obtain rfl := atoms_nil h
    exact nest_run follows named hkNone_ok (rolow_of rfl) ((conf_eq L (caps 0) z).mpr (conf_ok hL)) hf hro hus
theorem sorted_at {L : List Int} (h : Sorted L) {x : Int} (h0 : 0 < x) (h1 : x < L.length) : ¬ L.getD (0 + x.toNat * 1) 0 < L.getD (0 + (x - 1).toNat * 1) 0 := by
  have := h (x - 1).toNat (by omega)
  rw [show (x - 1).toNat + 1 = x.toNat by omega] at this
  rw [show 0 + x.toNat * 1 = x.toNat by omega, show 0 + (x - 1).toNat * 1 = (x - 1).toNat by omega]
  omega
theorem sorf_ok {L : List Int} {c : Nat} (hL : L.length ≤ 9223372036854775807) (hs : Sorted L) : sorf L c := by
  unfold sorf
  repeat' (first
    | (with_reducible refine And.intro ?_ ?_)
    | (intro h; first | (replace h := of_decide_eq_true h) | (replace h := of_decide_eq_false h) | skip)
    | exact trivial
    | exact ⟨(), trivial, trivial, trivial, trivial⟩
    | rfl
    | omega
    | exact decide_eq_true (by omega)
    | exact decide_eq_false (by omega)
    | (simp only [in_u8, in_u16, in_u32, in_u64, in_i64]; omega)
    | (show (_ : Nat) ≤ _; omega)
    | (exfalso; omega))
  · exact ⟨(L.length : Int) - 1, by omega, by simp; omega⟩
  · rename_i x h1 h2 z h3 h4
    subst h3
    exact sorted_at hs h2 h1.2 h
  · rename_i x h1 h2 z h3 h4 h5 z2
    exact ⟨x - 1, by omega, by simp; omega⟩
  · exact ⟨(), by simp⟩
noncomputable def sorH (RO : PT AObj) : Hook := hookR [.one (.ints .u32)] (fun xs => match xs with | [a] => Sorted a.zsOf | _ => False) (fun xs => .bool true) (fun _ => []) RO
theorem sorH_ok {w0 : World} {RO : PT AObj} : Call1Ok Try.prog w0 RO SORTED (fun args st => got (sorH RO args st)) := by
  refine hookR_ok U32 (by decide) ⟨_, rfl, rfl, by kernel_rfl⟩ (fun xs h _ => ⟨rfl, rfl⟩) fun xs caps w φs us h hp hf hro hus => ?_
  obtain ⟨L, _, rfl, hL, _, h⟩ := atoms_ints h
  obtain rfl := atoms_nil h
  exact nest_run follows named hkNone_ok (rolow_of rfl) ((sorf_eq L (caps 0)).mpr (sorf_ok hL hp)) hf hro hus
theorem takeI {L : List Int} {i : Nat} (h : i < L.length) : L.take (i + 1) = L.take i ++ [L.getD i 0] := by
  rw [List.take_add_one, List.getD_eq_getElem?_getD, List.getElem?_eq_getElem h]
  rfl
theorem equf_ok {L M : List Int} {c1 c2 : Nat} (hL : L.length ≤ 9223372036854775807) (hM : M.length ≤ 9223372036854775807) : equf L M c1 c2 := by
  unfold equf
  have e : ∀ i : Nat, 0 + Int.toNat (i : Int) * 1 = i := by omega
  simp only [e]
  repeat' (first
    | (with_reducible refine And.intro ?_ ?_)
    | (intro h; first | (replace h := of_decide_eq_true h) | (replace h := of_decide_eq_false h) | skip)
    | exact trivial
    | exact ⟨(), trivial, trivial, trivial, trivial⟩
    | rfl
    | omega
    | exact decide_eq_true (by omega)
    | exact decide_eq_false (by omega)
    | (simp only [in_u8, in_u16, in_u32, in_u64, in_i64]; omega)
    | (show (_ : Nat) ≤ _; omega)
    | (exfalso; omega))
  · exact decide_eq_false fun he => h (by rw [he])
  · exact ⟨0, ⟨Nat.zero_le _, by omega, rfl⟩, by simp [in_i64]⟩
  · rename_i x h1 h2
    refine ⟨(), decide_eq_false fun he => h (by rw [he]), by simp⟩
  · rename_i x h1 h2 h3 z
    refine ⟨x + 1, ⟨by omega, by omega, h1.2.1, ?_⟩, by simp; omega⟩
    have h4 : L.getD x 0 = M.getD x 0 := by omega
    rw [takeI (by omega), takeI (by omega), h1.2.2, h4]
  · rename_i x h1
    refine ⟨(), ?_, by simp⟩
    have hx : x = L.length := by omega
    subst hx
    have h4 := h1.2.2
    rw [List.take_length, h1.2.1, List.take_length] at h4
    exact decide_eq_true h4
noncomputable def equH (RO : PT AObj) : Hook := hookR [.one (.ints .u32), .one (.ints .u32)] (fun _ => True) (fun xs => match xs with | [a, b] => .sbool (decide (a.zsOf = b.zsOf)) | _ => .undef) (fun _ => []) RO
theorem equH_ok {w0 : World} {RO : PT AObj} : Call1Ok Try.prog w0 RO EQU (fun args st => got (equH RO args st)) := by
  refine hookR_ok U32 (by decide) ⟨_, rfl, rfl, by kernel_rfl⟩ (fun xs h _ => ?_) fun xs caps w φs us h _ hf hro hus => ?_
  · obtain ⟨L, _, rfl, _, _, h⟩ := atoms_ints h
    obtain ⟨M, _, rfl, _, _, h⟩ := atoms_ints h
    obtain rfl := atoms_nil h
    exact ⟨rfl, rfl⟩
  · obtain ⟨L, _, rfl, hL, _, h⟩ := atoms_ints h
    obtain ⟨M, _, rfl, hM, _, h⟩ := atoms_ints h
    obtain rfl := atoms_nil h
    exact nest_run follows named hkNone_ok (rolow_of rfl) ((equf_eq L M (caps 0) (caps 1)).mpr (equf_ok hL hM)) hf hro hus
end Go.Proofs.Ytghhdjhobidbcaa.Sq
