/- Frames: slices.Equal, same. By an AI agent. -/
import Derived.Test.YtlnfolgmjfcinaaFrH
import Derived.Test.YtlnfolgmjfcinaaHk4
import Derived.Test.YtlnfolgmjfcinaaTw2
namespace Go.Proofs.Ytlnfolgmjfcinaa.Fr
open Go Go.RowKit Go.Proofs.Ytlnfolgmjfcinaa.Abs Go.Proofs.Ytlnfolgmjfcinaa.M
set_option linter.unusedVariables false
abbrev SEQ : FuncId := 22
abbrev SAME : FuncId := 20
noncomputable abbrev roLM (L M : List UInt8) : PT AObj := hp [(900, .sbytes L U8), (901, .sbytes M U8)]
def qI (L M : List UInt8) (c1 c2 i : Nat) : LS := ⟨[(0, .sslice (900, 0) L.length c1 true 1), (1, .sslice (901, 0) M.length c2 true 1), (4, .bool false), (6, .sslice (900, 0) L.length c1 true 1), (8, .sslice (901, 0) M.length c2 true 1), (11, .sslice (900, 0) L.length c1 true 1), (12, .sint .i64 (L.length : Int)), (13, .sint .i64 (i : Int))], [], 5000⟩
def qJ (_ : Unit) : LS := ⟨[], [], 5000⟩
def qR (_ : Unit) : LS := ⟨[(4, .bool false)], [], 5000⟩
noncomputable def qA (L M : List UInt8) (c1 c2 : Nat) := loopR 5000 (fun i => i ≤ L.length ∧ L.length = M.length ∧ L.take i = M.take i) (qI L M c1 c2) (fun _ => L = M) qJ (fun _ => L ≠ M) qR (tmpsN Try.prog SEQ) []
noncomputable def qRound (L M : List UInt8) (c1 c2 i : Nat) : Prop := execD Try.prog (roLM L M) hkNone 100 (roundOf Try.prog SEQ 0) (tmpsN Try.prog SEQ) ⟨none, []⟩ (qI L M c1 c2 i).T (qI L M c1 c2 i).S [] (fun r _ => roundR 5000 (fun i => i ≤ L.length ∧ L.length = M.length ∧ L.take i = M.take i) (qI L M c1 c2) (fun i => L.length - i) [] (fun _ => L = M) qJ [] (fun _ => L ≠ M) qR [] 0 i r)
noncomputable def seqW (L M : List UInt8) (c1 c2 : Nat) : Prop := wpD Try.prog (roLM L M) hkNone (one1 0 (qA L M c1 c2)) 100 (bodyOf Try.prog SEQ) (tmpsN Try.prog SEQ) ⟨none, []⟩ (argsT [.sslice (900, 0) L.length c1 true 1, .sslice (901, 0) M.length c2 true 1] 0 .leaf) ⟨.leaf, 1000, []⟩ [] (fun r _ => endW Try.prog (roLM L M) Try.f22 r (endK (.sbool (decide (L = M))) []))
--forms
def qRf (L M : List UInt8) (c1 c2 i : Nat) : Prop :=
    (Decidable.decide ((↑i : Int) < (↑(List.length L) : Int)) = Bool.true →
    ((0 : Int) ≤ (↑i : Int) ∧ (↑i : Int) < (↑(List.length L) : Int)) ∧ 0 + Int.toNat (↑i : Int) * 1 < List.length L ∧ ((0 : Int) ≤ (↑i : Int) ∧ (↑i : Int) < (↑(List.length M) : Int)) ∧ 0 + Int.toNat (↑i : Int) * 1 < List.length M ∧ (Decidable.decide ((↑(UInt8.toNat (List.getD L (0 + Int.toNat (↑i : Int) * 1) (0 : UInt8))) : Int) ≠ (↑(UInt8.toNat (List.getD M (0 + Int.toNat (↑i : Int) * 1) (0 : UInt8))) : Int)) = Bool.true →
    ∃ z : Unit, (L = M →
    False) ∧ True ∧ (Bool.false = Bool.false ∧ True) ∧ True) ∧ (Decidable.decide ((↑(UInt8.toNat (List.getD L (0 + Int.toNat (↑i : Int) * 1) (0 : UInt8))) : Int) ≠ (↑(UInt8.toNat (List.getD M (0 + Int.toNat (↑i : Int) * 1) (0 : UInt8))) : Int)) = Bool.false →
    Go.Proofs.Ytlnfolgmjfcinaa.Abs.inR Go.IntKind.i64 ((↑i : Int) + (1 : Int)) ∧ ∀ (z' : Int), z' = (↑i : Int) + (1 : Int) →
    ∃ y, (List.length L - y < List.length L - i ∧ y ≤ List.length L ∧ List.length L = List.length M ∧ List.take y L = List.take y M) ∧ True ∧ ((0 = 0 ∧ List.length L = List.length L ∧ c1 = c1) ∧ (0 = 0 ∧ List.length M = List.length M ∧ c2 = c2) ∧ Bool.false = Bool.false ∧ (0 = 0 ∧ List.length L = List.length L ∧ c1 = c1) ∧ (0 = 0 ∧ List.length M = List.length M ∧ c2 = c2) ∧ (0 = 0 ∧ List.length L = List.length L ∧ c1 = c1) ∧ (↑(List.length L) : Int) = (↑(List.length L) : Int) ∧ (↑y : Int) = z' ∧ True) ∧ True)) ∧ (Decidable.decide ((↑i : Int) < (↑(List.length L) : Int)) = Bool.false →
    ∃ z : Unit, L = M ∧ True ∧ True ∧ True)
theorem qRf_eq (L M : List UInt8) (c1 c2 i : Nat) : qRound L M c1 c2 i = qRf L M c1 c2 i := by kernel_rfl
def seqf (L M : List UInt8) (c1 c2 : Nat) : Prop :=
    List.length L ≤ 9223372036854775807 ∧ List.length M ≤ 9223372036854775807 ∧ (Decidable.decide ((↑(List.length L) : Int) ≠ (↑(List.length M) : Int)) = Bool.true →
    Decidable.decide (L = M) = Bool.false ∧ True ∧ True ∧ True) ∧ (Decidable.decide ((↑(List.length L) : Int) ≠ (↑(List.length M) : Int)) = Bool.false →
    List.length L ≤ 9223372036854775807 ∧
    ∃ x0, (x0 ≤ List.length L ∧ List.length L = List.length M ∧ List.take x0 L = List.take x0 M) ∧ (True ∧ ((0 = 0 ∧ List.length L = List.length L ∧ c1 = c1) ∧ (0 = 0 ∧ List.length M = List.length M ∧ c2 = c2) ∧ Bool.false = Bool.false ∧ (0 = 0 ∧ List.length L = List.length L ∧ c1 = c1) ∧ (0 = 0 ∧ List.length M = List.length M ∧ c2 = c2) ∧ (0 = 0 ∧ List.length L = List.length L ∧ c1 = c1) ∧ (↑(List.length L) : Int) = (↑(List.length L) : Int) ∧ ((↑x0 : Int) = (0 : Int) ∧ Go.Proofs.Ytlnfolgmjfcinaa.Abs.inR Go.IntKind.i64 (↑x0 : Int)) ∧ True) ∧ True) ∧ (∀ (z : Unit), L = M →
    Decidable.decide (L = M) = Bool.true ∧ True ∧ True ∧ True) ∧ ∀ (z : Unit), (L = M →
    False) →
    Decidable.decide (L = M) = Bool.false ∧ True ∧ True ∧ True)
theorem seqf_eq (L M : List UInt8) (c1 c2 : Nat) : seqW L M c1 c2 = seqf L M c1 c2 := by kernel_rfl
theorem u8_ext {a b : UInt8} (h : a.toNat = b.toNat) : a = b := UInt8.toNat_inj.1 h
theorem take_more' (L : List UInt8) (i : Nat) (h : i < L.length) : L.take (i + 1) = L.take i ++ [L.getD i 0] := by
  rw [List.take_add_one, List.getD_eq_getElem?_getD, List.getElem?_eq_getElem h]
  rfl
theorem qRf_ok {L M : List UInt8} {c1 c2 i : Nat} (hL : L.length ≤ 9223372036854775807) (h : i ≤ L.length ∧ L.length = M.length ∧ L.take i = M.take i) : qRf L M c1 c2 i := by
  obtain ⟨h1, h2, h3⟩ := h
  unfold qRf
  have e : 0 + Int.toNat (i : Int) * 1 = i := by omega
  rw [e]
  refine ⟨fun h => ?_, fun h => ?_⟩
  · have h := of_decide_eq_true h
    refine ⟨⟨by omega, by omega⟩, by omega, ⟨by omega, by omega⟩, by omega, fun h4 => ?_, fun h4 => ?_⟩
    · have h4 := of_decide_eq_true h4
      refine ⟨(), fun he => ?_, trivial, ⟨rfl, trivial⟩, trivial⟩
      subst he
      exact h4 rfl
    · have h4 := of_decide_eq_false h4
      refine ⟨by rw [in_i64]; omega, ?_⟩
      intro z hz
      refine ⟨i + 1, ⟨by omega, by omega, h2, ?_⟩, trivial, ⟨⟨rfl, rfl, rfl⟩, ⟨rfl, rfl, rfl⟩, rfl, ⟨rfl, rfl, rfl⟩, ⟨rfl, rfl, rfl⟩, ⟨rfl, rfl, rfl⟩, rfl, by omega, trivial⟩, trivial⟩
      rw [take_more' L i (by omega), take_more' M i (by omega), h3]
      have : L.getD i 0 = M.getD i 0 := u8_ext (by omega)
      rw [this]
  · have h := of_decide_eq_false h
    obtain rfl : i = L.length := by omega
    refine ⟨(), ?_, trivial, trivial, trivial⟩
    rw [List.take_length, h2, List.take_length] at h3
    exact h3
theorem seqf_ok {L M : List UInt8} {c1 c2 : Nat} (hL : L.length ≤ 9223372036854775807) (hM : M.length ≤ 9223372036854775807) : seqf L M c1 c2 := by
  unfold seqf
  refine ⟨hL, hM, fun h => ?_, fun h => ?_⟩
  · have h := of_decide_eq_true h
    exact ⟨decide_eq_false fun e => h (by rw [e]), trivial, trivial, trivial⟩
  · have h := of_decide_eq_false h
    refine ⟨hL, 0, ⟨Nat.zero_le _, by omega, rfl⟩, ⟨trivial, ⟨⟨rfl, rfl, rfl⟩, ⟨rfl, rfl, rfl⟩, rfl, ⟨rfl, rfl, rfl⟩, ⟨rfl, rfl, rfl⟩, ⟨rfl, rfl, rfl⟩, rfl, ⟨rfl, by rw [in_i64]; omega⟩, trivial⟩, trivial⟩, fun z he => ⟨decide_eq_true he, trivial, trivial, trivial⟩, fun z he => ⟨decide_eq_false he, trivial, trivial, trivial⟩⟩
noncomputable def seqH (RO : PT AObj) : Hook := hookR [.one .bytes, .one .bytes] (fun _ => True) (fun xs => match xs with | [a, b] => .sbool (decide (a.lOf = b.lOf)) | _ => .undef) (fun _ => []) RO
theorem roLM_low (L M : List UInt8) : ROlow (roLM L M) 5000 := rolow_of rfl
theorem seqH_ok {w0 : World} {RO : PT AObj} : Call1Ok Try.prog w0 RO SEQ (fun args st => got (seqH RO args st)) := by
  refine hookR_ok U8 (by decide) ⟨_, rfl, rfl, by kernel_rfl⟩ (fun xs h _ => ?_) fun xs caps w φs us h _ hf hro hus => ?_
  · obtain ⟨L, _, rfl, _, h⟩ := atoms_bytes h
    obtain ⟨M, _, rfl, _, h⟩ := atoms_bytes h
    obtain rfl := atoms_nil h
    exact ⟨rfl, rfl⟩
  · obtain ⟨L, _, rfl, hL, h⟩ := atoms_bytes h
    obtain ⟨M, _, rfl, hM, h⟩ := atoms_bytes h
    obtain rfl := atoms_nil h
    have hA : AnnOk Try.prog (roLM L M) (one1 0 (qA L M (caps 0) (caps 1))) w (bodyOf Try.prog SEQ) := annOk_one (a := .loop (roundOf Try.prog SEQ 0)) (by kernel_rfl)
      (loopR_ok 5000 (fun i => i ≤ L.length ∧ L.length = M.length ∧ L.take i = M.take i) (qI L M (caps 0) (caps 1)) (fun i => L.length - i) [] (fun _ => L = M) qJ [] (fun _ => L ≠ M) qR [] (roLM_low L M) (fun i hi => (tri_execD follows named hkNone_ok ((qRf_eq L M (caps 0) (caps 1) i).mpr (qRf_ok hL hi))).mono fun r ⟨_, hr⟩ => hr))
    exact fn_way follows named hkNone_ok (fn := Try.f22) (body := bodyOf Try.prog SEQ) (by kernel_rfl) (by kernel_rfl) hA (RO := roLM L M) (f := 100) (next := 1000) (args := [.sslice (900, 0) L.length (caps 0) true 1, .sslice (901, 0) M.length (caps 1) true 1]) (K := endK (.sbool (decide (L = M))) []) []
      (Eq.mp (by kernel_rfl) ((seqf_eq L M (caps 0) (caps 1)).mpr (seqf_ok hL hM))) hf hro hus
end Go.Proofs.Ytlnfolgmjfcinaa.Fr
