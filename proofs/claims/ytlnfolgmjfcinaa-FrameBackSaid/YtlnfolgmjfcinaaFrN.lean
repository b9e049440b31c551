/- Frames: numbers read of bytes. By an AI agent. -/
import Derived.Test.YtlnfolgmjfcinaaFrH
import Derived.Test.YtlnfolgmjfcinaaHk5
namespace Go.Proofs.Ytlnfolgmjfcinaa.Fr
open Go Go.RowKit Go.Proofs.Ytlnfolgmjfcinaa.Abs Go.Proofs.Ytlnfolgmjfcinaa.M
set_option linter.unusedVariables false
abbrev NUM : FuncId := 31
noncomputable abbrev roL (L : List UInt8) : PT AObj := hp [(900, .sbytes L U8)]
def nbN (l : List UInt8) : Nat := l.foldl (fun a b => (256 * a + b.toNat) % 18446744073709551616) 0
def nbW (l : List UInt8) : Int := (nbN l : Nat)
def nI (L : List UInt8) (cap i : Nat) : LS := ⟨[(0, .sslice (900, 0) L.length cap true 1), (3, .sint .u64 (nbW (L.take i))), (4, .sint .i64 (i : Int))], [], 5000⟩
def nJ (L : List UInt8) (_ : Unit) : LS := ⟨[(3, .sint .u64 (nbW L))], [], 5000⟩
noncomputable def nA (L : List UInt8) (cap : Nat) := loopA 5000 (fun i => i ≤ L.length) (nI L cap) (fun _ => True) (nJ L) (tmpsN Try.prog NUM) []
noncomputable def nR (L : List UInt8) (cap i : Nat) : Prop := execD Try.prog (roL L) hkNone 100 (roundOf Try.prog NUM 0) (tmpsN Try.prog NUM) ⟨none, []⟩ (nI L cap i).T (nI L cap i).S [] (fun r _ => roundK 5000 (fun i => i ≤ L.length) (nI L cap) (fun i => L.length - i) [] (fun _ => True) (nJ L) [] 0 i r)
noncomputable def numW (L : List UInt8) (cap : Nat) : Prop := wpD Try.prog (roL L) hkNone (one1 0 (nA L cap)) 100 (bodyOf Try.prog NUM) (tmpsN Try.prog NUM) ⟨none, []⟩ (argsT [.sslice (900, 0) L.length cap true 1] 0 .leaf) ⟨.leaf, 1000, []⟩ [] (fun r _ => endW Try.prog (roL L) Try.f31 r (endK (.sint .u64 (nbW L)) []))
--forms
def nRf (L : List UInt8) (cap i : Nat) : Prop :=
    List.length L ≤ 9223372036854775807 ∧ (Decidable.decide ((↑i : Int) < (↑(List.length L) : Int)) = Bool.true →
    ∀ (z' : Int), z' = (256 : Int) * Go.Proofs.Ytlnfolgmjfcinaa.Fr.nbW (List.take i L) % (18446744073709551616 : Int) →
    ((0 : Int) ≤ (↑i : Int) ∧ (↑i : Int) < (↑(List.length L) : Int)) ∧ 0 + Int.toNat (↑i : Int) * 1 < List.length L ∧ ∀ (z'_1 : Int), z'_1 = (z' + (↑(UInt8.toNat (List.getD L (0 + Int.toNat (↑i : Int) * 1) (0 : UInt8))) : Int)) % (18446744073709551616 : Int) →
    Go.Proofs.Ytlnfolgmjfcinaa.Abs.inR Go.IntKind.i64 ((↑i : Int) + (1 : Int)) ∧ ∀ (z' : Int), z' = (↑i : Int) + (1 : Int) →
    ∃ y, (List.length L - y < List.length L - i ∧ Nat.le y (List.length L)) ∧ True ∧ ((0 = 0 ∧ List.length L = List.length L ∧ cap = cap) ∧ Go.Proofs.Ytlnfolgmjfcinaa.Fr.nbW (List.take y L) = z'_1 ∧ (↑y : Int) = z' ∧ True) ∧ True) ∧ (Decidable.decide ((↑i : Int) < (↑(List.length L) : Int)) = Bool.false →
    ∃ z : Unit, True ∧ True ∧ (Go.Proofs.Ytlnfolgmjfcinaa.Fr.nbW L = Go.Proofs.Ytlnfolgmjfcinaa.Fr.nbW (List.take i L) ∧ True) ∧ True)
theorem nRf_eq (L : List UInt8) (cap i : Nat) : nR L cap i = nRf L cap i := by kernel_rfl
def numWf (L : List UInt8) (cap : Nat) : Prop :=
    ∃ x0, Nat.le x0 (List.length L) ∧ (True ∧ ((0 = 0 ∧ List.length L = List.length L ∧ cap = cap) ∧ (Go.Proofs.Ytlnfolgmjfcinaa.Fr.nbW (List.take x0 L) = (0 : Int) ∧ Go.Proofs.Ytlnfolgmjfcinaa.Abs.inR Go.IntKind.u64 (Go.Proofs.Ytlnfolgmjfcinaa.Fr.nbW (List.take x0 L))) ∧ ((↑x0 : Int) = (0 : Int) ∧ Go.Proofs.Ytlnfolgmjfcinaa.Abs.inR Go.IntKind.i64 (↑x0 : Int)) ∧ True) ∧ True) ∧ ∀ (z : Unit), True →
    Go.Proofs.Ytlnfolgmjfcinaa.Fr.nbW L = Go.Proofs.Ytlnfolgmjfcinaa.Fr.nbW L ∧ True ∧ True ∧ True
theorem numWf_eq (L : List UInt8) (cap : Nat) : numW L cap = numWf L cap := by kernel_rfl
theorem nbN_lt (l : List UInt8) : nbN l < 18446744073709551616 := by
  unfold nbN
  rcases List.eq_nil_or_concat l with rfl | ⟨l, b, rfl⟩
  · decide
  · rw [List.concat_eq_append, List.foldl_append]
    exact Nat.mod_lt _ (by decide)
theorem nbW_in (l : List UInt8) : inR .u64 (nbW l) := by
  rw [in_u64]
  have := nbN_lt l
  unfold nbW
  omega
theorem nbW_snoc (l : List UInt8) (b : UInt8) : nbW (l ++ [b]) = (256 * nbW l + (b.toNat : Int)) % 18446744073709551616 := by
  unfold nbW nbN
  rw [List.foldl_append]
  simp
theorem take_more (L : List UInt8) (i : Nat) (h : i < L.length) : L.take (i + 1) = L.take i ++ [L.getD i 0] := by
  rw [List.take_add_one, List.getD_eq_getElem?_getD, List.getElem?_eq_getElem h]
  rfl
theorem nRf_ok {L : List UInt8} (hL : L.length ≤ 9223372036854775807) (cap i : Nat) (hi : i ≤ L.length) : nRf L cap i := by
  unfold nRf
  refine ⟨hL, fun h => ?_, fun h => ?_⟩
  · have h := of_decide_eq_true h
    intro z hz
    refine ⟨⟨by omega, by omega⟩, by omega, ?_⟩
    intro z1 hz1
    refine ⟨by rw [in_i64]; omega, ?_⟩
    intro z2 hz2
    refine ⟨i + 1, ⟨by omega, show i + 1 ≤ L.length by omega⟩, trivial, ⟨⟨rfl, rfl, rfl⟩, ?_, by omega, trivial⟩, trivial⟩
    rw [take_more L i (by omega), nbW_snoc, hz1, hz]
    have : 0 + Int.toNat (i : Int) * 1 = i := by omega
    rw [this]
    omega
  · have h := of_decide_eq_false h
    obtain rfl : i = L.length := by omega
    exact ⟨(), trivial, trivial, ⟨by rw [List.take_length], trivial⟩, trivial⟩
theorem numWf_ok (L : List UInt8) (cap : Nat) : numWf L cap :=
  ⟨0, Nat.zero_le _, ⟨trivial, ⟨⟨rfl, rfl, rfl⟩, ⟨rfl, nbW_in _⟩, ⟨rfl, by rw [in_i64]; omega⟩, trivial⟩, trivial⟩, fun z _ => ⟨rfl, trivial, trivial, trivial⟩⟩
theorem roL_low (L : List UInt8) : ROlow (roL L) 5000 := rolow_of rfl
theorem numH_ok {w0 : World} {RO : PT AObj} : Call1Ok Try.prog w0 RO NUM (fun args st => got (hookR [.one .bytes] (fun _ => True) (fun xs => match xs with | [a] => .sint .u64 (nbW a.lOf) | _ => .undef) (fun _ => []) RO args st)) := by
  refine hookR_ok U8 (by decide) ⟨_, rfl, rfl, by kernel_rfl⟩ (fun xs h _ => ?_) fun xs caps w φs us h _ hf hro hus => ?_
  · obtain ⟨L, _, rfl, _, h⟩ := atoms_bytes h
    obtain rfl := atoms_nil h
    exact ⟨rfl, rfl⟩
  · obtain ⟨L, _, rfl, hL, h⟩ := atoms_bytes h
    obtain rfl := atoms_nil h
    have hA : AnnOk Try.prog (roL L) (one1 0 (nA L (caps 0))) w (bodyOf Try.prog NUM) := annOk_one (a := .loop (roundOf Try.prog NUM 0)) (by kernel_rfl)
      (loopT_ok 5000 (fun i => i ≤ L.length) (nI L (caps 0)) (fun i => L.length - i) [] (fun _ => True) (nJ L) [] (roL_low L) (fun i hi => (tri_execD follows named hkNone_ok ((nRf_eq L (caps 0) i).mpr (nRf_ok hL _ i hi))).mono fun r ⟨_, hr⟩ => hr))
    exact fn_way follows named hkNone_ok (fn := Try.f31) (body := bodyOf Try.prog NUM) (by kernel_rfl) (by kernel_rfl) hA (RO := roL L) (f := 100) (next := 1000) (args := [.sslice (900, 0) L.length (caps 0) true 1]) (K := endK (.sint .u64 (nbW L)) []) []
      (Eq.mp (by kernel_rfl) ((numWf_eq L (caps 0)).mpr (numWf_ok L (caps 0)))) hf hro hus
noncomputable def numH (RO : PT AObj) : Hook := hookR [.one .bytes] (fun _ => True) (fun xs => match xs with | [a] => .sint .u64 (nbW a.lOf) | _ => .undef) (fun _ => []) RO
end Go.Proofs.Ytlnfolgmjfcinaa.Fr
