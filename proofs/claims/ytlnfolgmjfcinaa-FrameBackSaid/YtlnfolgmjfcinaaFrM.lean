/- Frames: same, as a hook. By an AI agent. -/
import Derived.Test.YtlnfolgmjfcinaaFrQ
namespace Go.Proofs.Ytlnfolgmjfcinaa.Fr
open Go Go.RowKit Go.Proofs.Ytlnfolgmjfcinaa.Abs Go.Proofs.Ytlnfolgmjfcinaa.M
set_option linter.unusedVariables false
def argG (k : AVal) (s e n a m : Int) (P : List UInt8) (cap : Nat) : AVal := .agg [k, .sint .u32 s, .sint .u32 e, .sint .u32 n, .sint .u32 a, .sint .u32 m, .sslice (913, 0) P.length cap true 1]
noncomputable abbrev roPQ (P Q : List UInt8) : PT AObj := hp [(906, .sbytes P U8), (913, .sbytes Q U8)]
def sameB (k s e n a m : Int) (P : List UInt8) (k' s' e' n' a' m' : Int) (Q : List UInt8) : Bool := decide (k = k') && (decide (s = s') && (decide (e = e') && (decide (n = n') && (decide (a = a') && (decide (m = m') && decide (P = Q))))))
def dF2 : List AD := [.agg [.int .u8, .int .u32, .int .u32, .int .u32, .int .u32, .int .u32, .bytes], .agg [.int .u8, .int .u32, .int .u32, .int .u32, .int .u32, .int .u32, .bytes]]
def sameR (xs : List Atom) : AVal := match xs with
  | [k, s, e, n, a, m, p, k', s', e', n', a', m', p'] => .sbool (sameB k.zOf s.zOf e.zOf n.zOf a.zOf m.zOf p.lOf k'.zOf s'.zOf e'.zOf n'.zOf a'.zOf m'.zOf p'.lOf)
  | _ => .undef
noncomputable def sameH (RO : PT AObj) : Hook := hookR dF2 (fun _ => True) sameR (fun _ => []) RO
noncomputable def seqHooks (RO : PT AObj) (r : FuncId → Option Hook) : FuncId → Option Hook := hkAdd SEQ (seqH RO) r
noncomputable def sameW (k s e n a m : Int) (P : List UInt8) (c1 : Nat) (k' s' e' n' a' m' : Int) (Q : List UInt8) (c2 : Nat) : Prop := wpD Try.prog (roPQ P Q) (seqHooks (roPQ P Q) hkNone) (fun _ => none) 100 (bodyOf Try.prog SAME) (tmpsN Try.prog SAME) ⟨none, []⟩ (argsT [argF (.sint .u8 k) s e n a m P c1, argG (.sint .u8 k') s' e' n' a' m' Q c2] 0 .leaf) ⟨.leaf, 1000, []⟩ [] (fun r _ => endW Try.prog (roPQ P Q) Try.f20 r (endK (.sbool (sameB k s e n a m P k' s' e' n' a' m' Q)) []))
--forms
def samef (k s e n a m : Int) (P : List UInt8) (c1 : Nat) (k' s' e' n' a' m' : Int) (Q : List UInt8) (c2 : Nat) : Prop :=
    (Decidable.decide (k = k') = Bool.true →
    (Decidable.decide (s = s') = Bool.true →
    (Decidable.decide (e = e') = Bool.true →
    (Decidable.decide (n = n') = Bool.true →
    (Decidable.decide (a = a') = Bool.true →
    (Decidable.decide (m = m') = Bool.true →
    (((0 + List.length P ≤ List.length P ∧ List.length (List.take (List.length P) (List.drop 0 P)) ≤ 9223372036854775807) ∧ 0 + List.length Q ≤ List.length Q ∧ List.length (List.take (List.length Q) (List.drop 0 Q)) ≤ 9223372036854775807) ∧ True) ∧ Go.Proofs.Ytlnfolgmjfcinaa.Fr.sameB k s e n a m P k' s' e' n' a' m' Q = Decidable.decide (Go.Proofs.Ytlnfolgmjfcinaa.Abs.Atom.lOf (Go.Proofs.Ytlnfolgmjfcinaa.Abs.Atom.l (List.take (List.length P) (List.drop 0 P))) = Go.Proofs.Ytlnfolgmjfcinaa.Abs.Atom.lOf (Go.Proofs.Ytlnfolgmjfcinaa.Abs.Atom.l (List.take (List.length Q) (List.drop 0 Q)))) ∧ True ∧ True ∧ True) ∧ (Decidable.decide (m = m') = Bool.false →
    Go.Proofs.Ytlnfolgmjfcinaa.Fr.sameB k s e n a m P k' s' e' n' a' m' Q = Bool.false ∧ True ∧ True ∧ True)) ∧ (Decidable.decide (a = a') = Bool.false →
    Go.Proofs.Ytlnfolgmjfcinaa.Fr.sameB k s e n a m P k' s' e' n' a' m' Q = Bool.false ∧ True ∧ True ∧ True)) ∧ (Decidable.decide (n = n') = Bool.false →
    Go.Proofs.Ytlnfolgmjfcinaa.Fr.sameB k s e n a m P k' s' e' n' a' m' Q = Bool.false ∧ True ∧ True ∧ True)) ∧ (Decidable.decide (e = e') = Bool.false →
    Go.Proofs.Ytlnfolgmjfcinaa.Fr.sameB k s e n a m P k' s' e' n' a' m' Q = Bool.false ∧ True ∧ True ∧ True)) ∧ (Decidable.decide (s = s') = Bool.false →
    Go.Proofs.Ytlnfolgmjfcinaa.Fr.sameB k s e n a m P k' s' e' n' a' m' Q = Bool.false ∧ True ∧ True ∧ True)) ∧ (Decidable.decide (k = k') = Bool.false →
    Go.Proofs.Ytlnfolgmjfcinaa.Fr.sameB k s e n a m P k' s' e' n' a' m' Q = Bool.false ∧ True ∧ True ∧ True)
theorem samef_eq (k s e n a m : Int) (P : List UInt8) (c1 : Nat) (k' s' e' n' a' m' : Int) (Q : List UInt8) (c2 : Nat) : sameW k s e n a m P c1 k' s' e' n' a' m' Q c2 = samef k s e n a m P c1 k' s' e' n' a' m' Q c2 := by kernel_rfl
theorem samef_ok {k s e n a m : Int} {P : List UInt8} {c1 : Nat} {k' s' e' n' a' m' : Int} {Q : List UInt8} {c2 : Nat} (hP : P.length ≤ 9223372036854775807) (hQ : Q.length ≤ 9223372036854775807) : samef k s e n a m P c1 k' s' e' n' a' m' Q c2 := by
  have h1 : List.take P.length (List.drop 0 P) = P := by simp
  have h2 : List.take Q.length (List.drop 0 Q) = Q := by simp
  unfold samef sameB
  rw [h1, h2]
  simp +contextual [Atom.lOf, hP, hQ]
  intros
  first | rfl | exact Iff.rfl | skip
theorem shape14 {xs : List Atom} (h : atomsOk [.int .u8, .int .u32, .int .u32, .int .u32, .int .u32, .int .u32, .bytes, .int .u8, .int .u32, .int .u32, .int .u32, .int .u32, .int .u32, .bytes] xs) :
    ∃ k s e n a m P k' s' e' n' a' m' Q, xs = [.z k, .z s, .z e, .z n, .z a, .z m, .l P, .z k', .z s', .z e', .z n', .z a', .z m', .l Q] ∧ P.length ≤ 9223372036854775807 ∧ Q.length ≤ 9223372036854775807 := by
  obtain ⟨k, _, rfl, h1, h⟩ := atoms_int h
  obtain ⟨s, _, rfl, h2, h⟩ := atoms_int h
  obtain ⟨e, _, rfl, h3, h⟩ := atoms_int h
  obtain ⟨n, _, rfl, h4, h⟩ := atoms_int h
  obtain ⟨a, _, rfl, h5, h⟩ := atoms_int h
  obtain ⟨m, _, rfl, h6, h⟩ := atoms_int h
  obtain ⟨P, _, rfl, h7, h⟩ := atoms_bytes h
  obtain ⟨k', _, rfl, _, h⟩ := atoms_int h
  obtain ⟨s', _, rfl, _, h⟩ := atoms_int h
  obtain ⟨e', _, rfl, _, h⟩ := atoms_int h
  obtain ⟨n', _, rfl, _, h⟩ := atoms_int h
  obtain ⟨a', _, rfl, _, h⟩ := atoms_int h
  obtain ⟨m', _, rfl, _, h⟩ := atoms_int h
  obtain ⟨Q, _, rfl, h8, h⟩ := atoms_bytes h
  obtain rfl := atoms_nil h
  exact ⟨k, s, e, n, a, m, P, k', s', e', n', a', m', Q, rfl, h7, h8⟩
theorem sameH_ok {w0 : World} {RO : PT AObj} : Call1Ok Try.prog w0 RO SAME (fun args st => got (sameH RO args st)) := by
  refine hookR_ok U8 (by decide) ⟨_, rfl, rfl, by kernel_rfl⟩ (fun xs h _ => ?_) fun xs caps w φs us h _ hf hro hus => ?_
  · obtain ⟨k, s, e, n, a, m, P, k', s', e', n', a', m', Q, rfl, _, _⟩ := shape14 h
    exact ⟨rfl, rfl⟩
  · obtain ⟨k, s, e, n, a, m, P, k', s', e', n', a', m', Q, rfl, hP, hQ⟩ := shape14 h
    exact fn_way follows named (hkAdd_ok seqH_ok hkNone_ok) (fn := Try.f20) (body := bodyOf Try.prog SAME) (by kernel_rfl) (by kernel_rfl) annOk_none (RO := roPQ P Q) (f := 100) (next := 1000) (args := [argF (.sint .u8 k) s e n a m P (caps 6), argG (.sint .u8 k') s' e' n' a' m' Q (caps 13)]) (K := endK (.sbool (sameB k s e n a m P k' s' e' n' a' m' Q)) []) []
      (Eq.mp (by kernel_rfl) ((samef_eq k s e n a m P (caps 6) k' s' e' n' a' m' Q (caps 13)).mpr (samef_ok hP hQ))) hf hro hus
end Go.Proofs.Ytlnfolgmjfcinaa.Fr
