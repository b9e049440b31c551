/- FrameLays, run. By an AI agent. -/
import Derived.Test.YtlnfolgmjfcinaaFrH
import Derived.Test.YtlnfolgmjfcinaaHk4
import Derived.Test.YtlnfolgmjfcinaaOpenF
namespace Go.Proofs.Ytlnfolgmjfcinaa.Fr
open Go Go.RowKit Go.Proofs.Ytlnfolgmjfcinaa.Abs Go.Proofs.Ytlnfolgmjfcinaa.M
set_option linter.unusedVariables false
abbrev LAYS : FuncId := 3
abbrev TELLS : FuncId := 15
noncomputable def lawHooks (RO : PT AObj) : FuncId → Option Hook := frHooks RO (hkAdd TELLS trueH hkNone)
noncomputable def laysW (k s e n a m : Int) (P : List UInt8) (cap : Nat) (t : Int) (dc : Dc) (K : AVal → St → Prop) : Prop := wpD Try.prog (roP P) (lawHooks (roP P)) (fun _ => none) 100 (bodyOf Try.prog LAYS) (tmpsN Try.prog LAYS) ⟨none, []⟩ (argsT [argF (.sint .u8 k) s e n a m P cap, .sint .u64 t] 0 .leaf) ⟨.leaf, 1000, []⟩ dc (fun r _ => endW Try.prog (roP P) Try.f3 r K)
--forms
def lays (k s e n a m : Int) (P : List UInt8) (cap : Nat) (t : Int) : Prop :=
    List.length P ≤ 9223372036854775807 ∧ ∀ (z' : Int), z' = Min.min (↑(List.length P) : Int) (400 : Int) →
    (True ∧ (0 : Int) ≤ z' ∧ True ∧ 0 ≤ Int.toNat z' ∧ Int.toNat z' ≤ cap ∧ cap ≤ cap) ∧ (0 + (Int.toNat z' - 0) ≤ List.length P ∧ Int.toNat z' ≤ 65536) ∧ ∀ (l' : List UInt8), l' = List.take (Int.toNat z' - 0) (List.drop 0 P) →
    ((0 + (Int.toNat z' - 0) ≤ List.length P ∧ List.length (List.take (Int.toNat z' - 0) (List.drop 0 P)) ≤ 9223372036854775807) ∧ True) ∧ ∀ (l'_1 : List UInt8), l'_1 = Go.Proofs.Ytlnfolgmjfcinaa.Fr.encT k s e n a m (Go.Proofs.Ytlnfolgmjfcinaa.Abs.Atom.lOf (Go.Proofs.Ytlnfolgmjfcinaa.Abs.Atom.l (List.take (Int.toNat z' - 0) (List.drop 0 P)))) t →
    ((0 + Int.toNat z' ≤ List.length l' ∧ List.length (List.take (Int.toNat z') (List.drop 0 l')) ≤ 9223372036854775807) ∧ True) ∧ ∀ (l'_2 : List UInt8), l'_2 = Go.Proofs.Ytlnfolgmjfcinaa.Fr.encT k s e n a m (Go.Proofs.Ytlnfolgmjfcinaa.Abs.Atom.lOf (Go.Proofs.Ytlnfolgmjfcinaa.Abs.Atom.l (List.take (Int.toNat z') (List.drop 0 l')))) t →
    ((0 + (Int.toNat z' - 0) ≤ List.length P ∧ List.length (List.take (Int.toNat z' - 0) (List.drop 0 P)) ≤ 9223372036854775807) ∧ True) ∧ ((0 + Int.toNat z' ≤ List.length l' ∧ List.length (List.take (Int.toNat z') (List.drop 0 l')) ≤ 9223372036854775807) ∧ True) ∧ (Go.Proofs.Ytlnfolgmjfcinaa.Fr.mayB k n a m (List.length (Go.Proofs.Ytlnfolgmjfcinaa.Abs.Atom.lOf (Go.Proofs.Ytlnfolgmjfcinaa.Abs.Atom.l (List.take (Int.toNat z' - 0) (List.drop 0 P))))) == Go.Proofs.Ytlnfolgmjfcinaa.Fr.mayB k n a m (List.length (Go.Proofs.Ytlnfolgmjfcinaa.Abs.Atom.lOf (Go.Proofs.Ytlnfolgmjfcinaa.Abs.Atom.l (List.take (Int.toNat z') (List.drop 0 l')))))) = Bool.true ∧ ((0 + (Int.toNat z' - 0) ≤ List.length P ∧ List.length (List.take (Int.toNat z' - 0) (List.drop 0 P)) ≤ 9223372036854775807) ∧ True) ∧ ∀ (l'_3 : List UInt8), l'_3 = Go.Proofs.Ytlnfolgmjfcinaa.Fr.sgnT k s e n a m (Go.Proofs.Ytlnfolgmjfcinaa.Abs.Atom.lOf (Go.Proofs.Ytlnfolgmjfcinaa.Abs.Atom.l (List.take (Int.toNat z' - 0) (List.drop 0 P)))) →
    ((0 + Int.toNat z' ≤ List.length l' ∧ List.length (List.take (Int.toNat z') (List.drop 0 l')) ≤ 9223372036854775807) ∧ True) ∧ ∀ (l'_4 : List UInt8), l'_4 = Go.Proofs.Ytlnfolgmjfcinaa.Fr.sgnT k s e n a m (Go.Proofs.Ytlnfolgmjfcinaa.Abs.Atom.lOf (Go.Proofs.Ytlnfolgmjfcinaa.Abs.Atom.l (List.take (Int.toNat z') (List.drop 0 l')))) →
    0 + List.length (Go.Proofs.Ytlnfolgmjfcinaa.Fr.sgnT k s e n a m (Go.Proofs.Ytlnfolgmjfcinaa.Abs.Atom.lOf (Go.Proofs.Ytlnfolgmjfcinaa.Abs.Atom.l (List.take (Int.toNat z' - 0) (List.drop 0 P))))) ≤ List.length l'_3 ∧ ∀ (l'_5 : List UInt8), l'_5 = List.take (List.length (Go.Proofs.Ytlnfolgmjfcinaa.Fr.sgnT k s e n a m (Go.Proofs.Ytlnfolgmjfcinaa.Abs.Atom.lOf (Go.Proofs.Ytlnfolgmjfcinaa.Abs.Atom.l (List.take (Int.toNat z' - 0) (List.drop 0 P)))))) (List.drop 0 l'_3) →
    0 + List.length (Go.Proofs.Ytlnfolgmjfcinaa.Fr.sgnT k s e n a m (Go.Proofs.Ytlnfolgmjfcinaa.Abs.Atom.lOf (Go.Proofs.Ytlnfolgmjfcinaa.Abs.Atom.l (List.take (Int.toNat z') (List.drop 0 l'))))) ≤ List.length l'_4 ∧ ∀ (l'_6 : List UInt8), l'_6 = List.take (List.length (Go.Proofs.Ytlnfolgmjfcinaa.Fr.sgnT k s e n a m (Go.Proofs.Ytlnfolgmjfcinaa.Abs.Atom.lOf (Go.Proofs.Ytlnfolgmjfcinaa.Abs.Atom.l (List.take (Int.toNat z') (List.drop 0 l')))))) (List.drop 0 l'_4) →
    Decidable.decide (l'_5 = l'_6) = Bool.true ∧ 0 + List.length (Go.Proofs.Ytlnfolgmjfcinaa.Fr.encT k s e n a m (Go.Proofs.Ytlnfolgmjfcinaa.Abs.Atom.lOf (Go.Proofs.Ytlnfolgmjfcinaa.Abs.Atom.l (List.take (Int.toNat z' - 0) (List.drop 0 P)))) t) ≤ List.length l'_1 ∧ ∀ (l'_7 : List UInt8), l'_7 = List.take (List.length (Go.Proofs.Ytlnfolgmjfcinaa.Fr.encT k s e n a m (Go.Proofs.Ytlnfolgmjfcinaa.Abs.Atom.lOf (Go.Proofs.Ytlnfolgmjfcinaa.Abs.Atom.l (List.take (Int.toNat z' - 0) (List.drop 0 P)))) t)) (List.drop 0 l'_1) →
    0 + List.length (Go.Proofs.Ytlnfolgmjfcinaa.Fr.encT k s e n a m (Go.Proofs.Ytlnfolgmjfcinaa.Abs.Atom.lOf (Go.Proofs.Ytlnfolgmjfcinaa.Abs.Atom.l (List.take (Int.toNat z') (List.drop 0 l')))) t) ≤ List.length l'_2 ∧ ∀ (l'_8 : List UInt8), l'_8 = List.take (List.length (Go.Proofs.Ytlnfolgmjfcinaa.Fr.encT k s e n a m (Go.Proofs.Ytlnfolgmjfcinaa.Abs.Atom.lOf (Go.Proofs.Ytlnfolgmjfcinaa.Abs.Atom.l (List.take (Int.toNat z') (List.drop 0 l')))) t)) (List.drop 0 l'_2) →
    Decidable.decide (l'_7 = l'_8) = Bool.true ∧ Decidable.decide (Go.Proofs.Ytlnfolgmjfcinaa.Fr.errT k n a m (Go.Proofs.Ytlnfolgmjfcinaa.Abs.Atom.lOf (Go.Proofs.Ytlnfolgmjfcinaa.Abs.Atom.l (List.take (Int.toNat z' - 0) (List.drop 0 P)))) = Go.Proofs.Ytlnfolgmjfcinaa.Fr.errT k n a m (Go.Proofs.Ytlnfolgmjfcinaa.Abs.Atom.lOf (Go.Proofs.Ytlnfolgmjfcinaa.Abs.Atom.l (List.take (Int.toNat z') (List.drop 0 l'))))) = Bool.true ∧ 0 + (Int.toNat z' - 0) ≤ List.length P ∧ ∀ (l'_9 : List UInt8), l'_9 = List.take (Int.toNat z' - 0) (List.drop 0 P) →
    0 + Int.toNat z' ≤ List.length l' ∧ ∀ (l'_10 : List UInt8), l'_10 = List.take (Int.toNat z') (List.drop 0 l') →
    Decidable.decide (l'_9 = l'_10) = Bool.true ∧ Bool.true = Bool.true
theorem lays_eq (k s e n a m : Int) (P : List UInt8) (cap : Nat) (t : Int) : laysW k s e n a m P cap t [1, 1, 1, 1, 1] (fun v _ => isTrue v) = lays k s e n a m P cap t := by kernel_rfl
theorem cap_ge {φ : Phi} {a : Nat × Nat} {n c z : Nat} {ex : Bool} {u : Value} (h : VRel φ (.sslice a n c ex z) u) : n ≤ c := by
  cases h <;> first | assumption | exact Nat.le_refl _
theorem cap_frame {φ : Phi} {v0 : AVal} {s e n a m : Int} {P : List UInt8} {cap : Nat} {vs : List AVal} {us : List Value} (h : VRels φ (argF v0 s e n a m P cap :: vs) us) : P.length ≤ cap := by
  cases h with
  | cons _ u _ us e1 e2 => cases e1 with
    | agg _ c hc =>
      obtain ⟨u, _, h6⟩ := hc.get (i := 6) rfl
      exact cap_ge h6
theorem lays_ok {k s e n a m t : Int} {P : List UInt8} {cap : Nat} (hP : P.length ≤ 9223372036854775807) (hc : P.length ≤ cap) : lays k s e n a m P cap t := by
  unfold lays
  refine ⟨hP, ?_⟩
  intro z hz
  have hq : ∃ Q, Q = List.take (Int.toNat z - 0) (List.drop 0 P) ∧ Q.length = z.toNat := ⟨_, rfl, by simp; omega⟩
  obtain ⟨Q, hQ, hQl⟩ := hq
  rw [← hQ]
  have hQ2 : List.take z.toNat (List.drop 0 Q) = Q := by rw [List.drop_zero, List.take_of_length_le (by omega)]
  refine ⟨⟨trivial, by omega, trivial, by omega, by omega, Nat.le_refl _⟩, ⟨by omega, by omega⟩, ?_⟩
  intro l hl
  subst hl
  rw [hQ2]
  simp only [Atom.lOf]
  have h1 : 0 + (z.toNat - 0) ≤ P.length ∧ l.length ≤ 9223372036854775807 := ⟨by omega, by omega⟩
  have h2 : 0 + z.toNat ≤ l.length ∧ l.length ≤ 9223372036854775807 := ⟨by omega, by omega⟩
  refine ⟨⟨h1, trivial⟩, ?_⟩
  intro l1 hl1
  refine ⟨⟨h2, trivial⟩, ?_⟩
  intro l2 hl2
  refine ⟨⟨h1, trivial⟩, ⟨h2, trivial⟩, by simp, ⟨h1, trivial⟩, ?_⟩
  intro l3 hl3
  refine ⟨⟨h2, trivial⟩, ?_⟩
  intro l4 hl4
  refine ⟨by rw [hl3]; omega, ?_⟩
  intro l5 hl5
  refine ⟨by rw [hl4]; omega, ?_⟩
  intro l6 hl6
  refine ⟨by rw [hl5, hl6, hl3, hl4]; simp, by rw [hl1]; omega, ?_⟩
  intro l7 hl7
  refine ⟨by rw [hl2]; omega, ?_⟩
  intro l8 hl8
  refine ⟨by rw [hl7, hl8, hl1, hl2]; simp, by simp, h1.1, ?_⟩
  intro l9 hl9
  refine ⟨h2.1, ?_⟩
  intro l10 hl10
  exact ⟨by rw [hl9, hl10]; simp, trivial⟩
theorem tells_ok (w : World) : Calls Try.prog TELLS #[] w fun e w' => e = .returned (.bool true) ∧ Below w.heap.size w w' :=
  closed_ok (hook := hookG hkNone) follows named hkNone_ok (ro_none w (fun _ => none)) (next := 1000) (fun _ _ => rfl) (k := 60) (by kernel_rfl)
theorem lawHooks_ok {w0 : World} {RO : PT AObj} : HooksOk Try.prog w0 RO (lawHooks RO) := frHooks_ok (hkAdd_ok (trueH_ok ⟨_, rfl, rfl, by kernel_rfl⟩ fun w _ => tells_ok w) hkNone_ok)
/-- a frame that comes in -/
theorem inFrame {W : World} {i : Nat} {k s e n a m : Int} {P : List UInt8} {pv : Value} {S : Nat → Prop} (hk : 0 ≤ k ∧ k ≤ 255) (hs : 0 ≤ s ∧ s ≤ 4294967295) (he : 0 ≤ e ∧ e ≤ 4294967295) (hn : 0 ≤ n ∧ n ≤ 4294967295) (ha : 0 ≤ a ∧ a ≤ 4294967295) (hm : 0 ≤ m ∧ m ≤ 4294967295) (hP : Byts W S pv P) :
    InBs W i [.int .u8, .int .u32, .int .u32, .int .u32, .int .u32, .int .u32, .bytes] [.z k, .z s, .z e, .z n, .z a, .z m, .l P] [.int .u8 k, .int .u32 s, .int .u32 e, .int .u32 n, .int .u32 a, .int .u32 m, pv] := by
  have hl : P.length ≤ 9223372036854775807 := by obtain ⟨A, n, c, _, h1, _, h2, _⟩ := hP; unfold maxLen at h2; omega
  exact .cons _ _ _ _ _ _ _ (inB_int hk) (.cons _ _ _ _ _ _ _ (inB_int hs) (.cons _ _ _ _ _ _ _ (inB_int he) (.cons _ _ _ _ _ _ _ (inB_int hn) (.cons _ _ _ _ _ _ _ (inB_int ha) (.cons _ _ _ _ _ _ _ (inB_int hm) (.cons _ _ _ _ _ _ _ (inB_bytes hP hl) (.nil _)))))))
theorem lays_walk (W : World) {k s e n a m : Int} {P : List UInt8} {pv : Value} {S : Nat → Prop} {t : Int} (hk : 0 ≤ k ∧ k ≤ 255) (hs : 0 ≤ s ∧ s ≤ 4294967295) (he : 0 ≤ e ∧ e ≤ 4294967295) (hn : 0 ≤ n ∧ n ≤ 4294967295) (ha : 0 ≤ a ∧ a ≤ 4294967295) (hm : 0 ≤ m ∧ m ≤ 4294967295) (hP : Byts W S pv P) (ht : inR .u64 t) :
    Calls Try.prog LAYS #[.agg #[.int .u8 k, .int .u32 s, .int .u32 e, .int .u32 n, .int .u32 a, .int .u32 m, pv], .int .u64 t] W fun e w' => e = .returned (.bool true) ∧ Below W.heap.size W w' := by
  have hin : InAs W 0 dFT [.z k, .z s, .z e, .z n, .z a, .z m, .l P, .z t] [.agg #[.int .u8 k, .int .u32 s, .int .u32 e, .int .u32 n, .int .u32 a, .int .u32 m, pv], .int .u64 t] :=
    .agg 0 _ [.z k, .z s, .z e, .z n, .z a, .z m, .l P] _ _ [.z t] _ (inFrame hk hs he hn ha hm hP) (.one _ _ _ _ _ _ _ (inB_int ht) (.nil _))
  refine law_run (t := U8) (by decide) hin fun caps φs h hf hro hus => ?_
  obtain ⟨_, _, _, _, _, _, P', _, hx, _, _, _, _, _, _, hl, _⟩ := shape8 h
  cases hx
  have hcap := cap_frame (v0 := .sint .u8 k) (vs := [.sint .u64 t]) hus
  exact fn_way follows named lawHooks_ok (fn := Try.f3) (body := bodyOf Try.prog LAYS) (by kernel_rfl) (by kernel_rfl) annOk_none (RO := roP P) (f := 100) (next := 1000) (args := [argF (.sint .u8 k) s e n a m P (caps 6), .sint .u64 t]) (K := fun v _ => isTrue v) [1, 1, 1, 1, 1]
    (Eq.mp (by kernel_rfl) ((lays_eq k s e n a m P (caps 6) t).mpr (lays_ok hl hcap))) hf hro hus
theorem lays_law (W : World) (v0 v1 : Value) (w0 : Open.InFrame W v0) (w1 : Open.InNat .u64 18446744073709551616 v1) : Calls Try.prog LAYS #[v0, v1] W fun e w' => e = .returned (.bool true) ∧ Below W.heap.size W w' := by
  obtain ⟨k, s, e, n, a, m, P, pv, rfl, hk, hs, he, hn, ha, hm, hP⟩ := w0
  obtain ⟨t, rfl, ht⟩ := w1
  exact lays_walk W hk hs he hn ha hm hP (by rw [in_u64]; omega)
end Go.Proofs.Ytlnfolgmjfcinaa.Fr
