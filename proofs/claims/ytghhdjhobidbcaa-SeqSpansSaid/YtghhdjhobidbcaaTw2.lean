/- Loops that are left by a return as well. By an AI agent. -/
import Derived.Test.YtghhdjhobidbcaaAbsU
namespace Go.Proofs.Ytghhdjhobidbcaa.Abs
open Go Go.RowKit
set_option linter.unusedVariables false
section
variable {α β γ : Type} (base : Nat) (ok : α → Prop) (I : α → LS) (m : α → Nat) (ρI : List (Nat × Nat)) (post : β → Prop) (J : β → LS) (ρJ : List (Nat × Nat)) (postR : γ → Prop) (JR : γ → LS) (ρR : List (Nat × Nat))
/-- what a round must come to: the next round, the loop's end, or the function's -/
noncomputable def roundR (id : Nat) (x : α) (r : Res) : Prop := plain r.fr (match r.ex with
  | .normal => ∃ y, (m y < m x ∧ ok y) ∧ stE base ρI r.τ r.st (I y).tmps (I y).objs (I y).next
  | .exit j => bif Nat.beq j id then ∃ z, post z ∧ stE base ρJ r.τ r.st (J z).tmps (J z).objs (J z).next else False
  | .ret => ∃ z, postR z ∧ stE base ρR r.τ r.st (JR z).tmps (JR z).objs (JR z).next)
noncomputable def loopR (N : Nat) (ρ0 : List (Nat × Nat)) (n : Nat) (fr : Fr) (τ : PT AVal) (st : St) (K : Res → Prop) : Prop :=
  bif Nat.beq n N && Nat.ble st.next base then plain fr (∃ x0, ok x0 ∧ stE base ρ0 τ st (I x0).tmps (I x0).objs (I x0).next ∧ (∀ z, post z → K ⟨.normal, (J z).T, (J z).S, ⟨none, []⟩⟩) ∧ ∀ z, postR z → K ⟨.ret, (JR z).T, (JR z).S, ⟨none, []⟩⟩) else False
theorem loopR_ok {P : Program} {w0 : World} {RO : PT AObj} (hro : ROlow RO base)
    {id : Nat} {b : Code} {N : Nat} {ρ0 : List (Nat × Nat)} (round : ∀ x, ok x → Tri P w0 RO b N ⟨none, []⟩ (I x).T (I x).S (roundR base ok I m ρI post J ρJ postR JR ρR id x)) (n : Nat) (fr : Fr) (τ : PT AVal) (st : St) (K : Res → Prop) (h : loopR base ok I post J postR JR N ρ0 n fr τ st K) :
    Tri P w0 RO (.block id (.loop b)) n fr τ st K := by
  obtain ⟨hN, hp⟩ := cond_some h
  rw [Bool.and_eq_true] at hN
  have hb := Nat.le_of_ble_eq_true hN.2
  obtain rfl := Nat.eq_of_beq_eq_true hN.1
  obtain ⟨rfl, x0, hx0, h0, hK, hKR⟩ := plain_eq hp
  refine tri_block (tri_seen base hb (tri_loop (α := { x : α // ok x }) base (fun x => I x.1) (fun x => m x.1) ⟨x0, hx0⟩ ρ0 hro hb h0 (fun x => ?_)))
  refine (round x.1 x.2).mono fun r hr => ?_
  obtain ⟨ex, τ1, st1, fr1⟩ := r
  obtain ⟨hfr, hr⟩ := plain_eq hr
  simp only at hfr hr
  subst hfr
  cases ex with
  | normal =>
    obtain ⟨y, ⟨hy1, hy2⟩, hE⟩ := hr
    exact ⟨⟨y, hy2⟩, ρI, hy1, rfl, hE⟩
  | exit j =>
    obtain ⟨hj, z, hz, hE⟩ := cond_some hr
    refine ⟨ρJ, J z, (fun x hx => by cases hx), hE, ?_⟩
    show (bif Nat.beq j id then _ else _)
    rw [hj]
    exact hK z hz
  | ret =>
    obtain ⟨z, hz, hE⟩ := hr
    exact ⟨ρR, JR z, (fun x hx => by cases hx), hE, hKR z hz⟩
end
end Go.Proofs.Ytghhdjhobidbcaa.Abs
