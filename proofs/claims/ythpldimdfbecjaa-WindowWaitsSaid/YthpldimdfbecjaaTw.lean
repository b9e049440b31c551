/- Loops within loops, told of by states. By an AI agent. -/
import Derived.Test.YthpldimdfbecjaaTri
namespace Go.Proofs.Ythpldimdfbecjaa.Abs
open Go Go.RowKit
set_option linter.unusedVariables false
section
variable {α β : Type} (base : Nat) (ok : α → Prop) (I : α → LS) (m : α → Nat) (ρI : List (Nat × Nat)) (post : β → Prop) (J : β → LS) (ρJ : List (Nat × Nat))
/-- as loopA_ok; the round is told of by a triple -/
theorem loopT_ok {P : Program} {w0 : World} {RO : PT AObj} (hro : ROlow RO base)
    {id : Nat} {b : Code} {N : Nat} {ρ0 : List (Nat × Nat)} (round : ∀ x, ok x → Tri P w0 RO b N ⟨none, []⟩ (I x).T (I x).S (roundK base ok I m ρI post J ρJ id x)) (n : Nat) (fr : Fr) (τ : PT AVal) (st : St) (K : Res → Prop) (h : loopA base ok I post J N ρ0 n fr τ st K) :
    Tri P w0 RO (.block id (.loop b)) n fr τ st K := by
  obtain ⟨hN, hp⟩ := cond_some h
  rw [Bool.and_eq_true] at hN
  have hb := Nat.le_of_ble_eq_true hN.2
  obtain rfl := Nat.eq_of_beq_eq_true hN.1
  obtain ⟨rfl, x0, hx0, h0, hK⟩ := plain_eq hp
  refine tri_block (tri_seen base hb (tri_loop (α := { x : α // ok x }) base (fun x => I x.1) (fun x => m x.1) ⟨x0, hx0⟩ ρ0 hro hb h0 (fun x => ?_)))
  refine (round x.1 x.2).mono fun r hr => ?_
  obtain ⟨ex, τ1, st1, fr1⟩ := r
  obtain ⟨hfr, hr⟩ := plain_eq hr
  simp only at hfr hr
  subst hfr
  cases ex with
  | normal =>
    obtain ⟨y, ⟨hy1, hy2⟩, hE⟩ := hr
    exact ⟨⟨y, hy2⟩, ρI, hy1, rfl, hE⟩
  | exit j =>
    obtain ⟨hj, z, hz, hE⟩ := cond_some hr
    refine ⟨ρJ, J z, (fun x hx => by cases hx), hE, ?_⟩
    show (bif Nat.beq j id then _ else _)
    rw [hj]
    exact hK z hz
  | ret => exact hr.elim
end
/-- several loops are told of -/
def annL (l : List (Nat × (Nat → Fr → PT AVal → St → (Res → Prop) → Prop))) : Ann := fun j => match l with
  | [] => none
  | x :: l => bif Nat.beq x.1 j then some x.2 else annL l j
theorem annL_some {l : List (Nat × (Nat → Fr → PT AVal → St → (Res → Prop) → Prop))} {j : Nat} {A : Nat → Fr → PT AVal → St → (Res → Prop) → Prop} (h : annL l j = some A) : (j, A) ∈ l := by
  induction l with
  | nil => cases h
  | cons x l ih =>
    unfold annL at h
    cases hb : Nat.beq x.1 j with
    | true =>
      rw [hb] at h
      obtain rfl := Nat.eq_of_beq_eq_true hb
      cases h
      exact List.mem_cons_self
    | false => rw [hb] at h; exact List.mem_cons_of_mem _ (ih h)
theorem annL_mem {l : List (Nat × (Nat → Fr → PT AVal → St → (Res → Prop) → Prop))} {j : Nat} (h : j ∈ l.map (·.1)) : annL l j ≠ none := by
  induction l with
  | nil => simp at h
  | cons x l ih =>
    unfold annL
    cases hb : Nat.beq x.1 j with
    | true => exact Option.some_ne_none _
    | false =>
      refine ih ?_
      rcases List.mem_cons.1 h with rfl | h
      · rw [Nat.beq_refl] at hb; cases hb
      · exact h
/-- what is told of loops: each holds in its code -/
theorem annOk_list {P : Program} {w0 : World} {RO : PT AObj} {l : List (Nat × (Nat → Fr → PT AVal → St → (Res → Prop) → Prop))} {c : Code} {ids : List Nat} {cs : List (Nat × Code)} (hids : l.map (·.1) = ids) (hl : told ids c = cs)
    (h : ∀ p ∈ cs, ∀ A, (p.1, A) ∈ l → ∀ n fr τ st K, A n fr τ st K → Tri P w0 RO (.block p.1 p.2) n fr τ st K) : AnnOk P RO (annL l) w0 c := by
  refine annOk_of (ids := ids) (fun j B hj => ?_) (fun p hp B hB => ?_) (fun j hj => ?_)
  · exact (memN_iff _ _).2 (hids ▸ List.mem_map_of_mem (f := (·.1)) (annL_some hj))
  · exact h p (hl ▸ hp) B (annL_some hB)
  · exact annL_mem (hids ▸ (memN_iff _ _).1 hj)
end Go.Proofs.Ythpldimdfbecjaa.Abs
