/- net: the statement NetNothing. By an AI agent. -/
import Derived.Test.YtcofcojjofkgcaaNg
import Derived.Test.YtcofcojjofkgcaaOr
import Derived.Test.YtcofcojjofkgcaaScl
namespace Go.Proofs.Ytcofcojjofkgcaa.Nn
open Go Go.RowKit Go.Proofs.Ytcofcojjofkgcaa.Abs Go.Proofs.Ytcofcojjofkgcaa.M
set_option linter.unusedVariables false
def InActs (W : World) (v : Value) : Prop := ∃ n Q N D, Ot.TabIn W v n [.zs .u8 Q, .zs .u8 N, .bs D]
open Go.ChangeShapes Go.WideShapes Go.ChangeAt in
theorem open_acts {H : Type} {enc : TypeId × Value → H} {W : World} {base : Nat} {v : Value} {d : DataW H} {p : List MemPlace} (hval : Value.okWide Try.prog W .any base 42 v) (h : DataW.Trod enc Try.prog W 0 (fun _ => true) true 42 v d p) : InActs W v := by
  obtain ⟨n, cs, hc, ht⟩ := Ot.open_cs [.z .u8, .z .u8, .b] Try.underlying42 Try.underlying47 (by kernel_rfl) (by kernel_rfl) (by decide) (fun j hj => match j, hj with
    | 0, _ => ⟨_, _, rfl, rfl, Try.underlying5⟩
    | 1, _ => ⟨_, _, rfl, rfl, Try.underlying5⟩
    | 2, _ => ⟨_, _, rfl, rfl, Try.underlying4⟩
    | j + 3, hj => absurd hj (by simp)) rfl hval h
  match cs, hc with
  | [.zs k Q, .zs k2 N, .bs D], hc =>
    have e1 : k = .u8 := by cases hc; rfl
    have e2 : k2 = .u8 := by cases hc; rfl
    subst e1 e2
    exact ⟨n, Q, N, D, ht⟩
theorem rd_up {RO : PT AObj} {st : St} {b : Nat} {o : AObj} (h : st.heap.get b = some o) : rd RO st b = some o := by
  show (match st.heap.get b with | some o => some o | none => RO.get b) = some o
  rw [h]
theorem callT_mono {P : Program} {w0 : World} {RO : PT AObj} {f : FuncId} {args : List AVal} {st : St} {K K' : AVal → St → Prop} (h : CallT P w0 RO f args st K) (hk : ∀ v s, K v s → K' v s) : CallT P w0 RO f args st K' :=
  ⟨h.1, fun φ us w h1 h2 h3 => (h.2 φ us w h1 h2 h3).mono fun e w' he => by
    obtain ⟨u, v, st', k1, k2, k3⟩ := he
    exact ⟨u, v, st', k1, hk v st' k2, k3⟩⟩
theorem clone_rel {w0 : World} {RO : PT AObj} (args : List AVal) (st : St) (hp : (cloneR args st).pre) : CallT Try.prog w0 RO CLONE args st fun v s => ∃ z, (cloneR args st).post z ∧ v = (cloneR args st).res z ∧ s = (cloneR args st).out z := by
  unfold cloneR at hp ⊢
  split at hp
  · rename_i b i n lo ex wd
    split at hp
    · rename_i n' c tb hg
      by_cases h1 : wd = 1
      · subst h1
        simp only [Nat.beq_eq_true_eq, show Nat.beq 1 1 = true from rfl, cond_true] at hp ⊢
        rw [hg]
        exact callT_mono (Scl.clone_ok (w0 := w0) (lo := lo) (ex := ex) (rd_up hg) hp.1 rfl hp.2) fun v s h => ⟨(), trivial, h.1, h.2⟩
      · have h2 : Nat.beq wd 1 = false := by cases hb : Nat.beq wd 1 with | false => rfl | true => exact absurd (Nat.eq_of_beq_eq_true hb) h1
        rw [h2] at hp
        exact hp.elim
    · exact hp.elim
  · exact hp.elim
theorem nn_rels {w0 : World} {RO : PT AObj} {dc : Dc} {n : Nat} : RelsOk Try.prog w0 RO (nnAnn dc n) := fun g S args s h hp => by
  have h : (bif Nat.beq g CLONE then some cloneR else none) = some S := h
  cases hb : Nat.beq g CLONE with
  | false => rw [hb] at h; cases h
  | true =>
    rw [hb] at h
    cases h
    obtain rfl := Nat.eq_of_beq_eq_true hb
    exact clone_rel args s hp
set_option maxRecDepth 100000 in
theorem nothing_law (W : World) (v1 : Value) (h1 : InActs W v1) :
    Calls Try.prog NOTH #[v1] W fun e w' => e = .returned (.bool true) ∧ Below W.heap.size W w' := by
  obtain ⟨n, Q, N, D, hl, hg, hnm, g3, c3, hc3, hrel3, hobj3⟩ := h1
  have hφ : Fresh0 (Ot.phiW W [(900, g3)]) 1000 W := Ot.phiW_fresh rfl
  have hro : RRel W (Ot.phiW W [(900, g3)]) (nnRO Q N D n 47) := by
    refine rrel_of fun x o hx => ?_
    simp only [List.mem_cons, List.not_mem_nil, or_false, Prod.mk.injEq] at hx
    obtain ⟨rfl, rfl⟩ := hx
    rcases hobj3 [(900, g3)] 47 with hb | ⟨u, e1, e2, e3⟩
    · exact .inl ⟨hb, by omega⟩
    · exact .inr ⟨g3.1, g3.2.1, g3.2.2, u, rfl, fun h => absurd h (by omega), e1, e2, e3⟩
  have r3 := hrel3 [(900, g3)] 900 rfl
  have hn : n ≤ 9223372036854775807 := by unfold maxLen at hnm; omega
  have hlow : ROlow (nnRO Q N D n 47) 1000 := rolow_of rfl
  have args : VRels (Ot.phiW W [(900, g3)]) [.tslice 900 0 n c3 true 3] [v1] := .cons _ _ _ _ r3 .nil
  have hA : ∀ x, 0 ≤ gA N x ∧ gA N x ≤ 255 := fun x => by
    unfold gA
    rw [List.getD_eq_getElem?_getD]
    cases he : N[0 + Int.toNat (x.1 : Int)]? with
    | none => simp
    | some z =>
      have := hg (.zs .u8 N) (by simp) z (List.mem_of_getElem? he)
      rw [in_u8] at this
      exact this
  have hF := nn_ok (Q := Q) (A := N) (D := D) (n := n) (c := c3) (ty := 47) hn hc3 hA
  rw [← nn_eq] at hF
  exact (nest_run follows named nnHooks_ok hlow hF hφ hro (us := [v1]) args nn_rels).mono fun e w' he => by
    obtain ⟨u, a, st', rfl, hu, ψ, k1, k2, _⟩ := he
    exact ⟨congrArg _ (isTrue_rel hu k1), k2.below⟩
end Go.Proofs.Ytcofcojjofkgcaa.Nn
