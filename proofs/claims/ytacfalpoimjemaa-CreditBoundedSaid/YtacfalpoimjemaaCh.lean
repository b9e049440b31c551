/- credit: the statement CreditBounded. By an AI agent. -/
import Derived.Test.YtacfalpoimjemaaCg
namespace Go.Proofs.Ytacfalpoimjemaa.Cr
open Go Go.RowKit Go.Proofs.Ytacfalpoimjemaa.Abs Go.Proofs.Ytacfalpoimjemaa.M
set_option linter.unusedVariables false
def InActs (W : World) (v : Value) : Prop := ∃ n Q N, Ot.TabIn W v n [.zs .u8 Q, .zs .u8 N]
open Go.ChangeShapes Go.WideShapes Go.ChangeAt in
theorem open_acts {H : Type} {enc : TypeId × Value → H} {W : World} {base : Nat} {v : Value} {d : DataW H} {p : List MemPlace} (hval : Value.okWide Try.prog W .any base 51 v) (h : DataW.Trod enc Try.prog W 0 (fun _ => true) true 51 v d p) : InActs W v := by
  obtain ⟨n, ls, hl, ht⟩ := Ot.open_zs [.u8, .u8] Try.underlying51 Try.underlying57 (by kernel_rfl) (by kernel_rfl) (by decide) (fun j hj => match j, hj with
    | 0, _ => ⟨_, _, rfl, rfl, Try.underlying5⟩
    | 1, _ => ⟨_, _, rfl, rfl, Try.underlying5⟩
    | j + 2, hj => absurd hj (by simp)) rfl hval h
  match ls, hl with
  | [Q, N], _ => exact ⟨n, Q, N, ht⟩
set_option maxRecDepth 100000 in
theorem bounded_law (W : World) (v0 v1 : Value) (h0 : Open.InNat .u8 256 v0) (h1 : InActs W v1) :
    Calls Try.prog BOUND #[v0, v1] W fun e w' => e = .returned (.bool true) ∧ Below W.heap.size W w' := by
  obtain ⟨l, rfl, hl1⟩ := h0
  obtain ⟨n, Q, N, hl, hg, hnm, g3, c3, hc3, hrel3, hobj3⟩ := h1
  have hφ : Fresh0 (Ot.phiW W [(901, g3)]) 1000 W := Ot.phiW_fresh rfl
  have hro : RRel W (Ot.phiW W [(901, g3)]) (roA Q N n ACTT) := by
    refine rrel_of fun x o hx => ?_
    simp only [List.mem_cons, List.not_mem_nil, or_false, Prod.mk.injEq] at hx
    obtain ⟨rfl, rfl⟩ := hx
    rcases hobj3 [(901, g3)] ACTT with hb | ⟨u, e1, e2, e3⟩
    · exact .inl ⟨hb, by omega⟩
    · exact .inr ⟨g3.1, g3.2.1, g3.2.2, u, rfl, fun h => absurd h (by omega), e1, e2, e3⟩
  have r3 := hrel3 [(901, g3)] 901 rfl
  have hn : n ≤ 9223372036854775807 := by unfold maxLen at hnm; omega
  have hlow : ROlow (roA Q N n ACTT) 1000 := rolow_of rfl
  have args : VRels (Ot.phiW W [(901, g3)]) [.sint .u8 (l : Int), .tslice 901 0 n c3 true 2] [.int .u8 (l : Int), v1] := .cons _ _ _ _ (.sint _ _ (by rw [in_u8]; omega)) (.cons _ _ _ _ r3 .nil)
  have getD_in : ∀ {k : IntKind} {l : List Int} (h : ∀ z ∈ l, inR k z) (h0 : inR k 0) (i : Nat), inR k (l.getD i 0) := fun {k l} h h0 i => by
    rw [List.getD_eq_getElem?_getD]
    cases he : l[i]? with
    | none => exact h0
    | some z => exact h z (List.mem_of_getElem? he)
  have hQ : ∀ x, 0 ≤ aQ Q x ∧ aQ Q x ≤ 255 := fun x => by
    have := getD_in (hg (.zs .u8 Q) (by simp)) (by simp [in_u8]) (0 + x.1)
    rw [in_u8] at this
    exact this
  have hN : ∀ x, 0 ≤ aQ N x ∧ aQ N x ≤ 255 := fun x => by
    have := getD_in (hg (.zs .u8 N) (by simp)) (by simp [in_u8]) (0 + x.1)
    rw [in_u8] at this
    exact this
  have hF := bf_ok (l := (l : Int)) (L := 1 + (l : Int)) (c := c3) (ty := ACTT) (by omega) rfl hn hQ hN
  rw [← bf_eq] at hF
  exact (nest_run follows named crHooks_ok hlow hF hφ hro (us := [.int .u8 (l : Int), v1]) args).mono fun e w' he => by
    obtain ⟨u, a, st', rfl, hu, ψ, k1, k2, _⟩ := he
    exact ⟨congrArg _ (isTrue_rel hu k1), k2.below⟩
end Go.Proofs.Ytacfalpoimjemaa.Cr
