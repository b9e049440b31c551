/- How a row of pieces comes in. By an AI agent. -/
import Derived.Test.YtbpkpkellnldmaaOpen
import Derived.Test.YtbpkpkellnldmaaLaysW
namespace Go.Proofs.Ytbpkpkellnldmaa.Open
open Go.ChangeShapes Go.WideShapes Go.ChangeAt Go.RowKit Go.Deep
open Go.ChangeMaps (open_string shut_string)
open Go.Proofs.Ytbpkpkellnldmaa.M Go.Proofs.Ytbpkpkellnldmaa.Pc Go.Proofs.Ytbpkpkellnldmaa.Walks
set_option linter.unusedVariables false

section
variable {H : Type} {enc : TypeId × Value → H} {P : Program} {w : World} {base : Nat} {spare : Nat → Bool} {held : Bool}
/-- a slice of structs of one-cell fields, whatever their number: each field of each element, and its own reading -/
theorem open_rows {t e : TypeId} {fs : Array Field} {fuel : Nat} {cs : List Value} {x : DataW H × List MemPlace} (ht : P.underlying t = some (.slice e)) (he : P.underlying e = some (.struct fs))
    (hone : oneCellFields P fs = true) (hC : P.cellsOf e = fs.size) (h : DataW.trod enc P w base spare held fuel t cs = some x) :
    (cs = [.slice none 0 0]) ∨
    ∃ (a : Addr) (len cap : Nat), cs = [.slice (some a) len cap] ∧ len ≤ cap ∧ cap ≤ maxLen ∧
      ∀ i, i < len → ∃ (n : Nat), ∀ (j : Nat) (f : Field), fs[j]? = some f → ∃ (v : Value) (y : DataW H × List MemPlace), w.cell? (a.add (i * fs.size + j)) = some v ∧ DataW.trod enc P w base spare held n f.type [v] = some y := by
  rcases open_slice ht h with h0 | ⟨a, len, cap, m, n, D, Pl, hcs, hb, hl, hm, hmm, hx, hi⟩
  · exact .inl h0.1
  · refine .inr ⟨a, len, cap, hcs, hl, hm, fun i him => ?_⟩
    obtain ⟨cs', hc, ht'⟩ := hi i (by rw [hmm]; split <;> omega)
    rw [hC] at hc
    obtain ⟨ys, n', hn', hy, hlen, hyl, hf⟩ := DataW.trod_struct he ht'
    obtain ⟨_, hcl, hat⟩ := World.cells?_some hc
    refine ⟨n', fun j f hj => ?_⟩
    obtain ⟨ho, hk⟩ := hone_of hone j f hj
    have hjl : j < fs.size := (Array.getElem?_eq_some_iff.1 hj).1
    have hcell := hat j hjl
    have hv : cs'[j]? = some (cs'[j]'(by omega)) := List.getElem?_eq_getElem (by omega)
    have h1 := hf j f hj
    rw [ho, hk] at h1
    have hone' : (cs'.drop j).take 1 = [cs'[j]'(by omega)] := by
      rw [List.drop_eq_getElem_cons (by omega)]
      rfl
    rw [hone'] at h1
    have hys : ys[j]? = some (ys[j]'(by omega)) := List.getElem?_eq_getElem (by omega)
    refine ⟨_, _, ?_, h1.trans hys⟩
    rw [← Go.Deep.add_add, hcell, hv]
end

section
variable {H : Type} {enc : TypeId × Value → H} {W : World} {base : Nat} {v : Value} {d : DataW H} {p : List MemPlace}
theorem piece_at {a : Addr} {i n : Nat} {fs : Array Field} (hfs : Try.prog.underlying 31 = some (.struct fs)) (hsz : fs.size = 3) (h0 : (fs[0]?).map (·.type) = some 3) (h1 : (fs[1]?).map (·.type) = some 29) (h2 : (fs[2]?).map (·.type) = some 9)
    (h : ∀ (j : Nat) (f : Field), fs[j]? = some f → ∃ (v : Value) (y : DataW H × List MemPlace), W.cell? (a.add (i * fs.size + j)) = some v ∧ DataW.trod enc Try.prog W 0 (fun _ => true) true n f.type [v] = some y) :
    ∃ q : P, q.Ok ∧ ∀ j u, q.cells[j]? = some u → W.cell? (a.add (i * 3 + j)) = some u := by
  obtain ⟨f0, e0, t0⟩ := Option.map_eq_some_iff.1 h0
  obtain ⟨f1, e1, t1⟩ := Option.map_eq_some_iff.1 h1
  obtain ⟨f2, e2, t2⟩ := Option.map_eq_some_iff.1 h2
  obtain ⟨v0, y0, c0, r0⟩ := h 0 f0 e0
  obtain ⟨v1, y1, c1, r1⟩ := h 1 f1 e1
  obtain ⟨v2, y2, c2, r2⟩ := h 2 f2 e2
  rw [t0] at r0
  rw [t1] at r1
  rw [t2] at r2
  rw [hsz] at c0 c1 c2
  obtain ⟨z0, hz0, _, hw0⟩ := DataW.trod_int Try.underlying3 r0
  obtain ⟨z1, hz1, _, hw1⟩ := DataW.trod_int Try.underlying29 r1
  obtain ⟨s, hs, hr⟩ := DataW.trod_string Try.underlying9 r2
  simp at hz0 hz1 hs
  subst hz0; subst hz1; subst hs
  simp [Lit.wf, IntKind.min, IntKind.max, IntKind.signed, IntKind.bits] at hw0 hw1
  obtain ⟨m, rfl⟩ := Int.eq_ofNat_of_zero_le hw1.1
  refine ⟨⟨z0, m, s⟩, ⟨by simp only []; omega, by simp only []; omega, by simp only []; omega, hr.2⟩, fun j u hj => ?_⟩
  match j, hj with
  | 0, hj => simp [P.cells] at hj; subst hj; exact c0
  | 1, hj => simp [P.cells] at hj; subst hj; exact c1
  | 2, hj => simp [P.cells] at hj; subst hj; exact c2
  | j + 3, hj => simp [P.cells] at hj

theorem list_of {α : Type} : ∀ (n : Nat) (Q : Nat → α → Prop), (∀ i, i < n → ∃ a, Q i a) → ∃ l : List α, l.length = n ∧ ∀ i a, l[i]? = some a → Q i a
  | 0, _, _ => ⟨[], rfl, fun i a h => by simp at h⟩
  | n + 1, Q, h => by
    obtain ⟨l, hl, hq⟩ := list_of n Q fun i hi => h i (by omega)
    obtain ⟨a, ha⟩ := h n (by omega)
    refine ⟨l ++ [a], by simp [hl], fun i b hb => ?_⟩
    by_cases hi : i < n
    · rw [List.getElem?_append_left (by omega)] at hb
      exact hq i b hb
    · rw [List.getElem?_append_right (by omega)] at hb
      have : i = n := by
        have := (List.getElem?_eq_some_iff.1 hb).1
        simp at this; omega
      subst this
      simp [hl] at hb
      subst hb
      exact ha

theorem flat_cell {l : List P} {k : Nat} {u : Value} (h : (flat l)[k]? = some u) : ∃ (i : Nat) (p : P) (j : Nat), l[i]? = some p ∧ k = i * 3 + j ∧ p.cells[j]? = some u ∧ j < 3 := by
  have hlt := (List.getElem?_eq_some_iff.1 h).1
  rw [flat_length] at hlt
  have hi : k / 3 < l.length := by omega
  have hp := List.getElem?_eq_getElem hi
  refine ⟨k / 3, l[k / 3], k % 3, hp, by omega, ?_, by omega⟩
  have := flat_at l (k / 3) _ hp (k % 3) (by omega)
  rw [← this, show k / 3 * 3 + k % 3 = k from by omega]
  exact h

theorem open_pieces (hval : Value.okWide Try.prog W .any base 22 v) (h : DataW.Trod enc Try.prog W 0 (fun _ => true) true 22 v d p) : InPieces W v := by
  obtain ⟨a0, len, cap, rfl⟩ := okWide_slice Try.underlying22 hval
  obtain ⟨fuel, hf⟩ := h
  rcases open_rows Try.underlying22 Try.underlying31 (by kernel_rfl) (by kernel_rfl) hf with hcs | ⟨a, len', cap', hcs, hl, hm, hi⟩
  · simp [Value.cells] at hcs
    obtain ⟨rfl, rfl, rfl⟩ := hcs
    exact ⟨[], ⟨none, 0, rfl, rfl, Nat.le_refl _, Nat.zero_le _, fun _ => rfl, fun _ e => by cases e⟩, fun p hp => by cases hp⟩
  · simp [Value.cells] at hcs
    obtain ⟨rfl, rfl, rfl⟩ := hcs
    obtain ⟨l, hll, hq⟩ := list_of len (fun i (q : P) => q.Ok ∧ ∀ j u, q.cells[j]? = some u → W.cell? (a.add (i * 3 + j)) = some u) (fun i hlt => by
      obtain ⟨n, hfn⟩ := hi i hlt
      exact piece_at Try.underlying31 rfl rfl rfl rfl hfn)
    have hat : ∀ j u, (flat l)[j]? = some u → W.cell? (a.add j) = some u := fun k u hk => by
      obtain ⟨i, p, j, hp, rfl, hj, _⟩ := flat_cell hk
      exact (hq i p hp).2 j u hj
    refine ⟨l, ⟨some a, cap, by rw [hll], by rw [flat_length], by omega, by omega, (fun h0 => by cases h0), ?_⟩, fun p hp => ?_⟩
    · intro ad h1 hpos
      cases h1
      refine ⟨?_, hat⟩
      have h0 := hat 0 _ (List.getElem?_eq_getElem (by rw [flat_length]; omega))
      have := World.block_lt_of_cell? W _ h0
      rwa [M.block_add] at this
    · obtain ⟨i, hi1⟩ := List.getElem?_of_mem hp
      exact (hq i p hi1).1
end
end Go.Proofs.Ytbpkpkellnldmaa.Open
