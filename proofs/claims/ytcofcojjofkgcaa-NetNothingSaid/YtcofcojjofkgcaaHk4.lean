/- A statement's arguments as a small state; what a statement's run must come to. By an AI agent. -/
import Derived.Test.YtcofcojjofkgcaaHk3
namespace Go.Proofs.Ytcofcojjofkgcaa.Abs
open Go Go.RowKit Go.Proofs.Ytcofcojjofkgcaa.M
set_option linter.unusedVariables false
/-- one value that comes in -/
def InB (W : World) (i : Nat) (d : BD) (a : Atom) (u : Value) : Prop := atomOk d a ∧ ∃ (t3 : Nat × Nat × Nat) (cap : Nat), (∀ (ψ : Phi), ψ (.blk (900 + i)) = some t3 → VRel ψ (smallB i cap d a) u) ∧
      ∀ (ψ : Phi) t x o, (x, o) ∈ smallR t i [d] [a] → x = 900 + i ∧ (o.nul = true ∨ ∃ u, t3.1 < W.heap.size ∧ W.heap[t3.1]? = some u ∧ ORel ψ o t3.2.1 t3.2.2 (thaw u))
/-- values that come in -/
inductive InBs (W : World) : Nat → List BD → List Atom → List Value → Prop
  | nil (i : Nat) : InBs W i [] [] []
  | cons (i : Nat) (d : BD) (a : Atom) (u : Value) (ds : List BD) (xs : List Atom) (us : List Value) (h : InB W i d a u) (hs : InBs W (i + 1) ds xs us) : InBs W i (d :: ds) (a :: xs) (u :: us)
inductive InAs (W : World) : Nat → List AD → List Atom → List Value → Prop
  | nil (i : Nat) : InAs W i [] [] []
  | one (i : Nat) (d : BD) (a : Atom) (u : Value) (ds : List AD) (xs : List Atom) (us : List Value) (h : InB W i d a u) (hs : InAs W (i + 1) ds xs us) : InAs W i (.one d :: ds) (a :: xs) (u :: us)
  | agg (i : Nat) (bs : List BD) (ys : List Atom) (c : Array Value) (ds : List AD) (xs : List Atom) (us : List Value) (h : InBs W i bs ys c.toList) (hs : InAs W (i + bs.length) ds xs us) : InAs W i (.agg bs :: ds) (ys ++ xs) (.agg c :: us)
theorem InBs.laid {W : World} (t : TypeId) : ∀ {i : Nat} {ds : List BD} {xs : List Atom} {us : List Value}, InBs W i ds xs us → atomsOk ds xs ∧ Laid W t i ds xs us
  | _, _, _, _, .nil i => ⟨trivial, laid_nil _ _ _⟩
  | _, _, _, _, .cons i d a u ds xs us h hs => ⟨⟨h.1, (hs.laid t).1⟩, laid_cons h.2 (hs.laid t).2⟩
theorem InAs.laid {W : World} (t : TypeId) : ∀ {i : Nat} {ds : List AD} {xs : List Atom} {us : List Value}, InAs W i ds xs us → atomsOk (flatD ds) xs ∧ LaidA W t i ds xs us
  | _, _, _, _, .nil i => ⟨trivial, fun _ => (0, 0, 0), fun _ => 0, fun ψ _ => .nil, fun ψ x o hx => by cases hx⟩
  | _, _, _, _, .one i d a u ds xs us h hs => ⟨⟨h.1, (hs.laid t).1⟩, laidA_one h.2 (hs.laid t).2⟩
  | _, _, _, _, .agg i bs ys c ds xs us h hs => ⟨atomsOk_append (h.laid t).1 (hs.laid t).1, laidA_agg (atomsOk_length (h.laid t).1) (h.laid t).2 (hs.laid t).2⟩
end Go.Proofs.Ytcofcojjofkgcaa.Abs
