/- A statement's arguments as a small state; what a statement's run must come to. By an AI agent. -/
import Derived.Test.YtcofcojjofkgcaaHk3
namespace Go.Proofs.Ytcofcojjofkgcaa.Abs
open Go Go.RowKit Go.Proofs.Ytcofcojjofkgcaa.M
set_option linter.unusedVariables false
/-- one value that comes in -/
def InB (W : World) (i : Nat) (d : BD) (a : Atom) (u : Value) : Prop := atomOk d a ∧ ∃ (t3 : Nat × Nat × Nat) (cap : Nat), (∀ (ψ : Phi), ψ (.blk (900 + i)) = some t3 → VRel ψ (smallB i cap d a) u) ∧
      ∀ (ψ : Phi) t x o, (x, o) ∈ smallR t i [d] [a] → x = 900 + i ∧ (o.nul = true ∨ ∃ u, t3.1 < W.heap.size ∧ W.heap[t3.1]? = some u ∧ ORel ψ o t3.2.1 t3.2.2 (thaw u))
theorem inB_int {W : World} {i : Nat} {k : IntKind} {z : Int} (h : inR k z) : InB W i (.int k) (.z z) (.int k z) := ⟨h, (0, 0, 0), 0, fun ψ _ => VRel.sint (φ := ψ) k z h, fun ψ t x o hx => by cases hx⟩
theorem inB_bool {W : World} {i : Nat} {b : Bool} : InB W i .bool (.b b) (.bool b) := ⟨trivial, (0, 0, 0), 0, fun ψ _ => VRel.sbool (φ := ψ) b, fun ψ t x o hx => by cases hx⟩
theorem inB_str {W : World} {i : Nat} {s : ByteArray} (h : s.data.toList.length ≤ 9223372036854775807) : InB W i .str (.l s.data.toList) (.string s) := ⟨h, (0, 0, 0), 0, fun ψ _ => VRel.sstr (φ := ψ) s, fun ψ t x o hx => by cases hx⟩
theorem inB_bytes {W : World} {i : Nat} {S : Nat → Prop} {v : Value} {l : List UInt8} (hv : Byts W S v l) (h : l.length ≤ 9223372036854775807) : InB W i .bytes (.l l) v := by
  obtain ⟨t3, cap, _, hrel, hobj⟩ := lay_bytes hv
  refine ⟨h, t3, cap, fun ψ hψ => hrel ψ _ hψ, fun ψ t x o hx => ?_⟩
  obtain ⟨rfl, rfl⟩ : x = Nat.add 900 i ∧ o = .sbytes l t := by simpa [smallR, Atom.lOf] using hx
  exact ⟨rfl, hobj ψ t⟩
theorem inB_ints {W : World} {i : Nat} {k : IntKind} {v : Value} {l : List Int} (hv : Ints W k v l) (h : l.length ≤ 9223372036854775807) : InB W i (.ints k) (.zs l) v := by
  obtain ⟨t3, cap, hin, hrel, hobj⟩ := lay_ints hv
  refine ⟨⟨h, hin⟩, t3, cap, fun ψ hψ => hrel ψ _ hψ, fun ψ t x o hx => ?_⟩
  obtain ⟨rfl, rfl⟩ : x = Nat.add 900 i ∧ o = .sints k l t := by simpa [smallR, Atom.zsOf] using hx
  exact ⟨rfl, hobj ψ t⟩
/-- values that come in -/
inductive InBs (W : World) : Nat → List BD → List Atom → List Value → Prop
  | nil (i : Nat) : InBs W i [] [] []
  | cons (i : Nat) (d : BD) (a : Atom) (u : Value) (ds : List BD) (xs : List Atom) (us : List Value) (h : InB W i d a u) (hs : InBs W (i + 1) ds xs us) : InBs W i (d :: ds) (a :: xs) (u :: us)
inductive InAs (W : World) : Nat → List AD → List Atom → List Value → Prop
  | nil (i : Nat) : InAs W i [] [] []
  | one (i : Nat) (d : BD) (a : Atom) (u : Value) (ds : List AD) (xs : List Atom) (us : List Value) (h : InB W i d a u) (hs : InAs W (i + 1) ds xs us) : InAs W i (.one d :: ds) (a :: xs) (u :: us)
  | agg (i : Nat) (bs : List BD) (ys : List Atom) (c : Array Value) (ds : List AD) (xs : List Atom) (us : List Value) (h : InBs W i bs ys c.toList) (hs : InAs W (i + bs.length) ds xs us) : InAs W i (.agg bs :: ds) (ys ++ xs) (.agg c :: us)
theorem InBs.laid {W : World} (t : TypeId) : ∀ {i : Nat} {ds : List BD} {xs : List Atom} {us : List Value}, InBs W i ds xs us → atomsOk ds xs ∧ Laid W t i ds xs us
  | _, _, _, _, .nil i => ⟨trivial, laid_nil _ _ _⟩
  | _, _, _, _, .cons i d a u ds xs us h hs => ⟨⟨h.1, (hs.laid t).1⟩, laid_cons h.2 (hs.laid t).2⟩
theorem InAs.laid {W : World} (t : TypeId) : ∀ {i : Nat} {ds : List AD} {xs : List Atom} {us : List Value}, InAs W i ds xs us → atomsOk (flatD ds) xs ∧ LaidA W t i ds xs us
  | _, _, _, _, .nil i => ⟨trivial, fun _ => (0, 0, 0), fun _ => 0, fun ψ _ => .nil, fun ψ x o hx => by cases hx⟩
  | _, _, _, _, .one i d a u ds xs us h hs => ⟨⟨h.1, (hs.laid t).1⟩, laidA_one h.2 (hs.laid t).2⟩
  | _, _, _, _, .agg i bs ys c ds xs us h hs => ⟨atomsOk_append (h.laid t).1 (hs.laid t).1, laidA_agg (atomsOk_length (h.laid t).1) (h.laid t).2 (hs.laid t).2⟩
theorem laid_small {W : World} {t : TypeId} {ds : List AD} {xs : List Atom} {us : List Value} (hlen : (flatD ds).length ≤ 100) (h : InAs W 0 ds xs us) :
    atomsOk (flatD ds) xs ∧ ∃ (ψ : Phi) (caps : Nat → Nat), VRels ψ (smallA caps 0 ds xs) us ∧ RRel W ψ (hp (smallR t 0 (flatD ds) xs)) ∧ Fresh0 ψ 1000 W := by
  obtain ⟨k1, ts, caps, k2, k3⟩ := h.laid t
  let ψ : Phi := fun k => match k with
    | .blk x => if 900 ≤ x ∧ x < 900 + (flatD ds).length then some (ts (x - 900)) else none
    | .pool _ _ _ => none
  have hψ : ∀ x : Nat, ψ x = if 900 ≤ x ∧ x < 900 + (flatD ds).length then some (ts (x - 900)) else none := fun _ => rfl
  refine ⟨k1, ψ, caps, k2 _ fun j h1 h2 => ?_, rrel_of fun x o hx => ?_, ⟨fun x hx => (hψ x).trans (if_neg (by omega)), fun _ _ _ _ h => (by cases h)⟩⟩
  · rw [hψ, if_pos (by omega), show 900 + j - 900 = j by omega]
  · obtain ⟨j, h1, h2, rfl, h4⟩ := k3 ψ x o hx
    rcases h4 with h4 | ⟨u, e1, e2, e3⟩
    · exact .inl ⟨h4, by omega⟩
    · refine .inr ⟨(ts j).1, (ts j).2.1, (ts j).2.2, u, ?_, fun h => by omega, e1, e2, e3⟩
      rw [hψ, if_pos (by omega), show 900 + j - 900 = j by omega]
/-- A STATEMENT'S RUN. -/
theorem law_run {P : Program} {W : World} {g : FuncId} {t : TypeId} {ds : List AD} {xs : List Atom} {us : List Value} (hlen : (flatD ds).length ≤ 100) (h : InAs W 0 ds xs us)
    (run : ∀ (caps : Nat → Nat) (φs : Phi), atomsOk (flatD ds) xs → Fresh0 φs 1000 W → RRel W φs (hp (smallR t 0 (flatD ds) xs)) → VRels φs (smallA caps 0 ds xs) us →
      Calls P g us.toArray W fun e w' => ∃ u v st', e = .returned u ∧ isTrue v ∧ StepOk W φs ⟨.leaf, 1000, []⟩ W v st' u w') :
    Calls P g us.toArray W fun e w' => e = .returned (.bool true) ∧ Below W.heap.size W w' := by
  obtain ⟨k1, ψ, caps, k2, k3, k4⟩ := laid_small (t := t) hlen h
  refine (run caps ψ k1 k4 k3 k2).mono fun e w' he => ?_
  obtain ⟨u, v, st', rfl, hv, χ, e1, e2, _⟩ := he
  rw [isTrue_rel hv e1]
  exact ⟨rfl, e2.below⟩
end Go.Proofs.Ytcofcojjofkgcaa.Abs
