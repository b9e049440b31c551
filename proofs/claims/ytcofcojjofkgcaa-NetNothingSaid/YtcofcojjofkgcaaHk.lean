/- Functions told of by what they read and what they hand out: hooks of the interpreter, made from one run in a small state. By an AI agent. -/
import Derived.Test.YtcofcojjofkgcaaTri
import Derived.Test.YtcofcojjofkgcaaAbsY
namespace Go.Proofs.Ytcofcojjofkgcaa.Abs
open Go Go.RowKit Go.Proofs.Ytcofcojjofkgcaa.M
set_option linter.unusedVariables false
section
variable {w0 w : World} {φ : Phi} {RO : PT AObj} {st : St}
end
/-- a slice of ints reads so -/
def Ints (w : World) (k : IntKind) (v : Value) (l : List Int) : Prop :=
  ∃ (A : Option Addr) (n c : Nat), v = .slice A n c ∧ l.length = n ∧ n ≤ c ∧ (A = none → n = 0) ∧ (∀ z ∈ l, inR k z) ∧
    ∀ ad, A = some ad → 0 < n → ∃ g off, ad = ⟨g, off, none⟩ ∧ ∃ (cs : Array Value) (t' : TypeId) (fz : Nat × Nat), w.heap[g]? = some (.cells cs t' fz) ∧ ∀ (j : Nat) (x : Int), l[j]? = some x → cs[off + j]? = some (.int k x)
theorem Ints.nil_ (w : World) (k : IntKind) (c : Nat) : Ints w k (.slice none 0 c) [] := ⟨none, 0, c, rfl, rfl, Nat.zero_le _, fun _ => rfl, fun z hz => (by cases hz), fun ad h => by cases h⟩
section
variable {w0 w : World} {φ : Phi} {RO : PT AObj} {st : St}
end
inductive Atom where
  | z (z : Int)
  | b (b : Bool)
  | l (l : List UInt8)
  | zs (l : List Int)
inductive BD where
  | int (k : IntKind)
  | bool
  | str
  | bytes
  | ints (k : IntKind)
inductive AD where
  | one (d : BD)
  | agg (l : List BD)
def Atom.zOf : Atom → Int
  | .z n => n
  | _ => 0
def Atom.lOf : Atom → List UInt8
  | .l m => m
  | _ => []
def Atom.zsOf : Atom → List Int
  | .zs m => m
  | _ => []
def Atom.bOf : Atom → Bool
  | .b c => c
  | _ => false
section
variable (RO : PT AObj) (st : St)
end
/-- an atom that is one -/
def atomOk : BD → Atom → Prop
  | .int k, .z z => inR k z
  | .bool, .b _ => True
  | .str, .l l => l.length ≤ 9223372036854775807
  | .bytes, .l l => l.length ≤ 9223372036854775807
  | .ints k, .zs l => l.length ≤ 9223372036854775807 ∧ ∀ z ∈ l, inR k z
  | _, _ => False
def atomsOk : List BD → List Atom → Prop
  | [], [] => True
  | d :: ds, a :: as => atomOk d a ∧ atomsOk ds as
  | _, _ => False
def flatD : List AD → List BD
  | [] => []
  | .one b :: ds => b :: flatD ds
  | .agg bs :: ds => bs ++ flatD ds
/-- the small state's argument: the block of what is a row is numbered by its place -/
def smallB (i cap : Nat) : BD → Atom → AVal
  | .int k, a => .sint k a.zOf
  | .bool, a => .sbool a.bOf
  | .str, a => .sstr a.lOf
  | .bytes, a => .sslice (Nat.add 900 i, 0) a.lOf.length cap true 1
  | .ints _, a => .sslice (Nat.add 900 i, 0) a.zsOf.length cap true 1
def smallBs (caps : Nat → Nat) : Nat → List BD → List Atom → List AVal
  | _, [], _ => []
  | _, _ :: _, [] => []
  | i, d :: ds, a :: as => smallB i (caps i) d a :: smallBs caps (Nat.succ i) ds as
def dropA : List BD → List Atom → List Atom
  | [], as => as
  | _ :: ds, as => (match as with | [] => [] | _ :: as => dropA ds as)
def smallA (caps : Nat → Nat) : Nat → List AD → List Atom → List AVal
  | _, [], _ => []
  | i, .one b :: ds, as => (match as with | [] => [] | a :: as => smallB i (caps i) b a :: smallA caps (Nat.succ i) ds as)
  | i, .agg bs :: ds, as => .agg (smallBs caps i bs as) :: smallA caps (Nat.add i (lenL bs 0)) ds (dropA bs as)
def smallR (t : TypeId) : Nat → List BD → List Atom → List (Nat × AObj)
  | _, [], _ => []
  | _, _ :: _, [] => []
  | i, d :: ds, a :: as => (match d with
    | .bytes => (Nat.add 900 i, .sbytes a.lOf t) :: smallR t (Nat.succ i) ds as
    | .ints k => (Nat.add 900 i, .sints k a.zsOf t) :: smallR t (Nat.succ i) ds as
    | _ => smallR t (Nat.succ i) ds as)
section
variable {w0 w : World} {φ : Phi} {RO : PT AObj} {st : St}
/-- what is laid for values: where each lies -/
def Laid (w : World) (t : TypeId) (i : Nat) (ds : List BD) (as : List Atom) (us : List Value) : Prop :=
  ∃ (ts : Nat → Nat × Nat × Nat) (caps : Nat → Nat), (∀ ψ : Phi, (∀ j, i ≤ j → j < i + ds.length → ψ (.blk (900 + j)) = some (ts j)) → VRels ψ (smallBs caps i ds as) us) ∧
    ∀ (ψ : Phi) x o, (x, o) ∈ smallR t i ds as → ∃ j, i ≤ j ∧ j < i + ds.length ∧ x = 900 + j ∧ (o.nul = true ∨ ∃ u, (ts j).1 < w.heap.size ∧ w.heap[(ts j).1]? = some u ∧ ORel ψ o (ts j).2.1 (ts j).2.2 (thaw u))
theorem laid_nil (w : World) (t : TypeId) (i : Nat) : Laid w t i [] [] [] := ⟨fun _ => (0, 0, 0), fun _ => 0, fun ψ _ => .nil, fun ψ x o hx => by cases hx⟩
theorem smallBs_caps {caps caps' : Nat → Nat} : ∀ {ds : List BD} {as : List Atom} {i : Nat}, (∀ j, i ≤ j → caps j = caps' j) → smallBs caps i ds as = smallBs caps' i ds as
  | [], _, _, _ => rfl
  | _ :: _, [], _, _ => rfl
  | d :: ds, a :: as, i, h => by
    simp only [smallBs]
    rw [h i (Nat.le_refl _), smallBs_caps (ds := ds) (as := as) (i := Nat.succ i) fun j hj => h j (by omega)]
theorem laid_cons {t : TypeId} {i : Nat} {d : BD} {a : Atom} {ds : List BD} {as : List Atom} {u : Value} {us : List Value}
    (h1 : ∃ (t3 : Nat × Nat × Nat) (cap : Nat), (∀ (ψ : Phi), ψ (.blk (900 + i)) = some t3 → VRel ψ (smallB i cap d a) u) ∧
      ∀ (ψ : Phi) t x o, (x, o) ∈ smallR t i [d] [a] → x = 900 + i ∧ (o.nul = true ∨ ∃ u, t3.1 < w.heap.size ∧ w.heap[t3.1]? = some u ∧ ORel ψ o t3.2.1 t3.2.2 (thaw u)))
    (h2 : Laid w t (i + 1) ds as us) : Laid w t i (d :: ds) (a :: as) (u :: us) := by
  obtain ⟨t3, cap, k1, k2⟩ := h1
  obtain ⟨ts, caps, k3, k4⟩ := h2
  refine ⟨fun j => if j = i then t3 else ts j, fun j => if j = i then cap else caps j, fun ψ hψ => ?_, fun ψ x o hx => ?_⟩
  · refine .cons _ _ _ _ ?_ ?_
    · have h9 : ψ (.blk (900 + i)) = some (if i = i then t3 else ts i) := hψ i (Nat.le_refl _) (by simp)
      rw [if_pos rfl] at h9
      have h8 := k1 ψ h9
      simpa using h8
    · rw [smallBs_caps (caps' := caps) fun j hj => if_neg (by omega)]
      refine k3 ψ fun j hj1 hj2 => ?_
      have h9 : ψ (.blk (900 + j)) = some (if j = i then t3 else ts j) := hψ j (by omega) (by simp; omega)
      rwa [if_neg (by omega)] at h9
  · have hx' : (x, o) ∈ smallR t i [d] [a] ∨ (x, o) ∈ smallR t (i + 1) ds as := by
      cases d <;> simp only [smallR, List.mem_cons] at hx ⊢
      · exact .inr hx
      · exact .inr hx
      · exact .inr hx
      · rcases hx with hx | hx
        · exact .inl (.inl hx)
        · exact .inr hx
      · rcases hx with hx | hx
        · exact .inl (.inl hx)
        · exact .inr hx
    rcases hx' with hx | hx
    · obtain ⟨rfl, h⟩ := k2 ψ t x o hx
      exact ⟨i, Nat.le_refl _, by simp, rfl, by simpa using h⟩
    · obtain ⟨j, h1, h2, h3, h4⟩ := k4 ψ x o hx
      exact ⟨j, by omega, by simp; omega, h3, by simpa [show j ≠ i by omega] using h4⟩
end
end Go.Proofs.Ytcofcojjofkgcaa.Abs
