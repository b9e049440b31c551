/- Arguments are laid before the interpreter. By an AI agent. -/
import Derived.Test.YthpldimdfbecjaaTri
import Derived.Test.YthpldimdfbecjaaM
namespace Go.Proofs.Ythpldimdfbecjaa.Abs
open Go Go.RowKit Go.Proofs.Ythpldimdfbecjaa.M
set_option linter.unusedVariables false
theorem rrel_of {w0 : World} {φ : Phi} {entries : List (Nat × AObj)} (h : ∀ x o, (x, o) ∈ entries → (o.nul = true ∧ 900 ≤ x) ∨ ∃ g b n u, φ x = some (g, b, n) ∧ (x < 900 → g = x ∧ b = 0) ∧ g < w0.heap.size ∧ w0.heap[g]? = some u ∧ ORel φ o b n (thaw u)) : RRel w0 φ (hp entries) :=
  fun x o hx => h x o (foldr_get hx)
theorem rolow_of {entries : List (Nat × AObj)} {base : Nat} (h : (entries.all fun x => Nat.blt x.1 base) = true) : ROlow (hp entries) base := fun x o hx => by
  have := List.all_eq_true.1 h _ (foldr_get hx)
  simpa [Nat.blt_eq] using this
/-- where laid blocks lie -/
def phiOf (l : List (Nat × (Nat × Nat × Nat))) : Phi := fun x => (l.find? fun e => Nat.beq e.1 x).map (·.2)
theorem phiOf_high {l : List (Nat × (Nat × Nat × Nat))} {next : Nat} (h : (l.all fun e => Nat.blt e.1 next) = true) : ∀ x, next ≤ x → phiOf l x = none := fun x hx => by
  unfold phiOf
  rw [Option.map_eq_none_iff, List.find?_eq_none]
  intro e he hb
  have := List.all_eq_true.1 h e he
  have h1 : e.1 < next := by simpa [Nat.blt_eq] using this
  have h2 := Nat.eq_of_beq_eq_true hb
  omega
/-- bytes that come in: the slice, and the row -/
theorem lay_bytes {w : World} {S : Nat → Prop} {v : Value} {l : List UInt8} (h : Byts w S v l) : ∃ (t3 : Nat × Nat × Nat) (cap : Nat), l.length ≤ maxLen ∧ (∀ (φ : Phi) x, φ x = some t3 → VRel φ (.sslice (x, 0) l.length cap true 1) v) ∧
    ∀ (φ : Phi) t, (AObj.sbytes l t).nul = true ∨ ∃ u, t3.1 < w.heap.size ∧ w.heap[t3.1]? = some u ∧ ORel φ (.sbytes l t) t3.2.1 t3.2.2 (thaw u) := by
  obtain ⟨A, n, c, rfl, hl, hnc, hm, h0, hat⟩ := h
  cases l with
  | nil =>
    obtain rfl : n = 0 := by simpa using hl.symm
    exact ⟨(0, 0, 0), 0, Nat.zero_le _, fun φ x hx => .semp _ _ _ _, fun φ t => .inl rfl⟩
  | cons b l =>
    cases A with
    | none => have := h0 rfl; simp at hl; omega
    | some ad =>
    obtain ⟨hS, hcell⟩ := hat ad rfl (by simp at hl; omega)
    obtain ⟨g, off, spot⟩ := ad
    have hspot : spot = none := by simpa [Addr.add] using World.cell?_spot (hcell 0 b rfl)
    subst hspot
    have hg : ∃ cs t fz, w.heap[g]? = some (.cells cs t fz) := by
      have := hcell 0 b rfl
      rw [add_lit] at this
      unfold World.cell? at this
      simp only at this
      split at this
      · exact ⟨_, _, _, ‹_›⟩
      all_goals first | (cases this; done) | (simp at this; done)
    obtain ⟨cs, t', fz, hg⟩ := hg
    have hat2 : ∀ j x, (b :: l)[j]? = some x → cs[off + j]? = some (.int .u8 (x.toNat : Int)) := fun j x hj => by
      have := hcell j x hj
      rw [add_lit] at this
      unfold World.cell? at this
      simp only [hg] at this
      simpa using this
    have hlen : off + (b :: l).length ≤ cs.size := by
      have := hat2 l.length ((b :: l)[l.length]'(by simp)) (List.getElem?_eq_getElem (by simp))
      have := (Array.getElem?_eq_some_iff.1 this).1
      simp; omega
    refine ⟨(g, off, cs.size), c, by rw [hl]; exact hm, fun φ x hx => ?_, fun φ t => .inr ⟨_, (Array.getElem?_eq_some_iff.1 hg).1, hg, ?_⟩⟩
    · subst hl
      exact VRel.sslice x 0 _ _ 1 g off cs.size c true ⟨g, off, none⟩ hx hnc (Nat.le_refl _) (fun _ => rfl) (by simp) (.inr rfl)
    refine sbytes_cells rfl hlen ?_ (.inl rfl)
    apply List.ext_getElem?
    intro i
    by_cases hi : i < (b :: l).length
    · rw [List.getElem?_take_of_lt hi, List.getElem?_drop, Array.getElem?_toList, hat2 i _ (List.getElem?_eq_getElem hi)]
      unfold vals
      rw [List.getElem?_map, List.getElem?_eq_getElem hi]
      rfl
    · rw [List.getElem?_eq_none (by simp; simp at hi; omega), List.getElem?_eq_none (by simpa [vals] using hi)]
def isTrue : AVal → Prop
  | .bool b => b = true
  | .sbool b => b = true
  | _ => False
theorem isTrue_rel {φ : Phi} {v : AVal} {u : Value} (h : isTrue v) (hv : VRel φ v u) : u = .bool true := by
  unfold isTrue at h
  split at h
  · subst h; cases hv; rfl
  · subst h; cases hv; rfl
  · exact h.elim
end Go.Proofs.Ythpldimdfbecjaa.Abs
