/- bytes.Clone in this place's words. By an AI agent. -/
import Derived.Test.YtnhomnaamlbnpaaDoorProg
import Derived.Test.YtnhomnaamlbnpaaDoorShelf
import Derived.Test.YtnhomnaamlbnpaaDoorM
namespace Go.Proofs.YtnhomnaamlbnpaaDoor.Byt
open Go.RowKit Go.Proofs.YtnhomnaamlbnpaaDoor.M
set_option linter.unusedVariables false

theorem clone_any (v : Value) (l : List UInt8) (S : Nat → Prop) (w : World) (hv : Byts w S v l) (hbig : l.length ≤ 140737488355328) :
    Calls Tryd.prog 23 #[v] w fun e w' => ∃ A c, e = .returned (.slice A l.length c) ∧ Byts w' (fun k => w.heap.size ≤ k ∧ k < w'.heap.size) (.slice A l.length c) l ∧ Below w.heap.size w w' := by
  obtain ⟨A, n, c, rfl, rfl, hnc, hm, h0, hc⟩ := hv
  rcases A with _ | a
  · have hz := h0 rfl
    refine (Tryd.bytes_Clone_nil _ _ _).mono ?_
    rintro e w' ⟨rfl, rfl⟩
    have : l = [] := List.eq_nil_of_length_eq_zero hz
    subst this
    exact ⟨none, 0, rfl, Byts.nil_ _ _ _, Below.refl _ _⟩
  · refine (Tryd.bytes_Clone_at a l.length c (nums l) w (nums_length l) hbig ?_).mono ?_
    · intro i hi
      have hx := List.getElem?_eq_getElem hi
      rw [nums_getD l i _ hx]
      exact (hc a rfl (by omega)).2 i _ hx
    · rintro e w' ⟨v', rfl, hown, hne, hb⟩
      have hB := byts_of_own (l := l) hown (by simp [nums])
      obtain ⟨A', n', c', rfl, hl', hr⟩ := hB
      subst hl'
      exact ⟨A', c', rfl, ⟨A', l.length, c', rfl, rfl, hr⟩, hb⟩

theorem clone_own (v : Value) (l : List UInt8) (S : Nat → Prop) (w : World) (hv : Byts w S v l) (hbig : l.length ≤ 140737488355328) :
    Calls Tryd.prog 23 #[v] w fun e w' => ∃ v', e = .returned v' ∧ w'.ownsRow w.heap.size 5 1 v' l.length (l.map fun b => Value.int .u8 (b.toNat : Int)) ∧ Below w.heap.size w w' := by
  obtain ⟨A, n, c, rfl, rfl, hnc, hm, h0, hc⟩ := hv
  rcases A with _ | a
  · have hz := h0 rfl
    refine (Tryd.bytes_Clone_nil _ _ _).mono ?_
    rintro e w' ⟨rfl, rfl⟩
    have : l = [] := List.eq_nil_of_length_eq_zero hz
    subst this
    exact ⟨_, rfl, World.ownsRow_nil _ _ _ _, Below.refl _ _⟩
  · refine (Tryd.bytes_Clone_at a l.length c (nums l) w (nums_length l) hbig ?_).mono ?_
    · intro i hi
      have hx := List.getElem?_eq_getElem hi
      rw [nums_getD l i _ hx]
      exact (hc a rfl (by omega)).2 i _ hx
    · rintro e w' ⟨v', rfl, hown, hne, hb⟩
      have e : (nums l).map (Value.int .u8) = l.map fun b => Value.int .u8 (b.toNat : Int) := by simp [nums]
      rw [e] at hown
      exact ⟨v', rfl, hown, hb⟩

end Go.Proofs.YtnhomnaamlbnpaaDoor.Byt
