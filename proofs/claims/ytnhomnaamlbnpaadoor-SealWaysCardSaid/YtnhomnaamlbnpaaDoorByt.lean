/- bytes.Clone and bytes.Equal in this place's words. By an AI agent. -/
import Derived.Test.YtnhomnaamlbnpaaDoorProg
import Derived.Test.YtnhomnaamlbnpaaDoorShelf
import Derived.Test.YtnhomnaamlbnpaaDoorM
namespace Go.Proofs.YtnhomnaamlbnpaaDoor.Byt
open Go.RowKit Go.Proofs.YtnhomnaamlbnpaaDoor.M
set_option linter.unusedVariables false

theorem clone_any (v : Value) (l : List UInt8) (S : Nat → Prop) (w : World) (hv : Byts w S v l) (hbig : l.length ≤ 140737488355328) :
    Calls Tryd.prog 23 #[v] w fun e w' => ∃ A c, e = .returned (.slice A l.length c) ∧ Byts w' (fun k => w.heap.size ≤ k ∧ k < w'.heap.size) (.slice A l.length c) l ∧ Below w.heap.size w w' := by
  obtain ⟨A, n, c, rfl, rfl, hnc, hm, h0, hc⟩ := hv
  rcases A with _ | a
  · have hz := h0 rfl
    refine (Tryd.bytes_Clone_nil _ _ _).mono ?_
    rintro e w' ⟨rfl, rfl⟩
    have : l = [] := List.eq_nil_of_length_eq_zero hz
    subst this
    exact ⟨none, 0, rfl, Byts.nil_ _ _ _, Below.refl _ _⟩
  · refine (Tryd.bytes_Clone_at a l.length c (nums l) w (nums_length l) hbig ?_).mono ?_
    · intro i hi
      have hx := List.getElem?_eq_getElem hi
      rw [nums_getD l i _ hx]
      exact (hc a rfl (by omega)).2 i _ hx
    · rintro e w' ⟨v', rfl, hown, hne, hb⟩
      have hB := byts_of_own (l := l) hown (by simp [nums])
      obtain ⟨A', n', c', rfl, hl', hr⟩ := hB
      subst hl'
      exact ⟨A', c', rfl, ⟨A', l.length, c', rfl, rfl, hr⟩, hb⟩

theorem clone_own (v : Value) (l : List UInt8) (S : Nat → Prop) (w : World) (hv : Byts w S v l) (hbig : l.length ≤ 140737488355328) :
    Calls Tryd.prog 23 #[v] w fun e w' => ∃ v', e = .returned v' ∧ w'.ownsRow w.heap.size 5 1 v' l.length (l.map fun b => Value.int .u8 (b.toNat : Int)) ∧ Below w.heap.size w w' := by
  obtain ⟨A, n, c, rfl, rfl, hnc, hm, h0, hc⟩ := hv
  rcases A with _ | a
  · have hz := h0 rfl
    refine (Tryd.bytes_Clone_nil _ _ _).mono ?_
    rintro e w' ⟨rfl, rfl⟩
    have : l = [] := List.eq_nil_of_length_eq_zero hz
    subst this
    exact ⟨_, rfl, World.ownsRow_nil _ _ _ _, Below.refl _ _⟩
  · refine (Tryd.bytes_Clone_at a l.length c (nums l) w (nums_length l) hbig ?_).mono ?_
    · intro i hi
      have hx := List.getElem?_eq_getElem hi
      rw [nums_getD l i _ hx]
      exact (hc a rfl (by omega)).2 i _ hx
    · rintro e w' ⟨v', rfl, hown, hne, hb⟩
      have e : (nums l).map (Value.int .u8) = l.map fun b => Value.int .u8 (b.toNat : Int) := by simp [nums]
      rw [e] at hown
      exact ⟨v', rfl, hown, hb⟩

theorem bytesOf_nums (l : List UInt8) : Lib.bytesOf (nums l) = l := by
  unfold Lib.bytesOf nums
  rw [List.map_map]
  conv => rhs; rw [← List.map_id l]
  exact List.map_congr_left fun b _ => by simp

theorem bytesIn {w : World} {S : Nat → Prop} {A : Option Addr} {l : List UInt8} {c : Nat} (h : Byts w S (.slice A l.length c) l) : Lib.BytesIn w A l.length (nums l) := by
  unfold Lib.BytesIn
  intro hp
  rcases h.open_ with ⟨A', c', h1, rfl⟩ | ⟨b, off, c', h1, _, _, _, _, hc⟩
  · simp at hp
  · cases h1
    exact ⟨b, off, rfl, fun i hi => by rw [nums_getD l i _ (List.getElem?_eq_getElem hi)]; exact hc i _ (List.getElem?_eq_getElem hi)⟩
theorem equal_any (v u : Value) (l m : List UInt8) (S T : Nat → Prop) (w : World) (hv : Byts w S v l) (hu : Byts w T u m) :
    Calls Tryd.prog 28 #[v, u] w fun e w' => e = .returned (.bool (l == m)) ∧ w = w' := by
  obtain ⟨A, n, c, rfl, rfl, hr⟩ := hv
  obtain ⟨B, n', c', rfl, rfl, hs⟩ := hu
  refine (Tryd.bytes_Equal_all A B l.length c m.length c' (nums l) (nums m) w (nums_length l) (nums_length m) (bytesIn ⟨A, _, c, rfl, rfl, hr⟩) (bytesIn ⟨B, _, c', rfl, rfl, hs⟩)).mono ?_
  rintro e w' ⟨rfl, rfl⟩
  rw [bytesOf_nums, bytesOf_nums]
  exact ⟨rfl, rfl⟩
end Go.Proofs.YtnhomnaamlbnpaaDoor.Byt
