/- What a row's list gives: the table of constants. How a row of byte slices comes in. By an AI agent. -/
import Derived.Test.YtmhbmjagnihopaaGreatDoorOpen
import Derived.Test.YtmhbmjagnihopaaGreatDoorHash
import Derived.Deep.DeepHandedRow
import Derived.Lib.LaidTab
import Derived.WalkKit
import Derived.ProofKit
import Derived.OpenShut
namespace Go.Proofs.YtmhbmjagnihopaaGreatDoor.Open
open Go.ChangeShapes Go.WideShapes Go.ChangeAt Go.RowKit Go.Deep
open Go.Proofs.YtmhbmjagnihopaaGreatDoor.M Go.Proofs.YtmhbmjagnihopaaGreatDoor.Sha
set_option linter.unusedVariables false
set_option maxRecDepth 20000

theorem gTab : Tryz.prog.globalNamed "longwire/hash.constants" = some 0 := by kernel_rfl
theorem gTabType : (Tryz.prog.globals[0]?).map (·.type) = some 232 := by kernel_rfl
theorem cellsTab : Tryz.prog.cellsOf 232 = 64 := by kernel_rfl
theorem cellsU32 : Tryz.prog.cellsOf 68 = 1 := by kernel_rfl
def Kz : List Int := K.map fun (k : Nat) => (k : Int)
theorem tab_of {W : World} {rest : List (String × DataW Unit)} (h : laidMet Tryz.prog (("longwire/hash.constants", Lib.tabData .u32 Kz) :: rest) W) : Tab W := by
  have ht := Lib.tabIs_of_head gTab gTabType Tryz.underlying232 Tryz.underlying68 cellsU32 cellsTab h
  have hc : ∀ t, t < 64 → W.cell? ⟨0, t, none⟩ = some (.int .u32 (K.getD t 0 : Nat)) := fun t h64 => by
    have hl : t < K.length := h64
    have := ht.cell gTab t (by unfold Kz; rw [List.length_map]; exact h64)
    rw [this]
    simp [Kz, List.getD, List.getElem?_map, List.getElem?_eq_getElem hl]
  exact ⟨World.block_lt_of_cell? W _ (hc 0 (by omega)), hc⟩

section
variable {H : Type} {enc : TypeId × Value → H} {W : World} {base : Nat} {v : Value} {d : DataW H} {p : List MemPlace} {t e : TypeId}
theorem bytes_one {fuel : Nat} {sp : Nat → Bool} {hd : Bool} {b0 : Nat} {x : DataW H × List MemPlace} (ht : Tryz.prog.underlying t = some (.slice e)) (he : Tryz.prog.underlying e = some (.int .u8)) (hc : Tryz.prog.cellsOf e = 1)
    (hf : DataW.trod enc Tryz.prog W b0 sp hd fuel t [v] = some x) : ∃ l, Byts W (fun k => k < W.heap.size) v l := by
  rcases open_ints ht he hc hf with ⟨hcs, _⟩ | ⟨y, l, c, zs, hcs, _⟩
  · obtain rfl : v = .slice none 0 0 := by simpa using hcs
    exact ⟨[], Byts.nil_ _ _ _⟩
  · obtain rfl : v = .slice (some y) l c := by simpa using hcs
    exact bytes_cells ht he hc hf
def InParts (W : World) (v : Value) : Prop := ∃ ls, Parts W (fun k => k < W.heap.size) v ls
theorem open_parts {t1 : TypeId} (ht : Tryz.prog.underlying t = some (.slice t1)) (hc1 : Tryz.prog.cellsOf t1 = 1) (ht1 : Tryz.prog.underlying t1 = some (.slice e)) (he : Tryz.prog.underlying e = some (.int .u8)) (hc : Tryz.prog.cellsOf e = 1)
    (hval : Value.okWide Tryz.prog W .any base t v) (h : DataW.Trod enc Tryz.prog W 0 (fun _ => true) true t v d p) : InParts W v := by
  obtain ⟨a0, len, cap, rfl⟩ := okWide_slice ht hval
  obtain ⟨fuel, hf⟩ := h
  rcases open_slice1 ht hc1 hf with ⟨hcs, _⟩ | ⟨a, len', cap', m, n, V, D, Pl, hcs, _, hl, hm, hmm, _, hi⟩
  · simp [Value.cells] at hcs
    obtain ⟨rfl, rfl, rfl⟩ := hcs
    exact ⟨[], none, 0, rfl, Nat.le_refl _, Nat.zero_le _, fun i l hl => by simp at hl⟩
  · simp [Value.cells] at hcs
    obtain ⟨rfl, rfl, rfl⟩ := hcs
    have hml : len ≤ m := by rw [hmm]; split <;> omega
    obtain ⟨L, hL⟩ := choose_lt (α := List UInt8) (p := fun i l => Byts W (fun k => k < W.heap.size) (V i) l) (fun i (hlt : i < len) => bytes_one ht1 he hc (hi i (by omega)).2)
    have hlen : ((List.range len).map L).length = len := by simp
    refine ⟨(List.range len).map L, some a, cap, by rw [hlen], by rw [hlen]; exact hl, by rw [hlen]; omega, fun i l hil => ?_⟩
    have hlt : i < len := by have := (List.getElem?_eq_some_iff.1 hil).1; rw [hlen] at this; exact this
    have hc0 := (hi i (by omega)).1
    obtain ⟨g, off, spot⟩ := a
    have hspot : spot = none := by simpa [Addr.add] using World.cell?_spot (hi 0 (by omega)).1
    subst hspot
    rw [Addr.add_lit] at hc0
    have hl' : l = L i := by
      rw [List.getElem?_map, List.getElem?_range hlt] at hil
      simpa using hil.symm
    subst hl'
    exact ⟨g, off, V i, rfl, World.block_lt_of_cell? W _ hc0, hc0, hL i hlt⟩
end

/-- A WORLD FOR THE WITNESS: the settled one, the table holding its numbers. -/
noncomputable def laidWorld (os : Os) : World :=
  { World.holding Tryz.prog os ⟨#[], #[], []⟩ with heap := (World.holding Tryz.prog os ⟨#[], #[], []⟩).heap.modify 0 fun
      | .cells _ t frozen => .cells (K.map fun (k : Nat) => Value.int .u32 (k : Int)).toArray t frozen
      | o => o }
end Go.Proofs.YtmhbmjagnihopaaGreatDoor.Open
