/- How the arguments of a statement come in: what each kind of value reads as. By an AI agent. -/
import Derived.Test.YtcofcojjofkgcaaRows
import Derived.Test.YtcofcojjofkgcaaM
import Derived.ShutString
import Derived.ChangeOld
import Derived.Below
import Derived.Deep.Slices
import Derived.Deep.Fields
namespace Go.Proofs.Ytcofcojjofkgcaa.Open
open Go.ChangeShapes Go.WideShapes Go.ChangeAt Go.RowKit Go.Deep
open Go.ChangeMaps (open_string shut_string)
open Go.Proofs.Ytcofcojjofkgcaa.M
set_option linter.unusedVariables false
set_option maxRecDepth 20000

theorem own : ownKnob Try.prog.godebug = none := by kernel_rfl
theorem laidOut : laidOutB Try.prog = true := by kernel_rfl

theorem nums_of_wf : ∀ (zs : List Int), (∀ n ∈ zs, (Lit.int .u8 n).wf = true) → ∃ l, zs = nums l
  | [], _ => ⟨[], rfl⟩
  | z :: zs, h => by
    obtain ⟨l, hl⟩ := nums_of_wf zs fun n hn => h n (List.mem_cons_of_mem _ hn)
    have hz := h z (List.mem_cons_self ..)
    simp [Lit.wf, IntKind.min, IntKind.max, IntKind.signed, IntKind.bits] at hz
    refine ⟨UInt8.ofNat z.toNat :: l, ?_⟩
    rw [hl]
    simp [nums, UInt8.toNat_ofNat']
    omega

section
variable {H : Type} {enc : TypeId × Value → H} {W : World} {base : Nat} {v : Value} {d : DataW H} {p : List MemPlace} {t e : TypeId}
/-- the cells of a row of bytes that a reading found -/
theorem bytes_cells {fuel : Nat} {sp : Nat → Bool} {hd : Bool} {b0 : Nat} {x : DataW H × List MemPlace} (ht : Try.prog.underlying t = some (.slice e)) (he : Try.prog.underlying e = some (.int .u8)) (hc : Try.prog.cellsOf e = 1)
    {a0 : Option Addr} {len cap : Nat} (hf : DataW.trod enc Try.prog W b0 sp hd fuel t [.slice a0 len cap] = some x) : ∃ l, Byts W (fun k => k < W.heap.size) (.slice a0 len cap) l := by
  rcases open_ints ht he hc hf with ⟨hcs, _⟩ | ⟨y, l, c, zs, hcs, _, hl, hm, hz, _, hcell, hwz⟩
  · simp at hcs
    obtain ⟨rfl, rfl, rfl⟩ := hcs
    exact ⟨[], Byts.nil_ _ _ _⟩
  · simp at hcs
    obtain ⟨rfl, rfl, rfl⟩ := hcs
    obtain ⟨l', rfl⟩ := nums_of_wf zs hwz
    rw [nums_length] at hz
    have hz' : len ≤ l'.length := by rw [hz]; split <;> omega
    refine ⟨l'.take len, _, len, cap, rfl, by rw [List.length_take]; omega, hl, by omega, (fun h0 => by cases h0), ?_⟩
    intro ad h1 hp
    cases h1
    have hat : ∀ j b, (l'.take len)[j]? = some b → W.cell? (y.add j) = some (.int .u8 (b.toNat : Int)) := by
      intro j b hj
      have hlt : j < len := by
        have := (List.getElem?_eq_some_iff.1 hj).1
        rw [List.length_take] at this; omega
      have hj' : l'[j]? = some b := by rwa [List.getElem?_take_of_lt hlt] at hj
      have := hcell j (by rw [nums_length]; omega)
      rwa [nums_getD l' j b hj'] at this
    refine ⟨?_, hat⟩
    have h0 := hat 0 _ (List.getElem?_eq_getElem (by rw [List.length_take]; omega))
    have := World.block_lt_of_cell? W _ h0
    rwa [M.block_add] at this
end
end Go.Proofs.Ytcofcojjofkgcaa.Open
