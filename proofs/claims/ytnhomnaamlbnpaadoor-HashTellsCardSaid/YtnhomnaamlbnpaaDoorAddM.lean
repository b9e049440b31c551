/- What a hash's state holds: the mathematics of parts. By an AI agent. -/
import Derived.Test.YtnhomnaamlbnpaaDoorBof
namespace Go.Proofs.YtnhomnaamlbnpaaDoor.Sha
open Go.RowKit Go.Proofs.YtnhomnaamlbnpaaDoor.M
set_option linter.unusedVariables false

theorem behind_small (m x : List UInt8) (h : m.length % 64 + x.length < 64) : behind (m ++ x) = behind m := by
  unfold behind
  rw [show (m ++ x).length / 64 = m.length / 64 by rw [List.length_append]; omega]
  exact blocks_append _ _ _ _ (by omega)
theorem behind_full (m x : List UInt8) (h : m.length % 64 + x.length = 64) : behind (m ++ x) = mix (behind m) (m.drop (64 * (m.length / 64)) ++ x) := by
  unfold behind
  rw [show (m ++ x).length / 64 = m.length / 64 + 1 by rw [List.length_append]; omega, blocks_snoc, blocks_append _ _ _ _ (by omega)]
  congr 1
  rw [List.drop_append_of_le_length (by omega), List.take_of_length_le]
  rw [List.length_append, List.length_drop]
  omega
theorem splice_cells (s : H8) (wait x : List UInt8) (rest : List Value) (r : Nat) (hr : r + x.length ≤ wait.length) :
    splice (stCells s wait rest) (8 + r) (x.map cell8) = stCells s (splice wait r x) rest := by
  unfold splice stCells
  have h8 : (s.list.map cell32).length = 8 := rfl
  rw [List.length_map]
  rw [List.take_append, h8, List.take_of_length_le (by rw [h8]; omega), show 8 + r - 8 = r by omega]
  rw [List.take_append_of_le_length (by rw [List.length_map]; omega)]
  rw [List.drop_append, h8, List.drop_of_length_le (by rw [h8]; omega), show 8 + r + x.length - 8 = r + x.length by omega, List.nil_append]
  rw [List.drop_append_of_le_length (by rw [List.length_map]; omega)]
  simp only [List.map_append, List.map_take, List.map_drop, List.append_assoc]
theorem splice_take (wait x : List UInt8) (r : Nat) (hr : r + x.length ≤ wait.length) : (splice wait r x).take (r + x.length) = wait.take r ++ x := by
  unfold splice
  rw [List.take_append, List.take_of_length_le (by rw [List.length_take]; omega)]
  rw [List.length_take, Nat.min_eq_left (by omega), show r + x.length - r = x.length by omega, List.take_left]
def stRest (r many : Nat) : List Value := [.int .i64 (r : Int), .int .u64 (many : Int)]
/-- block b is a state that took the message m in; so many bytes are told -/
def IsSt (w : World) (b : Nat) (m : List UInt8) (many : Nat) : Prop :=
  ∃ wait : List UInt8, wait.length = 64 ∧ wait.take (m.length % 64) = m.drop (64 * (m.length / 64)) ∧ Blk w b 116 (stCells (behind m) wait (stRest (m.length % 64) many)).toArray
theorem IsSt.grown {w w' : World} {b : Nat} {m : List UInt8} {many : Nat} {row : Option Nat} (h : IsSt w b m many) (hg : w.grownBy w' row) (hr : row ≠ some b) : IsSt w' b m many := by
  obtain ⟨wait, h1, h2, h3⟩ := h
  exact ⟨wait, h1, h2, h3.same (same_grown hg) ⟨h3.lt, fun e => hr e.symm⟩⟩
theorem st_cell (s : H8) (wait : List UInt8) (r many : Nat) (hw : wait.length = 64) : (stCells s wait (stRest r many)).toArray[72]? = some (.int .i64 (r : Int)) ∧ (stCells s wait (stRest r many)).toArray[73]? = some (.int .u64 (many : Int)) := by
  have h8 : (s.list.map cell32).length = 8 := rfl
  unfold stCells stRest
  simp only [List.getElem?_toArray]
  constructor
  · rw [List.getElem?_append_right (by rw [h8]; omega), List.getElem?_append_right (by rw [h8, List.length_map]; omega), h8, List.length_map, hw]; rfl
  · rw [List.getElem?_append_right (by rw [h8]; omega), List.getElem?_append_right (by rw [h8, List.length_map]; omega), h8, List.length_map, hw]; rfl
theorem st_set (s : H8) (wait : List UInt8) (r many r' many' : Nat) (hw : wait.length = 64) : (stCells s wait (stRest r many)).toArray.setIfInBounds 72 (.int .i64 (r' : Int)) = (stCells s wait (stRest r' many)).toArray ∧
    (stCells s wait (stRest r many)).toArray.setIfInBounds 73 (.int .u64 (many' : Int)) = (stCells s wait (stRest r many')).toArray := by
  have h8 : (s.list.map cell32).length = 8 := rfl
  unfold stCells stRest
  rw [List.setIfInBounds_toArray, List.setIfInBounds_toArray]
  constructor
  · rw [List.set_append_right _ _ (by rw [h8]; omega), List.set_append_right _ _ (by rw [h8, List.length_map]; omega), h8, List.length_map, hw]; rfl
  · rw [List.set_append_right _ _ (by rw [h8]; omega), List.set_append_right _ _ (by rw [h8, List.length_map]; omega), h8, List.length_map, hw]; rfl
theorem st_length (s : H8) (wait : List UInt8) (r many : Nat) (hw : wait.length = 64) : (stCells s wait (stRest r many)).length = 74 := by
  simp [stCells, stRest, H8.list, hw]
theorem setRow_grown {a w : World} {g : Nat} (h : a.grownBy w (some g)) (cs : Array Value) : a.grownBy (w.setRow g cs) (some g) :=
  ⟨h.os, h.tape, h.output, by simpa [World.setRow] using h.size, fun i hi hne => (setRow_other w g i cs (fun e => hne (by rw [e]))).trans (h.block i hi hne)⟩
end Go.Proofs.YtnhomnaamlbnpaaDoor.Sha
