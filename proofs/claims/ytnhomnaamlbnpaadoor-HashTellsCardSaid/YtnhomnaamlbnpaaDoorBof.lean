/- bytesOf, start. By an AI agent. -/
import Derived.Test.YtnhomnaamlbnpaaDoorMix
namespace Go.Proofs.YtnhomnaamlbnpaaDoor.Sha
open Go.RowKit Go.Proofs.YtnhomnaamlbnpaaDoor.M
set_option linter.unusedVariables false

theorem beBytes_at (n : Nat) : ∀ (k i : Nat), i < k → (beBytes n k)[i]? = some (byteAt n (k - 1 - i))
  | 0, i, h => by omega
  | k + 1, 0, _ => by simp [beBytes]
  | k + 1, i + 1, h => by
    simp only [beBytes, List.getElem?_cons_succ]
    rw [beBytes_at n k i (by omega)]
    congr 2
    omega
theorem take_row_succ (l : List UInt8) (k i : Nat) (b : UInt8) (hl : l.length = k) (hb : l[i]? = some b) : l.take (i + 1) ++ row8 (k - (i + 1)) = (l.take i ++ row8 (k - i)).set i b := by
  have hlt := (List.getElem?_eq_some_iff.1 hb).1
  rw [List.set_append, if_neg (by rw [List.length_take]; omega), List.length_take, Nat.min_eq_left (by omega), Nat.sub_self, show k - i = (k - (i + 1)) + 1 by omega, List.take_add_one, hb]
  simp [row8, List.replicate_succ]
theorem byteAt_int (n m : Nat) : ((byteAt n m).toNat : Int) = (n : Int) / 2 ^ (8 * m) % 256 := by
  unfold byteAt
  rw [UInt8.toNat_ofNat', show 256 ^ m = 2 ^ (8 * m) from by rw [Nat.pow_mul]]
  simp
theorem make8 (k : Nat) (hk : k ≤ 140737488355328) (u : World) : (Instr.makeSlice 22 (.int .i64 (k : Int)) (.int .i64 (k : Int))).run Tryd.prog u =
      .ok (.slice (some ⟨u.heap.size, 0, none⟩) k k) (u.alloc (.cells ((row8 k).map cell8).toArray 5)) := by
  obtain ⟨i0, hi, hz0, hz1, hz2⟩ := info_parts infoByte
  have h := run_make (P := Tryd.prog) u _ _ i0 (.int .u8 0) Tryd.underlying22 hi hz0 .i64 .i64 (k : Int) (k : Int) (by omega) (Int.le_refl _) (by rw [hz2]; omega) (by omega)
  have e : ((k : Int)).toNat = k := by omega
  rw [e] at h
  have hm : madeCells (Value.int .u8 0).cells k = ((row8 k).map cell8).toArray := by
    apply Array.ext
    · simp [madeCells, row8]
    · intro i h1 h2
      simp [madeCells, row8, Nat.mod_one, cell8, Value.cells]
  rw [hz1, Nat.mul_one, hm] at h
  exact h

set_option maxHeartbeats 800000 in
theorem bytesOf_any (n k : Nat) (w : World) (hn : n < 18446744073709551616) (hk : k ≤ 8) :
    Calls Tryd.prog 68 #[.int .u64 (n : Int), .int .i64 (k : Int)] w fun e w' => e = .returned (.slice (some ⟨w.heap.size, 0, none⟩) k k) ∧ Blk w' w.heap.size 5 ((beBytes n k).map cell8).toArray ∧ Below w.heap.size w w' := by
  have hmk := make8 k (by omega)
  have hlen := beBytes_length n k
  go_enter Tryd.func68, Tryd.ntmps68
  go_wp2
  have h0 : Blk (w.alloc (.cells ((row8 k).map cell8).toArray 5)) w.heap.size 5 ((row8 k).map cell8).toArray := Blk.new w _ _
  have hb0 : Below w.heap.size w (w.alloc (.cells ((row8 k).map cell8).toArray 5)) := (Below.refl _ _).alloc (Nat.le_refl _) _
  generalize w.alloc (.cells ((row8 k).map cell8).toArray 5) = w1 at *
  generalize hg : w.heap.size = g at *
  have HG := Lib.hid hg
  clear hg hmk
  go_loopw [11] (fun i wr => ∃ j : Nat, j ≤ k ∧ i = .int .i64 j ∧ Below g w wr ∧ Blk wr g 5 (((beBytes n k).take j ++ row8 (k - j)).map cell8).toArray) (fun i _ => k - (intOf i).toNat)
  case atStart => exact ⟨0, by omega, rfl, hb0, by simpa using h0⟩
  case round =>
    obtain ⟨j, hj, rfl, hbel, hblk⟩ := hrel
    by_cases hlt : j < k
    · have hat := beBytes_at n k j hlt
      have hset := take_row_succ _ k j _ hlen hat
      obtain ⟨m, hm⟩ : ∃ m, m = k - 1 - j := ⟨_, rfl⟩
      rw [← hm] at hat hset
      have hby := byteAt_int n m
      have hex : (8 : Int) * ((k : Int) - 1 - (j : Int)) = ((8 * m : Nat) : Int) := by omega
      have hm7 : m ≤ 7 := by omega
      have hcell : wr.cell? ⟨g, j, none⟩ = some (.int .u8 0) := by
        rw [hblk.cell]
        simp [List.getElem?_append_right, hlen, row8, cell8, Nat.min_eq_left hj, List.getElem?_replicate]
        omega
      have hfz := hblk.frozen j
      have HS := Lib.hid hset
      have HM := Lib.hid hm
      clear hat hset hm hlen
      go_wp2
      go_roundw
      case rel =>
        refine ⟨j + 1, by omega, by go_num, hbel.setCell (Nat.le_refl _) _, ?_⟩
        have e := hblk.set_ j (cell8 (byteAt n m))
        rw [List.setIfInBounds_toArray, ← List.map_set, ← HS.out] at e
        unfold cell8 at e ⊢
        rw [hby] at e
        exact e
      case measure => simp [intOf]; omega
    · obtain rfl : j = k := by omega
      have hfin : (beBytes n j).take j ++ row8 (j - j) = beBytes n j := by rw [Nat.sub_self, List.take_of_length_le (by omega)]; simp [row8]
      rw [hfin] at hblk
      have HF := Lib.hid hfin
      clear hfin hlen
      go_wp2
      go_ret
      exact ⟨by rw [HG.out]; rfl, by rw [HG.out]; exact hblk, by rw [HG.out]; exact hbel⟩
set_option maxRecDepth 100000 in
set_option maxHeartbeats 800000 in
theorem start_any (w : World) : Calls Tryd.prog 61 #[] w fun e w' => e = .returned (.pointer (some ⟨w.heap.size, 0, none⟩)) ∧ Blk w' w.heap.size 116 (stCells init (row8 64) [.int .i64 0, .int .u64 0]).toArray ∧ Below w.heap.size w w' := by
  go_enter Tryd.func61, Tryd.ntmps61
  go_wp2_with (first | (refine wpList_build_as rfl 108 _ rfl (init.list.map cell32).toArray (by kernel_rfl) ?_) | (refine wpList_build_as rfl 116 _ rfl (stCells init (row8 64) [.int .i64 0, .int .u64 0]).toArray (by kernel_rfl) ?_) | fail)
  go_ret
  exact ⟨rfl, Blk.new w _ _, (Below.refl _ _).alloc (Nat.le_refl _) _⟩
end Go.Proofs.YtnhomnaamlbnpaaDoor.Sha
