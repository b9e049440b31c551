/- 'lay' and 'form', and the reference's Number and Text. By an AI agent. -/
import Derived.Test.YtnhomnaamlbnpaaDoorDone
namespace Go.Proofs.YtnhomnaamlbnpaaDoor.Pc
open Go.RowKit Go.Proofs.YtnhomnaamlbnpaaDoor.M Go.Proofs.YtnhomnaamlbnpaaDoor.Wr
set_option linter.unusedVariables false
set_option maxRecDepth 20000

/-- n in so many bytes, the highest first -/
def be : Nat → Nat → List UInt8
  | 0, _ => []
  | m + 1, n => be m (n / 256) ++ [UInt8.ofNat n]
theorem be_length : ∀ m n, (be m n).length = m
  | 0, _ => rfl
  | m + 1, n => by simp [be, be_length m]

theorem be_at : ∀ (m n j : Nat), j < m → (be m n)[j]? = some (UInt8.ofNat (n / 256 ^ (m - 1 - j)))
  | 0, _, _, h => by omega
  | m + 1, n, j, h => by
    unfold be
    by_cases hj : j < m
    · rw [List.getElem?_append_left (by rw [be_length]; exact hj), be_at m (n / 256) j hj, Nat.div_div_eq_div_mul, Nat.mul_comm, ← Nat.pow_succ, show (m - 1 - j).succ = m + 1 - 1 - j from by omega]
    · rw [List.getElem?_append_right (by rw [be_length]; omega), be_length]
      obtain rfl : j = m := by omega
      simp
theorem drop_set {α : Type} (l : List α) (j : Nat) (v : α) (h : j < l.length) : (l.set j v).drop j = v :: l.drop (j + 1) := by
  rw [List.drop_eq_getElem_cons (by simpa using h), List.drop_set, if_pos (by omega)]
  simp
/-- what stands at the head of Number's loop: 'many' bytes, the last so many are laid -/
def NumRel (w : World) (n many : Nat) (x i : Value) (wr : World) : Prop :=
  ∃ (k : Nat) (cur : List Value), k ≤ many ∧ i = .int .i64 ((k : Int) - 1) ∧ x = .int .u64 ((n / 256 ^ (many - k) : Nat) : Int) ∧ Below w.heap.size w wr ∧ Blk wr w.heap.size 5 cur.toArray ∧ cur.length = many ∧ cur.drop k = ((be many n).drop k).map cell8

set_option maxHeartbeats 800000 in
theorem number_any (n many : Nat) (w : World) (hn : n < 18446744073709551616) (hm : many ≤ 100) :
    Calls Tryd.prog 48 #[.int .u64 (n : Int), .int .i64 (many : Int)] w fun e w' => e = .returned (.slice (some ⟨w.heap.size, 0, none⟩) many many) ∧ w'.ownsRow w.heap.size 5 1 (.slice (some ⟨w.heap.size, 0, none⟩) many many) many ((be many n).map cell8) ∧ Below w.heap.size w w' := by
  obtain ⟨i0, hi, hz0, hz1, hz2⟩ := info_parts infoByte
  have hmk : ∀ u : World, (Instr.makeSlice 22 (.int .i64 (many : Int)) (.int .i64 (many : Int))).run Tryd.prog u =
      .ok (.slice (some ⟨u.heap.size, 0, none⟩) many many) (u.alloc (.cells (madeCells #[.int .u8 0] many) 5)) := fun u => by
    have h := run_make (P := Tryd.prog) u _ _ i0 (.int .u8 0) Tryd.underlying22 hi hz0 .i64 .i64 (many : Int) (many : Int) (by omega) (Int.le_refl _) (by rw [hz2]; omega) (by omega)
    have e : ((many : Int)).toNat = many := by omega
    rw [e] at h
    simpa [hz1, Value.cells] using h
  go_enter Tryd.func48, Tryd.ntmps48
  go_wp2
  go_loopw [0, 6] (fun x i wr => NumRel w n many x i wr) (fun _ i _ => (intOf i + 1).toNat)
  case atStart =>
    refine ⟨many, List.replicate many (.int .u8 0), Nat.le_refl _, rfl, by simp, (Below.refl _ _).alloc (Nat.le_refl _) _, ?_, by simp, ?_⟩
    · have hm : madeCells #[.int .u8 0] many = (List.replicate many (Value.int .u8 0)).toArray := by
        apply Array.ext
        · simp [madeCells]
        · intro i h1 h2
          simp [madeCells, Nat.mod_one]
      rw [← hm]
      exact Blk.new w 5 _
    · rw [List.drop_of_length_le (by simp), List.drop_of_length_le (by rw [be_length]; omega)]; rfl
  case round =>
    obtain ⟨k, cur, hk, rfl, rfl, hbel, hcur, hcl, hd⟩ := hrel
    clear hmk
    have hlt := Nat.lt_of_le_of_lt (Nat.div_le_self n (256 ^ (many - k))) hn
    generalize hx : n / 256 ^ (many - k) = x at *
    have HX := Lib.hid hx
    have HCL := Lib.hid hcl
    have HD := Lib.hid hd
    clear hx hcl hd
    rcases Nat.eq_zero_or_pos k with rfl | hp
    · go_wp2
      go_ret
      refine ⟨rfl, ⟨by simp [be_length], .inr ⟨w.heap.size, many, cur.toArray, rfl, Nat.le_refl _, hcur, Nat.le_refl _, by unfold maxLen; omega, by simp [HCL.out], ?_⟩⟩, hbel⟩
      have := HD.out
      simp only [List.drop_zero] at this
      simp only [this]
      rw [List.take_of_length_le (by simp [be_length])]
    · obtain ⟨j, rfl⟩ : ∃ j, k = j + 1 := ⟨k - 1, by omega⟩
      have hj : ((j + 1 : Nat) : Int) - 1 = (j : Int) := by omega
      rw [hj]
      have hf := hcur.frozen j
      have hjc : j < cur.length := by rw [HCL.out]; omega
      have hc : wr.cell? ⟨w.heap.size, j, none⟩ = some cur[j] := by
        rw [hcur.cell]; simp
      have hjm : (j : Int) < (many : Int) := by omega
      go_wp2
      go_roundw
      case rel =>
        refine ⟨j, cur.set j (cell8 (UInt8.ofNat x)), by omega, rfl, ?_, hbel.setCell (p := ⟨w.heap.size, j, none⟩) (Nat.le_refl _) _, ?_, by rw [List.length_set]; exact HCL.out, ?_⟩
        · rw [show many - j = (many - (j + 1)) + 1 from by omega, Nat.pow_succ, ← Nat.div_div_eq_div_mul, HX.out]
          congr 1
        · have := hcur.set_ j (.int .u8 ((x : Int) % 256))
          have e : Value.int .u8 ((x : Int) % 256) = cell8 (UInt8.ofNat x) := by
            unfold cell8; exact u8v (by omega)
          rw [e] at this
          rw [e]
          simpa using this
        · rw [drop_set _ _ _ hjc, HD.out, List.drop_eq_getElem_cons (i := j) (by rw [be_length]; omega), List.map_cons]
          congr 1
          have := be_at many n j (by omega)
          rw [List.getElem?_eq_getElem (by rw [be_length]; omega)] at this
          rw [Option.some.inj this, show many - 1 - j = many - (j + 1) from by omega, HX.out]
      case measure => simp [intOf]
end Go.Proofs.YtnhomnaamlbnpaaDoor.Pc
