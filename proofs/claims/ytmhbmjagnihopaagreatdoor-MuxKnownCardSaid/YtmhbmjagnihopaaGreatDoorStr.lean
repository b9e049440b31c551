/- The block's 16 words made 64: stretched. By an AI agent. -/
import Derived.Test.YtmhbmjagnihopaaGreatDoorArr
import Derived.StillTailTactics
import Derived.Deep.QuietTactic
import Derived.BigQuiet
import Derived.IntWalk
import Derived.Test.YtmhbmjagnihopaaGreatDoorProg
import Derived.Test.YtmhbmjagnihopaaGreatDoorM
import Derived.Test.YtmhbmjagnihopaaGreatDoorSha
namespace Go.Proofs.YtmhbmjagnihopaaGreatDoor.Sha
open Go.RowKit Go.Proofs.YtmhbmjagnihopaaGreatDoor.M
set_option linter.unusedVariables false

set_option maxHeartbeats 400000 in
theorem rotate_any (x n : Nat) (w : World) (hx : x < 4294967296) (h0 : 0 < n) (hn : n < 32) :
    Calls Tryz.prog 153 #[.int .u32 (x : Int), .int .i64 (-(n : Int))] w fun e w' => e = .returned (.int .u32 (rotr x n : Nat)) ∧ w = w' := by
  obtain ⟨k, hk⟩ : ∃ k, k + n = 32 := ⟨32 - n, by omega⟩
  have e0 : bits .and .u64 (IntKind.u64.wrap (-(n : Int))) 31 = (k : Int) := by
    have : IntKind.u64.wrap (-(n : Int)) = ((18446744073709551616 - n : Nat) : Int) := by simp [IntKind.wrap, IntKind.signed, IntKind.bits]; omega
    rw [this]
    have h := u64_and_nat (18446744073709551616 - n) 31 (by omega) (by omega)
    rw [show (31 : Nat) = 2 ^ 5 - 1 from rfl, Nat.and_two_pow_sub_one_eq_mod] at h
    refine h.trans ?_
    omega
  have e2 : IntKind.u64.wrap (32 - (k : Int)) = (n : Int) := by simp [IntKind.wrap, IntKind.signed, IntKind.bits]; omega
  have e4 : bits .or .u32 ((x : Int) * 2 ^ k % 4294967296) ((x : Int) / 2 ^ n) = (rotr x n : Nat) := by
    have h := u32_or_nat (x * 2 ^ k % 4294967296) (x / 2 ^ n) (Nat.mod_lt _ (by omega)) (Nat.lt_of_le_of_lt (Nat.div_le_self _ _) hx)
    rw [show k = 32 - n by omega, rotr_or hx h0 hn] at h
    rw [show k = 32 - n by omega]
    simpa using h
  go_enter Tryz.func153, Tryz.ntmps153
  go_wp2
  go_ret
  exact ⟨rfl, rfl⟩
set_option maxHeartbeats 400000 in
theorem right_any (x n : Nat) (w : World) (hx : x < 4294967296) (h0 : 0 < n) (hn : n < 32) :
    Calls Tryz.prog 149 #[.int .u32 (x : Int), .int .i64 (n : Int)] w fun e w' => e = .returned (.int .u32 (rotr x n : Nat)) ∧ w = w' := by
  go_enter Tryz.func149, Tryz.ntmps149
  go_wp2_with (go_at_call 153; refine (rotate_any x n _ hx h0 hn).mono ?_; rintro e w' ⟨rfl, rfl⟩)
  go_ret
  exact ⟨rfl, rfl⟩
end Go.Proofs.YtmhbmjagnihopaaGreatDoor.Sha
namespace Go.Proofs.YtmhbmjagnihopaaGreatDoor.Sha
open Go.RowKit Go.Proofs.YtmhbmjagnihopaaGreatDoor.M
set_option linter.unusedVariables false

/-- of the first i bytes, what stands in word j -/
def part (bs : List UInt8) (i j : Nat) : Nat := (((bs.take i).drop (4 * j)).take 4).foldl (fun n b => n * 256 + b.toNat) 0
def parts (bs : List UInt8) (i : Nat) : List Nat := (List.range 64).map (part bs i)
theorem foldl_lt (l : List UInt8) : ∀ n, l.foldl (fun n b => n * 256 + b.toNat) n < (n + 1) * 256 ^ l.length := by
  induction l with
  | nil => intro n; simp
  | cons b l ih =>
    intro n
    have hb := b.toNat_lt
    simp only [List.foldl_cons, List.length_cons]
    refine Nat.lt_of_lt_of_le (ih _) ?_
    rw [Nat.pow_succ, ← Nat.mul_assoc, Nat.mul_right_comm]
    exact Nat.mul_le_mul_right _ (by omega)
theorem parts_zero (bs : List UInt8) : parts bs 0 = List.replicate 64 0 := by
  apply List.ext_getElem
  · simp [parts]
  · intro j h1 h2
    rw [List.getElem_replicate]
    simp [parts, part]
theorem parts_length (bs : List UInt8) (i : Nat) : (parts bs i).length = 64 := by simp [parts]
theorem parts_at (bs : List UInt8) (i j : Nat) (h : j < 64) : (parts bs i)[j]? = some (part bs i j) := by simp [parts, h]
theorem part_succ (bs : List UInt8) (i : Nat) (b : UInt8) (hb : bs[i]? = some b) : part bs (i + 1) (i / 4) = part bs i (i / 4) * 256 + b.toNat := by
  have hlt := (List.getElem?_eq_some_iff.1 hb).1
  unfold part
  have e : bs.take (i + 1) = bs.take i ++ [b] := by rw [List.take_add_one, hb]; rfl
  rw [e]
  rw [List.drop_append_of_le_length (by rw [List.length_take]; omega)]
  have hd : ((bs.take i).drop (4 * (i / 4))).length = i % 4 := by rw [List.length_drop, List.length_take]; omega
  rw [List.take_of_length_le (l := (bs.take i).drop (4 * (i / 4)) ++ [b]) (by rw [List.length_append, hd]; simp; omega), List.take_of_length_le (l := (bs.take i).drop (4 * (i / 4))) (by rw [hd]; omega), List.foldl_append]
  rfl
theorem part_other (bs : List UInt8) (i j : Nat) (hb : i < bs.length) (h : j ≠ i / 4) : part bs (i + 1) j = part bs i j := by
  unfold part
  congr 1
  rcases Nat.lt_or_ge j (i / 4) with h1 | h1
  · rw [List.drop_take, List.drop_take, List.take_take, List.take_take]
    congr 1
    omega
  · rw [List.drop_of_length_le (by rw [List.length_take]; omega), List.drop_of_length_le (by rw [List.length_take]; omega)]
theorem part_lt (bs : List UInt8) (i : Nat) : part bs i (i / 4) < 16777216 := by
  unfold part
  refine Nat.lt_of_lt_of_le (foldl_lt _ _) ?_
  have hl : (((bs.take i).drop (4 * (i / 4))).take 4).length ≤ 3 := by simp; omega
  rw [Nat.zero_add, Nat.one_mul]
  exact Nat.pow_le_pow_right (by omega) hl
theorem parts_succ (bs : List UInt8) (i : Nat) (b : UInt8) (hb : bs[i]? = some b) : parts bs (i + 1) = (parts bs i).set (i / 4) (part bs i (i / 4) * 256 + b.toNat) := by
  have hlt := (List.getElem?_eq_some_iff.1 hb).1
  apply List.ext_getElem
  · simp [parts]
  · intro j h1 h2
    rw [List.getElem_set]
    simp only [parts, List.getElem_map, List.getElem_range]
    by_cases hj : i / 4 = j
    · subst hj
      simp [part_succ bs i b hb]
    · rw [if_neg hj, part_other bs i j hlt (fun e => hj e.symm)]
theorem words_length : ∀ (n : Nat) (bs : List UInt8), bs.length = 4 * n → (words bs).length = n
  | 0, bs, h => by
    obtain rfl : bs = [] := List.eq_nil_of_length_eq_zero (by omega)
    rfl
  | n + 1, bs, h => by
    match bs, h with
    | a :: b :: c :: d :: l, h => simp [words]; exact words_length n l (by simp at h; omega)
theorem words_at : ∀ (n : Nat) (bs : List UInt8) (j : Nat), bs.length = 4 * n → j < n → (words bs)[j]? = some (part bs bs.length j)
  | 0, bs, j, h, hj => by omega
  | n + 1, bs, j, h, hj => by
    match bs, h with
    | a :: b :: c :: d :: l, h =>
      cases j with
      | zero => simp [words, part, word4]; omega
      | succ j =>
        have := words_at n l j (by simp at h; omega) (by omega)
        simp only [words, List.getElem?_cons_succ]
        rw [this]
        unfold part
        simp [Nat.mul_add]
theorem parts_all (bs : List UInt8) (h : bs.length = 64) : parts bs 64 = words bs ++ List.replicate 48 0 := by
  have hl := words_length 16 bs (by omega)
  apply List.ext_getElem?
  intro j
  by_cases hj : j < 64
  · rw [parts_at _ _ _ hj]
    by_cases hj' : j < 16
    · rw [List.getElem?_append_left (by omega), words_at 16 bs j (by omega) hj', h]
    · rw [List.getElem?_append_right (by omega), List.getElem?_replicate, if_pos (by omega)]
      unfold part
      rw [List.drop_of_length_le (by rw [List.length_take]; omega)]
      rfl
  · rw [List.getElem?_eq_none (by rw [parts_length]; omega), List.getElem?_eq_none (by simp; omega)]

theorem words_lt (bs : List UInt8) : ∀ x ∈ words bs, x < 4294967296 := by
  fun_induction words bs with
  | case1 a b c d l ih =>
    intro x hx
    rcases List.mem_cons.1 hx with rfl | h
    · have := a.toNat_lt
      have := b.toNat_lt
      have := c.toNat_lt
      have := d.toNat_lt
      unfold word4
      omega
    · exact ih x h
  | case2 l h => intro x hx; simp at hx
theorem extend_lt (k : Nat) {l : List Nat} (h : ∀ x ∈ l, x < 4294967296) : ∀ x ∈ extend k l, x < 4294967296 := by
  induction k with
  | zero => exact h
  | succ k ih =>
    intro x hx
    rcases List.mem_append.1 hx with h1 | h1
    · exact ih x h1
    · rw [List.mem_singleton.1 h1]
      exact Nat.mod_lt _ (by omega)
theorem right_q (x : Nat) (n : Int) (w : World) (hx : x < 4294967296) (h0 : 0 < n) (hn : n < 32) :
    Calls Tryz.prog 149 #[.int .u32 (x : Int), .int .i64 n] w fun e w' => e = .returned (.int .u32 (rotr x n.toNat : Nat)) ∧ w' = w := by
  obtain ⟨m, rfl⟩ := Int.eq_ofNat_of_zero_le (Int.le_of_lt h0)
  exact (right_any x m w hx (by omega) (by omega)).mono fun e w' h => ⟨h.1, h.2.symm⟩
theorem sg0_int (x : Nat) (h : x < 4294967296) : bits .xor .u32 (bits .xor .u32 (rotr x 7 : Nat) (rotr x 18 : Nat)) ((x : Int) / 8) = ((sg0 x : Nat) : Int) := by
  have a := rotr_lt h (k := 7) (by omega)
  have b := rotr_lt h (k := 18) (by omega)
  rw [u32_xor_nat _ _ a b, show (x : Int) / 8 = ((x / 8 : Nat) : Int) from by omega, u32_xor_nat _ _ (xor_lt a b) (by omega)]
  rfl
theorem sg1_int (x : Nat) (h : x < 4294967296) : bits .xor .u32 (bits .xor .u32 (rotr x 17 : Nat) (rotr x 19 : Nat)) ((x : Int) / 1024) = ((sg1 x : Nat) : Int) := by
  have a := rotr_lt h (k := 17) (by omega)
  have b := rotr_lt h (k := 19) (by omega)
  rw [u32_xor_nat _ _ a b, show (x : Int) / 1024 = ((x / 1024 : Nat) : Int) from by omega, u32_xor_nat _ _ (xor_lt a b) (by omega)]
  rfl
theorem set_row (l : List Nat) (n m : Nat) (h : l.length = n) {x : Nat} : (l ++ row32 (m + 1)).set n x = l ++ [x] ++ row32 m := by
  subst h
  rw [List.set_append, if_neg (by omega), Nat.sub_self, List.append_assoc]
  rfl
theorem sched_eq {bs : List UInt8} {ws : List Nat} {u : Nat} (h : u = 48) (hw : words bs = ws) : sched bs = extend u ws := by subst h; subst hw; rfl
theorem infoByte : (Tryz.prog.info? 5).map (fun i => (i.zero, i.size, i.bytes)) = some (some (.int .u8 0), 1, 1) := by kernel_rfl
theorem alloc63 (w : World) : (Instr.alloc 232 true (.tuple #[])).run Tryz.prog w = .ok (.pointer (some ⟨w.heap.size, 0, none⟩)) (w.alloc (.cells ((row32 64).map cell32).toArray 232)) :=
  run_alloc_zero (z := .agg ((row32 64).map cell32).toArray) (by kernel_rfl) rfl w

set_option maxRecDepth 100000 in
set_option maxHeartbeats 1600000 in
theorem stretched_any (bs : List UInt8) (w : World) (hl : bs.length = 64) :
    Calls Tryz.prog 148 #[.agg (bs.map cell8).toArray] w fun e w' => e = .returned (.agg ((sched bs).map cell32).toArray) ∧ Below w.heap.size w w' := by
  have hsz8 : (Tryz.prog.info? 205).map (·.size) = some (bs.map cell8).toArray.size := by
    rw [show (bs.map cell8).toArray.size = 64 from by simp [hl]]; kernel_rfl
  go_enter Tryz.func148, Tryz.ntmps148
  go_wp2_with (first | (with_reducible refine wpList_alloc_as rfl 232 rfl _ alloc63 ?_) | fail)
  obtain ⟨A, hA⟩ : ∃ A, A = Obj.cells (bs.map cell8).toArray 205 := ⟨_, rfl⟩
  obtain ⟨B, hB⟩ : ∃ B, B = Obj.cells ((row32 64).map cell32).toArray 232 := ⟨_, rfl⟩
  rw [← hA, ← hB]
  obtain ⟨w3, hw3⟩ : ∃ w3, w3 = ((w.alloc A).alloc B).alloc B := ⟨_, rfl⟩
  have h0 : Blk w3 w.heap.size 205 (bs.map cell8).toArray := by rw [hw3, hA]; exact ((Blk.new w _ _).alloc _).alloc _
  have h1 : Blk w3 (w.heap.size + 1) 232 ((row32 64).map cell32).toArray := by
    rw [hw3, hB]
    have := (Blk.new (w.alloc A) 232 ((row32 64).map cell32).toArray).alloc B
    rwa [show (w.alloc A).heap.size = w.heap.size + 1 from by simp, hB] at this
  have h2 : Blk w3 (w.heap.size + 2) 232 ((row32 64).map cell32).toArray := by
    rw [hw3, hB]
    have := Blk.new ((w.alloc A).alloc B) 232 ((row32 64).map cell32).toArray
    rwa [show ((w.alloc A).alloc B).heap.size = w.heap.size + 2 from by simp, hB] at this
  have hbel : Below w.heap.size w w3 := by rw [hw3]; exact (((Below.refl _ _).alloc (Nat.le_refl _) _).alloc (by simp) _).alloc (by simp; omega) _
  have hz3 : w3.heap.size = w.heap.size + 3 := by rw [hw3]; simp
  rw [← hw3]
  simp only [World.size_alloc]
  clear hA hB hw3
  refine wp_load_row 205 (.tmp 1) rfl w.heap.size rfl _ _ _ _ h0 Tryz.underlying205 rfl hsz8 ?_
  go_wp2_with fail
  generalize hg0 : w.heap.size = g at *
  go_loopw [10] (fun i wr => ∃ k : Nat, k ≤ 64 ∧ i = .int .i64 k ∧ Below g w3 wr ∧ Blk wr (g + 1) 232 ((row32 64).map cell32).toArray ∧ Blk wr (g + 2) 232 ((Sha.parts bs k).map cell32).toArray) (fun i _ => 64 - (intOf i).toNat)
  case atStart => exact ⟨0, by omega, rfl, Below.refl _ _, h1, by rw [parts_zero]; exact h2⟩
  case round =>
    obtain ⟨k, hk, rfl, hb, hC, hB⟩ := hrel
    by_cases hlt : k < 64
    · have hbk : bs[k]? = some bs[k] := List.getElem?_eq_getElem (by omega)
      have hix : ∀ u, (Instr.index 205 (.agg (bs.map cell8).toArray) (.int .i64 (k : Int))).run Tryz.prog u = .ok (.int .u8 (bs[k].toNat : Int)) u := fun u => by
        obtain ⟨i0, hi0, _, hz1, _⟩ := info_parts infoByte
        exact run_index1 u _ 5 64 i0 _ _ .i64 k _ Tryz.underlying205 hi0 hz1 Tryz.underlying5 rfl hlt (by simp [hbk, cell8])
      have hcell : wr.cell? ⟨g + 2, k / 4, none⟩ = some (.int .u32 (Sha.part bs k (k / 4) : Int)) := by
        rw [hB.cell]; simp [parts_at, show k / 4 < 64 by omega, cell32]
      have hsucc := parts_succ bs k _ hbk
      have hpl := part_lt bs k
      have hbl := bs[k].toNat_lt
      generalize Sha.part bs k (k / 4) = x at *
      generalize bs[k] = b at *
      have hj : (k : Int) / 4 = ((k / 4 : Nat) : Int) := by omega
      have hj64 : k / 4 < 64 := by omega
      have hfz := hB.frozen (k / 4)
      have hor : bits .or .u32 ((x : Int) * 256) (b.toNat : Int) = ((x * 256 + b.toNat : Nat) : Int) := by
        have h := u32_or_nat (x * 256) b.toNat (by omega) (by omega)
        rw [show (x * 256 ||| b.toNat) = x * 256 + b.toNat from by rw [Nat.mul_comm]; exact (Nat.two_pow_add_eq_or_of_lt (i := 8) (by omega) x).symm] at h
        simpa using h
      generalize k / 4 = j at *
      have HS := Lib.hid hsucc
      have HB := Lib.hid hbk
      clear hsucc hbk
      go_wp2
      go_roundw
      case rel =>
        refine ⟨k + 1, by omega, by go_num, hb.setCell (by simp; omega) _, hC.same (same_set _ _ _) (by simp), ?_⟩
        have e := hB.set_ j (cell32 (x * 256 + b.toNat))
        rw [HS.out, List.map_set, ← List.setIfInBounds_toArray]
        simpa [cell32] using e
      case measure => simp [intOf]; omega
    · obtain rfl : k = 64 := by omega
      rw [parts_all bs hl] at hB
      have hwl := words_length 16 bs hl
      have hbel2 := hbel.trans hb
      have hsz2 := hb.size
      clear hb hbel h0 h2 hsz8
      have hwlt := words_lt bs
      generalize hws : words bs = ws at *
      have HWS := Lib.hid hws
      clear hws
      have HWL := Lib.hid hwl
      have HG := Lib.hid hg0
      have HSZ := Lib.hid hz3
      clear hwl hg0 hz3
      rw [show ((64 : Nat) : Int) = 64 from rfl]
      go_wp2_with fail
      go_loopw [6] (fun i wr' => ∃ u : Nat, u ≤ 48 ∧ i = .int .i64 ((u : Int) + 16) ∧ Below g w wr' ∧ Blk wr' (g + 1) 232 ((row32 64).map cell32).toArray ∧ Blk wr' (g + 2) 232 ((extend u ws ++ row32 (48 - u)).map cell32).toArray) (fun i _ => 64 - (intOf i).toNat)
      case atStart => exact ⟨0, by omega, rfl, hbel2, hC, hB⟩
      case round =>
        obtain ⟨u, hu, rfl, hb, hCu, hBu⟩ := hrel
        have hel := extend_length u ws
        by_cases hlt : u < 48
        · have hll : (extend u ws).length = u + 16 := by rw [hel, HWL.out]; omega
          have hlw := extend_lt u hwlt
          have hn : extend (u + 1) ws = extend u ws ++ [nextWord (extend u ws)] := rfl
          have hat : ∀ i, i < u + 16 → wr.cell? ⟨g + 2, i, none⟩ = some (.int .u32 ((extend u ws).getD i 0 : Nat)) := fun i hi => by
            rw [hBu.cell]
            simp [List.getElem?_append_left, hll, hi, cell32, List.getD]
          have hbd : ∀ i, (extend u ws).getD i 0 < 4294967296 := fun i => by
            rw [List.getD]
            cases hq : (extend u ws)[i]? with
            | none => simp
            | some x => exact hlw x (List.mem_of_getElem? hq)
          have hnw : nextWord (extend u ws) = ((extend u ws).getD u 0 + (extend u ws).getD (u + 9) 0 + sg0 ((extend u ws).getD (u + 1) 0) + sg1 ((extend u ws).getD (u + 14) 0)) % 4294967296 := by
            unfold nextWord
            rw [hll]
            simp
          have c0 := hat u (by omega)
          have c1 := hat (u + 1) (by omega)
          have c9 := hat (u + 9) (by omega)
          have c14 := hat (u + 14) (by omega)
          have b0 := hbd u
          have b1 := hbd (u + 1)
          have b9 := hbd (u + 9)
          have b14 := hbd (u + 14)
          generalize (extend u ws).getD u 0 = x0 at *
          generalize (extend u ws).getD (u + 1) 0 = x1 at *
          generalize (extend u ws).getD (u + 9) 0 = x9 at *
          generalize (extend u ws).getD (u + 14) 0 = x14 at *
          have hfz := hBu.frozen (u + 16)
          have HN := Lib.hid hn
          have HNW := Lib.hid hnw
          have HLL := Lib.hid hll
          clear hn hnw hll hel hat hbd hlw
          go_wp2_with fail
          go_quiet (fail)
          go_wp2_with fail
          have hz1 : IntKind.i64.wrap (u : Int) = (u : Int) := IntWalk.i64_in _ (by omega)
          have hz7 : IntKind.i64.wrap ((u : Int) + 16 - 7) = (u : Int) + 9 := by rw [IntWalk.i64_in _ (by omega)]; omega
          have hp7 : (0 : Int) ≤ (u : Int) + 9 := by omega
          have hn7 : ((u : Int) + 9).toNat = u + 9 := by omega
          have q0 : (0 : Int) ≤ (u : Int) := by omega
          have q1 : (u : Int) < 64 := by omega
          have q2 : (u : Int) + 9 < 64 := by omega
          have q3 : (0 : Int) ≤ (u : Int) + 16 := by omega
          have q4 : ((u : Int) + 16).toNat = u + 16 := by omega
          refine wp_region_still_tail 29 (by kernel_rfl) (by kernel_rfl) ?_
          simp only [List.take_succ_cons, List.take_zero, List.drop_succ_cons, List.drop_zero]
          change wpStill _ _ (World.drew (wr.drewN nq)) (fun a' => wpList _ _ _ _ a' (World.drew (wr.drewN nq))) _ _
          have d0 : (World.drew (wr.drewN nq)).cell? ⟨g + 2, u, none⟩ = some (.int .u32 (x0 : Int)) := c0
          have d9 : (World.drew (wr.drewN nq)).cell? ⟨g + 2, u + 9, none⟩ = some (.int .u32 (x9 : Int)) := c9
          have hbd : Below g w (World.drew (wr.drewN nq)) := ⟨hb.os, hb.tape, hb.output, hb.size, hb.block⟩
          have hCd : Blk (World.drew (wr.drewN nq)) (g + 1) 232 ((row32 64).map cell32).toArray := hCu
          have hBd : Blk (World.drew (wr.drewN nq)) (g + 2) 232 ((extend u ws ++ row32 (48 - u)).map cell32).toArray := hBu
          generalize World.drew (wr.drewN nq) = w5 at *
          clear c0 c1 c9 c14 hfz hb hBu hCu
          repeat (first | still_step | still_call (right_q _ _ _ (by assumption) (by decide) (by decide)))
          refine wpStill_nil ?_
          have dz : w5.cell? ⟨g + 2, u + 16, none⟩ = some (.int .u32 0) := by
            rw [hBd.cell]
            simp [List.getElem?_append_right, HLL.out, cell32, row32, List.getElem?_replicate]
            omega
          have df := hBd.frozen (u + 16)
          have e0 := sg0_int x1 b1
          have e1 := sg1_int x14 b14
          have l0 := sg0_lt b1
          have l1 := sg1_lt b14
          have E : IntKind.u32.wrap (IntKind.u32.wrap (IntKind.u32.wrap ((x0 : Int) + x9) + (sg0 x1 : Nat)) + (sg1 x14 : Nat)) = ((nextWord (extend u ws) : Nat) : Int) := by
            rw [HNW.out]
            simp only [IntKind.wrap, IntKind.signed, IntKind.bits]
            simp
          generalize sg0 x1 = y0 at *
          generalize sg1 x14 = y1 at *
          have HE := Lib.hid E
          rw [e0, e1]
          rw [E]
          clear E e0 e1 hz1 hz7 hp7 hn7 q0 q1 q2 q3 q4 d0 d9 b0 b1 b9 b14
          go_wp2
          go_roundw
          case rel =>
            refine ⟨u + 1, by omega, by rw [show ((u + 1 : Nat) : Int) + 16 = (u : Int) + 16 + 1 by omega], hbd.setCell (by simp; omega) _, hCd.same (same_set _ _ _) (by simp), ?_⟩
            have e := hBd.set_ (u + 16) (cell32 (nextWord (extend u ws)))
            rw [List.setIfInBounds_toArray, ← List.map_set, show 48 - u = (48 - (u + 1)) + 1 from by omega, set_row _ _ _ HLL.out] at e
            rw [HN.out]
            exact e
          case measure => simp [intOf]; omega
        · have hu48 : u = 48 := by omega
          have hfin : extend u ws ++ row32 (48 - u) = extend u ws := by rw [show 48 - u = 0 by omega]; exact List.append_nil _
          rw [hfin] at hBu
          have hsch := sched_eq hu48 HWS.out
          generalize extend u ws = l at *
          have hl64 : (l.map cell32).toArray.size = 64 := by rw [List.size_toArray, List.length_map, hel, HWL.out, hu48]
          have hi64 : (Tryz.prog.info? 232).map (·.size) = some (l.map cell32).toArray.size := by rw [hl64]; kernel_rfl
          have hone : (l.map cell32).toArray.all (·.oneCell') = true := by
            rw [Array.all_eq_true_iff_forall_mem]
            intro v hv
            obtain ⟨x, _, rfl⟩ := List.mem_map.1 (show v ∈ l.map cell32 from by simpa using hv)
            rfl
          have hl1 : ((row32 64).map cell32).toArray.size = (l.map cell32).toArray.size := by rw [hl64]; simp [row32]
          have HL1 := Lib.hid hl1
          have HI := Lib.hid hi64
          have HO := Lib.hid hone
          have HS := Lib.hid hsch
          have HU := Lib.hid hu48
          clear hel hfin hl64 hi64 hl1 hone hsch hu48
          have hB2 : wr.heap[g + 1 + 1]? = some (.cells (l.map cell32).toArray 232 (0, 0)) := hBu
          have hC2 : wr.heap[g + 1]? = some (.cells ((row32 64).map cell32).toArray 232 (0, 0)) := hCu
          have hx64 : decide ((u : Int) + 16 < 64) = false := by rw [decide_eq_false_iff_not]; omega
          have HB2 := Lib.hid hB2
          have HC2 := Lib.hid hC2
          clear hB2 hC2 hBu hCu
          go_wp2_with (first | (with_reducible refine wpList_load_row rfl 232 (.tmp 3) rfl (g + 1 + 1) rfl _ _ _ _ HB2.out Tryz.underlying232 rfl HI.out ?_) | (with_reducible refine wpList_store_row rfl 232 (.tmp 2) (.tmp 67) rfl (g + 1) _ rfl rfl _ _ HC2.out HI.out HL1.out HO.out ?_) | fail)
          refine bodyPost_ret (results_cell_row rfl _ _ (g + 1) _ _ _ _ rfl (setRow_heap _ _ _ _ _ _ HC2.out) Tryz.underlying232 rfl HI.out) rfl ⟨by rw [HS.out], ?_⟩
          rw [HG.out]
          exact below_setRow hb (by omega) _
end Go.Proofs.YtmhbmjagnihopaaGreatDoor.Sha
