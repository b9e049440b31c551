/- The reference's Text. By an AI agent. -/
import Derived.Test.YtbpkpkellnldmaaForm
import Derived.Lib.AppendStr
namespace Go.Proofs.Ytbpkpkellnldmaa.Pc
open Go.RowKit Go.Proofs.Ytbpkpkellnldmaa.M Go.Proofs.Ytbpkpkellnldmaa.Wr
set_option linter.unusedVariables false

theorem strCells_eq (s : ByteArray) : Lib.strCells s = s.data.toList.map cell8 := rfl
theorem be2_eq (n : Nat) : be2 n = be 2 n := rfl

set_option maxHeartbeats 800000 in
theorem refText_any (s : ByteArray) (w : World) (hs : s.size ≤ 65535) :
    Calls Try.prog 40 #[.string s] w fun e w' => ∃ v, e = .returned (.tuple #[v, .int .i64 0]) ∧ w'.ownsRow w.heap.size 5 1 v (2 + s.size) ((be2 s.size ++ s.data.toList).map cell8) ∧ Below w.heap.size w w' := by
  obtain ⟨i0, hi, hz0, hz1, hz2⟩ := info_parts infoByte
  go_enter Try.func40, Try.ntmps40
  go_wp2_with fail
  refine (number_any s.size 2 _ (by omega) (by omega)).mono ?_
  rintro e w1 ⟨rfl, hown, hbel⟩
  have hz := hbel.size
  have hm1 : 2 + s.size ≤ maxLen := by unfold maxLen; omega
  have hm2 : 2 + s.size ≤ 140737488355328 := by omega
  go_wp2_with (at_builtin; refine Lib.wpList_append_own_string _ rfl (.tmp 10) (.tmp 11) _ _ rfl w.heap.size _ i0 Try.underlying27 Try.underlying9 hi hz0 hz1 hz2 _ 2 _ rfl hown s rfl hm1 hm2 hz ?_; intro v2 w2 hown2 hg2 hnil2)
  refine bodyPost_ret (results_tmp2 rfl _ _ _) rfl ?_
  refine ⟨v2, rfl, ?_, hbel.grown hg2 hz (fun i hi => by have hi' : some w.heap.size = some i := hi; exact Nat.le_of_eq (Option.some.inj hi'))⟩
  rw [strCells_eq] at hown2
  rw [List.map_append, be2_eq]
  exact hown2

/-- a piece's form -/
def formOf (p : P) : List UInt8 :=
  if p.what = 1 then be 1 p.n else if p.what = 2 then be 2 p.n else if p.what = 3 then be 4 p.n else if p.what = 4 then be 8 p.n else
  if p.what = 5 then be2 p.text.size ++ p.text.data.toList else p.text.data.toList
theorem ownsRow_byts {w : World} {base e n : Nat} {v : Value} {l : List UInt8} (h : w.ownsRow base e 1 v n (l.map cell8)) : Byts w (fun k => base ≤ k ∧ k < w.heap.size) v l := byts_of_own h rfl

set_option maxHeartbeats 1600000 in
theorem form_1 (n : Nat) (t : ByteArray) (w : World) (hn : n < 18446744073709551616) :
    Calls Try.prog 11 #[.agg #[.int .i64 1, .int .u64 (n : Int), .string t]] w fun e w' => ∃ v, e = .returned v ∧ Byts w' (fun k => w.heap.size ≤ k ∧ k < w'.heap.size) v (be 1 n) ∧ Below w.heap.size w w' := by
  have e1 : IntKind.i64.wrap 0 = 0 := by decide
  have e2 : ∀ u : World, (Op.shift BinOp.shl IntKind.i64 1 IntKind.i64 0).run Try.prog u = .ok (.int .i64 1) u := fun _ => by kernel_rfl
  go_enter Try.func11, Try.ntmps11
  go_wp2
  have hB := Blk.new w 31 #[.int .i64 1, .int .u64 (n : Int), .string t]
  have hz0 : (w.alloc (.cells #[.int .i64 1, .int .u64 (n : Int), .string t] 31)).heap.size = w.heap.size + 1 := by simp
  have hb0 : Below w.heap.size w (w.alloc (.cells #[.int .i64 1, .int .u64 (n : Int), .string t] 31)) := (Below.refl _ _).alloc (Nat.le_refl _) _
  generalize w.alloc (.cells #[.int .i64 1, .int .u64 (n : Int), .string t] 31) = wa at *
  have a0 : wa.cell? ⟨w.heap.size, 0, none⟩ = some (.int .i64 1) := hB.cell 0
  have a1 : wa.cell? ⟨w.heap.size, 1, none⟩ = some (.int .u64 (n : Int)) := hB.cell 1
  have HZ := Lib.hid hz0
  clear hz0
  go_region_held3 (fun w' => w'.cell? ⟨w.heap.size, 0, none⟩ = some (.int .i64 1) ∧ w'.cell? ⟨w.heap.size, 1, none⟩ = some (.int .u64 (n : Int))) (go_keep)
    (first
      | (go_at_call 39; refine (number_any n 1 _ hn (by omega)).mono ?_; rintro e w1 ⟨rfl, hown, hbel'⟩
         have hbel : Below wa.heap.size wa w1 := undrew hbel'
         clear hbel'
         have b0 : w1.cell? ⟨w.heap.size, 0, none⟩ = some (.int .i64 1) := (hB.same (same_below hbel) hB.lt).cell 0
         have b1 : w1.cell? ⟨w.heap.size, 1, none⟩ = some (.int .u64 (n : Int)) := (hB.same (same_below hbel) hB.lt).cell 1))
  go_wp2
  go_ret
  have hz := HZ.out
  refine ⟨_, rfl, (ownsRow_byts hown).sub (fun i hi => ⟨?_, hi.2⟩), hb0.trans (hbel.mono (by omega))⟩
  have h1 : wa.heap.size ≤ i := hi.1
  omega

set_option maxHeartbeats 1600000 in
theorem form_2 (n : Nat) (t : ByteArray) (w : World) (hn : n < 18446744073709551616) :
    Calls Try.prog 11 #[.agg #[.int .i64 2, .int .u64 (n : Int), .string t]] w fun e w' => ∃ v, e = .returned v ∧ Byts w' (fun k => w.heap.size ≤ k ∧ k < w'.heap.size) v (be 2 n) ∧ Below w.heap.size w w' := by
  have e1 : IntKind.i64.wrap 1 = 1 := by decide
  have e2 : ∀ u : World, (Op.shift BinOp.shl IntKind.i64 1 IntKind.i64 1).run Try.prog u = .ok (.int .i64 2) u := fun _ => by kernel_rfl
  go_enter Try.func11, Try.ntmps11
  go_wp2
  have hB := Blk.new w 31 #[.int .i64 2, .int .u64 (n : Int), .string t]
  have hz0 : (w.alloc (.cells #[.int .i64 2, .int .u64 (n : Int), .string t] 31)).heap.size = w.heap.size + 1 := by simp
  have hb0 : Below w.heap.size w (w.alloc (.cells #[.int .i64 2, .int .u64 (n : Int), .string t] 31)) := (Below.refl _ _).alloc (Nat.le_refl _) _
  generalize w.alloc (.cells #[.int .i64 2, .int .u64 (n : Int), .string t] 31) = wa at *
  have a0 : wa.cell? ⟨w.heap.size, 0, none⟩ = some (.int .i64 2) := hB.cell 0
  have a1 : wa.cell? ⟨w.heap.size, 1, none⟩ = some (.int .u64 (n : Int)) := hB.cell 1
  have HZ := Lib.hid hz0
  clear hz0
  go_region_held3 (fun w' => w'.cell? ⟨w.heap.size, 0, none⟩ = some (.int .i64 2) ∧ w'.cell? ⟨w.heap.size, 1, none⟩ = some (.int .u64 (n : Int))) (go_keep)
    (first
      | (go_at_call 39; refine (number_any n 2 _ hn (by omega)).mono ?_; rintro e w1 ⟨rfl, hown, hbel'⟩
         have hbel : Below wa.heap.size wa w1 := undrew hbel'
         clear hbel'
         have b0 : w1.cell? ⟨w.heap.size, 0, none⟩ = some (.int .i64 2) := (hB.same (same_below hbel) hB.lt).cell 0
         have b1 : w1.cell? ⟨w.heap.size, 1, none⟩ = some (.int .u64 (n : Int)) := (hB.same (same_below hbel) hB.lt).cell 1))
  go_wp2
  go_ret
  have hz := HZ.out
  refine ⟨_, rfl, (ownsRow_byts hown).sub (fun i hi => ⟨?_, hi.2⟩), hb0.trans (hbel.mono (by omega))⟩
  have h1 : wa.heap.size ≤ i := hi.1
  omega

set_option maxHeartbeats 1600000 in
theorem form_3 (n : Nat) (t : ByteArray) (w : World) (hn : n < 18446744073709551616) :
    Calls Try.prog 11 #[.agg #[.int .i64 3, .int .u64 (n : Int), .string t]] w fun e w' => ∃ v, e = .returned v ∧ Byts w' (fun k => w.heap.size ≤ k ∧ k < w'.heap.size) v (be 4 n) ∧ Below w.heap.size w w' := by
  have e1 : IntKind.i64.wrap 2 = 2 := by decide
  have e2 : ∀ u : World, (Op.shift BinOp.shl IntKind.i64 1 IntKind.i64 2).run Try.prog u = .ok (.int .i64 4) u := fun _ => by kernel_rfl
  go_enter Try.func11, Try.ntmps11
  go_wp2
  have hB := Blk.new w 31 #[.int .i64 3, .int .u64 (n : Int), .string t]
  have hz0 : (w.alloc (.cells #[.int .i64 3, .int .u64 (n : Int), .string t] 31)).heap.size = w.heap.size + 1 := by simp
  have hb0 : Below w.heap.size w (w.alloc (.cells #[.int .i64 3, .int .u64 (n : Int), .string t] 31)) := (Below.refl _ _).alloc (Nat.le_refl _) _
  generalize w.alloc (.cells #[.int .i64 3, .int .u64 (n : Int), .string t] 31) = wa at *
  have a0 : wa.cell? ⟨w.heap.size, 0, none⟩ = some (.int .i64 3) := hB.cell 0
  have a1 : wa.cell? ⟨w.heap.size, 1, none⟩ = some (.int .u64 (n : Int)) := hB.cell 1
  have HZ := Lib.hid hz0
  clear hz0
  go_region_held3 (fun w' => w'.cell? ⟨w.heap.size, 0, none⟩ = some (.int .i64 3) ∧ w'.cell? ⟨w.heap.size, 1, none⟩ = some (.int .u64 (n : Int))) (go_keep)
    (first
      | (go_at_call 39; refine (number_any n 4 _ hn (by omega)).mono ?_; rintro e w1 ⟨rfl, hown, hbel'⟩
         have hbel : Below wa.heap.size wa w1 := undrew hbel'
         clear hbel'
         have b0 : w1.cell? ⟨w.heap.size, 0, none⟩ = some (.int .i64 3) := (hB.same (same_below hbel) hB.lt).cell 0
         have b1 : w1.cell? ⟨w.heap.size, 1, none⟩ = some (.int .u64 (n : Int)) := (hB.same (same_below hbel) hB.lt).cell 1))
  go_wp2
  go_ret
  have hz := HZ.out
  refine ⟨_, rfl, (ownsRow_byts hown).sub (fun i hi => ⟨?_, hi.2⟩), hb0.trans (hbel.mono (by omega))⟩
  have h1 : wa.heap.size ≤ i := hi.1
  omega

set_option maxHeartbeats 1600000 in
theorem form_4 (n : Nat) (t : ByteArray) (w : World) (hn : n < 18446744073709551616) :
    Calls Try.prog 11 #[.agg #[.int .i64 4, .int .u64 (n : Int), .string t]] w fun e w' => ∃ v, e = .returned v ∧ Byts w' (fun k => w.heap.size ≤ k ∧ k < w'.heap.size) v (be 8 n) ∧ Below w.heap.size w w' := by
  have e1 : IntKind.i64.wrap 3 = 3 := by decide
  have e2 : ∀ u : World, (Op.shift BinOp.shl IntKind.i64 1 IntKind.i64 3).run Try.prog u = .ok (.int .i64 8) u := fun _ => by kernel_rfl
  go_enter Try.func11, Try.ntmps11
  go_wp2
  have hB := Blk.new w 31 #[.int .i64 4, .int .u64 (n : Int), .string t]
  have hz0 : (w.alloc (.cells #[.int .i64 4, .int .u64 (n : Int), .string t] 31)).heap.size = w.heap.size + 1 := by simp
  have hb0 : Below w.heap.size w (w.alloc (.cells #[.int .i64 4, .int .u64 (n : Int), .string t] 31)) := (Below.refl _ _).alloc (Nat.le_refl _) _
  generalize w.alloc (.cells #[.int .i64 4, .int .u64 (n : Int), .string t] 31) = wa at *
  have a0 : wa.cell? ⟨w.heap.size, 0, none⟩ = some (.int .i64 4) := hB.cell 0
  have a1 : wa.cell? ⟨w.heap.size, 1, none⟩ = some (.int .u64 (n : Int)) := hB.cell 1
  have HZ := Lib.hid hz0
  clear hz0
  go_region_held3 (fun w' => w'.cell? ⟨w.heap.size, 0, none⟩ = some (.int .i64 4) ∧ w'.cell? ⟨w.heap.size, 1, none⟩ = some (.int .u64 (n : Int))) (go_keep)
    (first
      | (go_at_call 39; refine (number_any n 8 _ hn (by omega)).mono ?_; rintro e w1 ⟨rfl, hown, hbel'⟩
         have hbel : Below wa.heap.size wa w1 := undrew hbel'
         clear hbel'
         have b0 : w1.cell? ⟨w.heap.size, 0, none⟩ = some (.int .i64 4) := (hB.same (same_below hbel) hB.lt).cell 0
         have b1 : w1.cell? ⟨w.heap.size, 1, none⟩ = some (.int .u64 (n : Int)) := (hB.same (same_below hbel) hB.lt).cell 1))
  go_wp2
  go_ret
  have hz := HZ.out
  refine ⟨_, rfl, (ownsRow_byts hown).sub (fun i hi => ⟨?_, hi.2⟩), hb0.trans (hbel.mono (by omega))⟩
  have h1 : wa.heap.size ≤ i := hi.1
  omega

end Go.Proofs.Ytbpkpkellnldmaa.Pc
