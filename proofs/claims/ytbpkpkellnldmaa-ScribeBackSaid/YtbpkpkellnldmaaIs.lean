/- 'is': whether a piece is read as it was laid. By an AI agent. -/
import Derived.Test.YtbpkpkellnldmaaRd3
import Derived.Test.YtbpkpkellnldmaaLay
import Derived.Deep.RegionHeld3
import Derived.Deep.RegionWith
namespace Go.Proofs.Ytbpkpkellnldmaa.Is
open Go.RowKit Go.Proofs.Ytbpkpkellnldmaa.M Go.Proofs.Ytbpkpkellnldmaa.Pc Go.Proofs.Ytbpkpkellnldmaa.Rd Go.Proofs.Ytbpkpkellnldmaa.Byt
set_option linter.unusedVariables false

/-- what is read of a piece: the bytes, and what is left -/
def readOf (p : P) (l : List UInt8) (s : Bool) : List UInt8 × List UInt8 × Bool :=
  if p.what = 1 then nextOf l s 1 else if p.what = 2 then nextOf l s 2 else if p.what = 3 then nextOf l s 4 else if p.what = 4 then nextOf l s 8 else
  if p.what = 5 then textOf l s else nextOf l s p.text.size
/-- whether it is what was laid -/
def sameOf (p : P) (x : List UInt8) : Bool :=
  if p.what = 1 then numOf x == p.n % 256 else if p.what = 2 then numOf x == p.n % 65536 else if p.what = 3 then numOf x == p.n % 4294967296 else if p.what = 4 then numOf x == p.n else
  x == p.text.toList

/-- the post of 'is' -/
def IsPost (b : Nat) (X : Nat → Prop) (w : World) (ok : Bool) (r : List UInt8 × List UInt8 × Bool) (e : Ending) (w' : World) : Prop :=
  e = .returned (.bool ok) ∧ IsR w' b X r.2.1 r.2.2 ∧ w.grownBy w' (some b)

theorem grown_alloc1 {a c : World} {o : Obj} {row : Option Nat} (h : (a.alloc o).grownBy c row) : a.grownBy c row := M.grown_trans (World.grownBy_alloc a o row) h
theorem int_beq (a b : Nat) : ((a : Int) == (b : Int)) = (a == b) := by
  rw [Bool.eq_iff_iff]; simp; omega

section
variable (b : Nat) (X : Nat → Prop) (l : List UInt8) (s : Bool) (n : Nat) (t : ByteArray) (w : World)

set_option maxHeartbeats 2000000 in
theorem is_1 (hR : IsR w b X l s) (hn : n < 18446744073709551616) :
    Calls Try.prog 31 #[.pointer (some ⟨b, 0, none⟩), .agg #[.int .i64 1, .int .u64 (n : Int), .string t]] w (IsPost b X w (numOf (nextOf l s 1).1 == n % 256) (nextOf l s 1)) := by
  go_enter Try.func31, Try.ntmps31
  go_wp2
  have hR1 := hR.below ((Below.refl _ _).alloc (Nat.le_refl _) (.cells #[.int .i64 1, .int .u64 (n : Int), .string t] 31))
  have hB := Blk.new w 31 #[.int .i64 1, .int .u64 (n : Int), .string t]
  have hg0 := World.grownBy_alloc w (.cells #[.int .i64 1, .int .u64 (n : Int), .string t] 31) (some b)
  have hne : w.heap.size ≠ b := by have := hR.lt; omega
  generalize w.alloc (.cells #[.int .i64 1, .int .u64 (n : Int), .string t] 31) = wa at *
  have a1 : wa.cell? ⟨w.heap.size, 1, none⟩ = some (.int .u64 (n : Int)) := hB.cell 1
  have hlt := next_lt l s 1 256 (by decide)
  have hm1 : ((n : Int) % 256) = ((n % 256 : Nat) : Int) := by omega
  go_region_held3 (fun w' => w'.cell? ⟨w.heap.size, 1, none⟩ = some (.int .u64 (n : Int))) (go_keep)
    (first
      | (go_at_call 18; refine (byte_any b X l s _ (show IsR wa.drew b X l s from hR1)).mono ?_; rintro e w1 ⟨rfl, hR2, hg', _⟩
         have hg : wa.grownBy w1 (some b) := grown_undrew hg'
         clear hg'
         have b1 : w1.cell? ⟨w.heap.size, 1, none⟩ = some (.int .u64 (n : Int)) := (hB.same (same_grown hg) ⟨hB.lt, fun e => hne (Option.some.inj e)⟩).cell 1))
  go_wp2
  go_ret
  refine ⟨?_, hR2, M.grown_trans hg0 hg⟩
  rw [← int_beq]
  first | rfl | (simp; done) | (congr 2; simp; done) | (simp [IntKind.wrap_u16]; done)

set_option maxHeartbeats 2000000 in
theorem is_2 (hR : IsR w b X l s) (hn : n < 18446744073709551616) :
    Calls Try.prog 31 #[.pointer (some ⟨b, 0, none⟩), .agg #[.int .i64 2, .int .u64 (n : Int), .string t]] w (IsPost b X w (numOf (nextOf l s 2).1 == n % 65536) (nextOf l s 2)) := by
  go_enter Try.func31, Try.ntmps31
  go_wp2
  have hR1 := hR.below ((Below.refl _ _).alloc (Nat.le_refl _) (.cells #[.int .i64 2, .int .u64 (n : Int), .string t] 31))
  have hB := Blk.new w 31 #[.int .i64 2, .int .u64 (n : Int), .string t]
  have hg0 := World.grownBy_alloc w (.cells #[.int .i64 2, .int .u64 (n : Int), .string t] 31) (some b)
  have hne : w.heap.size ≠ b := by have := hR.lt; omega
  generalize w.alloc (.cells #[.int .i64 2, .int .u64 (n : Int), .string t] 31) = wa at *
  have a1 : wa.cell? ⟨w.heap.size, 1, none⟩ = some (.int .u64 (n : Int)) := hB.cell 1
  have hlt := next_lt l s 2 65536 (by decide)
  have hm1 : ((n : Int) % 65536) = ((n % 65536 : Nat) : Int) := by omega
  go_region_held3 (fun w' => w'.cell? ⟨w.heap.size, 1, none⟩ = some (.int .u64 (n : Int))) (go_keep)
    (first
      | (go_at_call 20; refine (two_any b X l s _ (show IsR wa.drew b X l s from hR1)).mono ?_; rintro e w1 ⟨rfl, hR2, hg', _⟩
         have hg : wa.grownBy w1 (some b) := grown_undrew hg'
         clear hg'
         have b1 : w1.cell? ⟨w.heap.size, 1, none⟩ = some (.int .u64 (n : Int)) := (hB.same (same_grown hg) ⟨hB.lt, fun e => hne (Option.some.inj e)⟩).cell 1))
  go_wp2
  go_ret
  refine ⟨?_, hR2, M.grown_trans hg0 hg⟩
  rw [← int_beq]
  first | rfl | (simp; done) | (congr 2; simp; done) | (simp [IntKind.wrap_u16]; done)

set_option maxHeartbeats 2000000 in
theorem is_3 (hR : IsR w b X l s) (hn : n < 18446744073709551616) :
    Calls Try.prog 31 #[.pointer (some ⟨b, 0, none⟩), .agg #[.int .i64 3, .int .u64 (n : Int), .string t]] w (IsPost b X w (numOf (nextOf l s 4).1 == n % 4294967296) (nextOf l s 4)) := by
  go_enter Try.func31, Try.ntmps31
  go_wp2
  have hR1 := hR.below ((Below.refl _ _).alloc (Nat.le_refl _) (.cells #[.int .i64 3, .int .u64 (n : Int), .string t] 31))
  have hB := Blk.new w 31 #[.int .i64 3, .int .u64 (n : Int), .string t]
  have hg0 := World.grownBy_alloc w (.cells #[.int .i64 3, .int .u64 (n : Int), .string t] 31) (some b)
  have hne : w.heap.size ≠ b := by have := hR.lt; omega
  generalize w.alloc (.cells #[.int .i64 3, .int .u64 (n : Int), .string t] 31) = wa at *
  have a1 : wa.cell? ⟨w.heap.size, 1, none⟩ = some (.int .u64 (n : Int)) := hB.cell 1
  have hlt := next_lt l s 4 4294967296 (by decide)
  have hm1 : ((n : Int) % 4294967296) = ((n % 4294967296 : Nat) : Int) := by omega
  go_region_held3 (fun w' => w'.cell? ⟨w.heap.size, 1, none⟩ = some (.int .u64 (n : Int))) (go_keep)
    (first
      | (go_at_call 21; refine (four_any b X l s _ (show IsR wa.drew b X l s from hR1)).mono ?_; rintro e w1 ⟨rfl, hR2, hg', _⟩
         have hg : wa.grownBy w1 (some b) := grown_undrew hg'
         clear hg'
         have b1 : w1.cell? ⟨w.heap.size, 1, none⟩ = some (.int .u64 (n : Int)) := (hB.same (same_grown hg) ⟨hB.lt, fun e => hne (Option.some.inj e)⟩).cell 1))
  go_wp2
  go_ret
  refine ⟨?_, hR2, M.grown_trans hg0 hg⟩
  rw [← int_beq]
  first | rfl | (simp; done) | (congr 2; simp; done) | (simp [IntKind.wrap_u16]; done)

set_option maxHeartbeats 2000000 in
theorem is_4 (hR : IsR w b X l s) (hn : n < 18446744073709551616) :
    Calls Try.prog 31 #[.pointer (some ⟨b, 0, none⟩), .agg #[.int .i64 4, .int .u64 (n : Int), .string t]] w (IsPost b X w (numOf (nextOf l s 8).1 == n) (nextOf l s 8)) := by
  go_enter Try.func31, Try.ntmps31
  go_wp2
  have hR1 := hR.below ((Below.refl _ _).alloc (Nat.le_refl _) (.cells #[.int .i64 4, .int .u64 (n : Int), .string t] 31))
  have hB := Blk.new w 31 #[.int .i64 4, .int .u64 (n : Int), .string t]
  have hg0 := World.grownBy_alloc w (.cells #[.int .i64 4, .int .u64 (n : Int), .string t] 31) (some b)
  have hne : w.heap.size ≠ b := by have := hR.lt; omega
  generalize w.alloc (.cells #[.int .i64 4, .int .u64 (n : Int), .string t] 31) = wa at *
  have a1 : wa.cell? ⟨w.heap.size, 1, none⟩ = some (.int .u64 (n : Int)) := hB.cell 1
  have hlt := next_lt l s 8 18446744073709551616 (by decide)
  have hm1 : ((n : Int) % 18446744073709551616) = ((n % 18446744073709551616 : Nat) : Int) := by omega
  go_region_held3 (fun w' => w'.cell? ⟨w.heap.size, 1, none⟩ = some (.int .u64 (n : Int))) (go_keep)
    (first
      | (go_at_call 22; refine (eight_any b X l s _ (show IsR wa.drew b X l s from hR1)).mono ?_; rintro e w1 ⟨rfl, hR2, hg', _⟩
         have hg : wa.grownBy w1 (some b) := grown_undrew hg'
         clear hg'
         have b1 : w1.cell? ⟨w.heap.size, 1, none⟩ = some (.int .u64 (n : Int)) := (hB.same (same_grown hg) ⟨hB.lt, fun e => hne (Option.some.inj e)⟩).cell 1))
  go_wp2
  go_ret
  refine ⟨?_, hR2, M.grown_trans hg0 hg⟩
  rw [← int_beq]
  first | rfl | (simp; done) | (congr 2; simp; done) | (simp [IntKind.wrap_u16]; done)

set_option maxHeartbeats 2000000 in
theorem is_5 (hR : IsR w b X l s) :
    Calls Try.prog 31 #[.pointer (some ⟨b, 0, none⟩), .agg #[.int .i64 5, .int .u64 (n : Int), .string t]] w (IsPost b X w ((textOf l s).1 == t.toList) (textOf l s)) := by
  go_enter Try.func31, Try.ntmps31
  go_wp2
  have hR1 := hR.below ((Below.refl _ _).alloc (Nat.le_refl _) (.cells #[.int .i64 5, .int .u64 (n : Int), .string t] 31))
  have hB := Blk.new w 31 #[.int .i64 5, .int .u64 (n : Int), .string t]
  have hg0 := World.grownBy_alloc w (.cells #[.int .i64 5, .int .u64 (n : Int), .string t] 31) (some b)
  have hne : w.heap.size ≠ b := by have := hR.lt; omega
  generalize w.alloc (.cells #[.int .i64 5, .int .u64 (n : Int), .string t] 31) = wa at *
  have a2 : wa.cell? ⟨w.heap.size, 2, none⟩ = some (.string t) := hB.cell 2
  go_region_held3 (fun w' => w'.cell? ⟨w.heap.size, 2, none⟩ = some (.string t)) (go_keep)
    (first
      | (go_at_call 23; refine (text_any b X l s _ (show IsR wa.drew b X l s from hR1)).mono ?_; rintro e w1 ⟨rfl, hR2, hg'⟩
         have hg : wa.grownBy w1 (some b) := grown_undrew hg'
         clear hg'
         have b2 : w1.cell? ⟨w.heap.size, 2, none⟩ = some (.string t) := (hB.same (same_grown hg) ⟨hB.lt, fun e => hne (Option.some.inj e)⟩).cell 2))
  go_wp2
  go_ret
  refine ⟨rfl, hR2, M.grown_trans hg0 hg⟩

set_option maxHeartbeats 2000000 in
theorem is_0 (hR : IsR w b X l s) (hl : l.length ≤ 140737488355328) (ht : t.size ≤ 65535) (q : Int) (hq1 : -9223372036854775808 ≤ q) (hq2 : q ≤ 9223372036854775807) (h1 : (q == 1) = false) (h2 : (q == 2) = false) (h3 : (q == 3) = false) (h4 : (q == 4) = false) (h5 : (q == 5) = false) :
    Calls Try.prog 31 #[.pointer (some ⟨b, 0, none⟩), .agg #[.int .i64 q, .int .u64 (n : Int), .string t]] w (IsPost b X w ((nextOf l s t.size).1 == t.toList) (nextOf l s t.size)) := by
  go_enter Try.func31, Try.ntmps31
  go_wp2
  have hR1 := hR.below ((Below.refl _ _).alloc (Nat.le_refl _) (.cells #[.int .i64 q, .int .u64 (n : Int), .string t] 31))
  have hB := Blk.new w 31 #[.int .i64 q, .int .u64 (n : Int), .string t]
  have hg0 := World.grownBy_alloc w (.cells #[.int .i64 q, .int .u64 (n : Int), .string t] 31) (some b)
  have hne : w.heap.size ≠ b := by have := hR.lt; omega
  generalize w.alloc (.cells #[.int .i64 q, .int .u64 (n : Int), .string t] 31) = wa at *
  have a2 : wa.cell? ⟨w.heap.size, 2, none⟩ = some (.string t) := hB.cell 2
  go_region_with
    (first
      | (go_at_call 16; refine (take_any b X l s (t.size : Int) _ (show IsR wa.drew b X l s from hR1) (by omega) (by omega) hl).mono ?_; rintro e w1 ⟨v, rfl, ⟨hN, hg'⟩, hR2⟩
         have hg : wa.grownBy w1 (some b) := grown_undrew hg'
         clear hg'
         have hcv := conv_str (P := Try.prog) hN 27 9 5 Try.underlying27 Try.underlying5 Try.underlying9
         have b2 : w1.cell? ⟨w.heap.size, 2, none⟩ = some (.string t) := (hB.same (same_grown hg) ⟨hB.lt, fun e => hne (Option.some.inj e)⟩).cell 2))
  all_goals go_wp2
  all_goals go_ret
  all_goals exact ⟨rfl, hR2, M.grown_trans hg0 hg⟩

end

theorem is_any (b : Nat) (X : Nat → Prop) (l : List UInt8) (s : Bool) (p : P) (w : World) (hR : IsR w b X l s) (hp : p.Ok) (ht : p.text.size ≤ 65535) (hl : l.length ≤ 140737488355328) :
    Calls Try.prog 31 #[.pointer (some ⟨b, 0, none⟩), .agg #[.int .i64 p.what, .int .u64 (p.n : Int), .string p.text]] w (IsPost b X w (sameOf p (readOf p l s).1) (readOf p l s)) := by
  obtain ⟨p1, p2, p3, p4⟩ := hp
  unfold readOf sameOf
  by_cases h1 : p.what = 1
  · simp only [if_pos h1]; rw [h1]; exact is_1 _ _ _ _ _ _ _ hR p3
  by_cases h2 : p.what = 2
  · simp only [if_neg h1, if_pos h2]; rw [h2]; exact is_2 _ _ _ _ _ _ _ hR p3
  by_cases h3 : p.what = 3
  · simp only [if_neg h1, if_neg h2, if_pos h3]; rw [h3]; exact is_3 _ _ _ _ _ _ _ hR p3
  by_cases h4 : p.what = 4
  · simp only [if_neg h1, if_neg h2, if_neg h3, if_pos h4]; rw [h4]; exact is_4 _ _ _ _ _ _ _ hR p3
  by_cases h5 : p.what = 5
  · simp only [if_neg h1, if_neg h2, if_neg h3, if_neg h4, if_pos h5]; rw [h5]; exact is_5 _ _ _ _ _ _ _ hR
  · simp only [if_neg h1, if_neg h2, if_neg h3, if_neg h4, if_neg h5]
    exact is_0 _ _ _ _ _ _ _ hR hl ht _ p1 p2 (beqf h1) (beqf h2) (beqf h3) (beqf h4) (beqf h5)
end Go.Proofs.Ytbpkpkellnldmaa.Is
