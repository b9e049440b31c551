/- The walk of ScribeKnown. By an AI agent. -/
import Derived.Test.YtbpkpkellnldmaaOpen
import Derived.Test.YtbpkpkellnldmaaWakes
import Derived.Test.YtbpkpkellnldmaaRd3
namespace Go.Proofs.Ytbpkpkellnldmaa.Walks
open Go.RowKit Go.Proofs.Ytbpkpkellnldmaa.M Go.Proofs.Ytbpkpkellnldmaa.Open Go.Proofs.Ytbpkpkellnldmaa.Wr Go.Proofs.Ytbpkpkellnldmaa.Byt
set_option linter.unusedVariables false

/-- a writer that could not lay something -/
def IsLong (w : World) (b : Nat) : Prop := Blk w b 25 #[.pointer none, .int .i64 0, .bool true]

/- Byte on no writer makes one -/
set_option maxHeartbeats 800000 in
theorem byte_none (x : List UInt8) (v : Value) (S : Nat → Prop) (w : World) (hv : Byts w S v x) (hS : ∀ i, S i → i < w.heap.size) (hl : x.length ≤ 1000) (hp : 0 < x.length) :
    Calls Try.prog 34 #[.pointer none, v] w fun e w' => ∃ b, e = .returned (.pointer (some ⟨b, 0, none⟩)) ∧ IsW w' b (fun _ => False) x ∧ Below w.heap.size w w' ∧ w.heap.size ≤ b := by
  obtain ⟨A, c, rfl, _, hm, hrow⟩ := hv.row
  unfold maxLen at hm
  have hne : ((x.length : Int) == 0) = false := by rw [beq_eq_false_iff_ne]; omega
  have HR := Lib.hid hrow
  clear hrow
  go_enter Try.func34, Try.ntmps34
  go_wp2_with fail
  have hW0 := isW_new w (fun _ => False)
  have hb := Blk.new w 25 #[.pointer none, .int .i64 0, .bool false]
  have hb0 : Below w.heap.size w (w.alloc (.cells #[.pointer none, .int .i64 0, .bool false] 25)) := (Below.refl _ _).alloc (Nat.le_refl _) _
  have hva := hv.same ((same_below hb0).sub fun i hi => hS i hi)
  generalize hbb : w.heap.size = b at *
  have HBB := Lib.hid hbb
  clear hbb
  generalize w.alloc (.cells #[.pointer none, .int .i64 0, .bool false] 25) = wa at *
  have h0 : wa.cell? ⟨b, 0, none⟩ = some (.pointer none) := hb.cell 0
  go_region_with
    (first
     | (go_at_call 32; refine (clone_any _ x S _ hva.drew (by omega)).mono ?_; rintro e w1 ⟨A1, c1, rfl, hb1, hbel'⟩
        have hbel : Below wa.heap.size wa w1 := undrew hbel'
        clear hbel'
        have hB1 : Blk w1 b 25 #[.pointer none, .int .i64 0, .bool false] := hb.same (same_below hbel) hb.lt
        have q0 : w1.cell? ⟨b, 0, none⟩ = some (.pointer none) := hB1.cell 0
        have q1 : w1.cell? ⟨b, 1, none⟩ = some (.int .i64 0) := hB1.cell 1
        have q2 : w1.frozen? ⟨b, 0, none⟩ = false := hB1.frozen 0
        have q3 : w1.frozen? ⟨b, 1, none⟩ = false := hB1.frozen 1
        have qz : b < w1.heap.size := hB1.lt))
  all_goals go_wp2
  all_goals go_ret
  all_goals
    have hend := byte_end (l := []) (X := fun _ => False) (fun _ _ h => h) .nil hb.lt hB1 hb1 (fun i hi => hi) hbel hp
    simp only [List.length_nil, Int.natCast_zero, Int.zero_add, List.nil_append] at hend
    exact ⟨_, rfl, hend.1, by rw [HBB.out]; exact hb0.grown hend.2 (by have := hb.lt; omega) (fun g e => by cases e; exact Nat.le_refl _), by rw [HBB.out]; exact Nat.le_refl _⟩

set_option maxHeartbeats 800000 in
theorem two_none (n : Nat) (w : World) (hn : n < 65536) :
    Calls Try.prog 36 #[.pointer none, .int .u16 (n : Int)] w fun e w' => ∃ b, e = .returned (.pointer (some ⟨b, 0, none⟩)) ∧ IsW w' b (fun _ => False) (be2 n) ∧ Below w.heap.size w w' ∧ w.heap.size ≤ b := by
  go_enter Try.func36, Try.ntmps36
  go_wp2_with fail
  refine (byte_none (be2 n) _ _ _ (byts_new (fr := (0, 0)) w _ _ (be2 n) _ (by simp [be2, maxLen]) ?_) (fun i hi => by simp [hi]) (by simp [be2]) (by simp [be2])).mono ?_
  · simp [be2, UInt8.toNat_ofNat']; omega
  rintro e w1 ⟨b, rfl, h1, h2, h3⟩
  have h3' : w.heap.size + 1 ≤ b := by simpa using h3
  go_wp2
  go_ret
  exact ⟨_, rfl, h1, ((Below.refl _ _).alloc (Nat.le_refl _) _).trans (h2.mono (by simp)), by omega⟩

set_option maxHeartbeats 800000 in
theorem text_none (s : ByteArray) (w : World) (hs : s.size ≤ 1000) :
    Calls Try.prog 33 #[.pointer none, .string s] w fun e w' => ∃ b, e = .returned (.pointer (some ⟨b, 0, none⟩)) ∧ IsW w' b (fun _ => False) (be2 s.size ++ s.data.toList) ∧ Below w.heap.size w w' ∧ w.heap.size ≤ b := by
  go_enter Try.func33, Try.ntmps33
  go_wp2_with fail
  refine (two_none s.size w (by omega)).mono ?_
  rintro e w1 ⟨b, rfl, h1, h2, h3⟩
  obtain ⟨c, w2, hrun, hB, hbel, hz⟩ := conv_bytes w1 _ _ _ s Try.underlying9 Try.underlying27 Try.underlying5 (by unfold maxLen; omega)
  have hz1 := h2.size
  go_wp2_with fail
  have hsl : s.data.toList.length = s.size := by rw [Array.length_toList]; rfl
  refine (byte_any b _ _ s.data.toList _ _ w2 (fun _ _ h => h) (h1.below hbel) hB (by simp [be2]; omega)).mono ?_
  rintro e w3 ⟨rfl, h4, h5⟩
  go_wp2
  go_ret
  exact ⟨_, rfl, h4, (h2.trans (hbel.mono (by omega))).grown h5 (by omega) (fun g e => by cases e; exact h3), h3⟩

/- a text that is too long -/
set_option maxHeartbeats 800000 in
theorem text_long (b : Nat) (X : Nat → Prop) (l : List UInt8) (s : ByteArray) (w : World) (hw : IsW w b X l) (hs : 65535 < s.size) (hs2 : s.size ≤ 9223372036854775807) :
    Calls Try.prog 33 #[.pointer (some ⟨b, 0, none⟩), .string s] w fun e w' => e = .returned (.pointer (some ⟨b, 0, none⟩)) ∧ IsLong w' b ∧ w.grownBy w' (some b) := by
  obtain ⟨last, hb, hc⟩ := hw
  obtain ⟨q, rfl⟩ := hc.ptr
  have h0 : w.cell? ⟨b, 0, none⟩ = some (.pointer q) := hb.cell 0
  have h1 : w.cell? ⟨b, 1, none⟩ = some (.int .i64 (l.length : Int)) := hb.cell 1
  have h2 : w.cell? ⟨b, 2, none⟩ = some (.bool false) := hb.cell 2
  have f0 := hb.frozen 0
  have f1 := hb.frozen 1
  have f2 := hb.frozen 2
  go_enter Try.func33, Try.ntmps33
  go_wp2
  go_ret
  have hB := ((hb.set_ 0 (.pointer none)).set_ 1 (.int .i64 0)).set_ 2 (.bool true)
  refine ⟨rfl, by simpa [IsLong] using hB, grown_set (p := ⟨b, 2, none⟩) (grown_set (p := ⟨b, 1, none⟩) (grown_set (p := ⟨b, 0, none⟩) (World.grownBy.refl _ _) (.inl rfl) _) (.inl rfl) _) (.inl rfl) _⟩

/- what is laid behind it is not laid -/
set_option maxHeartbeats 800000 in
theorem byte_long (b : Nat) (v : Value) (n c : Nat) (A : Option Addr) (w : World) (hv : v = .slice A n c) (hw : IsLong w b) :
    Calls Try.prog 34 #[.pointer (some ⟨b, 0, none⟩), v] w fun e w' => e = .returned (.pointer (some ⟨b, 0, none⟩)) ∧ w = w' := by
  subst hv
  have h2 : w.cell? ⟨b, 2, none⟩ = some (.bool true) := Blk.cell hw 2
  go_enter Try.func34, Try.ntmps34
  go_wp2
  go_ret
  exact ⟨rfl, rfl⟩
set_option maxHeartbeats 800000 in
theorem done_long (b : Nat) (w : World) (hw : IsLong w b) :
    Calls Try.prog 12 #[.pointer (some ⟨b, 0, none⟩)] w fun e w' => e = .returned (.tuple #[.slice none 0 0, .int .i64 3]) ∧ w = w' := by
  have h2 : w.cell? ⟨b, 2, none⟩ = some (.bool true) := Blk.cell hw 2
  go_enter Try.func12, Try.ntmps12
  go_wp2
  refine bodyPost_ret (results_tmp2 rfl _ _ _) rfl ?_
  exact ⟨rfl, rfl⟩

/- of no reader -/
set_option maxHeartbeats 800000 in
theorem err_none (w : World) : Calls Try.prog 28 #[.pointer none] w fun e w' => e = .returned (.int .i64 4) ∧ w = w' := by
  go_enter Try.func28, Try.ntmps28
  go_wp2
  go_ret
  exact ⟨rfl, rfl⟩
set_option maxHeartbeats 800000 in
theorem left_none (w : World) : Calls Try.prog 27 #[.pointer none] w fun e w' => e = .returned (.int .i64 0) ∧ w = w' := by
  go_enter Try.func27, Try.ntmps27
  go_wp2
  go_ret
  exact ⟨rfl, rfl⟩
set_option maxHeartbeats 800000 in
theorem next_none' (n : Int) (w : World) : Calls Try.prog 41 #[.pointer none, .int .i64 n] w fun e w' => e = .returned (.slice none 0 0) ∧ w = w' := by
  go_enter Try.func41, Try.ntmps41
  go_wp2
  go_ret
  exact ⟨rfl, rfl⟩
set_option maxHeartbeats 800000 in
theorem byteR_none (w : World) : Calls Try.prog 18 #[.pointer none] w fun e w' => e = .returned (.int .u8 0) ∧ w = w' := by
  go_enter Try.func18, Try.ntmps18
  go_wp2_with fail
  have hnum : Calls Try.prog 42 #[.pointer none, .int .i64 1] w fun e w' => e = .returned (.int .u64 0) ∧ w = w' := by
    go_enter Try.func42, Try.ntmps42
    go_wp2_with fail
    refine (next_none' 1 w).mono ?_
    rintro e w1 ⟨rfl, rfl⟩
    go_wp2_with fail
    go_loop [5, 12] (fun r i => r = .int .u64 0 ∧ i = .int .i64 0) (fun _ i => 0)
    case atStart => exact ⟨rfl, rfl⟩
    case round =>
      obtain ⟨rfl, rfl⟩ := hrel
      go_wp2
      go_ret
      exact ⟨rfl, rfl⟩
  refine hnum.mono ?_
  rintro e w1 ⟨rfl, rfl⟩
  go_wp2
  go_ret
  exact ⟨rfl, rfl⟩
set_option maxHeartbeats 800000 in
theorem rest_none (w : World) : Calls Try.prog 25 #[.pointer none] w fun e w' => ∃ c, e = .returned (.slice none 0 c) ∧ w = w' := by
  go_enter Try.func25, Try.ntmps25
  go_wp2_with fail
  refine (left_none w).mono ?_
  rintro e w1 ⟨rfl, rfl⟩
  go_wp2_with fail
  have htake : Calls Try.prog 16 #[.pointer none, .int .i64 0] w fun e w' => e = .returned (.slice none 0 0) ∧ w = w' := by
    go_enter Try.func16, Try.ntmps16
    go_wp2_with fail
    refine (next_none' 0 w).mono ?_
    rintro e w1 ⟨rfl, rfl⟩
    go_wp2_with fail
    refine (Try.bytes_Clone_nil _ _ _).mono ?_
    rintro e w' ⟨rfl, rfl⟩
    go_wp2
    go_ret
    exact ⟨rfl, rfl⟩
  refine htake.mono ?_
  rintro e w1 ⟨rfl, rfl⟩
  go_wp2
  go_ret
  exact ⟨_, rfl, rfl⟩
set_option maxHeartbeats 800000 in
theorem new_own (v : Value) (l : List UInt8) (S : Nat → Prop) (g : Nat) (w : World) (hv : Byts w S v l) (hl : l.length ≤ 140737488355328) (hg : g < w.heap.size) :
    Calls Try.prog 15 #[v] w fun e w' => ∃ b, e = .returned (.pointer (some ⟨b, 0, none⟩)) ∧ w.heap.size ≤ b ∧ Rd.IsR w' b (fun k => k = g) l false ∧ Below w.heap.size w w' := by
  obtain ⟨A0, c0, rfl, _⟩ := hv.row
  go_enter Try.func15, Try.ntmps15
  go_wp2_with fail
  refine (clone_any _ l S w hv hl).mono ?_
  rintro e w1 ⟨A, c, rfl, hB, hb⟩
  go_wp2
  go_ret
  have hz := hb.size
  refine ⟨_, rfl, hz, ⟨_, Blk.new w1 _ _, ?_⟩, hb.alloc hz _⟩
  refine (hB.same ((same_alloc w1 _).sub fun i hi => hi.2)).sub fun i hi => ⟨by have := hi.2; omega, by have := hi.2; simp; omega, fun h => by have := hi.1; have h' : i = g := h; omega⟩
end Go.Proofs.Ytbpkpkellnldmaa.Walks
