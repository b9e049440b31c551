/- The program's Writer: Two, Four, Eight, Text. By an AI agent. -/
import Derived.Test.YtnhomnaamlbnpaaDoorWr
namespace Go.Proofs.YtnhomnaamlbnpaaDoor.Wr
open Go.RowKit Go.Proofs.YtnhomnaamlbnpaaDoor.M Go.Proofs.YtnhomnaamlbnpaaDoor.Byt
set_option linter.unusedVariables false

def be2 (n : Nat) : List UInt8 := [UInt8.ofNat (n / 256), UInt8.ofNat n]

theorem IsW.alloc {w : World} {b : Nat} {X : Nat → Prop} {l : List UInt8} (h : IsW w b X l) (o : Obj) : IsW (w.alloc o) b X l := h.below ((Below.refl _ _).alloc (Nat.le_refl _) _)
theorem xAlloc {w : World} {X : Nat → Prop} (hX : ∀ k, w.heap.size ≤ k → ¬ X k) (o : Obj) : ∀ k, (w.alloc o).heap.size ≤ k → ¬ X k := fun k hk => hX k (by simp at hk; omega)
theorem xLe {w w' : World} {X : Nat → Prop} (hX : ∀ k, w.heap.size ≤ k → ¬ X k) (h : w.heap.size ≤ w'.heap.size) : ∀ k, w'.heap.size ≤ k → ¬ X k := fun k hk => hX k (by omega)
theorem grown_alloc_left {a c : World} {o : Obj} {row : Option Nat} (h : (a.alloc o).grownBy c row) : a.grownBy c row := grown_trans (World.grownBy_alloc a o row) h

set_option maxHeartbeats 800000 in
theorem two_any (b : Nat) (X : Nat → Prop) (l : List UInt8) (n : Nat) (w : World) (hX : ∀ k, w.heap.size ≤ k → ¬ X k) (hw : IsW w b X l) (hn : n < 65536) (hl : l.length + 2 ≤ 140737488355328) :
    Calls Tryd.prog 65 #[.pointer (some ⟨b, 0, none⟩), .int .u16 (n : Int)] w fun e w' => e = .returned (.pointer (some ⟨b, 0, none⟩)) ∧ IsW w' b X (l ++ be2 n) ∧ w.grownBy w' (some b) := by
  go_enter Tryd.func65, Tryd.ntmps65
  go_wp2_with fail
  refine (byte_any b X l (be2 n) _ _ _ (xAlloc hX _) (hw.alloc _) (byts_new w _ _ (be2 n) _ (by simp [be2, maxLen]) ?_) hl).mono ?_
  · simp [be2, UInt8.toNat_ofNat']; omega
  rintro e w1 ⟨rfl, h1, h2⟩
  go_wp2
  go_ret
  exact ⟨rfl, h1, grown_alloc_left h2⟩

def be4 (n : Nat) : List UInt8 := [UInt8.ofNat (n / 16777216), UInt8.ofNat (n / 65536), UInt8.ofNat (n / 256), UInt8.ofNat n]
set_option maxHeartbeats 800000 in
theorem four_any (b : Nat) (X : Nat → Prop) (l : List UInt8) (n : Nat) (w : World) (hX : ∀ k, w.heap.size ≤ k → ¬ X k) (hw : IsW w b X l) (hn : n < 4294967296) (hl : l.length + 4 ≤ 140737488355328) :
    Calls Tryd.prog 34 #[.pointer (some ⟨b, 0, none⟩), .int .u32 (n : Int)] w fun e w' => e = .returned (.pointer (some ⟨b, 0, none⟩)) ∧ IsW w' b X (l ++ be4 n) ∧ w.grownBy w' (some b) := by
  go_enter Tryd.func34, Tryd.ntmps34
  go_wp2_with fail
  refine (byte_any b X l (be4 n) _ _ _ (xAlloc hX _) (hw.alloc _) (byts_new w _ _ (be4 n) _ (by simp [be4, maxLen]) ?_) hl).mono ?_
  · simp [be4, UInt8.toNat_ofNat']; omega
  rintro e w1 ⟨rfl, h1, h2⟩
  go_wp2
  go_ret
  exact ⟨rfl, h1, grown_alloc_left h2⟩

def be8 (n : Nat) : List UInt8 := be4 (n / 4294967296) ++ be4 (n % 4294967296)
set_option maxHeartbeats 800000 in
theorem eight_any (b : Nat) (X : Nat → Prop) (l : List UInt8) (n : Nat) (w : World) (hX : ∀ k, w.heap.size ≤ k → ¬ X k) (hw : IsW w b X l) (hn : n < 18446744073709551616) (hl : l.length + 8 ≤ 140737488355328) :
    Calls Tryd.prog 66 #[.pointer (some ⟨b, 0, none⟩), .int .u64 (n : Int)] w fun e w' => e = .returned (.pointer (some ⟨b, 0, none⟩)) ∧ IsW w' b X (l ++ be8 n) ∧ w.grownBy w' (some b) := by
  go_enter Tryd.func66, Tryd.ntmps66
  go_wp2_with fail
  rw [show ((n : Int) / 4294967296) = ((n / 4294967296 : Nat) : Int) from by omega]
  refine (four_any b X l _ w hX hw (by omega) (by omega)).mono ?_
  rintro e w1 ⟨rfl, h1, h2⟩
  go_wp2_with fail
  rw [show ((n : Int) % 4294967296) = ((n % 4294967296 : Nat) : Int) from by omega]
  refine (four_any b X _ _ _ (xLe hX h2.size) h1 (by omega) (by simp [be4]; omega)).mono ?_
  rintro e w2 ⟨rfl, h3, h4⟩
  go_wp2
  go_ret
  exact ⟨rfl, by rw [be8, ← List.append_assoc]; exact h3, grown_trans h2 h4⟩

set_option maxHeartbeats 800000 in
theorem text_any (b : Nat) (X : Nat → Prop) (l : List UInt8) (s : ByteArray) (w : World) (hX : ∀ k, w.heap.size ≤ k → ¬ X k) (hw : IsW w b X l) (hs : s.size ≤ 65535) (hl : l.length + 2 + s.size ≤ 140737488355328) :
    Calls Tryd.prog 45 #[.pointer (some ⟨b, 0, none⟩), .string s] w fun e w' => e = .returned (.pointer (some ⟨b, 0, none⟩)) ∧ IsW w' b X (l ++ (be2 s.size ++ s.data.toList)) ∧ w.grownBy w' (some b) := by
  go_enter Tryd.func45, Tryd.ntmps45
  go_wp2_with fail
  refine (two_any b X l s.size w hX hw (by omega) (by omega)).mono ?_
  rintro e w1 ⟨rfl, h1, h2⟩
  obtain ⟨c, w2, hrun, hB, hbel, hz⟩ := conv_bytes w1 _ _ _ s Tryd.underlying9 Tryd.underlying22 Tryd.underlying5 (by unfold maxLen; omega)
  go_wp2_with fail
  have hsl : s.data.toList.length = s.size := by rw [Array.length_toList]; rfl
  refine (byte_any b X _ s.data.toList _ _ w2 (xLe hX (Nat.le_trans h2.size hbel.size)) (h1.below hbel) hB (by simp [be2]; omega)).mono ?_
  rintro e w3 ⟨rfl, h3, h4⟩
  go_wp2
  go_ret
  exact ⟨rfl, by rw [← List.append_assoc]; exact h3, grown_trans h2 (grown_trans (grown_below hbel _) h4)⟩
end Go.Proofs.YtnhomnaamlbnpaaDoor.Wr
