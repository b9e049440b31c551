/- The program's Writer: what it holds, and what each call of it does. By an AI agent. -/
import Derived.Deep.RegionHeld3
import Derived.Deep.RegionWith
import Derived.Test.YtnhomnaamlbnpaaDoorProg
import Derived.Test.YtnhomnaamlbnpaaDoorShelf
import Derived.Test.YtnhomnaamlbnpaaDoorM
namespace Go.Proofs.YtnhomnaamlbnpaaDoor.Byt
open Go.RowKit Go.Proofs.YtnhomnaamlbnpaaDoor.M
set_option linter.unusedVariables false

theorem clone_any (v : Value) (l : List UInt8) (S : Nat → Prop) (w : World) (hv : Byts w S v l) (hbig : l.length ≤ 140737488355328) :
    Calls Tryd.prog 23 #[v] w fun e w' => ∃ A c, e = .returned (.slice A l.length c) ∧ Byts w' (fun k => w.heap.size ≤ k ∧ k < w'.heap.size) (.slice A l.length c) l ∧ Below w.heap.size w w' := by
  obtain ⟨A, n, c, rfl, rfl, hnc, hm, h0, hc⟩ := hv
  rcases A with _ | a
  · have hz := h0 rfl
    refine (Tryd.bytes_Clone_nil _ _ _).mono ?_
    rintro e w' ⟨rfl, rfl⟩
    have : l = [] := List.eq_nil_of_length_eq_zero hz
    subst this
    exact ⟨none, 0, rfl, Byts.nil_ _ _ _, Below.refl _ _⟩
  · refine (Tryd.bytes_Clone_at a l.length c (nums l) w (nums_length l) hbig ?_).mono ?_
    · intro i hi
      have hx := List.getElem?_eq_getElem hi
      rw [nums_getD l i _ hx]
      exact (hc a rfl (by omega)).2 i _ hx
    · rintro e w' ⟨v', rfl, hown, hne, hb⟩
      have hB := byts_of_own (l := l) hown (by simp [nums])
      obtain ⟨A', n', c', rfl, hl', hr⟩ := hB
      subst hl'
      exact ⟨A', c', rfl, ⟨A', l.length, c', rfl, rfl, hr⟩, hb⟩

theorem clone_own (v : Value) (l : List UInt8) (S : Nat → Prop) (w : World) (hv : Byts w S v l) (hbig : l.length ≤ 140737488355328) :
    Calls Tryd.prog 23 #[v] w fun e w' => ∃ v', e = .returned v' ∧ w'.ownsRow w.heap.size 5 1 v' l.length (l.map fun b => Value.int .u8 (b.toNat : Int)) ∧ Below w.heap.size w w' := by
  obtain ⟨A, n, c, rfl, rfl, hnc, hm, h0, hc⟩ := hv
  rcases A with _ | a
  · have hz := h0 rfl
    refine (Tryd.bytes_Clone_nil _ _ _).mono ?_
    rintro e w' ⟨rfl, rfl⟩
    have : l = [] := List.eq_nil_of_length_eq_zero hz
    subst this
    exact ⟨_, rfl, World.ownsRow_nil _ _ _ _, Below.refl _ _⟩
  · refine (Tryd.bytes_Clone_at a l.length c (nums l) w (nums_length l) hbig ?_).mono ?_
    · intro i hi
      have hx := List.getElem?_eq_getElem hi
      rw [nums_getD l i _ hx]
      exact (hc a rfl (by omega)).2 i _ hx
    · rintro e w' ⟨v', rfl, hown, hne, hb⟩
      have e : (nums l).map (Value.int .u8) = l.map fun b => Value.int .u8 (b.toNat : Int) := by simp [nums]
      rw [e] at hown
      exact ⟨v', rfl, hown, hb⟩

end Go.Proofs.YtnhomnaamlbnpaaDoor.Byt
namespace Go.Proofs.YtnhomnaamlbnpaaDoor.Wr
open Go.RowKit Go.Proofs.YtnhomnaamlbnpaaDoor.M Go.Proofs.YtnhomnaamlbnpaaDoor.Byt
set_option linter.unusedVariables false

/-- the pieces that were laid, in blocks of S -/
inductive Chain (w : World) (S : Nat → Prop) : Value → List UInt8 → Prop
  | nil : Chain w S (.pointer none) []
  | cons {g : Nat} {ahead bs : Value} {l x : List UInt8} : S g → Blk w g 106 #[ahead, bs] → Chain w S ahead l → Byts w S bs x → x ≠ [] → Chain w S (.pointer (some ⟨g, 0, none⟩)) (l ++ x)
theorem Chain.same {w w' : World} {S : Nat → Prop} {p : Value} {l : List UInt8} (h : Chain w S p l) (hs : Same S w w') : Chain w' S p l := by
  induction h with
  | nil => exact .nil
  | cons hg hb _ hx hne ih => exact .cons hg (hb.same hs hg) ih (hx.same hs) hne
theorem Chain.sub {w : World} {S T : Nat → Prop} {p : Value} {l : List UInt8} (h : Chain w S p l) (k : ∀ i, S i → T i) : Chain w T p l := by
  induction h with
  | nil => exact .nil
  | cons hg hb _ hx hne ih => exact .cons (k _ hg) hb ih (hx.sub k) hne

theorem Chain.ptr {w : World} {S : Nat → Prop} {p : Value} {l : List UInt8} (h : Chain w S p l) : ∃ q, p = .pointer q := by
  cases h with
  | nil => exact ⟨_, rfl⟩
  | cons => exact ⟨_, rfl⟩

/-- the writer at block b holds the bytes l; its pieces lie behind it, in no block of X -/
def IsW (w : World) (b : Nat) (X : Nat → Prop) (l : List UInt8) : Prop :=
  ∃ last, Blk w b 69 #[last, .int .i64 (l.length : Int), .bool false] ∧ Chain w (fun k => b < k ∧ k < w.heap.size ∧ ¬ X k) last l
theorem IsW.same {w w' : World} {b : Nat} {X : Nat → Prop} {l : List UInt8} (h : IsW w b X l) (hs : Same (fun k => k = b ∨ (b < k ∧ k < w.heap.size ∧ ¬ X k)) w w') (hz : w.heap.size ≤ w'.heap.size) : IsW w' b X l := by
  obtain ⟨last, hb, hc⟩ := h
  exact ⟨last, hb.same hs (.inl rfl), (hc.same (hs.sub fun i hi => .inr hi)).sub fun i hi => ⟨hi.1, by omega, hi.2.2⟩⟩
theorem IsW.lt {w : World} {b : Nat} {X : Nat → Prop} {l : List UInt8} (h : IsW w b X l) : b < w.heap.size := by
  obtain ⟨last, hb, hc⟩ := h
  exact hb.lt
theorem IsW.reX {w : World} {b : Nat} {X Y : Nat → Prop} {l : List UInt8} (h : IsW w b X l) (hk : ∀ k, k < w.heap.size → Y k → X k) : IsW w b Y l := by
  obtain ⟨last, hb, hc⟩ := h
  exact ⟨last, hb, hc.sub fun i hi => ⟨hi.1, hi.2.1, fun hy => hi.2.2 (hk i hi.2.1 hy)⟩⟩
theorem IsW.below {w w' : World} {b : Nat} {X : Nat → Prop} {l : List UInt8} (h : IsW w b X l) (hs : Below w.heap.size w w') : IsW w' b X l :=
  h.same ((same_below hs).sub fun i hi => by
    rcases hi with rfl | hi
    · exact h.lt
    · exact hi.2.1) hs.size

theorem byte_end {w w1 : World} {b c : Nat} {A : Option Addr} {q : Value} {l x : List UInt8} {S X : Nat → Prop} (hX : ∀ k, w.heap.size ≤ k → ¬ X k) (hch : Chain w (fun k => b < k ∧ k < w.heap.size ∧ ¬ X k) q l) (hlt : b < w.heap.size)
    (hB : Blk w1 b 69 #[q, .int .i64 (l.length : Int), .bool false]) (hx : Byts w1 S (.slice A x.length c) x) (hS : ∀ i, S i → w.heap.size ≤ i ∧ i < w1.heap.size) (hbel : Below w.heap.size w w1) (hne : 0 < x.length) :
    IsW (((w1.setCell ⟨b, 0, none⟩ (.pointer (some ⟨w1.heap.size, 0, none⟩))).setCell ⟨b, 1, none⟩ (.int .i64 ((l.length : Int) + (x.length : Int)))).alloc (.cells #[q, .slice A x.length c] 106)) b X (l ++ x) ∧
    w.grownBy (((w1.setCell ⟨b, 0, none⟩ (.pointer (some ⟨w1.heap.size, 0, none⟩))).setCell ⟨b, 1, none⟩ (.int .i64 ((l.length : Int) + (x.length : Int)))).alloc (.cells #[q, .slice A x.length c] 106)) (some b) := by
  have hz := hbel.size
  generalize hW : (w1.setCell ⟨b, 0, none⟩ (.pointer (some ⟨w1.heap.size, 0, none⟩))).setCell ⟨b, 1, none⟩ (.int .i64 ((l.length : Int) + (x.length : Int))) = W
  have hWz : W.heap.size = w1.heap.size := by rw [← hW]; simp [World.setCell]
  have hs : Same (fun k => k ≠ b) w1 W := by
    rw [← hW]
    exact (same_set w1 ⟨b, 0, none⟩ _).trans (same_set _ ⟨b, 1, none⟩ _)
  have hBW : Blk W b 69 #[.pointer (some ⟨w1.heap.size, 0, none⟩), .int .i64 ((l ++ x).length : Int), .bool false] := by
    rw [← hW]
    have := (hB.set_ 0 (.pointer (some ⟨w1.heap.size, 0, none⟩))).set_ 1 (.int .i64 ((l.length : Int) + (x.length : Int)))
    simpa using this
  have hsa := same_alloc W (.cells #[q, .slice A x.length c] 106)
  refine ⟨⟨_, hBW.alloc _, ?_⟩, ?_⟩
  · have hnew := Blk.new W 106 #[q, .slice A x.length c]
    rw [hWz] at hnew
    refine .cons ⟨by omega, by simp; omega, hX _ hz⟩ hnew ?_ ?_ (fun h0 => by rw [h0] at hne; simp at hne)
    · refine ((((hch.same ((same_below hbel).sub fun i hi => hi.2.1)).same (hs.sub fun i hi => by omega)).same (hsa.sub fun i hi => by rw [hWz]; omega)).sub fun i hi => ⟨hi.1, by simp; omega, hi.2.2⟩)
    · refine ((hx.same (hs.sub fun i hi => by have := hS i hi; omega)).same (hsa.sub fun i hi => by rw [hWz]; exact (hS i hi).2)).sub fun i hi => ?_
      have := hS i hi
      exact ⟨by omega, by simp; omega, hX _ this.1⟩
  · refine grown_alloc ?_ _
    rw [← hW]
    exact grown_set (p := ⟨b, 1, none⟩) (grown_set (p := ⟨b, 0, none⟩) (grown_below hbel _) (.inl rfl) _) (.inl rfl) _

set_option maxHeartbeats 800000 in
theorem byte_any (b : Nat) (X : Nat → Prop) (l x : List UInt8) (v : Value) (S : Nat → Prop) (w : World) (hX : ∀ k, w.heap.size ≤ k → ¬ X k) (hw : IsW w b X l) (hv : Byts w S v x) (hl : l.length + x.length ≤ 140737488355328) :
    Calls Tryd.prog 46 #[.pointer (some ⟨b, 0, none⟩), v] w fun e w' => e = .returned (.pointer (some ⟨b, 0, none⟩)) ∧ IsW w' b X (l ++ x) ∧ w.grownBy w' (some b) := by
  obtain ⟨last, hb, hch⟩ := hw
  obtain ⟨q, rfl⟩ := hch.ptr
  have h0 : w.cell? ⟨b, 0, none⟩ = some (.pointer q) := hb.cell 0
  have h1 : w.cell? ⟨b, 1, none⟩ = some (.int .i64 (l.length : Int)) := hb.cell 1
  have h2 : w.cell? ⟨b, 2, none⟩ = some (.bool false) := hb.cell 2
  obtain ⟨A, c, rfl, _, hm, hrow⟩ := hv.row
  unfold maxLen at hm
  rcases Nat.eq_zero_or_pos x.length with hz | hp
  · have hx : x = [] := List.eq_nil_of_length_eq_zero hz
    subst hx
    go_enter Tryd.func46, Tryd.ntmps46
    go_wp2
    go_ret
    exact ⟨rfl, by rw [List.append_nil]; exact ⟨_, hb, hch⟩, World.grownBy.refl _ _⟩
  · have hne : ((x.length : Int) == 0) = false := by rw [beq_eq_false_iff_ne]; omega
    go_enter Tryd.func46, Tryd.ntmps46
    go_wp2
    go_region_with
      (first
       | (go_at_call 23; refine (clone_any _ x S _ hv.drew (by omega)).mono ?_; rintro e w1 ⟨A1, c1, rfl, hb1, hbel'⟩
          have hbel : Below w.heap.size w w1 := undrew hbel'
          clear hbel'
          have hB1 : Blk w1 b 69 #[.pointer q, .int .i64 (l.length : Int), .bool false] := hb.same (same_below hbel) hb.lt
          have q0 : w1.cell? ⟨b, 0, none⟩ = some (.pointer q) := hB1.cell 0
          have q1 : w1.cell? ⟨b, 1, none⟩ = some (.int .i64 (l.length : Int)) := hB1.cell 1
          have q2 : w1.frozen? ⟨b, 0, none⟩ = false := hB1.frozen 0
          have q3 : w1.frozen? ⟨b, 1, none⟩ = false := hB1.frozen 1
          have qz : b < w1.heap.size := hB1.lt))
    all_goals go_wp2
    all_goals go_ret
    all_goals exact ⟨rfl, byte_end hX hch hb.lt hB1 hb1 (fun i hi => hi) hbel hp⟩
end Go.Proofs.YtnhomnaamlbnpaaDoor.Wr
namespace Go.Proofs.YtnhomnaamlbnpaaDoor.Wr
open Go.RowKit Go.Proofs.YtnhomnaamlbnpaaDoor.M Go.Proofs.YtnhomnaamlbnpaaDoor.Byt
set_option linter.unusedVariables false

def be2 (n : Nat) : List UInt8 := [UInt8.ofNat (n / 256), UInt8.ofNat n]

theorem IsW.alloc {w : World} {b : Nat} {X : Nat → Prop} {l : List UInt8} (h : IsW w b X l) (o : Obj) : IsW (w.alloc o) b X l := h.below ((Below.refl _ _).alloc (Nat.le_refl _) _)
theorem xAlloc {w : World} {X : Nat → Prop} (hX : ∀ k, w.heap.size ≤ k → ¬ X k) (o : Obj) : ∀ k, (w.alloc o).heap.size ≤ k → ¬ X k := fun k hk => hX k (by simp at hk; omega)
theorem xLe {w w' : World} {X : Nat → Prop} (hX : ∀ k, w.heap.size ≤ k → ¬ X k) (h : w.heap.size ≤ w'.heap.size) : ∀ k, w'.heap.size ≤ k → ¬ X k := fun k hk => hX k (by omega)
theorem grown_alloc_left {a c : World} {o : Obj} {row : Option Nat} (h : (a.alloc o).grownBy c row) : a.grownBy c row := grown_trans (World.grownBy_alloc a o row) h

set_option maxHeartbeats 800000 in
theorem two_any (b : Nat) (X : Nat → Prop) (l : List UInt8) (n : Nat) (w : World) (hX : ∀ k, w.heap.size ≤ k → ¬ X k) (hw : IsW w b X l) (hn : n < 65536) (hl : l.length + 2 ≤ 140737488355328) :
    Calls Tryd.prog 65 #[.pointer (some ⟨b, 0, none⟩), .int .u16 (n : Int)] w fun e w' => e = .returned (.pointer (some ⟨b, 0, none⟩)) ∧ IsW w' b X (l ++ be2 n) ∧ w.grownBy w' (some b) := by
  go_enter Tryd.func65, Tryd.ntmps65
  go_wp2_with fail
  refine (byte_any b X l (be2 n) _ _ _ (xAlloc hX _) (hw.alloc _) (byts_new w _ _ (be2 n) _ (by simp [be2, maxLen]) ?_) hl).mono ?_
  · simp [be2, UInt8.toNat_ofNat']; omega
  rintro e w1 ⟨rfl, h1, h2⟩
  go_wp2
  go_ret
  exact ⟨rfl, h1, grown_alloc_left h2⟩

def be4 (n : Nat) : List UInt8 := [UInt8.ofNat (n / 16777216), UInt8.ofNat (n / 65536), UInt8.ofNat (n / 256), UInt8.ofNat n]
set_option maxHeartbeats 800000 in
theorem four_any (b : Nat) (X : Nat → Prop) (l : List UInt8) (n : Nat) (w : World) (hX : ∀ k, w.heap.size ≤ k → ¬ X k) (hw : IsW w b X l) (hn : n < 4294967296) (hl : l.length + 4 ≤ 140737488355328) :
    Calls Tryd.prog 34 #[.pointer (some ⟨b, 0, none⟩), .int .u32 (n : Int)] w fun e w' => e = .returned (.pointer (some ⟨b, 0, none⟩)) ∧ IsW w' b X (l ++ be4 n) ∧ w.grownBy w' (some b) := by
  go_enter Tryd.func34, Tryd.ntmps34
  go_wp2_with fail
  refine (byte_any b X l (be4 n) _ _ _ (xAlloc hX _) (hw.alloc _) (byts_new w _ _ (be4 n) _ (by simp [be4, maxLen]) ?_) hl).mono ?_
  · simp [be4, UInt8.toNat_ofNat']; omega
  rintro e w1 ⟨rfl, h1, h2⟩
  go_wp2
  go_ret
  exact ⟨rfl, h1, grown_alloc_left h2⟩

def be8 (n : Nat) : List UInt8 := be4 (n / 4294967296) ++ be4 (n % 4294967296)
set_option maxHeartbeats 800000 in
theorem eight_any (b : Nat) (X : Nat → Prop) (l : List UInt8) (n : Nat) (w : World) (hX : ∀ k, w.heap.size ≤ k → ¬ X k) (hw : IsW w b X l) (hn : n < 18446744073709551616) (hl : l.length + 8 ≤ 140737488355328) :
    Calls Tryd.prog 66 #[.pointer (some ⟨b, 0, none⟩), .int .u64 (n : Int)] w fun e w' => e = .returned (.pointer (some ⟨b, 0, none⟩)) ∧ IsW w' b X (l ++ be8 n) ∧ w.grownBy w' (some b) := by
  go_enter Tryd.func66, Tryd.ntmps66
  go_wp2_with fail
  rw [show ((n : Int) / 4294967296) = ((n / 4294967296 : Nat) : Int) from by omega]
  refine (four_any b X l _ w hX hw (by omega) (by omega)).mono ?_
  rintro e w1 ⟨rfl, h1, h2⟩
  go_wp2_with fail
  rw [show ((n : Int) % 4294967296) = ((n % 4294967296 : Nat) : Int) from by omega]
  refine (four_any b X _ _ _ (xLe hX h2.size) h1 (by omega) (by simp [be4]; omega)).mono ?_
  rintro e w2 ⟨rfl, h3, h4⟩
  go_wp2
  go_ret
  exact ⟨rfl, by rw [be8, ← List.append_assoc]; exact h3, grown_trans h2 h4⟩

set_option maxHeartbeats 800000 in
theorem text_any (b : Nat) (X : Nat → Prop) (l : List UInt8) (s : ByteArray) (w : World) (hX : ∀ k, w.heap.size ≤ k → ¬ X k) (hw : IsW w b X l) (hs : s.size ≤ 65535) (hl : l.length + 2 + s.size ≤ 140737488355328) :
    Calls Tryd.prog 45 #[.pointer (some ⟨b, 0, none⟩), .string s] w fun e w' => e = .returned (.pointer (some ⟨b, 0, none⟩)) ∧ IsW w' b X (l ++ (be2 s.size ++ s.data.toList)) ∧ w.grownBy w' (some b) := by
  go_enter Tryd.func45, Tryd.ntmps45
  go_wp2_with fail
  refine (two_any b X l s.size w hX hw (by omega) (by omega)).mono ?_
  rintro e w1 ⟨rfl, h1, h2⟩
  obtain ⟨c, w2, hrun, hB, hbel, hz⟩ := conv_bytes w1 _ _ _ s Tryd.underlying9 Tryd.underlying22 Tryd.underlying5 (by unfold maxLen; omega)
  go_wp2_with fail
  have hsl : s.data.toList.length = s.size := by rw [Array.length_toList]; rfl
  refine (byte_any b X _ s.data.toList _ _ w2 (xLe hX (Nat.le_trans h2.size hbel.size)) (h1.below hbel) hB (by simp [be2]; omega)).mono ?_
  rintro e w3 ⟨rfl, h3, h4⟩
  go_wp2
  go_ret
  exact ⟨rfl, by rw [← List.append_assoc]; exact h3, grown_trans h2 (grown_trans (grown_below hbel _) h4)⟩
end Go.Proofs.YtnhomnaamlbnpaaDoor.Wr
