/- The program's Writer: what it holds, and what each call of it does. By an AI agent. -/
import Derived.Test.YtnhomnaamlbnpaaDoorByt
import Derived.Deep.RegionHeld3
import Derived.Deep.RegionWith
namespace Go.Proofs.YtnhomnaamlbnpaaDoor.Wr
open Go.RowKit Go.Proofs.YtnhomnaamlbnpaaDoor.M Go.Proofs.YtnhomnaamlbnpaaDoor.Byt
set_option linter.unusedVariables false

/-- the pieces that were laid, in blocks of S -/
inductive Chain (w : World) (S : Nat → Prop) : Value → List UInt8 → Prop
  | nil : Chain w S (.pointer none) []
  | cons {g : Nat} {ahead bs : Value} {l x : List UInt8} : S g → Blk w g 106 #[ahead, bs] → Chain w S ahead l → Byts w S bs x → x ≠ [] → Chain w S (.pointer (some ⟨g, 0, none⟩)) (l ++ x)
theorem Chain.same {w w' : World} {S : Nat → Prop} {p : Value} {l : List UInt8} (h : Chain w S p l) (hs : Same S w w') : Chain w' S p l := by
  induction h with
  | nil => exact .nil
  | cons hg hb _ hx hne ih => exact .cons hg (hb.same hs hg) ih (hx.same hs) hne
theorem Chain.sub {w : World} {S T : Nat → Prop} {p : Value} {l : List UInt8} (h : Chain w S p l) (k : ∀ i, S i → T i) : Chain w T p l := by
  induction h with
  | nil => exact .nil
  | cons hg hb _ hx hne ih => exact .cons (k _ hg) hb ih (hx.sub k) hne

theorem Chain.ptr {w : World} {S : Nat → Prop} {p : Value} {l : List UInt8} (h : Chain w S p l) : ∃ q, p = .pointer q := by
  cases h with
  | nil => exact ⟨_, rfl⟩
  | cons => exact ⟨_, rfl⟩

/-- the writer at block b holds the bytes l; its pieces lie behind it, in no block of X -/
def IsW (w : World) (b : Nat) (X : Nat → Prop) (l : List UInt8) : Prop :=
  ∃ last, Blk w b 69 #[last, .int .i64 (l.length : Int), .bool false] ∧ Chain w (fun k => b < k ∧ k < w.heap.size ∧ ¬ X k) last l
theorem IsW.same {w w' : World} {b : Nat} {X : Nat → Prop} {l : List UInt8} (h : IsW w b X l) (hs : Same (fun k => k = b ∨ (b < k ∧ k < w.heap.size ∧ ¬ X k)) w w') (hz : w.heap.size ≤ w'.heap.size) : IsW w' b X l := by
  obtain ⟨last, hb, hc⟩ := h
  exact ⟨last, hb.same hs (.inl rfl), (hc.same (hs.sub fun i hi => .inr hi)).sub fun i hi => ⟨hi.1, by omega, hi.2.2⟩⟩
theorem IsW.lt {w : World} {b : Nat} {X : Nat → Prop} {l : List UInt8} (h : IsW w b X l) : b < w.heap.size := by
  obtain ⟨last, hb, hc⟩ := h
  exact hb.lt
theorem IsW.reX {w : World} {b : Nat} {X Y : Nat → Prop} {l : List UInt8} (h : IsW w b X l) (hk : ∀ k, k < w.heap.size → Y k → X k) : IsW w b Y l := by
  obtain ⟨last, hb, hc⟩ := h
  exact ⟨last, hb, hc.sub fun i hi => ⟨hi.1, hi.2.1, fun hy => hi.2.2 (hk i hi.2.1 hy)⟩⟩
theorem IsW.below {w w' : World} {b : Nat} {X : Nat → Prop} {l : List UInt8} (h : IsW w b X l) (hs : Below w.heap.size w w') : IsW w' b X l :=
  h.same ((same_below hs).sub fun i hi => by
    rcases hi with rfl | hi
    · exact h.lt
    · exact hi.2.1) hs.size

theorem byte_end {w w1 : World} {b c : Nat} {A : Option Addr} {q : Value} {l x : List UInt8} {S X : Nat → Prop} (hX : ∀ k, w.heap.size ≤ k → ¬ X k) (hch : Chain w (fun k => b < k ∧ k < w.heap.size ∧ ¬ X k) q l) (hlt : b < w.heap.size)
    (hB : Blk w1 b 69 #[q, .int .i64 (l.length : Int), .bool false]) (hx : Byts w1 S (.slice A x.length c) x) (hS : ∀ i, S i → w.heap.size ≤ i ∧ i < w1.heap.size) (hbel : Below w.heap.size w w1) (hne : 0 < x.length) :
    IsW (((w1.setCell ⟨b, 0, none⟩ (.pointer (some ⟨w1.heap.size, 0, none⟩))).setCell ⟨b, 1, none⟩ (.int .i64 ((l.length : Int) + (x.length : Int)))).alloc (.cells #[q, .slice A x.length c] 106)) b X (l ++ x) ∧
    w.grownBy (((w1.setCell ⟨b, 0, none⟩ (.pointer (some ⟨w1.heap.size, 0, none⟩))).setCell ⟨b, 1, none⟩ (.int .i64 ((l.length : Int) + (x.length : Int)))).alloc (.cells #[q, .slice A x.length c] 106)) (some b) := by
  have hz := hbel.size
  generalize hW : (w1.setCell ⟨b, 0, none⟩ (.pointer (some ⟨w1.heap.size, 0, none⟩))).setCell ⟨b, 1, none⟩ (.int .i64 ((l.length : Int) + (x.length : Int))) = W
  have hWz : W.heap.size = w1.heap.size := by rw [← hW]; simp [World.setCell]
  have hs : Same (fun k => k ≠ b) w1 W := by
    rw [← hW]
    exact (same_set w1 ⟨b, 0, none⟩ _).trans (same_set _ ⟨b, 1, none⟩ _)
  have hBW : Blk W b 69 #[.pointer (some ⟨w1.heap.size, 0, none⟩), .int .i64 ((l ++ x).length : Int), .bool false] := by
    rw [← hW]
    have := (hB.set_ 0 (.pointer (some ⟨w1.heap.size, 0, none⟩))).set_ 1 (.int .i64 ((l.length : Int) + (x.length : Int)))
    simpa using this
  have hsa := same_alloc W (.cells #[q, .slice A x.length c] 106)
  refine ⟨⟨_, hBW.alloc _, ?_⟩, ?_⟩
  · have hnew := Blk.new W 106 #[q, .slice A x.length c]
    rw [hWz] at hnew
    refine .cons ⟨by omega, by simp; omega, hX _ hz⟩ hnew ?_ ?_ (fun h0 => by rw [h0] at hne; simp at hne)
    · refine ((((hch.same ((same_below hbel).sub fun i hi => hi.2.1)).same (hs.sub fun i hi => by omega)).same (hsa.sub fun i hi => by rw [hWz]; omega)).sub fun i hi => ⟨hi.1, by simp; omega, hi.2.2⟩)
    · refine ((hx.same (hs.sub fun i hi => by have := hS i hi; omega)).same (hsa.sub fun i hi => by rw [hWz]; exact (hS i hi).2)).sub fun i hi => ?_
      have := hS i hi
      exact ⟨by omega, by simp; omega, hX _ this.1⟩
  · refine grown_alloc ?_ _
    rw [← hW]
    exact grown_set (p := ⟨b, 1, none⟩) (grown_set (p := ⟨b, 0, none⟩) (grown_below hbel _) (.inl rfl) _) (.inl rfl) _

set_option maxHeartbeats 800000 in
theorem byte_any (b : Nat) (X : Nat → Prop) (l x : List UInt8) (v : Value) (S : Nat → Prop) (w : World) (hX : ∀ k, w.heap.size ≤ k → ¬ X k) (hw : IsW w b X l) (hv : Byts w S v x) (hl : l.length + x.length ≤ 140737488355328) :
    Calls Tryd.prog 46 #[.pointer (some ⟨b, 0, none⟩), v] w fun e w' => e = .returned (.pointer (some ⟨b, 0, none⟩)) ∧ IsW w' b X (l ++ x) ∧ w.grownBy w' (some b) := by
  obtain ⟨last, hb, hch⟩ := hw
  obtain ⟨q, rfl⟩ := hch.ptr
  have h0 : w.cell? ⟨b, 0, none⟩ = some (.pointer q) := hb.cell 0
  have h1 : w.cell? ⟨b, 1, none⟩ = some (.int .i64 (l.length : Int)) := hb.cell 1
  have h2 : w.cell? ⟨b, 2, none⟩ = some (.bool false) := hb.cell 2
  obtain ⟨A, c, rfl, _, hm, hrow⟩ := hv.row
  unfold maxLen at hm
  rcases Nat.eq_zero_or_pos x.length with hz | hp
  · have hx : x = [] := List.eq_nil_of_length_eq_zero hz
    subst hx
    go_enter Tryd.func46, Tryd.ntmps46
    go_wp2
    go_ret
    exact ⟨rfl, by rw [List.append_nil]; exact ⟨_, hb, hch⟩, World.grownBy.refl _ _⟩
  · have hne : ((x.length : Int) == 0) = false := by rw [beq_eq_false_iff_ne]; omega
    go_enter Tryd.func46, Tryd.ntmps46
    go_wp2
    go_region_with
      (first
       | (go_at_call 23; refine (clone_any _ x S _ hv.drew (by omega)).mono ?_; rintro e w1 ⟨A1, c1, rfl, hb1, hbel'⟩
          have hbel : Below w.heap.size w w1 := undrew hbel'
          clear hbel'
          have hB1 : Blk w1 b 69 #[.pointer q, .int .i64 (l.length : Int), .bool false] := hb.same (same_below hbel) hb.lt
          have q0 : w1.cell? ⟨b, 0, none⟩ = some (.pointer q) := hB1.cell 0
          have q1 : w1.cell? ⟨b, 1, none⟩ = some (.int .i64 (l.length : Int)) := hB1.cell 1
          have q2 : w1.frozen? ⟨b, 0, none⟩ = false := hB1.frozen 0
          have q3 : w1.frozen? ⟨b, 1, none⟩ = false := hB1.frozen 1
          have qz : b < w1.heap.size := hB1.lt))
    all_goals go_wp2
    all_goals go_ret
    all_goals exact ⟨rfl, byte_end hX hch hb.lt hB1 hb1 (fun i hi => hi) hbel hp⟩
end Go.Proofs.YtnhomnaamlbnpaaDoor.Wr
