/- The program's Reader, on: Rest, Text, New; and the reference's Reader. By an AI agent. -/
import Derived.Test.YtbpkpkellnldmaaRd
import Derived.BigQuiet
import Derived.Deep.QuietTactic
namespace Go.Proofs.Ytbpkpkellnldmaa.Rd
open Go.RowKit Go.Proofs.Ytbpkpkellnldmaa.M Go.Proofs.Ytbpkpkellnldmaa.Byt
set_option linter.unusedVariables false

set_option maxHeartbeats 800000 in
theorem rest_any (b : Nat) (X : Nat → Prop) (l : List UInt8) (sh : Bool) (w : World) (hR : IsR w b X l sh) (hl : l.length ≤ 140737488355328) :
    Calls Try.prog 25 #[.pointer (some ⟨b, 0, none⟩)] w fun e w' => ∃ v, e = .returned v ∧ NewBytes w v l w' b ∧ IsR w' b X [] sh := by
  go_enter Try.func25, Try.ntmps25
  go_wp2_with fail
  refine (left_any b X l sh w hR).mono ?_
  rintro e w1 ⟨rfl, rfl⟩
  go_wp2_with fail
  refine (take_any b X l sh l.length w hR (by omega) (by omega) hl).mono ?_
  rintro e w1 ⟨v, rfl, hN, hR1⟩
  have hx : nextOf l sh (l.length : Int).toNat = (l, [], sh) := by simp [nextOf]
  rw [hx] at hN hR1
  go_wp2
  go_ret
  exact ⟨_, rfl, hN, hR1⟩

/-- what Text reads -/
def textOf (l : List UInt8) (sh : Bool) : List UInt8 × List UInt8 × Bool :=
  nextOf (nextOf l sh 2).2.1 (nextOf l sh 2).2.2 (numOf (nextOf l sh 2).1)
set_option maxHeartbeats 800000 in
theorem text_any (b : Nat) (X : Nat → Prop) (l : List UInt8) (sh : Bool) (w : World) (hR : IsR w b X l sh) :
    Calls Try.prog 23 #[.pointer (some ⟨b, 0, none⟩)] w fun e w' => e = .returned (.string ⟨(textOf l sh).1.toArray⟩) ∧ IsR w' b X (textOf l sh).2.1 (textOf l sh).2.2 ∧ w.grownBy w' (some b) := by
  unfold textOf
  have hlt := next_lt l sh 2 65536 (by decide)
  go_enter Try.func23, Try.ntmps23
  go_wp2_with fail
  refine (two_any b X l sh w hR).mono ?_
  rintro e w1 ⟨rfl, hR1, hg1, hz1⟩
  go_wp2_with fail
  refine (next_any b X _ _ _ w1 hR1 (by omega)).mono ?_
  rintro e w2 ⟨v, rfl, hB, hR2, hg2, hz2⟩
  have hcv := conv_str (P := Try.prog) hB 27 9 5 Try.underlying27 Try.underlying5 Try.underlying9
  have HG1 := Lib.hid hg1
  have HG2 := Lib.hid hg2
  clear hg1 hg2 hz1 hz2
  go_wp2
  go_ret
  exact ⟨rfl, hR2, grown_trans HG1.out HG2.out⟩

set_option maxHeartbeats 800000 in
theorem new_any (v : Value) (l : List UInt8) (S : Nat → Prop) (w : World) (hv : Byts w S v l) (hl : l.length ≤ 140737488355328) :
    Calls Try.prog 15 #[v] w fun e w' => ∃ b, e = .returned (.pointer (some ⟨b, 0, none⟩)) ∧ w.heap.size ≤ b ∧ IsR w' b (fun _ => False) l false ∧ Below w.heap.size w w' := by
  obtain ⟨A0, c0, rfl, _⟩ := hv.row
  go_enter Try.func15, Try.ntmps15
  go_wp2_with fail
  refine (clone_any _ l S w hv hl).mono ?_
  rintro e w1 ⟨A, c, rfl, hB, hb⟩
  go_wp2
  go_ret
  have hz := hb.size
  refine ⟨_, rfl, hz, ⟨_, Blk.new w1 _ _, ?_⟩, hb.alloc hz _⟩
  refine (hB.same ((same_alloc w1 _).sub fun i hi => hi.2)).sub fun i hi => ⟨by have := hi.2; omega, by have := hi.2; simp; omega, fun h => h⟩

/-- the reference's reader at block b: of the bytes l, in no block of X, the first k are read -/
def IsF (w : World) (b : Nat) (X : Nat → Prop) (l : List UInt8) (k : Nat) (sh : Bool) : Prop :=
  ∃ v, Blk w b 44 #[v, .int .i64 (k : Int), .bool sh] ∧ Byts w (fun i => i ≠ b ∧ i < w.heap.size ∧ ¬ X i) v l ∧ k ≤ l.length
theorem IsF.lt {w : World} {b : Nat} {X : Nat → Prop} {l : List UInt8} {k : Nat} {sh : Bool} (h : IsF w b X l k sh) : b < w.heap.size := by
  obtain ⟨v, hb, _⟩ := h
  exact hb.lt
theorem IsF.same {w w' : World} {b : Nat} {X : Nat → Prop} {l : List UInt8} {k : Nat} {sh : Bool} (h : IsF w b X l k sh) (hs : Same (fun k => k = b ∨ (k < w.heap.size ∧ ¬ X k)) w w') (hz : w.heap.size ≤ w'.heap.size) : IsF w' b X l k sh := by
  obtain ⟨v, hb, hv, hk⟩ := h
  exact ⟨v, hb.same hs (.inl rfl), (hv.same (hs.sub fun i hi => .inr hi.2)).sub fun i hi => ⟨hi.1, by omega, hi.2.2⟩, hk⟩
theorem IsF.below {w w' : World} {b : Nat} {X : Nat → Prop} {l : List UInt8} {k : Nat} {sh : Bool} (h : IsF w b X l k sh) (hs : Below w.heap.size w w') : IsF w' b X l k sh :=
  h.same ((same_below hs).sub fun i hi => by
    rcases hi with rfl | hi
    · exact h.lt
    · exact hi.1) hs.size

set_option maxHeartbeats 800000 in
theorem refLeft_any (b : Nat) (X : Nat → Prop) (l : List UInt8) (k : Nat) (sh : Bool) (w : World) (hR : IsF w b X l k sh) :
    Calls Try.prog 26 #[.pointer (some ⟨b, 0, none⟩)] w fun e w' => e = .returned (.int .i64 (if sh then 0 else ((l.length - k : Nat) : Int))) ∧ ∃ n, w' = w.drewN n := by
  obtain ⟨v, hb, hv, hk⟩ := hR
  obtain ⟨A, c, rfl, hnc, hm, hrow⟩ := hv.row
  unfold maxLen at hm
  have h0 : w.cell? ⟨b, 0, none⟩ = some (.slice A l.length c) := hb.cell 0
  have h1 : w.cell? ⟨b, 1, none⟩ = some (.int .i64 (k : Int)) := hb.cell 1
  have h2 : w.cell? ⟨b, 2, none⟩ = some (.bool sh) := hb.cell 2
  have e1 : (l.length : Int) - (k : Int) = ((l.length - k : Nat) : Int) := by omega
  have e2 : IntKind.i64.wrap ((l.length - k : Nat) : Int) = ((l.length - k : Nat) : Int) := IntWalk.i64_in _ (by omega)
  clear hrow
  cases sh
  · go_enter Try.func26, Try.ntmps26
    go_wp2
    go_quiet (fail)
    go_wp2
    go_ret
    exact ⟨rfl, nq, rfl⟩
  · go_enter Try.func26, Try.ntmps26
    go_wp2
    go_ret
    exact ⟨rfl, 0, rfl⟩

/-- what the reference's Take leaves -/
def fTake (l : List UInt8) (k : Nat) (sh : Bool) (n : Nat) : List UInt8 × Nat × Bool := if sh = false ∧ n ≤ l.length - k then ((l.drop k).take n, k + n, false) else ([], k, true)
theorem fTake_yes {l : List UInt8} {k n : Nat} (h : n ≤ l.length - k) : fTake l k false n = ((l.drop k).take n, k + n, false) := by simp [fTake, h]
theorem fTake_no {l : List UInt8} {k n : Nat} (h : ¬ n ≤ l.length - k) : fTake l k false n = ([], k, true) := by simp [fTake, h]
theorem fTake_short (l : List UInt8) (k n : Nat) : fTake l k true n = ([], k, true) := by simp [fTake]

/-- a world that has drawn is the one that it was, but for the draws -/
theorem same_drewN {S : Nat → Prop} (w : World) (n : Nat) : Same S w (w.drewN n) := fun _ _ => rfl
theorem grown_drewN {a w : World} {row : Option Nat} (h : a.grownBy w row) (n : Nat) : a.grownBy (w.drewN n) row := ⟨h.os, h.tape, h.output, h.size, h.block⟩

def FPost (b : Nat) (X : Nat → Prop) (l : List UInt8) (w : World) (r : List UInt8 × Nat × Bool) (e : Ending) (w' : World) : Prop :=
  ∃ v, e = .returned v ∧ Byts w' (fun i => i ≠ b ∧ i < w.heap.size) v r.1 ∧ IsF w' b X l r.2.1 r.2.2 ∧ w.grownBy w' (some b) ∧ w'.heap.size = w.heap.size

/-- what is known of the reference's reader and of its bytes, in a world that is the first but for draws and its own block -/
structure FIn (b : Nat) (X : Nat → Prop) (l : List UInt8) (A : Option Addr) (c k : Nat) (sh : Bool) (w w2 : World) : Prop where
  blk : Blk w2 b 44 #[.slice A l.length c, .int .i64 (k : Int), .bool sh]
  byts : Byts w2 (fun i => i ≠ b ∧ i < w.heap.size ∧ ¬ X i) (.slice A l.length c) l
  grown : w.grownBy w2 (some b)
  size : w2.heap.size = w.heap.size
theorem FIn.drewN {b : Nat} {X : Nat → Prop} {l : List UInt8} {A : Option Addr} {c k : Nat} {sh : Bool} {w w2 : World} (h : FIn b X l A c k sh w w2) (n : Nat) : FIn b X l A c k sh w (w2.drewN n) := ⟨h.blk, h.byts, grown_drewN h.grown n, h.size⟩
theorem FIn.set1 {b : Nat} {X : Nat → Prop} {l : List UInt8} {A : Option Addr} {c k : Nat} {sh : Bool} {w w2 : World} (h : FIn b X l A c k sh w w2) (m : Nat) : FIn b X l A c m sh w (w2.setCell ⟨b, 1, none⟩ (.int .i64 (m : Int))) :=
  ⟨by simpa using h.blk.set_ 1 (.int .i64 (m : Int)), h.byts.same ((same_set w2 ⟨b, 1, none⟩ _).sub fun i hi => hi.1), grown_set (p := ⟨b, 1, none⟩) h.grown (.inl rfl) _, by simpa [World.setCell] using h.size⟩
theorem FIn.set2 {b : Nat} {X : Nat → Prop} {l : List UInt8} {A : Option Addr} {c k : Nat} {sh : Bool} {w w2 : World} (h : FIn b X l A c k sh w w2) (u : Bool) : FIn b X l A c k u w (w2.setCell ⟨b, 2, none⟩ (.bool u)) :=
  ⟨by simpa using h.blk.set_ 2 (.bool u), h.byts.same ((same_set w2 ⟨b, 2, none⟩ _).sub fun i hi => hi.1), grown_set (p := ⟨b, 2, none⟩) h.grown (.inl rfl) _, by simpa [World.setCell] using h.size⟩
theorem FIn.isF {b : Nat} {X : Nat → Prop} {l : List UInt8} {A : Option Addr} {c k : Nat} {sh : Bool} {w w2 : World} (h : FIn b X l A c k sh w w2) (hk : k ≤ l.length) : IsF w2 b X l k sh :=
  ⟨_, h.blk, h.byts.sub fun i hi => ⟨hi.1, by rw [h.size]; exact hi.2.1, hi.2.2⟩, hk⟩

theorem byts_mid {w : World} {S : Nat → Prop} {A : Option Addr} {c n : Nat} {l : List UInt8} (h : Byts w S (.slice A n c) l) {i j : Nat} (hij : i ≤ j) (hj : j ≤ n) :
    Byts w S (.slice (if c = i then A else A.map fun x => x.add i) (j - i) (c - i)) ((l.drop i).take (j - i)) := by
  by_cases e : c = i
  · rw [if_pos e]
    have hl := h.len
    obtain ⟨A', n', c', h1, hl, hnc, hm, h0, hc⟩ := h
    cases h1
    exact ⟨A, _, _, rfl, by rw [List.length_take, List.length_drop]; omega, by omega, by omega, (fun _ => by omega), fun ad h2 hp => by omega⟩
  · rw [if_neg e]
    exact (byts_drop_ne h (by omega)).take_ (by omega)

set_option maxHeartbeats 2000000 in
theorem refTake0 (b : Nat) (X : Nat → Prop) (l : List UInt8) (k : Nat) (sh : Bool) (n : Nat) (w : World) (hR : IsF w b X l k sh) (hn : n ≤ 9223372036854775807) :
    Calls Try.prog 17 #[.pointer (some ⟨b, 0, none⟩), .int .i64 (n : Int)] w (FPost b X l w (fTake l k sh n)) := by
  obtain ⟨v, hb, hv, hk⟩ := hR
  obtain ⟨A, c, rfl, hnc, hm, hrow⟩ := hv.row
  unfold maxLen at hm
  have hF : FIn b X l A c k sh w w := ⟨hb, hv, World.grownBy.refl _ _, rfl⟩
  have h0 : w.cell? ⟨b, 0, none⟩ = some (.slice A l.length c) := hb.cell 0
  have h1 : w.cell? ⟨b, 1, none⟩ = some (.int .i64 (k : Int)) := hb.cell 1
  have h2 : w.cell? ⟨b, 2, none⟩ = some (.bool sh) := hb.cell 2
  have e1 : (l.length : Int) - (k : Int) = ((l.length - k : Nat) : Int) := by omega
  have e2 : IntKind.i64.wrap ((l.length - k : Nat) : Int) = ((l.length - k : Nat) : Int) := IntWalk.i64_in _ (by omega)
  have hnn : decide ((n : Int) < 0) = false := by simp
  clear hrow hb hv
  cases sh
  · by_cases hle : n ≤ l.length - k
    · rw [fTake_yes hle]
      have ht : decide (((l.length - k : Nat) : Int) < (n : Int)) = false := by simp; omega
      go_enter Try.func17, Try.ntmps17
      go_wp2
      go_quiet (fail)
      have hF1 := hF.drewN nq
      generalize w.drewN nq = w2 at *
      clear h0 h1 h2 hF
      have h1 : w2.cell? ⟨b, 1, none⟩ = some (.int .i64 (k : Int)) := hF1.blk.cell 1
      have f1 := hF1.blk.frozen 1
      have hkn : ((k : Int) + (n : Int)) = ((k + n : Nat) : Int) := by omega
      have hkn2 : k + n ≤ 9223372036854775807 := by omega
      generalize hkm : k + n = m at *
      have HKM := Lib.hid hkm
      clear hkm
      go_wp2_with fail
      have hF2 := hF1.set1 m
      generalize w2.setCell ⟨b, 1, none⟩ (.int .i64 (m : Int)) = w3 at *
      clear h1 f1 hF1
      have h0 : w3.cell? ⟨b, 0, none⟩ = some (.slice A l.length c) := hF2.blk.cell 0
      have h1 : w3.cell? ⟨b, 1, none⟩ = some (.int .i64 (m : Int)) := hF2.blk.cell 1
      have hml : (m : Int) ≤ (l.length : Int) := by have := HKM.out; omega
      have hmc : (m : Int) ≤ (c : Int) := by omega
      have hk0 : (0 : Int) ≤ (k : Int) := by omega
      have hkm : (k : Int) ≤ (m : Int) := by have := HKM.out; omega
      have hs1 : (m : Int) - (n : Int) = (k : Int) := by have := HKM.out; omega
      have hs2 : IntKind.i64.wrap (k : Int) = (k : Int) := IntWalk.i64_in _ (by omega)
      go_quiet (fail)
      have hF3 := hF2.drewN nq
      generalize w3.drewN nq = w4 at *
      have hmid := byts_mid hF3.byts (i := k) (j := m) (by have := HKM.out; omega) (by have := HKM.out; omega)
      have hmn : m - k = n := by have := HKM.out; omega
      have hmid' : Byts w4 (fun i => i ≠ b ∧ i < w.heap.size ∧ ¬ X i) (.slice (if c = k then A else A.map fun x => x.add k) (m - k) (c - k)) ((l.drop k).take n) := by
        have e := congrArg (fun q => (l.drop k).take q) hmn
        exact e ▸ hmid
      clear hmid hs1 hs2 hkn hmn
      generalize Value.slice (if c = k then A else A.map fun x => x.add k) (m - k) (c - k) = vv at *
      go_wp2
      go_ret
      exact ⟨_, rfl, hmid'.sub (fun i hi => ⟨hi.1, hi.2.1⟩), hF3.isF (by have := HKM.out; omega), hF3.grown, hF3.size⟩
    · rw [fTake_no hle]
      have ht : decide (((l.length - k : Nat) : Int) < (n : Int)) = true := by simp; omega
      go_enter Try.func17, Try.ntmps17
      go_wp2
      go_quiet (fail)
      have hF1 := hF.drewN nq
      generalize w.drewN nq = w2 at *
      have h2' : w2.cell? ⟨b, 2, none⟩ = some (.bool false) := hF1.blk.cell 2
      have f2 := hF1.blk.frozen 2
      go_wp2
      go_ret
      have hF2 := hF1.set2 true
      exact ⟨_, rfl, Byts.nil_ _ _ _, hF2.isF hk, hF2.grown, hF2.size⟩
  · rw [fTake_short]
    go_enter Try.func17, Try.ntmps17
    go_wp2
    go_quiet (fail)
    have hF1 := hF.drewN nq
    generalize w.drewN nq = w2 at *
    have h2' : w2.cell? ⟨b, 2, none⟩ = some (.bool true) := hF1.blk.cell 2
    have f2 := hF1.blk.frozen 2
    go_wp2
    go_ret
    have hF2 := hF1.set2 true
    exact ⟨_, rfl, Byts.nil_ _ _ _, hF2.isF hk, hF2.grown, hF2.size⟩

set_option maxHeartbeats 2000000 in
theorem refTakeNeg (b : Nat) (X : Nat → Prop) (l : List UInt8) (k : Nat) (sh : Bool) (z : Int) (w : World) (hR : IsF w b X l k sh) (hz : z < 0) (hz2 : -9223372036854775808 ≤ z) :
    Calls Try.prog 17 #[.pointer (some ⟨b, 0, none⟩), .int .i64 z] w (FPost b X l w (fTake l k sh 0)) := by
  obtain ⟨v, hb, hv, hk⟩ := hR
  obtain ⟨A, c, rfl, hnc, hm, hrow⟩ := hv.row
  unfold maxLen at hm
  have hF : FIn b X l A c k sh w w := ⟨hb, hv, World.grownBy.refl _ _, rfl⟩
  have h0 : w.cell? ⟨b, 0, none⟩ = some (.slice A l.length c) := hb.cell 0
  have h1 : w.cell? ⟨b, 1, none⟩ = some (.int .i64 (k : Int)) := hb.cell 1
  have h2 : w.cell? ⟨b, 2, none⟩ = some (.bool sh) := hb.cell 2
  have e1 : (l.length : Int) - (k : Int) = ((l.length - k : Nat) : Int) := by omega
  have e2 : IntKind.i64.wrap ((l.length - k : Nat) : Int) = ((l.length - k : Nat) : Int) := IntWalk.i64_in _ (by omega)
  have hnn : decide (z < 0) = true := by simp; omega
  clear hrow hb hv
  cases sh
  · have hle : 0 ≤ l.length - k := Nat.zero_le _
    rw [fTake_yes hle]
    have ht : decide (((l.length - k : Nat) : Int) < (0 : Int)) = false := by simp
    go_enter Try.func17, Try.ntmps17
    go_wp2
    go_quiet (fail)
    have hF1 := hF.drewN nq
    generalize w.drewN nq = w2 at *
    clear h0 h1 h2 hF
    have h1 : w2.cell? ⟨b, 1, none⟩ = some (.int .i64 (k : Int)) := hF1.blk.cell 1
    have f1 := hF1.blk.frozen 1
    have hkn2 : k ≤ 9223372036854775807 := by omega
    go_wp2_with fail
    have hF2 := hF1.set1 k
    generalize w2.setCell ⟨b, 1, none⟩ (.int .i64 (k : Int)) = w3 at *
    clear h1 f1 hF1
    have h0 : w3.cell? ⟨b, 0, none⟩ = some (.slice A l.length c) := hF2.blk.cell 0
    have h1 : w3.cell? ⟨b, 1, none⟩ = some (.int .i64 (k : Int)) := hF2.blk.cell 1
    have hml : (k : Int) ≤ (l.length : Int) := by omega
    have hmc : (k : Int) ≤ (c : Int) := by omega
    have hk0 : (0 : Int) ≤ (k : Int) := by omega
    have hs2 : IntKind.i64.wrap (k : Int) = (k : Int) := IntWalk.i64_in _ (by omega)
    go_quiet (fail)
    have hF3 := hF2.drewN nq
    generalize w3.drewN nq = w4 at *
    have hmid := byts_mid hF3.byts (i := k) (j := k) (Nat.le_refl _) (by omega)
    rw [Nat.sub_self] at hmid
    clear hs2
    generalize Value.slice (if c = k then A else A.map fun x => x.add k) 0 (c - k) = vv at *
    go_wp2
    go_ret
    rw [List.take_zero] at hmid
    exact ⟨_, rfl, by rw [List.take_zero]; exact hmid.sub (fun i hi => ⟨hi.1, hi.2.1⟩), hF3.isF (by omega), hF3.grown, hF3.size⟩
  · rw [fTake_short]
    go_enter Try.func17, Try.ntmps17
    go_wp2
    go_quiet (fail)
    have hF1 := hF.drewN nq
    generalize w.drewN nq = w2 at *
    have h2' : w2.cell? ⟨b, 2, none⟩ = some (.bool true) := hF1.blk.cell 2
    have f2 := hF1.blk.frozen 2
    go_wp2
    go_ret
    have hF2 := hF1.set2 true
    exact ⟨_, rfl, Byts.nil_ _ _ _, hF2.isF hk, hF2.grown, hF2.size⟩

/-- Take, whatever the number -/
theorem refTake_any (b : Nat) (X : Nat → Prop) (l : List UInt8) (k : Nat) (sh : Bool) (z : Int) (w : World) (hR : IsF w b X l k sh) (h1 : -9223372036854775808 ≤ z) (h2 : z ≤ 9223372036854775807) :
    Calls Try.prog 17 #[.pointer (some ⟨b, 0, none⟩), .int .i64 z] w (FPost b X l w (fTake l k sh z.toNat)) := by
  by_cases hz : z < 0
  · rw [show z.toNat = 0 from by omega]
    exact refTakeNeg b X l k sh z w hR hz h1
  · obtain ⟨n, rfl⟩ := Int.eq_ofNat_of_zero_le (by omega : 0 ≤ z)
    exact refTake0 b X l k sh n w hR (by omega)
end Go.Proofs.Ytbpkpkellnldmaa.Rd
