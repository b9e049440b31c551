/- The program's Reader: what it holds, and what each call of it does. By an AI agent. -/
import Derived.Test.YtnhomnaamlbnpaaDoorWr
import Derived.BigQuiet
import Derived.Deep.QuietTactic
namespace Go.Proofs.YtnhomnaamlbnpaaDoor.Rd
open Go.RowKit Go.Proofs.YtnhomnaamlbnpaaDoor.M Go.Proofs.YtnhomnaamlbnpaaDoor.Byt
set_option linter.unusedVariables false

/-- the reader at block b has the bytes l left, in no block of X; it is short, or not -/
def IsR (w : World) (b : Nat) (X : Nat → Prop) (l : List UInt8) (sh : Bool) : Prop :=
  ∃ v, Blk w b 101 #[v, .bool sh] ∧ Byts w (fun k => k ≠ b ∧ k < w.heap.size ∧ ¬ X k) v l
theorem IsR.lt {w : World} {b : Nat} {X : Nat → Prop} {l : List UInt8} {sh : Bool} (h : IsR w b X l sh) : b < w.heap.size := by
  obtain ⟨v, hb, _⟩ := h
  exact hb.lt
theorem IsR.same {w w' : World} {b : Nat} {X : Nat → Prop} {l : List UInt8} {sh : Bool} (h : IsR w b X l sh) (hs : Same (fun k => k = b ∨ (k < w.heap.size ∧ ¬ X k)) w w') (hz : w.heap.size ≤ w'.heap.size) : IsR w' b X l sh := by
  obtain ⟨v, hb, hv⟩ := h
  exact ⟨v, hb.same hs (.inl rfl), (hv.same (hs.sub fun i hi => .inr hi.2)).sub fun i hi => ⟨hi.1, by omega, hi.2.2⟩⟩
theorem IsR.below {w w' : World} {b : Nat} {X : Nat → Prop} {l : List UInt8} {sh : Bool} (h : IsR w b X l sh) (hs : Below w.heap.size w w') : IsR w' b X l sh :=
  h.same ((same_below hs).sub fun i hi => by
    rcases hi with rfl | hi
    · exact h.lt
    · exact hi.1) hs.size
theorem IsR.reX {w : World} {b : Nat} {X Y : Nat → Prop} {l : List UInt8} {sh : Bool} (h : IsR w b X l sh) (hk : ∀ k, k < w.heap.size → Y k → X k) : IsR w b Y l sh := by
  obtain ⟨v, hb, hv⟩ := h
  exact ⟨v, hb, hv.sub fun i hi => ⟨hi.1, hi.2.1, fun hy => hi.2.2 (hk i hi.2.1 hy)⟩⟩

theorem byts_drop_eq {w : World} {S : Nat → Prop} {A : Option Addr} {c n : Nat} {l : List UInt8} (h : Byts w S (.slice A n c) l) {k : Nat} (hk : k ≤ n) (e : c = k) : Byts w S (.slice A (n - k) 0) (l.drop k) := by
  obtain ⟨A', n', c', h1, hl, hnc, hm, h0, hc⟩ := h
  cases h1
  exact ⟨A, _, _, rfl, by rw [List.length_drop, hl], by omega, by omega, (fun h => by have := h0 h; omega), fun ad h2 hp => by omega⟩
theorem byts_drop_ne {w : World} {S : Nat → Prop} {A : Option Addr} {c n : Nat} {l : List UInt8} (h : Byts w S (.slice A n c) l) {k : Nat} (hk : k ≤ n) : Byts w S (.slice (A.map fun x => x.add k) (n - k) (c - k)) (l.drop k) := by
  obtain ⟨A', n', c', h1, hl, hnc, hm, h0, hc⟩ := h
  cases h1
  refine ⟨_, _, _, rfl, by rw [List.length_drop, hl], by omega, by omega, (fun h => by cases A with | none => have := h0 rfl; omega | some a => simp at h), fun ad h2 hp => ?_⟩
  obtain ⟨ad0, rfl, rfl⟩ := Option.map_eq_some_iff.1 h2
  obtain ⟨hs, hcell⟩ := hc ad0 rfl (by omega)
  refine ⟨by rw [M.block_add]; exact hs, fun j x hj => ?_⟩
  rw [List.getElem?_drop] at hj
  rw [M.add_add]
  exact hcell (k + j) x hj

/-- what 'next' leaves -/
def nextOf (l : List UInt8) (sh : Bool) (n : Nat) : List UInt8 × List UInt8 × Bool := if n ≤ l.length then (l.take n, l.drop n, sh) else ([], [], true)

set_option maxHeartbeats 1600000 in
theorem next_any (b : Nat) (X : Nat → Prop) (l : List UInt8) (sh : Bool) (n : Nat) (w : World) (hR : IsR w b X l sh) (hn : n ≤ 9223372036854775807) :
    Calls Tryd.prog 58 #[.pointer (some ⟨b, 0, none⟩), .int .i64 (n : Int)] w fun e w' => ∃ v, e = .returned v ∧ Byts w' (fun k => k ≠ b ∧ k < w.heap.size) v (nextOf l sh n).1 ∧ IsR w' b X (nextOf l sh n).2.1 (nextOf l sh n).2.2 ∧ w.grownBy w' (some b) ∧ w'.heap.size = w.heap.size := by
  obtain ⟨v, hb, hv⟩ := hR
  obtain ⟨A, c, rfl, hnc, hm, hrow⟩ := hv.row
  have h0 : w.cell? ⟨b, 0, none⟩ = some (.slice A l.length c) := hb.cell 0
  have h1 : w.cell? ⟨b, 1, none⟩ = some (.bool sh) := hb.cell 1
  have f0 := hb.frozen 0
  have f1 := hb.frozen 1
  unfold maxLen at hm
  by_cases hle : n ≤ l.length
  · have hn0 : nextOf l sh n = (l.take n, l.drop n, sh) := by simp [nextOf, hle]
    rw [hn0]
    have HRW := Lib.hid hrow
    clear hn0 hrow
    have hx1 : (0 : Int) ≤ (n : Int) := by omega
    have hx2 : (n : Int) ≤ (l.length : Int) := by omega
    have hx3 : (l.length : Int) ≤ (c : Int) := by omega
    have hx4 : (n : Int) ≤ (c : Int) := by omega
    by_cases hcn : c = n
    · subst hcn
      go_enter Tryd.func58, Tryd.ntmps58
      go_wp2
      go_ret
      have hb' := hb.set_ 0 (.slice A 0 0)
      refine ⟨_, rfl, ((hv.take_ hle).same ((same_set w ⟨b, 0, none⟩ _).sub fun i hi => hi.1)).sub fun i hi => ⟨hi.1, hi.2.1⟩, ⟨_, by simpa using hb', ?_⟩, grown_set (p := ⟨b, 0, none⟩) (World.grownBy.refl _ _) (.inl rfl) _, by simp [World.setCell]⟩
      have hd := byts_drop_eq hv hle rfl
      rw [show l.length - c = 0 from by omega] at hd
      exact (hd.same ((same_set w ⟨b, 0, none⟩ _).sub fun i hi => hi.1)).sub fun i hi => ⟨hi.1, by simp [World.setCell]; exact hi.2.1, hi.2.2⟩
    · go_enter Tryd.func58, Tryd.ntmps58
      go_wp2
      go_ret
      have hb' := hb.set_ 0 (.slice (A.map fun x => x.add n) (l.length - n) (c - n))
      refine ⟨_, rfl, ((hv.take_ hle).same ((same_set w ⟨b, 0, none⟩ _).sub fun i hi => hi.1)).sub fun i hi => ⟨hi.1, hi.2.1⟩, ⟨_, by simpa using hb', ?_⟩, grown_set (p := ⟨b, 0, none⟩) (World.grownBy.refl _ _) (.inl rfl) _, by simp [World.setCell]⟩
      exact ((byts_drop_ne hv hle).same ((same_set w ⟨b, 0, none⟩ _).sub fun i hi => hi.1)).sub fun i hi => ⟨hi.1, by simp [World.setCell]; exact hi.2.1, hi.2.2⟩
  · have hn0 : nextOf l sh n = ([], [], true) := by simp [nextOf, hle]
    rw [hn0]
    have HRW := Lib.hid hrow
    clear hn0 hrow
    have hx1 : (l.length : Int) < (n : Int) := by omega
    go_enter Tryd.func58, Tryd.ntmps58
    go_wp2
    go_ret
    have hb' := (hb.set_ 0 (.slice none 0 0)).set_ 1 (.bool true)
    refine ⟨_, rfl, Byts.nil_ _ _ _, ⟨_, by simpa using hb', Byts.nil_ _ _ _⟩, grown_set (p := ⟨b, 1, none⟩) (grown_set (p := ⟨b, 0, none⟩) (World.grownBy.refl _ _) (.inl rfl) _) (.inl rfl) _, by simp [World.setCell]⟩

/-- the number of bytes, the first the highest -/
def numOf (l : List UInt8) : Nat := l.foldl (fun a b => a * 256 + b.toNat) 0
theorem numOf_snoc (l : List UInt8) (b : UInt8) : numOf (l ++ [b]) = numOf l * 256 + b.toNat := by simp [numOf]
theorem numOf_acc : ∀ (l : List UInt8) (a m : Nat), a < 256 ^ m → l.foldl (fun a b => a * 256 + b.toNat) a < 256 ^ (m + l.length)
  | [], a, m, h => by simpa using h
  | b :: l, a, m, h => by
    have h2 := numOf_acc l (a * 256 + b.toNat) (m + 1) (by rw [Nat.pow_succ]; have := b.toNat_lt; omega)
    rw [List.length_cons, show m + (l.length + 1) = m + 1 + l.length from by omega]
    exact h2
theorem numOf_lt (l : List UInt8) : numOf l < 256 ^ l.length := by have := numOf_acc l 0 0 (by simp); rwa [Nat.zero_add] at this
theorem take_more {α : Type} (l : List α) (k : Nat) (x : α) (h : l[k]? = some x) : l.take (k + 1) = l.take k ++ [x] := by
  rw [List.take_add_one, h]; rfl
theorem pow_mono8 {m n : Nat} (h : m ≤ n) : 256 ^ m ≤ 256 ^ n := Nat.pow_le_pow_right (by omega) h

set_option maxHeartbeats 1600000 in
theorem number_any (b : Nat) (X : Nat → Prop) (l : List UInt8) (sh : Bool) (n : Nat) (w : World) (hR : IsR w b X l sh) (hn : n ≤ 8) :
    Calls Tryd.prog 60 #[.pointer (some ⟨b, 0, none⟩), .int .i64 (n : Int)] w fun e w' => e = .returned (.int .u64 (numOf (nextOf l sh n).1 : Nat)) ∧ IsR w' b X (nextOf l sh n).2.1 (nextOf l sh n).2.2 ∧ w.grownBy w' (some b) ∧ w'.heap.size = w.heap.size := by
  go_enter Tryd.func60, Tryd.ntmps60
  go_wp2_with fail
  refine (next_any b X l sh n w hR (by omega)).mono ?_
  rintro e w1 ⟨v, rfl, hB, hR1, hg1, hz1⟩
  have hlen : (nextOf l sh n).1.length ≤ 8 := by
    unfold nextOf
    split
    · simp; omega
    · simp
  generalize hxx : (nextOf l sh n).1 = x at *
  have HXX := Lib.hid hxx
  clear hxx
  obtain ⟨A, c, rfl, hnc, hm, hrow⟩ := hB.row
  have HG := Lib.hid hg1
  have HZ := Lib.hid hz1
  clear hg1 hz1
  go_wp2_with fail
  go_loop [5, 12] (fun r i => ∃ k : Nat, k ≤ x.length ∧ i = .int .i64 k ∧ r = .int .u64 (numOf (x.take k) : Nat)) (fun _ i => x.length - (intOf i).toNat)
  case atStart => exact ⟨0, Nat.zero_le _, rfl, rfl⟩
  case round =>
    obtain ⟨k, hk, rfl, rfl⟩ := hrel
    by_cases hlt : k < x.length
    · have hx := List.getElem?_eq_getElem hlt
      obtain ⟨g, off, rfl, _, hcell⟩ := hrow k _ hx
      have hs := numOf_snoc (x.take k) x[k]
      have hb := numOf_lt (x.take k)
      have hb2 := x[k].toNat_lt
      have hb3 : (x.take k).length ≤ 7 := by rw [List.length_take]; omega
      have hb4 := pow_mono8 hb3
      rw [← take_more x k _ hx] at hs
      generalize x[k].toNat = y at *
      generalize hq : numOf (x.take k) = q at *
      have hq56 : q < 72057594037927936 := by omega
      have e1 : bits .or .u64 ((q : Int) * 256) (y : Int) = ((q * 256 + y : Nat) : Int) := by
        rw [← nat_join 8 (q * 256) y (by omega) (by omega)]
        exact u64_or_nat (q * 256) y (by omega) (by omega)
      have HS := Lib.hid hs
      have HQ := Lib.hid hq
      clear hs hq hrow hb hb4 hx
      go_wp2
      go_round
      case rel => exact ⟨k + 1, by omega, by go_num, by rw [HS.out]; go_num⟩
      case measure => simp [intOf]; omega
    · obtain rfl : k = x.length := by omega
      rw [List.take_of_length_le (Nat.le_refl _)]
      clear hrow
      go_wp2
      go_ret
      exact ⟨by rw [HXX.out]; rfl, hR1, HG.out, HZ.out⟩

theorem next_len (l : List UInt8) (sh : Bool) (n : Nat) : (nextOf l sh n).1.length ≤ n := by
  unfold nextOf
  split
  · simp; omega
  · simp
theorem next_lt (l : List UInt8) (sh : Bool) (n m : Nat) (h : 256 ^ n = m) : numOf (nextOf l sh n).1 < m := by
  have h1 := numOf_lt (nextOf l sh n).1
  have h2 := pow_mono8 (next_len l sh n)
  omega

set_option maxHeartbeats 800000 in
theorem two_any (b : Nat) (X : Nat → Prop) (l : List UInt8) (sh : Bool) (w : World) (hR : IsR w b X l sh) :
    Calls Tryd.prog 59 #[.pointer (some ⟨b, 0, none⟩)] w fun e w' => e = .returned (.int .u16 (numOf (nextOf l sh 2).1 : Nat)) ∧ IsR w' b X (nextOf l sh 2).2.1 (nextOf l sh 2).2.2 ∧ w.grownBy w' (some b) ∧ w'.heap.size = w.heap.size := by
  have hb := next_lt l sh 2 65536 (by decide)
  go_enter Tryd.func59, Tryd.ntmps59
  go_wp2_with fail
  refine (number_any b X l sh 2 w hR (by omega)).mono ?_
  rintro e w1 ⟨rfl, hR1, hg1, hz1⟩
  generalize hq : numOf (nextOf l sh 2).1 = q at *
  have HQ := Lib.hid hq
  clear hq
  have HG := Lib.hid hg1
  have HZ := Lib.hid hz1
  clear hg1 hz1
  go_wp2
  go_ret
  exact ⟨by rw [HQ.out]; rfl, hR1, HG.out, HZ.out⟩

set_option maxHeartbeats 800000 in
theorem four_any (b : Nat) (X : Nat → Prop) (l : List UInt8) (sh : Bool) (w : World) (hR : IsR w b X l sh) :
    Calls Tryd.prog 30 #[.pointer (some ⟨b, 0, none⟩)] w fun e w' => e = .returned (.int .u32 (numOf (nextOf l sh 4).1 : Nat)) ∧ IsR w' b X (nextOf l sh 4).2.1 (nextOf l sh 4).2.2 ∧ w.grownBy w' (some b) ∧ w'.heap.size = w.heap.size := by
  have hb := next_lt l sh 4 4294967296 (by decide)
  go_enter Tryd.func30, Tryd.ntmps30
  go_wp2_with fail
  refine (number_any b X l sh 4 w hR (by omega)).mono ?_
  rintro e w1 ⟨rfl, hR1, hg1, hz1⟩
  generalize hq : numOf (nextOf l sh 4).1 = q at *
  have HQ := Lib.hid hq
  clear hq
  have HG := Lib.hid hg1
  have HZ := Lib.hid hz1
  clear hg1 hz1
  go_wp2
  go_ret
  exact ⟨by rw [HQ.out]; rfl, hR1, HG.out, HZ.out⟩

set_option maxHeartbeats 800000 in
theorem eight_any (b : Nat) (X : Nat → Prop) (l : List UInt8) (sh : Bool) (w : World) (hR : IsR w b X l sh) :
    Calls Tryd.prog 49 #[.pointer (some ⟨b, 0, none⟩)] w fun e w' => e = .returned (.int .u64 (numOf (nextOf l sh 8).1 : Nat)) ∧ IsR w' b X (nextOf l sh 8).2.1 (nextOf l sh 8).2.2 ∧ w.grownBy w' (some b) ∧ w'.heap.size = w.heap.size := by
  have hb := next_lt l sh 8 18446744073709551616 (by decide)
  go_enter Tryd.func49, Tryd.ntmps49
  go_wp2_with fail
  refine (number_any b X l sh 8 w hR (by omega)).mono ?_
  rintro e w1 ⟨rfl, hR1, hg1, hz1⟩
  generalize hq : numOf (nextOf l sh 8).1 = q at *
  have HQ := Lib.hid hq
  clear hq
  have HG := Lib.hid hg1
  have HZ := Lib.hid hz1
  clear hg1 hz1
  go_wp2
  go_ret
  exact ⟨by rw [HQ.out]; rfl, hR1, HG.out, HZ.out⟩

end Go.Proofs.YtnhomnaamlbnpaaDoor.Rd
namespace Go.Proofs.YtnhomnaamlbnpaaDoor.Rd
open Go.RowKit Go.Proofs.YtnhomnaamlbnpaaDoor.M Go.Proofs.YtnhomnaamlbnpaaDoor.Byt
set_option linter.unusedVariables false

/-- what Text reads -/
def textOf (l : List UInt8) (sh : Bool) : List UInt8 × List UInt8 × Bool :=
  nextOf (nextOf l sh 2).2.1 (nextOf l sh 2).2.2 (numOf (nextOf l sh 2).1)
set_option maxHeartbeats 800000 in
theorem text_any (b : Nat) (X : Nat → Prop) (l : List UInt8) (sh : Bool) (w : World) (hR : IsR w b X l sh) :
    Calls Tryd.prog 27 #[.pointer (some ⟨b, 0, none⟩)] w fun e w' => e = .returned (.string ⟨(textOf l sh).1.toArray⟩) ∧ IsR w' b X (textOf l sh).2.1 (textOf l sh).2.2 ∧ w.grownBy w' (some b) := by
  unfold textOf
  have hlt := next_lt l sh 2 65536 (by decide)
  go_enter Tryd.func27, Tryd.ntmps27
  go_wp2_with fail
  refine (two_any b X l sh w hR).mono ?_
  rintro e w1 ⟨rfl, hR1, hg1, hz1⟩
  go_wp2_with fail
  refine (next_any b X _ _ _ w1 hR1 (by omega)).mono ?_
  rintro e w2 ⟨v, rfl, hB, hR2, hg2, hz2⟩
  have hcv := conv_str (P := Tryd.prog) hB 22 9 5 Tryd.underlying22 Tryd.underlying5 Tryd.underlying9
  have HG1 := Lib.hid hg1
  have HG2 := Lib.hid hg2
  clear hg1 hg2 hz1 hz2
  go_wp2
  go_ret
  exact ⟨rfl, hR2, grown_trans HG1.out HG2.out⟩

set_option maxHeartbeats 800000 in
theorem new_any (v : Value) (l : List UInt8) (S : Nat → Prop) (w : World) (hv : Byts w S v l) (hl : l.length ≤ 140737488355328) :
    Calls Tryd.prog 26 #[v] w fun e w' => ∃ b, e = .returned (.pointer (some ⟨b, 0, none⟩)) ∧ w.heap.size ≤ b ∧ IsR w' b (fun _ => False) l false ∧ Below w.heap.size w w' := by
  obtain ⟨A0, c0, rfl, _⟩ := hv.row
  go_enter Tryd.func26, Tryd.ntmps26
  go_wp2_with fail
  refine (clone_any _ l S w hv hl).mono ?_
  rintro e w1 ⟨A, c, rfl, hB, hb⟩
  go_wp2
  go_ret
  have hz := hb.size
  refine ⟨_, rfl, hz, ⟨_, Blk.new w1 _ _, ?_⟩, hb.alloc hz _⟩
  refine (hB.same ((same_alloc w1 _).sub fun i hi => hi.2)).sub fun i hi => ⟨by have := hi.2; omega, by have := hi.2; simp; omega, fun h => h⟩

end Go.Proofs.YtnhomnaamlbnpaaDoor.Rd
