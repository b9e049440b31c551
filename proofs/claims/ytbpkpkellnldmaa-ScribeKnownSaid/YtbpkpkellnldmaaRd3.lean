/- The reference's Reader: Number and Text. By an AI agent. -/
import Derived.Test.YtbpkpkellnldmaaRd2
namespace Go.Proofs.Ytbpkpkellnldmaa.Rd
open Go.RowKit Go.Proofs.Ytbpkpkellnldmaa.M Go.Proofs.Ytbpkpkellnldmaa.Byt
set_option linter.unusedVariables false

theorem fTake_len (l : List UInt8) (k : Nat) (sh : Bool) (n : Nat) : (fTake l k sh n).1.length ≤ n := by
  unfold fTake
  split
  · simp; omega
  · simp
theorem fTake_lt (l : List UInt8) (k : Nat) (sh : Bool) (n m : Nat) (h : 256 ^ n = m) : numOf (fTake l k sh n).1 < m := by
  have h1 := numOf_lt (fTake l k sh n).1
  have h2 := pow_mono8 (fTake_len l k sh n)
  omega

def FNum (b : Nat) (X : Nat → Prop) (l : List UInt8) (w : World) (r : List UInt8 × Nat × Bool) (e : Ending) (w' : World) : Prop :=
  e = .returned (.int .u64 (numOf r.1 : Nat)) ∧ IsF w' b X l r.2.1 r.2.2 ∧ w.grownBy w' (some b) ∧ w'.heap.size = w.heap.size
set_option maxHeartbeats 1600000 in
theorem refNumber_any (b : Nat) (X : Nat → Prop) (l : List UInt8) (p : Nat) (sh : Bool) (n : Nat) (w : World) (hR : IsF w b X l p sh) (hn : n ≤ 8) :
    Calls Try.prog 19 #[.pointer (some ⟨b, 0, none⟩), .int .i64 (n : Int)] w (FNum b X l w (fTake l p sh n)) := by
  go_enter Try.func19, Try.ntmps19
  go_wp2_with fail
  refine (refTake0 b X l p sh n w hR (by omega)).mono ?_
  rintro e w1 ⟨v, rfl, hB, hR1, hg1, hz1⟩
  have hlen := fTake_len l p sh n
  have hFN : FNum b X l w (fTake l p sh n) (.returned (.int .u64 (numOf (fTake l p sh n).1 : Nat))) w1 := ⟨rfl, hR1, hg1, hz1⟩
  clear hg1 hz1 hR1
  have HFN := Lib.hid hFN
  clear hFN
  generalize hxx : (fTake l p sh n).1 = x at *
  have HXX := Lib.hid hxx
  clear hxx
  obtain ⟨A, c, rfl, hnc, hm, hrow⟩ := hB.row
  unfold maxLen at hm
  go_wp2_with fail
  go_loop [5, 7] (fun r i => ∃ k : Nat, k ≤ x.length ∧ i = .int .i64 k ∧ r = .int .u64 (numOf (x.take k) : Nat)) (fun _ i => x.length - (intOf i).toNat)
  case atStart => exact ⟨0, Nat.zero_le _, rfl, rfl⟩
  case round =>
    obtain ⟨k, hk, rfl, rfl⟩ := hrel
    by_cases hlt : k < x.length
    · have hx := List.getElem?_eq_getElem hlt
      obtain ⟨g, off, rfl, _, hcell⟩ := hrow k _ hx
      have hs := numOf_snoc (x.take k) x[k]
      have hb := numOf_lt (x.take k)
      have hb2 := x[k].toNat_lt
      have hb3 : (x.take k).length ≤ 7 := by rw [List.length_take]; omega
      have hb4 := pow_mono8 hb3
      rw [← take_more x k _ hx] at hs
      generalize x[k].toNat = y at *
      generalize hq : numOf (x.take k) = q at *
      have hq56 : q < 72057594037927936 := by omega
      have HS := Lib.hid hs
      have HQ := Lib.hid hq
      clear hs hq hrow hb hb4 hx
      go_wp2
      go_round
      case rel => exact ⟨k + 1, by omega, by go_num, by rw [HS.out]; congr 1; omega⟩
      case measure => simp [intOf]; omega
    · obtain rfl : k = x.length := by omega
      rw [List.take_of_length_le (Nat.le_refl _)]
      clear hrow
      go_wp2
      go_ret
      have h := HFN.out
      exact ⟨by rw [HXX.out]; rfl, h.2⟩

def fText (l : List UInt8) (k : Nat) (sh : Bool) : List UInt8 × Nat × Bool :=
  fTake l (fTake l k sh 2).2.1 (fTake l k sh 2).2.2 (numOf (fTake l k sh 2).1)
set_option maxHeartbeats 1600000 in
theorem refText_any (b : Nat) (X : Nat → Prop) (l : List UInt8) (p : Nat) (sh : Bool) (w : World) (hR : IsF w b X l p sh) :
    Calls Try.prog 24 #[.pointer (some ⟨b, 0, none⟩)] w fun e w' => e = .returned (.string ⟨(fText l p sh).1.toArray⟩) ∧ IsF w' b X l (fText l p sh).2.1 (fText l p sh).2.2 ∧ w.grownBy w' (some b) := by
  unfold fText
  have hlt := fTake_lt l p sh 2 65536 (by decide)
  go_enter Try.func24, Try.ntmps24
  go_wp2_with fail
  refine (refNumber_any b X l p sh 2 w hR (by omega)).mono ?_
  rintro e w1 ⟨rfl, hR1, hg1, hz1⟩
  go_wp2_with fail
  refine (refTake0 b X l _ _ _ w1 hR1 (by omega)).mono ?_
  rintro e w2 ⟨v, rfl, hB, hR2, hg2, hz2⟩
  have hcv := conv_str (P := Try.prog) hB 27 9 5 Try.underlying27 Try.underlying5 Try.underlying9
  have HG1 := Lib.hid hg1
  have HG2 := Lib.hid hg2
  clear hg1 hg2 hz1 hz2
  go_wp2
  go_ret
  exact ⟨rfl, hR2, grown_trans HG1.out HG2.out⟩

/-- the two readers go together -/
def Together (l : List UInt8) (si : Bool) (L : List UInt8) (k : Nat) (sf : Bool) : Prop := si = sf ∧ k ≤ L.length ∧ (if sf then l = [] else l = L.drop k)
theorem together_take {l L : List UInt8} {si sf : Bool} {k : Nat} (h : Together l si L k sf) (n : Nat) :
    (nextOf l si n).1 = (fTake L k sf n).1 ∧ Together (nextOf l si n).2.1 (nextOf l si n).2.2 L (fTake L k sf n).2.1 (fTake L k sf n).2.2 := by
  obtain ⟨rfl, hk, hl⟩ := h
  cases si
  · simp at hl
    subst hl
    unfold nextOf fTake Together
    by_cases hn : n ≤ L.length - k
    · simp [hn, List.length_drop, List.drop_drop]
      omega
    · simp [hn, List.length_drop]
      exact hk
  · simp at hl
    subst hl
    unfold nextOf fTake Together
    by_cases hn : n = 0
    · simp [hn, hk]
    · simp [hn, hk]
theorem together_text {l L : List UInt8} {si sf : Bool} {k : Nat} (h : Together l si L k sf) :
    (textOf l si).1 = (fText L k sf).1 ∧ Together (textOf l si).2.1 (textOf l si).2.2 L (fText L k sf).2.1 (fText L k sf).2.2 := by
  have h1 := together_take h 2
  unfold textOf fText
  rw [h1.1]
  exact together_take h1.2 _
end Go.Proofs.Ytbpkpkellnldmaa.Rd
