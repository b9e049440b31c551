/- seal's rings: what each call does. By an AI agent. -/
import Derived.Test.YtnhomnaamlbnpaaDoorWkS
import Derived.Test.YtnhomnaamlbnpaaDoorSl
namespace Go.Proofs.YtnhomnaamlbnpaaDoor.Seal
open Go.RowKit Go.Proofs.YtnhomnaamlbnpaaDoor.M Go.Proofs.YtnhomnaamlbnpaaDoor.Sha Go.Proofs.YtnhomnaamlbnpaaDoor.Nw Go.Proofs.YtnhomnaamlbnpaaDoor.Ld Go.Proofs.YtnhomnaamlbnpaaDoor.Ord Go.Proofs.YtnhomnaamlbnpaaDoor.Ext
open Go.Proofs.YtnhomnaamlbnpaaDoor.Wr (IsW be2 be4 be8)
set_option linter.unusedVariables false
set_option maxRecDepth 20000

/-- a ring of the secret -/
def IsRing (w : World) (b : Nat) (sec : List UInt8) : Prop := Blk w b 92 #[.string ⟨sec.toArray⟩] ∧ 1 ≤ sec.length ∧ sec.length ≤ 64
theorem IsRing.below {w w' : World} {b : Nat} {sec : List UInt8} (h : IsRing w b sec) (hb : Below w.heap.size w w') : IsRing w' b sec := ⟨h.1.same (same_below hb) h.1.lt, h.2⟩
/-- a number's bytes, laid -/
def NumPost (l : List UInt8) (w : World) (e : Ending) (w' : World) : Prop := ∃ g, e = .returned (.slice (some ⟨g, 0, none⟩) l.length l.length) ∧ w.heap.size ≤ g ∧ Blk w' g 5 (l.map cell8).toArray ∧ Below w.heap.size w w'
theorem four_post (n : Nat) (w : World) (hn : n < 4294967296) : Calls Tryd.prog 51 #[.int .u32 (n : Int)] w (NumPost (be4 n) w) := by
  go_enter Tryd.func51, Tryd.ntmps51
  go_wp2_with (first | (with_reducible refine wpList_alloc_new rfl 69 rfl _ allocWriter ?_; intro g2 w2 n2) | fail)
  have hW2 : IsW w2 g2 noX [] := ⟨_, n2.blk, .nil⟩
  refine (Wr.four_any g2 noX [] n w2 (noX_any _) hW2 hn (by simp)).mono ?_
  rintro e w3 ⟨rfl, hW3, hg3⟩
  rw [List.nil_append] at hW3
  have hb3 : Below w.heap.size w w3 := below_grown n2.below hg3 (by have := n2.is; omega)
  clear n2
  go_wp2_with fail
  refine (Wr.done_any g2 noX (be4 n) w3 hW3 (by rw [be4_len]; omega)).mono ?_
  rintro e w4 ⟨rfl, hB4, hb4⟩
  have hz := hb3.size
  generalize w3.heap.size = g at *
  go_wp2
  go_ret
  exact ⟨g, rfl, hz, hB4, hb3.trans (hb4.mono hz)⟩
theorem eight_post (n : Nat) (w : World) (hn : n < 18446744073709551616) : Calls Tryd.prog 52 #[.int .u64 (n : Int)] w (NumPost (be8 n) w) := by
  go_enter Tryd.func52, Tryd.ntmps52
  go_wp2_with (first | (with_reducible refine wpList_alloc_new rfl 69 rfl _ allocWriter ?_; intro g2 w2 n2) | fail)
  have hW2 : IsW w2 g2 noX [] := ⟨_, n2.blk, .nil⟩
  refine (Wr.eight_any g2 noX [] n w2 (noX_any _) hW2 hn (by simp)).mono ?_
  rintro e w3 ⟨rfl, hW3, hg3⟩
  rw [List.nil_append] at hW3
  have hb3 : Below w.heap.size w w3 := below_grown n2.below hg3 (by have := n2.is; omega)
  clear n2
  go_wp2_with fail
  refine (Wr.done_any g2 noX (be8 n) w3 hW3 (by rw [be8_len]; omega)).mono ?_
  rintro e w4 ⟨rfl, hB4, hb4⟩
  have hz := hb3.size
  generalize w3.heap.size = g at *
  go_wp2
  go_ret
  exact ⟨g, rfl, hz, hB4, hb3.trans (hb4.mono hz)⟩
theorem NumPost.byts {w w' : World} {g : Nat} {l : List UInt8} (h : Blk w' g 5 (l.map cell8).toArray) (hm : l.length ≤ maxLen) : Byts w' (fun k => k = g) (.slice (some ⟨g, 0, none⟩) l.length l.length) l := Sha.Blk.byts h hm
theorem own_num {w : World} {g : Nat} {l : List UInt8} (h : Blk w g 5 (l.map cell8).toArray) (hm : l.length ≤ maxLen) : w.ownsRow g 5 1 (.slice (some ⟨g, 0, none⟩) l.length l.length) l.length (l.map cell8) :=
  ⟨by simp, .inr ⟨g, l.length, _, rfl, Nat.le_refl _, h, Nat.le_refl _, hm, by simp, by rw [Nat.mul_one, List.take_of_length_le (by simp)]⟩⟩

end Go.Proofs.YtnhomnaamlbnpaaDoor.Seal
namespace Go.Proofs.YtnhomnaamlbnpaaDoor.Seal
open Go.RowKit Go.Proofs.YtnhomnaamlbnpaaDoor.M Go.Proofs.YtnhomnaamlbnpaaDoor.Sha Go.Proofs.YtnhomnaamlbnpaaDoor.Nw Go.Proofs.YtnhomnaamlbnpaaDoor.Ld Go.Proofs.YtnhomnaamlbnpaaDoor.Ord Go.Proofs.YtnhomnaamlbnpaaDoor.Ext
open Go.Proofs.YtnhomnaamlbnpaaDoor.Wr (IsW be2 be4 be8)
set_option linter.unusedVariables false
set_option maxRecDepth 20000

set_option maxHeartbeats 1000000 in
theorem new_any (v0 : Value) (sec : List UInt8) (S : Nat → Prop) (w : World) (hk : Byts w S v0 sec) (h1 : 1 ≤ sec.length) (h2 : sec.length ≤ 64) :
    Calls Tryd.prog 16 #[v0] w fun e w' => ∃ g, e = .returned (.tuple #[.pointer (some ⟨g, 0, none⟩), .int .i64 0]) ∧ IsRing w' g sec ∧ w.heap.size ≤ g ∧ Below w.heap.size w w' := by
  have hcv := conv_str (P := Tryd.prog) hk 22 9 5 Tryd.underlying22 Tryd.underlying5 Tryd.underlying9
  obtain ⟨A, c, rfl, _⟩ := hk.row
  go_enter Tryd.func16, Tryd.ntmps16
  go_wp2_with fail
  refine (may_yes _ sec S w hk h1 h2).mono ?_
  rintro e w' ⟨rfl, rfl⟩
  go_wp2_with (first | (with_reducible refine wpList_box_new rfl 92 (.tmp 9) rfl _ rfl ?_; intro g1 w1 n1) | fail)
  refine bodyPost_ret (results_tmp2 rfl _ _ _) rfl ⟨g1, rfl, ⟨n1.blk, h1, h2⟩, by have := n1.is; omega, n1.below⟩

end Go.Proofs.YtnhomnaamlbnpaaDoor.Seal
