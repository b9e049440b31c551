/- The program's Reader, on: Text, New. By an AI agent. -/
import Derived.Test.YtnhomnaamlbnpaaDoorRd
import Derived.BigQuiet
import Derived.Deep.QuietTactic
namespace Go.Proofs.YtnhomnaamlbnpaaDoor.Rd
open Go.RowKit Go.Proofs.YtnhomnaamlbnpaaDoor.M Go.Proofs.YtnhomnaamlbnpaaDoor.Byt
set_option linter.unusedVariables false

/-- what Text reads -/
def textOf (l : List UInt8) (sh : Bool) : List UInt8 × List UInt8 × Bool :=
  nextOf (nextOf l sh 2).2.1 (nextOf l sh 2).2.2 (numOf (nextOf l sh 2).1)
set_option maxHeartbeats 800000 in
theorem text_any (b : Nat) (X : Nat → Prop) (l : List UInt8) (sh : Bool) (w : World) (hR : IsR w b X l sh) :
    Calls Tryd.prog 27 #[.pointer (some ⟨b, 0, none⟩)] w fun e w' => e = .returned (.string ⟨(textOf l sh).1.toArray⟩) ∧ IsR w' b X (textOf l sh).2.1 (textOf l sh).2.2 ∧ w.grownBy w' (some b) := by
  unfold textOf
  have hlt := next_lt l sh 2 65536 (by decide)
  go_enter Tryd.func27, Tryd.ntmps27
  go_wp2_with fail
  refine (two_any b X l sh w hR).mono ?_
  rintro e w1 ⟨rfl, hR1, hg1, hz1⟩
  go_wp2_with fail
  refine (next_any b X _ _ _ w1 hR1 (by omega)).mono ?_
  rintro e w2 ⟨v, rfl, hB, hR2, hg2, hz2⟩
  have hcv := conv_str (P := Tryd.prog) hB 22 9 5 Tryd.underlying22 Tryd.underlying5 Tryd.underlying9
  have HG1 := Lib.hid hg1
  have HG2 := Lib.hid hg2
  clear hg1 hg2 hz1 hz2
  go_wp2
  go_ret
  exact ⟨rfl, hR2, grown_trans HG1.out HG2.out⟩

set_option maxHeartbeats 800000 in
theorem new_any (v : Value) (l : List UInt8) (S : Nat → Prop) (w : World) (hv : Byts w S v l) (hl : l.length ≤ 140737488355328) :
    Calls Tryd.prog 26 #[v] w fun e w' => ∃ b, e = .returned (.pointer (some ⟨b, 0, none⟩)) ∧ w.heap.size ≤ b ∧ IsR w' b (fun _ => False) l false ∧ Below w.heap.size w w' := by
  obtain ⟨A0, c0, rfl, _⟩ := hv.row
  go_enter Tryd.func26, Tryd.ntmps26
  go_wp2_with fail
  refine (clone_any _ l S w hv hl).mono ?_
  rintro e w1 ⟨A, c, rfl, hB, hb⟩
  go_wp2
  go_ret
  have hz := hb.size
  refine ⟨_, rfl, hz, ⟨_, Blk.new w1 _ _, ?_⟩, hb.alloc hz _⟩
  refine (hB.same ((same_alloc w1 _).sub fun i hi => hi.2)).sub fun i hi => ⟨by have := hi.2; omega, by have := hi.2; simp; omega, fun h => h⟩

end Go.Proofs.YtnhomnaamlbnpaaDoor.Rd
