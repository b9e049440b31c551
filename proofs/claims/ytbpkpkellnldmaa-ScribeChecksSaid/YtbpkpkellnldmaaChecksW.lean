/- The walk of ScribeChecks. By an AI agent. -/
import Derived.Test.YtbpkpkellnldmaaOpen
import Derived.Test.YtbpkpkellnldmaaWakes
namespace Go.Proofs.Ytbpkpkellnldmaa.Walks
open Go.RowKit Go.Proofs.Ytbpkpkellnldmaa.M Go.Proofs.Ytbpkpkellnldmaa.Open
set_option linter.unusedVariables false

set_option maxHeartbeats 1600000 in
theorem scribeChecks (w : World) (v0 : Value) (h0 : InBytes w v0) :
    Calls Try.prog 5 #[v0] w fun e w' => e = .returned (.bool true) ∧ Below w.heap.size w w' := by
  obtain ⟨l, hl⟩ := h0
  obtain ⟨A, c, rfl, hnc, hm, hc⟩ := hl.row
  have hmin : (min (l.length : Int) 2000) = ((min l.length 2000 : Nat) : Int) := by omega
  have hx1 : (0 : Int) ≤ ((min l.length 2000 : Nat) : Int) := by omega
  have hx2 : ((min l.length 2000 : Nat) : Int) ≤ (c : Int) := by omega
  unfold maxLen at hm
  go_enter Try.func5, Try.ntmps5
  go_wp2_with fail
  have hB := hl.take_ (k := min l.length 2000) (by omega)
  generalize l.take (min l.length 2000) = m at hB
  generalize min l.length 2000 = n at *
  refine (Crc.crc_any _ m _ _ hB).mono ?_
  rintro e w1 ⟨rfl, rfl⟩
  go_wp2_with fail
  refine (Crc.refCrc_any _ m _ _ hB).mono ?_
  rintro e w1 ⟨rfl, rfl⟩
  go_wp2_with fail
  refine (Wr.wakes_any _).mono ?_
  rintro e w1 ⟨rfl, hb⟩
  go_wp2
  go_ret
  exact ⟨rfl, hb⟩
end Go.Proofs.Ytbpkpkellnldmaa.Walks
