/- mux: the hooks of its closed statement: HMAC, the check and the sorted keys by their contracts. By an AI agent. -/
import Derived.Test.YtmhbmjagnihopaaGreatDoorMcs
import Derived.Test.YtmhbmjagnihopaaGreatDoorFsh
import Derived.Test.YtmhbmjagnihopaaGreatDoorCrk
import Derived.Test.YtmhbmjagnihopaaGreatDoorAbsY
import Derived.Test.YtmhbmjagnihopaaGreatDoorHk3
namespace Go.Proofs.YtmhbmjagnihopaaGreatDoor.Mk
open Go Go.RowKit Go.Proofs.YtmhbmjagnihopaaGreatDoor.Abs Go.Proofs.YtmhbmjagnihopaaGreatDoor.Sha
set_option linter.unusedVariables false
set_option maxRecDepth 100000
abbrev HMAC : FuncId := 96
abbrev CRC : FuncId := 106
noncomputable def hkA : FuncId → Option (List AVal → St → Option (AVal × St)) := fun f =>
  bif Nat.beq f CRC then some (Fr.crcKH .leaf) else bif Nat.beq f HMAC then some (hmacF .leaf) else bif Nat.beq f Ss.SORTED then some (fun args st => got (Ss.sortedH .leaf args st)) else bif Nat.beq f Ss.CLONEI then some (fun args st => got (Ss.cloneH args st)) else bif Nat.beq f Ss.CLONEW then some (fun args st => got (Ss.cloneH args st)) else none
theorem hkA_ok {w0 : World} (ht : Tab w0) (f : FuncId) (h : List AVal → St → Option (AVal × St)) (hh : hkA f = some h) : Call1Ok Tryz.prog w0 .leaf f h := by
  unfold hkA at hh
  cases h1 : Nat.beq f CRC with
  | true => rw [h1] at hh; cases hh; rw [Nat.eq_of_beq_eq_true h1]; exact Fr.crcKH_ok
  | false =>
    rw [h1] at hh
    cases h2 : Nat.beq f HMAC with
    | true => rw [h2] at hh; cases hh; rw [Nat.eq_of_beq_eq_true h2]; exact hmacF_ok ht ⟨_, rfl, rfl, by kernel_rfl⟩
    | false =>
      rw [h2] at hh
      cases h3 : Nat.beq f Ss.SORTED with
      | true => rw [h3] at hh; cases hh; rw [Nat.eq_of_beq_eq_true h3]; exact Ss.sortedH_ok
      | false =>
        rw [h3] at hh
        cases h4 : Nat.beq f Ss.CLONEI with
        | true => rw [h4] at hh; cases hh; rw [Nat.eq_of_beq_eq_true h4]; exact Ss.cloneH_okI
        | false =>
          rw [h4] at hh
          cases h5 : Nat.beq f Ss.CLONEW with
          | true => rw [h5] at hh; cases hh; rw [Nat.eq_of_beq_eq_true h5]; exact Ss.cloneH_okW
          | false => rw [h5] at hh; cases hh
theorem tells_walk (W : World) (ht : Tab W) : Calls Tryz.prog 22 #[] W fun e w' => e = .returned (.bool true) ∧ Below W.heap.size W w' :=
  closed_ok (hook := hkA) (by kernel_rfl) (named_of (P := Tryz.prog) (by kernel_rfl)) (hkA_ok ht) (ro_none W (fun _ => none)) (next := 1000) (fun _ _ => rfl) (k := 400) (by kernel_rfl)
abbrev TELLS10 : FuncId := 22
noncomputable def hkB : FuncId → Option (List AVal → St → Option (AVal × St)) := fun f => bif Nat.beq f TELLS10 then some (fun args st => got (trueH args st)) else hkA f
theorem hkB_ok {w0 : World} (ht : Tab w0) (f : FuncId) (h : List AVal → St → Option (AVal × St)) (hh : hkB f = some h) : Call1Ok Tryz.prog w0 .leaf f h := by
  unfold hkB at hh
  cases h1 : Nat.beq f TELLS10 with
  | true => rw [h1] at hh; cases hh; rw [Nat.eq_of_beq_eq_true h1]; exact trueH_ok ⟨_, rfl, rfl, by kernel_rfl⟩ fun w hb => tells_walk w (tabUp ht hb)
  | false => rw [h1] at hh; exact hkA_ok ht f h hh
end Go.Proofs.YtmhbmjagnihopaaGreatDoor.Mk
