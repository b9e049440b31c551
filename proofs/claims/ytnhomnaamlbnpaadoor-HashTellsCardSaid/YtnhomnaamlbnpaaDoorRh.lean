/- The reference's turns as hooks of the interpreter. By an AI agent. -/
import Derived.Test.YtnhomnaamlbnpaaDoorRo
import Derived.Test.YtnhomnaamlbnpaaDoorAbsK
import Derived.Test.YtnhomnaamlbnpaaDoorRsm
import Derived.Test.YtnhomnaamlbnpaaDoorProg
import Derived.KernelRfl
namespace Go.Proofs.YtnhomnaamlbnpaaDoor.Abs
open Go Go.RowKit Go.Proofs.YtnhomnaamlbnpaaDoor.M Go.Proofs.YtnhomnaamlbnpaaDoor.Sha
set_option linter.unusedVariables false
/-- a turned word -/
def rotI (z : Int) (k : Nat) : Int := ((rotr z.toNat k : Nat) : Int)
def shrI (z : Int) (k : Nat) : Int := ((z.toNat / 2 ^ k : Nat) : Int)
theorem rotI_in {z : Int} (hz : inR .u32 z) {k : Nat} (hk : k ≤ 32) : inR .u32 (rotI z k) := by
  rw [in_u32] at hz ⊢
  have := rotr_lt (n := z.toNat) (k := k) (by omega) hk
  unfold rotI
  omega
theorem shrI_in {z : Int} (hz : inR .u32 z) {k : Nat} : inR .u32 (shrI z k) := by
  rw [in_u32] at hz ⊢
  have := Nat.div_le_self z.toNat (2 ^ k)
  unfold shrI
  generalize z.toNat / 2 ^ k = q at *
  omega
noncomputable def wordH (F : Int → Nat → Int) (args : List AVal) (st : St) : Option (OP × AVal × St) :=
  match args with
  | [.sint .u32 z, .int .i64 (.ofNat k)] => bif Nat.blt 0 k && Nat.blt k 32 then some (none, .sint .u32 (F z k), st) else none
  | _ => none
theorem wordH_ok {F : Int → Nat → Int} {w0 : World} {RO : PT AObj} {g : FuncId} (hb : (∃ fn, Tryd.prog.funcs[g]? = some fn ∧ fn.body.isNone = false ∧ (fn.name == "runtime.NumGoroutine") = false))
    (hin : ∀ z k, inR .u32 z → k < 32 → inR .u32 (F z k))
    (hc : ∀ z k w, inR .u32 z → 0 < k → k < 32 → Calls Tryd.prog g #[.int .u32 z, .int .i64 (Int.ofNat k)] w fun e w' => e = .returned (.int .u32 (F z k)) ∧ w' = w) : Call1Ok Tryd.prog w0 RO g (fun args st => got (wordH F args st)) := by
  intro args st v st' h
  replace h : got (wordH F args st) = some (v, st') := h
  unfold wordH at h
  split at h
  · rename_i z k
    cases hk : (Nat.blt 0 k && Nat.blt k 32) with
    | false => rw [hk] at h; cases h
    | true =>
    rw [hk] at h
    rw [Bool.and_eq_true] at hk
    have h0 : 0 < k := by simpa [Nat.blt_eq] using hk.1
    have h1 : k < 32 := by simpa [Nat.blt_eq] using hk.2
    obtain ⟨rfl, rfl⟩ : (AVal.sint .u32 (F z k)) = v ∧ st = st' := by simpa [got, need] using h
    refine ⟨.refl _, hb, fun φ us w hus hw hr => ?_⟩
    cases hus with
    | cons _ u _ us e1 e2 => cases e2 with
      | cons _ u2 _ us e3 e4 => cases e4 with
        | nil =>
        cases e1 with
        | sint _ _ hz =>
        cases e3 with
        | int _ _ =>
        refine (hc z k w hz h0 h1).mono fun e w' he => ?_
        obtain ⟨rfl, rfl⟩ := he
        exact ⟨_, rfl, quiet_ok hw (Below.refl _ _) (.sint _ _ (hin z k hz h1))⟩
  · cases h
noncomputable def wordHooks (g : FuncId) : Option (List AVal → St → Option (OP × AVal × St)) :=
  bif Nat.beq g 62 then some (wordH rotI) else bif Nat.beq g 63 then some (wordH shrI) else none
theorem wordHooks_ok {w0 : World} {RO : PT AObj} : ∀ f h, hookG wordHooks f = some h → Call1Ok Tryd.prog w0 RO f h := by
  intro f h hh
  unfold hookG wordHooks at hh
  cases h1 : Nat.beq f 62 with
  | true =>
    rw [h1] at hh
    cases hh
    rw [Nat.eq_of_beq_eq_true h1]
    exact wordH_ok ⟨_, rfl, rfl, by kernel_rfl⟩ (fun z k hz hk => rotI_in hz (by omega)) fun z k w hz h0 hk => by
      have hz2 := (in_u32 _).1 hz
      have := refRight_q z.toNat (Int.ofNat k) w (by omega) (by simpa using h0) (Int.ofNat_lt.2 hk)
      rw [Int.toNat_of_nonneg hz2.1] at this
      exact this
  | false =>
    rw [h1] at hh
    cases h2 : Nat.beq f 63 with
    | true =>
      rw [h2] at hh
      cases hh
      rw [Nat.eq_of_beq_eq_true h2]
      exact wordH_ok ⟨_, rfl, rfl, by kernel_rfl⟩ (fun z k hz hk => shrI_in hz) fun z k w hz h0 hk => by
        have hz2 := (in_u32 _).1 hz
        have := refShift_q z.toNat (Int.ofNat k) w (by omega) (by simpa using h0) (Int.ofNat_lt.2 hk)
        rw [Int.toNat_of_nonneg hz2.1] at this
        exact this
    | false => rw [h2] at hh; cases hh
end Go.Proofs.YtnhomnaamlbnpaaDoor.Abs
