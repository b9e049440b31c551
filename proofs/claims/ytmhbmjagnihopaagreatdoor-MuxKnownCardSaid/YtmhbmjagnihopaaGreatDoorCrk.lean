/- The check as a hook of the interpreter. By an AI agent. -/
import Derived.Test.YtmhbmjagnihopaaGreatDoorAbsY
import Derived.Test.YtmhbmjagnihopaaGreatDoorCrc
import Derived.Test.YtmhbmjagnihopaaGreatDoorProg
import Derived.KernelRfl
namespace Go.Proofs.YtmhbmjagnihopaaGreatDoor.Fr
open Go Go.RowKit Go.Proofs.YtmhbmjagnihopaaGreatDoor.Abs Go.Proofs.YtmhbmjagnihopaaGreatDoor.M
set_option maxRecDepth 100000
set_option linter.unusedVariables false
/-! the check, for the kernel -/
def st1 (n : Nat) : Nat := Nat.xor (Nat.div n 2) (Nat.mul (Nat.mod n 2) 3988292384)
def st8 (n : Nat) : Nat := st1 (st1 (st1 (st1 (st1 (st1 (st1 (st1 n)))))))
def force (x : Nat) (k : Nat → Nat) : Nat := match x with
  | 0 => k 0
  | n + 1 => k (n + 1)
def crcG : List Nat → Nat → Nat
  | [], r => r
  | b :: l, r => force (st8 (Nat.xor r (Nat.mod b 256))) (crcG l)
def crcN (l : List Nat) : Nat := Nat.sub 4294967295 (crcG l 4294967295)
theorem force_eq (x : Nat) (k : Nat → Nat) : force x k = k x := by cases x <;> rfl
theorem st1_eq (n : Nat) : st1 n = Crc.step n := by
  show (n / 2) ^^^ (n % 2 * 3988292384) = _
  unfold Crc.step
  rcases Nat.mod_two_eq_zero_or_one n with h | h <;> simp [h]
theorem st8_eq (n : Nat) : st8 n = Crc.steps 8 n := by
  unfold st8
  simp only [st1_eq]
  rfl
theorem crcG_eq : ∀ (l : List Nat) (r : Nat), crcG l r = (u8s l).foldl Crc.one r
  | [], r => rfl
  | b :: l, r => by
    show force _ _ = _
    rw [force_eq, crcG_eq l, st8_eq]
    show _ = (u8s l).foldl Crc.one (Crc.one r (UInt8.ofNat b))
    congr 1
theorem crcN_eq (l : List Nat) : crcN l = Crc.crc (u8s l) := by
  show 4294967295 - crcG l 4294967295 = _
  rw [crcG_eq]; rfl
noncomputable def crcKH (RO : PT AObj) (args : List AVal) (st : St) : Option (AVal × St) :=
  match args with
  | [x] => (match rdBytes RO st x with | some ns => some (.int .u32 (Int.ofNat (crcN ns)), st) | none => none)
  | _ => none
theorem crcKH_ok {w0 : World} {RO : PT AObj} : Call1Ok Tryz.prog w0 RO 106 (crcKH RO) := by
  intro args st v st' h
  unfold crcKH at h
  split at h
  · split at h
    · rename_i x ns hx
      cases h
      refine ⟨.refl _, ⟨_, rfl, rfl, by kernel_rfl⟩, fun φ us w hus hw hr => ?_⟩
      cases hus with
      | cons _ u _ us h1 h2 => cases h2 with
        | nil =>
        refine (Crc.crc_any u _ _ w (rdBytes_ok hx h1 hw hr)).mono fun e w' he => ?_
        obtain ⟨rfl, rfl⟩ := he
        refine ⟨_, rfl, quiet_ok hw (Below.refl _ _) ?_⟩
        rw [← crcN_eq]
        exact VRel.int (φ := φ) _ _
    · cases h
  · cases h
end Go.Proofs.YtmhbmjagnihopaaGreatDoor.Fr
