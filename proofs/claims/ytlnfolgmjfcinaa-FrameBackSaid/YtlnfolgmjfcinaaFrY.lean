/- Frames: Decode and the reference's as hooks; FrameReads. By an AI agent. -/
import Derived.Test.YtlnfolgmjfcinaaFrX
import Derived.Test.YtlnfolgmjfcinaaFrL
namespace Go.Proofs.Ytlnfolgmjfcinaa.Fr
open Go Go.RowKit Go.Proofs.Ytlnfolgmjfcinaa.Abs Go.Proofs.Ytlnfolgmjfcinaa.M
set_option linter.unusedVariables false
set_option linter.unusedSimpArgs false
def decR (k : IntKind) (xs : List Atom) : AVal := match xs with
  | [a] => outD k a.lOf
  | _ => .undef
def decO (xs : List Atom) : List AObj := match xs with
  | [a] => [.sbytes (dP a.lOf) U8]
  | _ => []
def decPre (xs : List Atom) : Prop := match xs with
  | [a] => a.lOf.length ≤ 140737488355328
  | _ => True
noncomputable def decH (RO : PT AObj) : Hook := hookR [.one .bytes] decPre (decR .u8) decO RO
noncomputable def rdecH (RO : PT AObj) : Hook := hookR [.one .bytes] (fun _ => True) (decR .i64) decO RO
theorem cap_one {φ : Phi} {L : List UInt8} {cap : Nat} {us : List Value} (h : VRels φ [.sslice (900, 0) L.length cap true 1] us) : L.length ≤ cap := by
  cases h with
  | cons _ u _ us e1 e2 => exact cap_ge e1
theorem decHooks_ok {w0 : World} {RO : PT AObj} : HooksOk Try.prog w0 RO (decHooks RO) := bcloneHooks_ok mayHooks_ok
theorem rdecHooks_ok {w0 : World} {RO : PT AObj} : HooksOk Try.prog w0 RO (rdecHooks RO) := hkAdd_ok numH_ok mayHooks_ok
theorem decH_ok {w0 : World} {RO : PT AObj} : Call1Ok Try.prog w0 RO DEC (fun args st => got (decH RO args st)) := by
  refine hookR_ok U8 (by decide) ⟨_, rfl, rfl, by kernel_rfl⟩ (fun xs h _ => ?_) fun xs caps w φs us h hpre hf hro hus => ?_
  · obtain ⟨L, _, rfl, _, h⟩ := atoms_bytes h
    obtain rfl := atoms_nil h
    exact ⟨rfl, rfl⟩
  · obtain ⟨L, _, rfl, hL, h⟩ := atoms_bytes h
    obtain rfl := atoms_nil h
    have hc := cap_one hus
    exact fn_way follows named decHooks_ok (g := DEC) (fn := Try.f17) (body := bodyOf Try.prog DEC) (by kernel_rfl) (by kernel_rfl) annOk_none (RO := roL L) (f := 100) (next := 1000) (args := [.sslice (900, 0) L.length (caps 0) true 1]) (K := endK (outD .u8 L) [.sbytes (dP L) U8]) [2,1,0, 2,1,1,1,1,0, 2,1,1,1,1,0, 2,1,1,1,1,0, 2,1,1,1,1,0, 2,1,1,1,1,0, 2,1,1,0, 2, 2,1,1,1,1,1,1,1,1,0, 2,1,1,1,1,0, 2, 2, 2]
      (Eq.mp (by kernel_rfl) ((decf_eq L (caps 0)).mpr (decf_ok hpre hc))) hf hro hus
theorem rdecH_ok {w0 : World} {RO : PT AObj} : Call1Ok Try.prog w0 RO RDEC (fun args st => got (rdecH RO args st)) := by
  refine hookR_ok U8 (by decide) ⟨_, rfl, rfl, by kernel_rfl⟩ (fun xs h _ => ?_) fun xs caps w φs us h hpre hf hro hus => ?_
  · obtain ⟨L, _, rfl, _, h⟩ := atoms_bytes h
    obtain rfl := atoms_nil h
    exact ⟨rfl, rfl⟩
  · obtain ⟨L, _, rfl, hL, h⟩ := atoms_bytes h
    obtain rfl := atoms_nil h
    have hc := cap_one hus
    exact fn_way follows named rdecHooks_ok (g := RDEC) (fn := Try.f16) (body := bodyOf Try.prog RDEC) (by kernel_rfl) (by kernel_rfl) annOk_none (RO := roL L) (f := 100) (next := 1000) (args := [.sslice (900, 0) L.length (caps 0) true 1]) (K := endK (outD .i64 L) [.sbytes (dP L) U8]) []
      (Eq.mp (by kernel_rfl) ((rdecf_eq L (caps 0)).mpr (rdecf_ok hL hc))) hf hro hus
end Go.Proofs.Ytlnfolgmjfcinaa.Fr
