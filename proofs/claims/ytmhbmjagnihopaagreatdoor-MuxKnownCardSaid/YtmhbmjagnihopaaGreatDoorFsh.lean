/- HMAC, quick for the kernel, as a hook. By an AI agent. -/
import Derived.Test.YtmhbmjagnihopaaGreatDoorAbsS
import Derived.Test.YtmhbmjagnihopaaGreatDoorFs
namespace Go.Proofs.YtmhbmjagnihopaaGreatDoor.Abs
open Go Go.RowKit Go.Proofs.YtmhbmjagnihopaaGreatDoor.M Go.Proofs.YtmhbmjagnihopaaGreatDoor.Sha Go.Proofs.YtmhbmjagnihopaaGreatDoor.Shn
set_option linter.unusedVariables false
noncomputable def flatN (nss : List (List Nat)) : List Nat := List.rec (motive := fun _ => List Nat) [] (fun l _ ih => app l ih) nss
theorem flatN_eq (nss : List (List Nat)) : u8n (flatN nss) = (nss.map u8s).flatten := by
  induction nss with
  | nil => rfl
  | cons l nss ih =>
    show u8n (app l (flatN nss)) = _
    rw [app_eq, u8n_app, ih]
    rfl
noncomputable def aggB {α : Type} (l : List Nat) : (List AVal → α) → α :=
  List.rec (motive := fun _ => (List AVal → α) → α) (fun k => k []) (fun n _ ih k => fc (Nat.mod n 256) fun m => ih fun r => k (.int .u8 (Int.ofNat m) :: r)) l
theorem aggB_eq {α : Type} (l : List Nat) : ∀ (k : List AVal → α), aggB l k = k ((u8n l).map fun b => AVal.int .u8 (b.toNat : Int)) := by
  induction l with
  | nil => intro k; rfl
  | cons n l ih =>
    intro k
    show fc (Nat.mod n 256) (fun m => aggB l fun r => k (.int .u8 (Int.ofNat m) :: r)) = _
    rw [fc_eq, ih]
    show _ = k (AVal.int .u8 ((UInt8.ofNat n).toNat : Int) :: _)
    rw [toNat_ofNat]
    rfl
noncomputable def hmacF (RO : PT AObj) (args : List AVal) (st : St) : Option (AVal × St) :=
  match args with
  | [k, x] => (match rdBytes RO st k, rdParts RO st x with | some ks, some nss => hmacK ks (flatN nss) fun a b c d e f g h => aggB (sumN a b c d e f g h) fun r => some (.agg r, st) | _, _ => none)
  | _ => none
theorem hmacF_eq (RO : PT AObj) (args : List AVal) (st : St) : hmacF RO args st = hmacH RO args st := by
  match args with
  | [] => rfl
  | [_] => rfl
  | _ :: _ :: _ :: _ => rfl
  | [k, x] =>
    show (match rdBytes RO st k, rdParts RO st x with | some ks, some nss => hmacK ks (flatN nss) fun a b c d e f g h => aggB (sumN a b c d e f g h) fun r => some (.agg r, st) | _, _ => none)
      = (match rdBytes RO st k, rdParts RO st x with | some ks, some nss => some (digest (hmac (u8s ks) (nss.map u8s).flatten), st) | _, _ => none)
    cases rdBytes RO st k with
    | none => rfl
    | some ks =>
      cases rdParts RO st x with
      | none => rfl
      | some nss =>
        obtain ⟨r, e1, e2⟩ := hmacK_eq (α := Option (AVal × St)) ks (flatN nss) (fun a b c d e f g h => aggB (sumN a b c d e f g h) fun r => some (.agg r, st))
        simp only
        rw [e1, aggB_eq, sumN_eq, e2, flatN_eq]
        rfl
theorem hmacF_ok {w0 : World} {RO : PT AObj} (ht : Tab w0) (hb : (∃ fn, Tryz.prog.funcs[96]? = some fn ∧ fn.body.isNone = false ∧ (fn.name == "runtime.NumGoroutine") = false)) : Call1Ok Tryz.prog w0 RO 96 (hmacF RO) :=
  fun args st v st' h => hmacH_ok ht hb args st v st' (by rw [← hmacF_eq]; exact h)
noncomputable def shaF (RO : PT AObj) (args : List AVal) (st : St) : Option (AVal × St) :=
  match args with
  | [x] => (match rdParts RO st x with | some nss => shaK (flatN nss) fun a b c d e f g h => aggB (sumN a b c d e f g h) fun r => some (.agg r, st) | none => none)
  | _ => none
theorem shaF_eq (RO : PT AObj) (args : List AVal) (st : St) : shaF RO args st = shaH RO args st := by
  match args with
  | [] => rfl
  | _ :: _ :: _ => rfl
  | [x] =>
    show (match rdParts RO st x with | some nss => shaK (flatN nss) fun a b c d e f g h => aggB (sumN a b c d e f g h) fun r => some (.agg r, st) | none => none)
      = (match rdParts RO st x with | some nss => some (digest (sha256 (nss.map u8s).flatten), st) | none => none)
    cases rdParts RO st x with
    | none => rfl
    | some nss =>
      simp only
      rw [shaK_eq]
      dsimp only
      rw [aggB_eq, sumN_eq, flatN_eq]
      rfl
theorem shaF_ok {w0 : World} {RO : PT AObj} (ht : Tab w0) (hb : (∃ fn, Tryz.prog.funcs[135]? = some fn ∧ fn.body.isNone = false ∧ (fn.name == "runtime.NumGoroutine") = false)) : Call1Ok Tryz.prog w0 RO 135 (shaF RO) :=
  fun args st v st' h => shaH_ok ht hb args st v st' (by rw [← shaF_eq]; exact h)
end Go.Proofs.YtmhbmjagnihopaaGreatDoor.Abs
