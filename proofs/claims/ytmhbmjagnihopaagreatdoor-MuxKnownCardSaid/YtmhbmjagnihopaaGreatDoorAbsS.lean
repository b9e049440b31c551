/- Closed functions run by an interpreter: SHA-256 and HMAC by their contracts. By an AI agent. -/
import Derived.Test.YtmhbmjagnihopaaGreatDoorAbsY
import Derived.Test.YtmhbmjagnihopaaGreatDoorHash
namespace Go.Proofs.YtmhbmjagnihopaaGreatDoor.Abs
open Go Go.RowKit Go.Proofs.YtmhbmjagnihopaaGreatDoor.M Go.Proofs.YtmhbmjagnihopaaGreatDoor.Sha
set_option linter.unusedVariables false
section
variable {w0 w : World} {φ : Phi} {RO : PT AObj} {st : St}
theorem mapOA_ok {xs : List AVal} {nss : List (List Nat)} (h : mapOA (rdBytes RO st) xs = some nss) {us : List Value} (hx : VRels φ xs us) (hw : WRel w0 φ st.heap st.next w) (hr : RRel w0 φ RO) : us.length = nss.length ∧ ∀ (i : Nat) (l : List UInt8), (nss.map u8s)[i]? = some l → ∃ u, us[i]? = some u ∧ Byts w (fun k => k < w.heap.size) u l := by
  induction xs generalizing nss us with
  | nil => cases h; cases hx; exact ⟨rfl, fun i l hl => by simp at hl⟩
  | cons x xs ih =>
    cases hx with
    | cons _ u _ us h1 h2 =>
    simp only [mapOA] at h
    split at h
    · rename_i y ys hy hys
      cases h
      obtain ⟨k1, k2⟩ := ih hys h2
      refine ⟨by simp [k1], fun i l hl => ?_⟩
      rcases i with _ | i
      · obtain rfl : u8s y = l := by simpa using hl
        exact ⟨u, rfl, rdBytes_ok hy h1 hw hr⟩
      · obtain ⟨u', e1, e2⟩ := k2 i l (by simpa using hl)
        exact ⟨u', by simpa using e1, e2⟩
    · cases h
theorem rdParts_ok {x : AVal} {nss : List (List Nat)} {u : Value} (h : rdParts RO st x = some nss) (hx : VRel φ x u) (hw : WRel w0 φ st.heap st.next w) (hr : RRel w0 φ RO) : Parts w (fun k => k < w.heap.size) u (nss.map u8s) := by
  unfold rdParts at h
  split at h
  · cases h
    cases hx
    exact ⟨none, 0, rfl, Nat.le_refl _, Nat.zero_le _, fun i l hl => by simp at hl⟩
  · rename_i b o n _ _ _
    split at h
    · rename_i l t hrd
      cases hb : Nat.ble n 1000000 with
      | false => rw [hb] at h; cases h
      | true =>
      rw [hb] at h
      simp only [cond_true] at h
      have hn := Nat.le_of_ble_eq_true hb
      split at h
      · rename_i r hsl
        obtain ⟨hr1, hr2⟩ := slicedL_some hsl
        obtain ⟨g', b', m', xo, e1, e2, e3⟩ := rd_some hrd hw hr rfl
        cases hx with
        | slice _ _ _ _ _ g b0 nb cap _ a hφ hl hc he hz ha =>
        obtain ⟨rfl, rfl, rfl⟩ : g = g' ∧ b0 = b' ∧ nb = m' := by rw [hφ] at e1; simpa using e1
        obtain ⟨us, f1, f2, f3⟩ := orel_row e3 hr2
        rw [← hr1] at f2
        obtain ⟨k1, k2⟩ := mapOA_ok h f2 hw hr
        have hlen : nss.length = n := by omega
        refine ⟨some a, cap, by simp [hlen], by simp [hlen]; omega, by simp [hlen]; unfold maxLen; omega, fun i l hi => ?_⟩
        have hin : i < n := by have := (List.getElem?_eq_some_iff.1 hi).1; simp at this; omega
        rcases ha with ⟨h0, _⟩ | rfl
        · omega
        · obtain ⟨u, q1, q2⟩ := k2 i l hi
          have := f3 w g e2 i u q1
          rw [add_lit] at this
          exact ⟨g, b0 + o, u, rfl, (Array.getElem?_eq_some_iff.1 e2).1, this, q2⟩
      · cases h
    · cases h
  · cases h
end
def digest (l : List UInt8) : AVal := .agg (l.map fun b => AVal.int .u8 (b.toNat : Int))
section
variable (RO : PT AObj)
noncomputable def shaH (args : List AVal) (st : St) : Option (AVal × St) :=
  match args with
  | [x] => (match rdParts RO st x with | some nss => some (digest (sha256 (nss.map u8s).flatten), st) | none => none)
  | _ => none
noncomputable def hmacH (args : List AVal) (st : St) : Option (AVal × St) :=
  match args with
  | [k, x] => (match rdBytes RO st k, rdParts RO st x with | some ks, some nss => some (digest (hmac (u8s ks) (nss.map u8s).flatten), st) | _, _ => none)
  | _ => none
end
theorem tabUp {w0 w : World} (h : Tab w0) (hb : Below w0.heap.size w0 w) : Tab w := h.below hb h.1
theorem digest_rel (φ : Phi) (l : List UInt8) : VRel φ (digest l) (.agg (l.map cell8).toArray) := .agg _ _ (by rw [List.toList_toArray]; exact VRels.bytes φ l)
theorem shaH_ok {w0 : World} {RO : PT AObj} (ht : Tab w0) (hb : (∃ fn, Tryz.prog.funcs[135]? = some fn ∧ fn.body.isNone = false ∧ (fn.name == "runtime.NumGoroutine") = false)) : Call1Ok Tryz.prog w0 RO 135 (shaH RO) := by
  intro args st v st' h
  unfold shaH at h
  split at h
  · split at h
    · rename_i x nss hx
      cases h
      refine ⟨.refl _, hb, fun φ us w hus hw hr => ?_⟩
      cases hus with
      | cons _ u _ us h1 h2 => cases h2 with
        | nil =>
        refine (sha_any u _ _ w (rdParts_ok hx h1 hw hr) (fun i hi => hi) (tabUp ht hw.below)).mono fun e w' he => ?_
        obtain ⟨rfl, hbel⟩ := he
        exact ⟨_, rfl, quiet_ok hw hbel (digest_rel φ _)⟩
    · cases h
  · cases h
theorem hmacH_ok {w0 : World} {RO : PT AObj} (ht : Tab w0) (hb : (∃ fn, Tryz.prog.funcs[96]? = some fn ∧ fn.body.isNone = false ∧ (fn.name == "runtime.NumGoroutine") = false)) : Call1Ok Tryz.prog w0 RO 96 (hmacH RO) := by
  intro args st v st' h
  unfold hmacH at h
  split at h
  · split at h
    · rename_i k x ks nss hk hx
      cases h
      refine ⟨.refl _, hb, fun φ us w hus hw hr => ?_⟩
      cases hus with
      | cons _ uk _ us h1 h2 => cases h2 with
        | cons _ u _ us h3 h4 => cases h4 with
          | nil =>
          refine (hmac_any uk u _ _ _ _ w (rdBytes_ok hk h1 hw hr) (rdParts_ok hx h3 hw hr) (fun i hi => hi) (fun i hi => hi) (tabUp ht hw.below)).mono fun e w' he => ?_
          obtain ⟨rfl, hbel⟩ := he
          exact ⟨_, rfl, quiet_ok hw hbel (digest_rel φ _)⟩
    · cases h
  · cases h
end Go.Proofs.YtmhbmjagnihopaaGreatDoor.Abs
