/- Closed functions run by an interpreter: functions whose contracts are known. By an AI agent. -/
import Derived.Test.YthpldimdfbecjaaAbsY
import Derived.Test.YthpldimdfbecjaaM
namespace Go.Proofs.Ythpldimdfbecjaa.Abs
open Go Go.RowKit Go.Proofs.Ythpldimdfbecjaa.M
set_option linter.unusedVariables false
section
variable (RO : PT AObj)
noncomputable def rdBytes (st : St) : AVal → Option (List Nat)
  | .slice none _ _ _ _ => some []
  | .slice (some (b, o)) n _ _ _ => match rd RO st b with
    | some (.cells l _) => bif Nat.ble n 1000000 then (match slicedL l o n with | some r => bytesOf r | none => none) else none
    | _ => none
  | _ => none
def mapOA (f : AVal → Option (List Nat)) : List AVal → Option (List (List Nat))
  | [] => some []
  | x :: xs => match f x, mapOA f xs with
    | some y, some ys => some (y :: ys)
    | _, _ => none
noncomputable def rdParts (st : St) : AVal → Option (List (List Nat))
  | .slice none _ _ _ _ => some []
  | .slice (some (b, o)) n _ _ _ => match rd RO st b with
    | some (.cells l _) => bif Nat.ble n 1000000 then (match slicedL l o n with | some r => mapOA (rdBytes RO st) r | none => none) else none
    | _ => none
  | _ => none
end
def u8s (l : List Nat) : List UInt8 := l.map UInt8.ofNat
section
variable {w0 w : World} {φ : Phi} {RO : PT AObj} {st : St}
theorem u8s_get {l : List Nat} (h : ∀ n ∈ l, n < 256) {j : Nat} {b : UInt8} (hj : (u8s l)[j]? = some b) : ∃ n, l[j]? = some n ∧ b.toNat = n := by
  unfold u8s at hj
  rw [List.getElem?_map] at hj
  cases hq : l[j]? with
  | none => rw [hq] at hj; cases hj
  | some n =>
    rw [hq] at hj
    cases hj
    exact ⟨n, rfl, by rw [UInt8.toNat_ofNat']; exact Nat.mod_eq_of_lt (h n (List.mem_of_getElem? hq))⟩
theorem rdBytes_ok {x : AVal} {ns : List Nat} {u : Value} (h : rdBytes RO st x = some ns) (hx : VRel φ x u) (hw : WRel w0 φ st.heap st.next w) (hr : RRel w0 φ RO) : Byts w (fun k => k < w.heap.size) u (u8s ns) := by
  unfold rdBytes at h
  split at h
  · cases h
    cases hx
    exact ⟨none, 0, 0, rfl, rfl, Nat.le_refl _, Nat.zero_le _, fun _ => rfl, fun ad e => by cases e⟩
  · rename_i b o n _ _ _
    split at h
    · rename_i l t hrd
      cases hb : Nat.ble n 1000000 with
      | false => rw [hb] at h; cases h
      | true =>
      rw [hb] at h
      simp only [cond_true] at h
      have hn := Nat.le_of_ble_eq_true hb
      split at h
      · rename_i r hsl
        obtain ⟨hr1, hr2⟩ := slicedL_some hsl
        obtain ⟨g', b', m', xo, e1, e2, e3⟩ := rd_some hrd hw hr rfl
        cases hx with
        | slice _ _ _ _ _ g b0 nb cap _ a hφ hl hc he hz ha =>
        obtain ⟨rfl, rfl, rfl⟩ : g = g' ∧ b0 = b' ∧ nb = m' := by rw [hφ] at e1; simpa using e1
        obtain ⟨us, f1, f2, f3⟩ := orel_row e3 hr2
        rw [← hr1] at f2
        obtain ⟨g1, g2⟩ := bytesOf_some h f2
        have hlen : ns.length = n := by rw [← f1, g1]; simp
        refine ⟨some a, n, cap, rfl, by simp [u8s, hlen], by omega, by unfold maxLen; omega, fun e => (by cases e), fun ad e hp => ?_⟩
        cases e
        rcases ha with ⟨h0, _⟩ | rfl
        · omega
        · refine ⟨(Array.getElem?_eq_some_iff.1 e2).1, fun j c hj => ?_⟩
          obtain ⟨m, k1, k2⟩ := u8s_get g2 hj
          rw [k2]
          exact f3 w g e2 j _ (by rw [g1, List.getElem?_map, k1]; rfl)
      · cases h
    · cases h
  · cases h
/-- a call that changes nothing that was there -/
theorem quiet_ok {w' : World} {v : AVal} {u : Value} (hw : WRel w0 φ st.heap st.next w) (hb : Below w.heap.size w w') (hv : VRel φ v u) : StepOk w0 φ st w v st u w' := by
  refine ⟨φ, hv, ⟨hw.below.trans (hb.mono hw.below.size), hw.fresh, fun x o hx => ?_, hw.inj, hw.lt⟩, ⟨φ.le_refl, hb.size, fun x o g b n h1 h2 => .inr ⟨x, o, b, n, h1, h2⟩, fun g hg _ => hb.block g hg, fun _ h k => absurd k h⟩⟩
  rcases hw.obj x o hx with e | ⟨g, b, n, u, e1, e2, e3, e4⟩
  · exact .inl e
  · exact .inr ⟨g, b, n, u, e1, e2, (hb.block g (Array.getElem?_eq_some_iff.1 e3).1).trans e3, e4⟩
theorem VRels.bytes (φ : Phi) (l : List UInt8) : VRels φ (l.map fun b => AVal.int .u8 (b.toNat : Int)) (l.map fun b => Value.int .u8 (b.toNat : Int)) := by
  induction l with
  | nil => exact .nil
  | cons b l ih => exact .cons _ _ _ _ (.int _ _) ih
end
end Go.Proofs.Ythpldimdfbecjaa.Abs
