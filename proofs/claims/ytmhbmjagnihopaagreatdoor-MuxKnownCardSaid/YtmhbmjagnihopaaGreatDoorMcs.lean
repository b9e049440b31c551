/- maps.Clone as a hook (the maps of window and intake). By an AI agent. -/
import Derived.Test.YtmhbmjagnihopaaGreatDoorMps
import Derived.Shelf.SlMaps.Clone
namespace Go.Proofs.YtmhbmjagnihopaaGreatDoor.Ss
open Go Go.RowKit Go.Proofs.YtmhbmjagnihopaaGreatDoor.Abs Go.Proofs.YtmhbmjagnihopaaGreatDoor.Ky
set_option linter.unusedVariables false
set_option maxRecDepth 100000
section
variable {w0 : World} {φ : Phi}
abbrev CLONEI : FuncId := 103
theorem clone_someI (b : Nat) (es : Array MapEntry) (clock : Nat) (w : World) (hb : w.heap[b]? = some (.map es clock)) :
    Calls Tryz.prog CLONEI #[.map (some b)] w fun e w' => e = .returned (.map (some w.heap.size)) ∧ w' = w.alloc (.map es clock) := by
  have hq := run_eql_map_nil_sl (P := Tryz.prog) w 148 _ _ (some b) Tryz.underlying148
  go_enter Tryz.func103, Tryz.ntmps103
  go_wp2
  rw [run_callFunc_extern Tryz.func125 (by kernel_rfl) (by kernel_rfl) (by kernel_rfl) (e := Extern.MapsClone.clone) (by kernel_rfl), run_maps_clone_sl w 148 hb]
  simp only [Result.andThen]
  rw [Oper.upon_value]
  go_wp2
  rw [run_typeAssert_map_sl _ 148 20 _ _ _ Tryz.underlying148]
  simp only [Result.andThen]
  rw [Oper.upon_value]
  go_wp2
  go_ret
  exact ⟨rfl, rfl⟩
noncomputable def cloneH : Hook := fun args st =>
  match args with
  | [.map (some x)] => (match st.heap.get x with
    | some (.map es) => some (none, .map (some st.next), { heap := st.heap.set st.next (some (.map es)), next := Nat.succ st.next, log := st.log })
    | _ => none)
  | _ => none
theorem cloneH_okI {RO : PT AObj} : Call1Ok Tryz.prog w0 RO CLONEI (fun args st => got (cloneH args st)) := by
  intro args st v st' h0
  obtain ⟨ob, h, hob⟩ := got_some h0
  clear h0
  unfold cloneH at h
  split at h
  · rename_i x
    split at h
    · rename_i es hes
      cases h
      refine ⟨⟨[], rfl, Nat.le_succ _, fun b hb _ => by
                  show (PT.set _ _ _).get b = _
                  rw [PT.get_set, if_neg (by omega)]⟩, ⟨_, rfl, rfl, by kernel_rfl⟩, fun φ us w hus hw hro => ?_⟩
      cases hus with
      | cons _ u _ us1 hv hus1 =>
      cases hus1
      cases hv with
      | map _ gm bm nm hφm =>
      obtain ⟨g2, b2, n2, x2, k1, k2, k3, k4⟩ := hw.obj_at hes rfl
      obtain ⟨rfl, rfl, rfl⟩ : gm = g2 ∧ bm = b2 ∧ nm = n2 := by rw [hφm] at k1; simpa using k1
      obtain ⟨ms, clock, rfl, c1, c2, c3, c4⟩ := map_entries k4
      have hbel : Below w.heap.size w (w.alloc (.map ms clock)) := (Below.refl _ _).alloc (Nat.le_refl _) _
      have hgx : (w.alloc (.map ms clock)).heap[w.heap.size]? = some (.map ms clock) := by show (w.heap.push _)[w.heap.size]? = _; simp
      have hle := Phi.ext_le (w.heap.size, 0, 1) (hw.fresh _ (Nat.le_refl _))
      obtain ⟨q1, q2⟩ := new_grow (o := .map es) (n := 1) hw hbel (Nat.le_refl _) hgx (ORel.mono hle (ORel.map es 0 1 ms clock (by simpa using c1) c2 c3 (fun i e he => by simpa using c4 i e he)))
      refine (clone_someI gm ms clock w k3).mono fun e w' he => ?_
      obtain ⟨rfl, rfl⟩ := he
      exact ⟨_, rfl, _, .map _ _ 0 1 (Phi.ext_at _ _ _), q1, q2⟩
    · cases h
  · cases h
abbrev CLONEW : FuncId := 102
theorem clone_someW (b : Nat) (es : Array MapEntry) (clock : Nat) (w : World) (hb : w.heap[b]? = some (.map es clock)) :
    Calls Tryz.prog CLONEW #[.map (some b)] w fun e w' => e = .returned (.map (some w.heap.size)) ∧ w' = w.alloc (.map es clock) := by
  have hq := run_eql_map_nil_sl (P := Tryz.prog) w 140 _ _ (some b) Tryz.underlying140
  go_enter Tryz.func102, Tryz.ntmps102
  go_wp2
  rw [run_callFunc_extern Tryz.func125 (by kernel_rfl) (by kernel_rfl) (by kernel_rfl) (e := Extern.MapsClone.clone) (by kernel_rfl), run_maps_clone_sl w 140 hb]
  simp only [Result.andThen]
  rw [Oper.upon_value]
  go_wp2
  rw [run_typeAssert_map_sl _ 140 20 _ _ _ Tryz.underlying140]
  simp only [Result.andThen]
  rw [Oper.upon_value]
  go_wp2
  go_ret
  exact ⟨rfl, rfl⟩
theorem cloneH_okW {RO : PT AObj} : Call1Ok Tryz.prog w0 RO CLONEW (fun args st => got (cloneH args st)) := by
  intro args st v st' h0
  obtain ⟨ob, h, hob⟩ := got_some h0
  clear h0
  unfold cloneH at h
  split at h
  · rename_i x
    split at h
    · rename_i es hes
      cases h
      refine ⟨⟨[], rfl, Nat.le_succ _, fun b hb _ => by
                  show (PT.set _ _ _).get b = _
                  rw [PT.get_set, if_neg (by omega)]⟩, ⟨_, rfl, rfl, by kernel_rfl⟩, fun φ us w hus hw hro => ?_⟩
      cases hus with
      | cons _ u _ us1 hv hus1 =>
      cases hus1
      cases hv with
      | map _ gm bm nm hφm =>
      obtain ⟨g2, b2, n2, x2, k1, k2, k3, k4⟩ := hw.obj_at hes rfl
      obtain ⟨rfl, rfl, rfl⟩ : gm = g2 ∧ bm = b2 ∧ nm = n2 := by rw [hφm] at k1; simpa using k1
      obtain ⟨ms, clock, rfl, c1, c2, c3, c4⟩ := map_entries k4
      have hbel : Below w.heap.size w (w.alloc (.map ms clock)) := (Below.refl _ _).alloc (Nat.le_refl _) _
      have hgx : (w.alloc (.map ms clock)).heap[w.heap.size]? = some (.map ms clock) := by show (w.heap.push _)[w.heap.size]? = _; simp
      have hle := Phi.ext_le (w.heap.size, 0, 1) (hw.fresh _ (Nat.le_refl _))
      obtain ⟨q1, q2⟩ := new_grow (o := .map es) (n := 1) hw hbel (Nat.le_refl _) hgx (ORel.mono hle (ORel.map es 0 1 ms clock (by simpa using c1) c2 c3 (fun i e he => by simpa using c4 i e he)))
      refine (clone_someW gm ms clock w k3).mono fun e w' he => ?_
      obtain ⟨rfl, rfl⟩ := he
      exact ⟨_, rfl, _, .map _ _ 0 1 (Phi.ext_at _ _ _), q1, q2⟩
    · cases h
  · cases h
end
end Go.Proofs.YtmhbmjagnihopaaGreatDoor.Ss
