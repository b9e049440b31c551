/- Hooks: a table of them; what comes in, taken apart. By an AI agent. -/
import Derived.Test.YtcofcojjofkgcaaHk2
import Derived.Test.YtcofcojjofkgcaaAbsU
namespace Go.Proofs.Ytcofcojjofkgcaa.Abs
open Go Go.RowKit Go.Proofs.Ytcofcojjofkgcaa.M
set_option linter.unusedVariables false
abbrev Hook := List AVal → St → Option (OP × AVal × St)
noncomputable def hkNone (_ : FuncId) : Option Hook := none
noncomputable def hkAdd (g : FuncId) (h : Hook) (r : FuncId → Option Hook) : FuncId → Option Hook := fun f => bif Nat.beq f g then some h else r f
def HooksOk (P : Program) (w0 : World) (RO : PT AObj) (r : FuncId → Option Hook) : Prop := ∀ f h, hookG r f = some h → Call1Ok P w0 RO f h
theorem hkNone_ok {P : Program} {w0 : World} {RO : PT AObj} : HooksOk P w0 RO hkNone := fun f h hh => by cases hh
theorem hkAdd_ok {P : Program} {w0 : World} {RO : PT AObj} {g : FuncId} {h : Hook} {r : FuncId → Option Hook} (h1 : Call1Ok P w0 RO g (fun args st => got (h args st))) (h2 : HooksOk P w0 RO r) : HooksOk P w0 RO (hkAdd g h r) := fun f h' hh => by
  unfold hookG hkAdd at hh
  cases hb : Nat.beq f g with
  | true =>
    rw [hb] at hh
    cases hh
    rw [Nat.eq_of_beq_eq_true hb]
    exact h1
  | false =>
    rw [hb] at hh
    exact h2 f h' hh
theorem atoms_nil {as : List Atom} (h : atomsOk [] as) : as = [] := by cases as <;> first | rfl | exact h.elim
theorem atoms_int {k : IntKind} {ds : List BD} {as : List Atom} (h : atomsOk (.int k :: ds) as) : ∃ z as', as = .z z :: as' ∧ inR k z ∧ atomsOk ds as' := by
  cases as with
  | nil => exact h.elim
  | cons a as =>
    obtain ⟨h1, h2⟩ := h
    cases a with
    | z n => exact ⟨n, as, rfl, h1, h2⟩
    | b => exact h1.elim
    | l => exact h1.elim
    | zs l => exact h1.elim
theorem atoms_bool {ds : List BD} {as : List Atom} (h : atomsOk (.bool :: ds) as) : ∃ b as', as = .b b :: as' ∧ atomsOk ds as' := by
  cases as with
  | nil => exact h.elim
  | cons a as =>
    obtain ⟨h1, h2⟩ := h
    cases a with
    | z => exact h1.elim
    | b c => exact ⟨c, as, rfl, h2⟩
    | l => exact h1.elim
    | zs l => exact h1.elim
theorem atoms_bytes {ds : List BD} {as : List Atom} (h : atomsOk (.bytes :: ds) as) : ∃ l as', as = .l l :: as' ∧ l.length ≤ 9223372036854775807 ∧ atomsOk ds as' := by
  cases as with
  | nil => exact h.elim
  | cons a as =>
    obtain ⟨h1, h2⟩ := h
    cases a with
    | z => exact h1.elim
    | b => exact h1.elim
    | l m => exact ⟨m, as, rfl, h1, h2⟩
    | zs l => exact h1.elim
theorem atoms_ints {k : IntKind} {ds : List BD} {as : List Atom} (h : atomsOk (.ints k :: ds) as) : ∃ l as', as = .zs l :: as' ∧ l.length ≤ 9223372036854775807 ∧ (∀ z ∈ l, inR k z) ∧ atomsOk ds as' := by
  cases as with
  | nil => exact h.elim
  | cons a as =>
    obtain ⟨h1, h2⟩ := h
    cases a with
    | zs l => exact ⟨l, as, rfl, h1.1, h1.2, h2⟩
    | _ => exact h1.elim
theorem atoms_str {ds : List BD} {as : List Atom} (h : atomsOk (.str :: ds) as) : ∃ l as', as = .l l :: as' ∧ l.length ≤ 9223372036854775807 ∧ atomsOk ds as' := by
  cases as with
  | nil => exact h.elim
  | cons a as =>
    obtain ⟨h1, h2⟩ := h
    cases a with
    | z => exact h1.elim
    | b => exact h1.elim
    | l m => exact ⟨m, as, rfl, h1, h2⟩
    | zs l => exact h1.elim
theorem VRel.lit {φ : Phi} {k : IntKind} {z : Int} {u : Value} (h : VRel φ (.sint k z) u) : VRel φ (.int k z) u := by cases h; exact VRel.int (φ := φ) _ _
/-- the first of a struct's is a literal -/
theorem rel_lit1 {φ : Phi} {k : IntKind} {z : Int} {l : List AVal} {us : List Value} {vs : List AVal} (h : VRels φ (.agg (.sint k z :: l) :: vs) us) : VRels φ (.agg (.int k z :: l) :: vs) us := by
  cases h with
  | cons _ u _ us e1 e2 => cases e1 with
    | agg _ c hc =>
      refine .cons _ _ _ _ (.agg _ _ ?_) e2
      generalize c.toList = cs at hc
      cases hc with
      | cons _ u1 _ us1 f1 f2 => exact .cons _ _ _ _ f1.lit f2
/-- a call that reads bytes, changes nothing and tells an int -/
noncomputable def bytesH (k : IntKind) (F : List UInt8 → Int) (RO : PT AObj) (args : List AVal) (st : St) : Option (OP × AVal × St) :=
  match args with
  | [x] => (match viewB RO st .bytes x with
    | some (ob, .l l) => some (ob, .sint k (F l), st)
    | _ => none)
  | _ => none
theorem viewB_byts {w0 w : World} {φ : Phi} {RO : PT AObj} {st : St} {v : AVal} {op : OP} {l : List UInt8} {u : Value} (h : viewB RO st .bytes v = some (op, .l l)) (hop : op.ok) (hv : VRel φ v u) (hw : WRel w0 φ st.heap st.next w) (hr : RRel w0 φ RO) : Byts w (fun k => k < w.heap.size) u l ∧ l.length ≤ 9223372036854775807 := by
  simp only [viewB] at h
  split at h
  · cases h
  · cases h
  · rename_i hs hs2
    split at h
    · rename_i ob l hl
      cases h
      obtain ⟨h1, h2⟩ := andP_some hop
      exact ⟨srcB_byts hl h1 hs hs2 hv hw hr (by unfold maxLen; omega), h2⟩
    · cases h
theorem bytesH_ok {P : Program} {w0 : World} {RO : PT AObj} {g : FuncId} {k : IntKind} {F : List UInt8 → Int} (hb : ∃ fn, P.funcs[g]? = some fn ∧ fn.body.isNone = false ∧ (fn.name == "runtime.NumGoroutine") = false)
    (hin : ∀ l, l.length ≤ 9223372036854775807 → inR k (F l)) (hc : ∀ v l S w, Byts w S v l → l.length ≤ 9223372036854775807 → Calls P g #[v] w fun e w' => e = .returned (.int k (F l)) ∧ Below w.heap.size w w') : Call1Ok P w0 RO g (fun args st => got (bytesH k F RO args st)) := by
  intro args st v st' h
  obtain ⟨ob, h, hob⟩ := got_some h
  unfold bytesH at h
  split at h
  · rename_i x
    split at h
    · rename_i op l hv
      cases h
      refine ⟨.refl _, hb, fun φ us w hus hw hr => ?_⟩
      cases hus with
      | cons _ u _ us e1 e2 => cases e2 with
        | nil =>
        obtain ⟨h1, h2⟩ := viewB_byts hv hob e1 hw hr
        refine (hc u l _ w h1 h2).mono fun e w' he => ?_
        obtain ⟨rfl, hb⟩ := he
        exact ⟨_, rfl, quiet_ok hw hb (.sint _ _ (hin l h2))⟩
    · cases h
  · cases h
/-- a closed call that tells true -/
noncomputable def trueH (args : List AVal) (st : St) : Option (OP × AVal × St) := match args with | [] => some (none, .bool true, st) | _ => none
theorem trueH_ok {P : Program} {w0 : World} {RO : PT AObj} {g : FuncId} (hb : ∃ fn, P.funcs[g]? = some fn ∧ fn.body.isNone = false ∧ (fn.name == "runtime.NumGoroutine") = false)
    (hc : ∀ w, Below w0.heap.size w0 w → Calls P g #[] w fun e w' => e = .returned (.bool true) ∧ Below w.heap.size w w') : Call1Ok P w0 RO g (fun args st => got (trueH args st)) := by
  intro args st v st' h
  obtain ⟨ob, h, hob⟩ := got_some h
  unfold trueH at h
  split at h
  · cases h
    refine ⟨.refl _, hb, fun φ us w hus hw hr => ?_⟩
    cases hus with
    | nil =>
    refine (hc w hw.below).mono fun e w' he => ?_
    obtain ⟨rfl, hb⟩ := he
    exact ⟨_, rfl, quiet_ok hw hb (VRel.bool (φ := φ) _)⟩
  · cases h
end Go.Proofs.Ytcofcojjofkgcaa.Abs
