/- A closed run in parts: at a mark the state is given anew, as a literal that holds what is still looked at. By an AI agent. -/
import Derived.Test.YtmhbmjagnihopaaGreatDoorAbsY
namespace Go.Proofs.YtmhbmjagnihopaaGreatDoor.Abs
open Go Go.RowKit
set_option linter.unusedVariables false
noncomputable def tauL (l : List (Nat × AVal)) : PT AVal := l.foldr (fun x τ => τ.set x.1 (some x.2)) .leaf
noncomputable def hpL (l : List (Nat × AObj)) : PT AObj := l.foldr (fun x τ => τ.set x.1 (some x.2)) .leaf
theorem foldr_getL {α : Type} : ∀ {l : List (Nat × α)} {t : Nat} {v : α}, (l.foldr (fun x τ => PT.set τ x.1 (some x.2)) (.leaf : PT α)).get t = some v → (t, v) ∈ l
  | [], t, v, h => by cases h
  | (x, u) :: l, t, v, h => by
    simp only [List.foldr_cons] at h
    rw [PT.get_set] at h
    split at h
    · cases h; rename_i he; subst he; exact List.mem_cons_self
    · exact List.mem_cons_of_mem _ (foldr_getL h)
/-- what stands at these places -/
noncomputable def looksL {α : Type} (t : PT α) : List (Nat × α) → List (Option α)
  | [] => []
  | x :: l => t.get x.1 :: looksL t l
def somes {α : Type} : List (Nat × α) → List (Option α)
  | [] => []
  | x :: l => some x.2 :: somes l
theorem looksL_ok {α : Type} {t : PT α} : ∀ {l : List (Nat × α)}, looksL t l = somes l → ∀ x v, (x, v) ∈ l → t.get x = some v
  | [], _, x, v, hm => by cases hm
  | y :: l, h, x, v, hm => by
    have h1 : t.get y.1 = some y.2 := (List.cons.inj h).1
    have h2 : looksL t l = somes l := (List.cons.inj h).2
    rcases List.mem_cons.1 hm with rfl | hm
    · exact h1
    · exact looksL_ok h2 x v hm
def bi (l : List Nat) : List AVal := l.map fun n => .int .u8 (.ofNat n)
section
variable (P : Program) (RO : PT AObj) (hook : FuncId → Option (List AVal → St → Option (AVal × St)))
/-- so many pieces of a row of code -/
noncomputable def pre (f : Nat) : Nat → Code → Nat → Fr → PT AVal → St → Option (Fr × PT AVal × St)
  | 0, _, _, fr, τ, st => some (fr, τ, st)
  | m + 1, c, n, fr, τ, st => match c with
    | .seq a b => (match exec P RO hook f a n fr τ st with
      | some r => (match r.ex with
        | .normal => pre f m b n r.fr r.τ r.st
        | _ => none)
      | none => none)
    | _ => none
def rest : Nat → Code → Code
  | 0, c => c
  | m + 1, c => match c with
    | .seq _ b => rest m b
    | _ => c
/-- what a mark asks for -/
noncomputable def atMark (x : Option (Fr × PT AVal × St)) (lt : List (Nat × AVal)) (lh : List (Nat × AObj)) (next : Nat) : Option (Fr × List (Option AVal) × List (Option AObj) × Bool) :=
  match x with
  | some (fr, τ, st) => some (fr, looksL τ lt, looksL st.heap lh, Nat.ble st.next next)
  | none => none
end
section
variable {P : Program} {RO : PT AObj} {hook : FuncId → Option (List AVal → St → Option (AVal × St))} {w0 : World}
/-- what a piece of code does from a state on -/
def WPC (P : Program) (w0 : World) (RO : PT AObj) (c : Code) (n : Nat) (fr : Fr) (τ : PT AVal) (st : St) (Q : Exit → Act → World → Prop) : Prop :=
  ∀ φ a w rg kk, TRel φ n τ a.tmps → DRel φ fr.marks a.defers → ORo φ fr.round rg → WRel w0 φ st.heap st.next w → RRel w0 φ RO → c.wpIn (FR rg) kk P Q a w
/-- where it ends -/
def Fin (w0 : World) (RO : PT AObj) (n : Nat) (e : Ex) (τ : PT AVal) (st : St) (fr : Fr) : Exit → Act → World → Prop :=
  fun x a w => x = exOf e ∧ ∃ φ, TRel φ n τ a.tmps ∧ DRel φ fr.marks a.defers ∧ WRel w0 φ st.heap st.next w ∧ RRel w0 φ RO
theorem wpc_end {f : Nat} (hrec : ExecOk P w0 RO (exec P RO hook f)) {c : Code} {n : Nat} {fr fr' : Fr} {τ τ' : PT AVal} {st st' : St} {e : Ex} (h : exec P RO hook f c n fr τ st = some ⟨e, τ', st', fr'⟩) : WPC P w0 RO c n fr τ st (Fin w0 RO n e τ' st' fr') := by
  intro φ a w rg kk ht hd hro hw hr
  refine Code.wpIn_mono ?_ ((hrec _ _ _ _ _ _ _ _ _ h).2.2.1 φ a w rg kk ht hd hro hw hr)
  rintro x a' w' ⟨hx, ψ, p1, p2, p3, p4⟩
  exact ⟨hx, ψ, p1, p2, p3, hr.mono p4.le⟩
theorem wpc_pre {f : Nat} (hrec : ExecOk P w0 RO (exec P RO hook f)) {Q : Exit → Act → World → Prop} {n : Nat} : ∀ {m : Nat} {c : Code} {fr fr' : Fr} {τ τ' : PT AVal} {st st' : St}, pre P RO hook f m c n fr τ st = some (fr', τ', st') → WPC P w0 RO (rest m c) n fr' τ' st' Q → WPC P w0 RO c n fr τ st Q
  | 0, c, fr, fr', τ, τ', st, st', h, k => by cases h; exact k
  | m + 1, c, fr, fr', τ, τ', st, st', h, k => by
    unfold pre at h
    split at h
    · rename_i x y
      split at h
      · rename_i r hr1
        obtain ⟨e1, τ1, st1, fr1⟩ := r
        split at h
        · rename_i he
          have he : e1 = .normal := he
          subst he
          have ih := wpc_pre hrec (Q := Q) (m := m) h k
          obtain ⟨a0, a1, a2, _⟩ := hrec _ _ _ _ _ _ _ _ _ hr1
          intro φ a w rg kk ht hd hro hw hr
          refine wpIn_seq (Code.wpIn_mono ?_ (a2 φ a w rg kk ht hd hro hw hr))
          rintro x a' w' ⟨rfl, ψ, p1, p2, p3, p4⟩
          show y.wpIn _ _ P _ a' w'
          exact ih ψ a' w' rg kk p1 p2 (by rw [a0]; exact hro.mono p4.le) p3 (hr.mono p4.le)
        · cases h
      · cases h
    · cases h
theorem wpc_sub {c : Code} {n : Nat} {fr : Fr} {τ τ' : PT AVal} {st st' : St} {Q : Exit → Act → World → Prop} (ht : ∀ x v, τ'.get x = some v → τ.get x = some v) (hh : ∀ x o, st'.heap.get x = some o → st.heap.get x = some o ∧ x < st'.next) (hn : st.next ≤ st'.next)
    (k : WPC P w0 RO c n fr τ' st' Q) : WPC P w0 RO c n fr τ st Q := by
  intro φ a w rg kk h1 h2 h3 h4 h5
  refine k φ a w rg kk ⟨h1.size, fun t v hv => h1.at_ t v (ht t v hv)⟩ h2 h3 ?_ h5
  exact ⟨⟨h4.below, fun x hx => h4.fresh x (Nat.le_trans hn hx), fun x o hx => h4.obj x o (hh x o hx).1, fun x y o o' g b b' m m' hx hy => h4.inj x y o o' g b b' m m' (hh _ _ hx).1 (hh _ _ hy).1, fun x o hx => (hh x o hx).2⟩, h4.pool, fun k b L t x o b' m ht hx => h4.apart k b L t x o b' m ht (hh _ _ hx).1⟩
/-- from a mark to the next one -/
theorem wpc_mark {f m n : Nat} (hrec : ExecOk P w0 RO (exec P RO hook f)) {c : Code} {fr fr' : Fr} {τ : PT AVal} {st : St} {lt : List (Nat × AVal)} {lh : List (Nat × AObj)} {next : Nat} {Q : Exit → Act → World → Prop}
    (h : atMark (pre P RO hook f m c n fr τ st) lt lh next = some (fr', somes lt, somes lh, true)) (hl : (lh.all fun x => Nat.blt x.1 next) = true) (k : WPC P w0 RO (rest m c) n fr' (tauL lt) ⟨hpL lh, next, []⟩ Q) : WPC P w0 RO c n fr τ st Q := by
  cases hp : pre P RO hook f m c n fr τ st with
  | none => rw [hp] at h; cases h
  | some r =>
    obtain ⟨fr1, τ1, st1⟩ := r
    rw [hp] at h
    simp only [atMark, Option.some.injEq, Prod.mk.injEq] at h
    obtain ⟨rfl, h1, h2, h3⟩ := h
    refine wpc_pre hrec hp (wpc_sub (fun x v hx => looksL_ok h1 x v (foldr_getL hx)) (fun x o hx => ⟨looksL_ok h2 x o (foldr_getL hx), ?_⟩) (Nat.le_of_ble_eq_true h3) k)
    have := List.all_eq_true.1 hl _ (foldr_getL hx)
    simpa [Nat.blt_eq] using this
/-- a closed function, its body's row of code in parts -/
theorem closed_parts (hn : ∀ (f : FuncId) (fn : Func), P.funcs[f]? = some fn → (fn.name == "runtime.NumGoroutine") = false) {φ : Phi} (hro : RRel w0 φ RO) {next : Nat} (hf : ∀ x : Nat, next ≤ x → φ x = none) {g : FuncId} {fn : Func} {body : Code} (hfn : P.funcs[g]? = some fn) (hb : fn.body = some body)
    {e : Ex} {τ : PT AVal} {st : St} {fr : Fr} (he : e = .ret ∨ e = .normal) (k : WPC P w0 RO body fn.ntmps ⟨none, []⟩ .leaf ⟨.leaf, next, []⟩ (Fin w0 RO fn.ntmps e τ st fr))
    (hres : (match leaveA P fr.marks st with | some s => (match resultA P RO fn τ s with | some (.bool true) => true | _ => false) | none => false) = true) (hp : Pool φ w0 := by exact fun _ _ _ _ h => (by cases h)) : Calls P g #[] w0 fun e w' => e = .returned (.bool true) ∧ Below w0.heap.size w0 w' := by
  have hw : WRel w0 φ (.leaf : PT AObj) next w0 := WRel.start hf hp
  split at hres
  · rename_i s2 hs2
    split at hres
    · rename_i hv1
      refine CallsIn.calls (F := FR none) (n := 0) (callsIn_of_wp_marks hfn hb trivial (Code.wpIn_mono ?_ (k φ _ w0 none 0 (args_rel (args := []) .nil fn.ntmps) .nil .none hw hro))) (fun k d hd => by cases hd)
      rintro x a' w' ⟨rfl, ψ, p1, p2, p3, p4⟩
      have fin : LeavesInM (FR none) 0 P fn a'.tmps (fun e w' => e = .returned (.bool true) ∧ Below w0.heap.size w0 w') a'.defers .returning w' := leave_ok hn hs2 p2 p3 fun w2 q1 q2 => by
        obtain ⟨u, r1, r2⟩ := resultA_ok hv1 p1 q1 p4
        cases r1
        exact ⟨_, r2, rfl, q1.below⟩
      rcases he with he | he <;> rw [he] <;> exact fin
    · cases hres
  · cases hres
/-- the last part comes to true -/
noncomputable def retT (P : Program) (RO : PT AObj) (fn : Func) : Option Res → Bool
  | some ⟨.ret, τ, st, fr⟩ => (match leaveA P fr.marks st with | some s => (match resultA P RO fn τ s with | some (.bool true) => true | _ => false) | none => false)
  | _ => false
theorem closed_last {f : Nat} (hrec : ExecOk P w0 RO (exec P RO hook f)) (hn : ∀ (f : FuncId) (fn : Func), P.funcs[f]? = some fn → (fn.name == "runtime.NumGoroutine") = false) {φ : Phi} (hro : RRel w0 φ RO) {next : Nat} (hf : ∀ x : Nat, next ≤ x → φ x = none) {g : FuncId} {fn : Func} {body : Code} (hfn : P.funcs[g]? = some fn) (hb : fn.body = some body)
    {c : Code} {fr : Fr} {τ : PT AVal} {st : St} (h : retT P RO fn (exec P RO hook f c fn.ntmps fr τ st) = true) (k : ∀ Q, WPC P w0 RO c fn.ntmps fr τ st Q → WPC P w0 RO body fn.ntmps ⟨none, []⟩ .leaf ⟨.leaf, next, []⟩ Q) (hp : Pool φ w0 := by exact fun _ _ _ _ h => (by cases h)) : Calls P g #[] w0 fun e w' => e = .returned (.bool true) ∧ Below w0.heap.size w0 w' := by
  unfold retT at h
  split at h
  · rename_i τ1 st1 fr1 hr
    exact closed_parts hn hro hf hfn hb (.inl rfl) (k _ (wpc_end hrec hr)) h hp
  · cases h
end
end Go.Proofs.YtmhbmjagnihopaaGreatDoor.Abs
