/- Closed functions run by an interpreter: its runs are the model's. By an AI agent. -/
import Derived.Test.YtcofcojjofkgcaaAbsD
import Derived.RecoverIn
import Derived.TacticsInMore
namespace Go.Proofs.Ytcofcojjofkgcaa.Abs
open Go Go.RowKit
set_option linter.unusedVariables false
/-- a loop's block that is no longer spoken of -/
structure Dead (w0 : World) (φ : Phi) (H : PT AObj) (w : World) (g : Nat) : Prop where
  low : w0.heap.size ≤ g
  is : w.heap[g]? = some (.deferred (some []))
  free : ∀ x o b n, H.get x = some o → φ x ≠ some (g, b, n)
abbrev coll (g : Nat) : Deferred := { target := .collected g, args := #[] }
/-- the loops' blocks that a frame must shut -/
inductive DRel (w0 : World) (φ : Phi) (H : PT AObj) (w : World) : List Mark → List Deferred → Prop
  | nil : DRel w0 φ H w [] []
  | cons (x g b n : Nat) (xs : List Mark) (ds : List Deferred) (h : φ x = some (g, b, n)) (hs : DRel w0 φ H w xs ds) : DRel w0 φ H w (.blk x :: xs) ({ target := .collected g, args := #[] } :: ds)
  | fn (f : FuncId) (xs : List Mark) (ds : List Deferred) (hs : DRel w0 φ H w xs ds) : DRel w0 φ H w (.fn f :: xs) ({ target := .fn (.func f) #[], args := #[] } :: ds)
  | old (gs : List Nat) (xs : List Mark) (ds : List Deferred) (hd : ∀ g ∈ gs, Dead w0 φ H w g) (hnd : gs.Nodup) (hne : ∀ g ∈ gs, coll g ∉ ds) (hs : DRel w0 φ H w xs ds) : DRel w0 φ H w (.old :: xs) (gs.map coll ++ ds)
theorem Dead.step {w0 : World} {φ ψ : Phi} {H H' : PT AObj} {w w' : World} {g : Nat} (hs : Step φ H w ψ H' w') (h : Dead w0 φ H w g) : Dead w0 ψ H' w' g := by
  have hlt : g < w.heap.size := (Array.getElem?_eq_some_iff.1 h.is).1
  refine ⟨h.low, (hs.frame g hlt h.free).trans h.is, fun x o b n hx hφ => ?_⟩
  rcases hs.orig x o g b n hx hφ with h1 | ⟨y, o', b', n', h1, h2⟩
  · omega
  · exact h.free y o' b' n' h1 h2
theorem DRel.step {w0 : World} {φ ψ : Phi} {H H' : PT AObj} {w w' : World} {xs : List Mark} {ds : List Deferred} (h : DRel w0 φ H w xs ds) (hs : Step φ H w ψ H' w') : DRel w0 ψ H' w' xs ds := by
  induction h with
  | nil => exact .nil
  | fn f xs ds _ ih => exact .fn f xs ds ih
  | cons x g b n xs ds h _ ih => exact .cons x g b n xs ds (hs.le _ _ h) ih
  | old gs xs ds hd hnd hne _ ih => exact .old gs xs ds (fun g hg => (hd g hg).step hs) hnd hne ih
theorem DRel.put {w0 : World} {φ : Phi} {H : PT AObj} {w : World} {xs : List Mark} {ds : List Deferred} {g : Nat} {o : Obj} (h : DRel w0 φ H w xs ds) (hg : coll g ∉ ds) : DRel w0 φ H (w.putObj g o) xs ds := by
  induction h with
  | nil => exact .nil
  | fn f xs ds _ ih => exact .fn f xs ds (ih fun e => hg (List.mem_cons_of_mem _ e))
  | cons x g' b n xs ds h _ ih => exact .cons x g' b n xs ds h (ih fun e => hg (List.mem_cons_of_mem _ e))
  | old gs xs ds hd hnd hne _ ih =>
    refine .old gs xs ds (fun g' hg' => ⟨(hd g' hg').low, ?_, (hd g' hg').free⟩) hnd hne (ih fun e => hg (List.mem_append_right _ e))
    have hne : g' ≠ g := fun e => hg (List.mem_append_left _ (List.mem_map.2 ⟨g', hg', by rw [e]⟩))
    rw [World.putObj_heap_other hne]
    exact (hd g' hg').is
/-- what a frame must shut is what it had to, or is new -/
def DNew (w : World) (ds ds' : List Deferred) : Prop := ∀ g, coll g ∈ ds' → coll g ∈ ds ∨ w.heap.size ≤ g
theorem DNew.refl (w : World) (ds : List Deferred) : DNew w ds ds := fun _ h => .inl h
theorem DNew.trans {w w1 : World} {ds ds1 ds2 : List Deferred} (h : DNew w ds ds1) (hle : w.heap.size ≤ w1.heap.size) (k : DNew w1 ds1 ds2) : DNew w ds ds2 := fun g hg => by
  rcases k g hg with h1 | h1
  · exact h g h1
  · exact .inr (Nat.le_trans hle h1)
inductive ORo (φ : Phi) : Option Nat → Option Nat → Prop
  | none : ORo φ none none
  | some (x g b n : Nat) (h : φ x = some (g, b, n)) : ORo φ (some x) (some g)
theorem ORo.mono {φ ψ : Phi} (hle : φ.le ψ) {x y : Option Nat} (h : ORo φ x y) : ORo ψ x y := by
  cases h with
  | none => exact .none
  | some x g b n h => exact .some x g b n (hle _ _ h)
/-- where a piece of code leaves things, the frame's loops too -/
def PostX (w0 : World) (φ : Phi) (st : St) (w : World) (n : Nat) (ds : List Deferred) (fr' : Fr) (τ' : PT AVal) (st' : St) (a' : Act) (w' : World) : Prop :=
  ∃ ψ, TRel ψ n τ' a'.tmps ∧ (DRel w0 ψ st'.heap w' fr'.marks a'.defers ∧ DNew w ds a'.defers) ∧ WRel w0 ψ st'.heap st'.next w' ∧ Step φ st.heap w ψ st'.heap w'
section
variable {P : Program} {RO : PT AObj} {call : Who → List AVal → St → Option (AVal × St)} {w0 : World} {ops : Array Oper} {nt : Nat}
theorem PostX.after {φ ψ : Phi} {st st1 st' : St} {w w1 : World} {n : Nat} {ds ds1 : List Deferred} {fr' : Fr} {τ' : PT AVal} {a' : Act} {w' : World} (hs : Step φ st.heap w ψ st1.heap w1) (hd : DNew w ds ds1) (h : PostX w0 ψ st1 w1 n ds1 fr' τ' st' a' w') : PostX w0 φ st w n ds fr' τ' st' a' w' := by
  obtain ⟨χ, h1, h2, h3, h4⟩ := h
  exact ⟨χ, h1, ⟨h2.1, hd.trans hs.size h2.2⟩, h3, hs.trans h4⟩
theorem Post.after {φ ψ : Phi} {st st1 st' : St} {w w1 : World} {n : Nat} {τ' : PT AVal} {ds : List Deferred} {a' : Act} {w' : World} (hs : Step φ st.heap w ψ st1.heap w1) (h : Post w0 ψ st1 w1 n τ' st' ds a' w') : Post w0 φ st w n τ' st' ds a' w' := by
  obtain ⟨χ, h1, h2, h3, h4⟩ := h
  exact ⟨χ, h1, h2, h3, hs.trans h4⟩
theorem put_defers (a : Act) (d : Option Tmp) (v : Value) : (a.put d v).defers = a.defers := by unfold Act.put; split <;> rfl
theorem runOps_ok (hc : CallOk P w0 RO call) : ∀ {l : List Oper} {τ τ' : PT AVal} {st st' : St}, runOps P RO call ops.toList nt l τ st = some (τ', st') →
    Logs st st' ∧ ∀ {Q : Exit → Act → World → Prop} (φ : Phi) (a : Act) (w : World), TRel φ nt τ a.tmps → WRel w0 φ st.heap st.next w → RRel w0 φ RO → (∀ a' w', Post w0 φ st w nt τ' st' a.defers a' w' → Q .normal a' w') → ∀ rg kk, wpListIn (FR rg) kk P ops Q l a w
  | [], τ, τ', st, st', h => by
    cases h
    exact ⟨Logs.refl _, fun φ a w ht hw hr hQ rg kk => hQ a w ⟨φ, ht, rfl, hw, Step.refl _ _ _⟩⟩
  | o :: os, τ, τ', st, st', h => by
    simp only [runOps] at h
    split at h
    · rename_i hwn
      cases hop : runOp P RO call τ st o.op with
      | none => rw [hop] at h; cases h
      | some r =>
        obtain ⟨v, st1⟩ := r
        rw [hop] at h
        simp only [runGo] at h
        split at h
        · rename_i τ1 hτ
          obtain ⟨k1, k2⟩ := runOps_ok hc h
          refine ⟨(runOp_wp (rg := none) (kk := 0) (φ := fun _ => none) (n := nt) (a := ⟨#[], []⟩) (w := w0) hc hop).1.trans k1, fun φ a w ht hw hr hQ rg kk => ?_⟩
          unfold wpListIn
          rw [wanted_some hwn ht, if_pos rfl]
          refine (runOp_wp hc hop).2 ht hw hr fun u w1 hs => ?_
          obtain ⟨ψ, e1, e2, e3⟩ := hs
          refine k2 ψ _ w1 ((ht.mono e3.le).put hτ e1) e2 (hr.mono e3.le) (fun a' w' hp => hQ a' w' ?_) rg kk
          rw [put_defers] at hp
          exact hp.after e3
        · cases h
    · rename_i hwn
      simp only [runGo] at h
      split at h
      · rename_i τ1 hτ
        obtain ⟨k1, k2⟩ := runOps_ok hc h
        refine ⟨k1, fun φ a w ht hw hr hQ rg kk => ?_⟩
        unfold wpListIn
        rw [wanted_some hwn ht, if_neg (by simp)]
        refine ⟨fun _ _ => trivial, k2 φ _ w (ht.put hτ VRel.undef) hw hr (fun a' w' hp => hQ a' w' ?_) rg kk⟩
        rw [put_defers] at hp
        exact hp
      · cases h
    · cases h
theorem region_ok (hm : P.follows .mixedOrders = true) (hc : CallOk P w0 RO call) {id : Nat} {draws : Bool} {τ τ' : PT AVal} {st st' : St}
    (h : (bif draws then runDraw P RO call ops.toList nt τ st else runOps P RO call ops.toList nt ops.toList τ st) = some (τ', st')) :
    Logs st st' ∧ ∀ φ a w, TRel φ nt τ a.tmps → WRel w0 φ st.heap st.next w → RRel w0 φ RO → ∀ rg kk, (Code.region id ops draws).wpIn (FR rg) kk P (fun e a' w' => e = .normal ∧ Post w0 φ st w nt τ' st' a.defers a' w') a w := by
  cases draws with
  | true => exact runDraw_ok hm hc h
  | false =>
    obtain ⟨k1, k2⟩ := runOps_ok hc h
    exact ⟨k1, fun φ a w ht hw hr rg kk => wpIn_region_list (k2 φ a w ht hw hr (fun a' w' hp => ⟨rfl, hp⟩) rg kk)⟩
theorem roundsIn_mono {F : Fence} {kk : Nat} {c : Code} {Q Q' : Exit → Act → World → Prop} (hq : ∀ e a w, Q e a w → Q' e a w) : ∀ m a w, Code.roundsIn F kk P c Q m a w → Code.roundsIn F kk P c Q' m a w
  | 0, _, _, h => h.elim
  | m + 1, a, w, h => by
    rw [roundsIn_succ] at h ⊢
    refine Code.wpIn_mono ?_ h
    intro e a' w' he
    cases e with
    | normal => exact roundsIn_mono hq m a' w' he
    | exit j => exact hq _ _ _ he
    | goto l => exact hq _ _ _ he
    | ret => exact hq _ _ _ he
    | panic ch => exact hq _ _ _ he
    | outgrown => exact hq _ _ _ he
def exOf : Ex → Exit
  | .normal => .normal
  | .exit id => .exit id
  | .ret => .ret
/-- what running code must do -/
def ExecOk (P : Program) (w0 : World) (RO : PT AObj) (rec : Code → Nat → Fr → PT AVal → St → Option Res) : Prop :=
  ∀ c n fr τ st e τ' st' fr', rec c n fr τ st = some ⟨e, τ', st', fr'⟩ → fr'.round = fr.round ∧ Logs st st' ∧
    (∀ φ a w rg kk, TRel φ n τ a.tmps → DRel w0 φ st.heap w fr.marks a.defers → ORo φ fr.round rg → WRel w0 φ st.heap st.next w → RRel w0 φ RO → c.wpIn (FR rg) kk P (fun x a' w' => x = exOf e ∧ PostX w0 φ st w n a.defers fr' τ' st' a' w') a w) ∧
    ∀ b, c = .loop b → ∃ m, ∀ φ a w rg kk, TRel φ n τ a.tmps → DRel w0 φ st.heap w fr.marks a.defers → ORo φ fr.round rg → WRel w0 φ st.heap st.next w → RRel w0 φ RO → Code.roundsIn (FR rg) kk P b (fun x a' w' => x = exOf e ∧ PostX w0 φ st w n a.defers fr' τ' st' a' w') m a w
def Call1Ok (P : Program) (w0 : World) (RO : PT AObj) (f : FuncId) (c : List AVal → St → Option (AVal × St)) : Prop :=
  ∀ args st v st', c args st = some (v, st') → Logs st st' ∧ (∃ fn, P.funcs[f]? = some fn ∧ fn.body.isNone = false ∧ (fn.name == "runtime.NumGoroutine") = false) ∧
    ∀ φ us w, VRels φ args us → WRel w0 φ st.heap st.next w → RRel w0 φ RO → Calls P f us.toArray w fun e w' => ∃ u, e = .returned u ∧ StepOk w0 φ st w v st' u w'
theorem argsT_get : ∀ (l : List AVal) (i : Nat) (τ : PT AVal) (t : Nat), (argsT l i τ).get t = if i ≤ t ∧ t < i + l.length then l[t - i]? else τ.get t
  | [], i, τ, t => by
    show τ.get t = _
    rw [if_neg (by rintro ⟨h1, h2⟩; simp at h2; omega)]
  | v :: vs, i, τ, t => by
    show (argsT vs (i + 1) (τ.set i (some v))).get t = _
    rw [argsT_get vs (i + 1)]
    by_cases h1 : t = i
    · subst h1
      rw [if_neg (by omega), PT.get_set, if_pos rfl, if_pos (by simp)]
      simp
    · by_cases h2 : i + 1 ≤ t ∧ t < i + 1 + vs.length
      · rw [if_pos h2, if_pos (by simp; omega)]
        rw [show t - i = (t - (i + 1)) + 1 by omega]
        simp
      · rw [if_neg h2, PT.get_set, if_neg h1, if_neg (by simp at h2 ⊢; omega)]
theorem args_rel {φ : Phi} {args : List AVal} {us : List Value} (h : VRels φ args us) (k : Nat) :
    TRel φ (bif Nat.ble (lenL args 0) k then k else lenL args 0) (argsT args 0 .leaf) (us.toArray ++ Array.replicate (k - us.toArray.size) undef) := by
  have hl := h.length
  refine ⟨?_, fun t => ?_⟩
  · rw [lenL0]
    cases hb : Nat.ble args.length k with
    | true => have := Nat.le_of_ble_eq_true hb; simp; omega
    | false =>
      have : ¬ args.length ≤ k := fun hle => by rw [Nat.ble_eq_true_of_le hle] at hb; cases hb
      simp; omega
  · rw [argsT_get]
    by_cases ht : t < args.length
    · rw [if_pos (by omega), Nat.sub_zero, List.getElem?_eq_getElem ht]
      obtain ⟨u, h1, h2⟩ := h.get (List.getElem?_eq_getElem ht)
      rw [Array.getD_eq_getD_getElem?, Array.getElem?_append_left (by simp; omega), List.getElem?_toArray, h1]
      intro v hv; cases hv; exact h2
    · rw [if_neg (by omega)]
      intro v hv; cases hv
def resSem (tmps : Array Value) (r : ResultVar) : Sem Value :=
  match r with
  | .tmp t => pure (tmps.getD t undef)
  | .cell a t => do loadVar t (← asAddr (tmps.getD a undef))
theorem results_sem (fn : Func) (tmps : Array Value) : results fn tmps = (do
    let vs ← fn.results.mapM (resSem tmps)
    pure (if h : vs.size = 1 then vs[0] else .tuple vs)) := rfl
theorem resOf_ok {φ : Phi} {n : Nat} {τ : PT AVal} {tmps : Array Value} {st : St} {w : World} {r : ResultVar} {v : AVal} (h : resOf P RO τ st r = some v) (ht : TRel φ n τ tmps) (hw : WRel w0 φ st.heap st.next w) (hr : RRel w0 φ RO) :
    ∃ u, VRel φ v u ∧ (resSem tmps r).run P w = .ok u w := by
  cases r with
  | tmp t => exact ⟨_, ht.at_ t v h, rfl⟩
  | cell a t =>
    simp only [resOf] at h
    split at h
    · rename_i b o hq
      split at h
      · rename_i l ty hrd
        have h1 := ht.at_ a _ hq
        generalize hv : tmps.getD a undef = pv at h1
        cases h1 with
        | ptr _ _ g b0 m hφ =>
        obtain ⟨g', b', m', x, e1, e2, e3⟩ := rd_some hrd hw hr rfl
        obtain ⟨rfl, rfl, rfl⟩ : g = g' ∧ b0 = b' ∧ m = m' := by rw [hφ] at e1; simpa using e1
        obtain ⟨u, k1, k2⟩ := loadVar_some h e3
        exact ⟨u, k1, by simp [resSem, hv, asAddr, k2 w g e2]⟩
      · cases h
    · cases h
theorem ressOf_ok {φ : Phi} {n : Nat} {τ : PT AVal} {tmps : Array Value} {st : St} {w : World} (ht : TRel φ n τ tmps) (hw : WRel w0 φ st.heap st.next w) (hr : RRel w0 φ RO) : ∀ {rs : List ResultVar} {vs : List AVal}, ressOf P RO τ st rs = some vs →
    ∃ us, VRels φ vs us ∧ (rs.mapM (m := Sem) (resSem tmps)).run P w = .ok us w
  | [], vs, h => by cases h; exact ⟨[], .nil, rfl⟩
  | r :: rs, vs, h => by
    simp only [ressOf] at h
    split at h
    · rename_i v vs' h1 h2
      cases h
      obtain ⟨u, a1, a2⟩ := resOf_ok h1 ht hw hr
      obtain ⟨us, b1, b2⟩ := ressOf_ok ht hw hr h2
      refine ⟨u :: us, .cons _ _ _ _ a1 b1, ?_⟩
      rw [List.mapM_cons, Sem.run_bind, a2]
      simp only [Result.andThen_ok]
      rw [Sem.run_bind, b2]
      rfl
    · cases h
theorem resultA_ok {φ : Phi} {fn : Func} {n : Nat} {τ : PT AVal} {tmps : Array Value} {st : St} {w : World} {v : AVal} (h : resultA P RO fn τ st = some v) (ht : TRel φ n τ tmps) (hw : WRel w0 φ st.heap st.next w) (hr : RRel w0 φ RO) :
    ∃ u, VRel φ v u ∧ (results fn tmps).run P w = .ok u w := by
  unfold resultA at h
  have main : ∀ vs, ressOf P RO τ st fn.results.toList = some vs → ∃ us : List Value, VRels φ vs us ∧ (results fn tmps).run P w = .ok (if h : us.toArray.size = 1 then us.toArray[0] else .tuple us.toArray) w := fun vs hvs => by
    obtain ⟨us, a1, a2⟩ := ressOf_ok ht hw hr hvs
    refine ⟨us, a1, ?_⟩
    rw [results_sem, Array.mapM_eq_mapM_toList, Sem.run_bind]
    simp only [map_eq_pure_bind, Sem.run_bind]
    rw [a2]
    rfl
  split at h
  · rename_i v1 hvs
    cases h
    obtain ⟨us, a1, a2⟩ := main _ hvs
    cases a1 with
    | cons _ u _ us' b1 b2 => cases b2 with
      | nil => exact ⟨u, b1, a2⟩
  · rename_i vs hvs hno
    cases h
    obtain ⟨us, a1, a2⟩ := main _ hno
    have hl := a1.length
    have hne : ¬ us.toArray.size = 1 := fun he => by
      rcases us with _ | ⟨u, _ | ⟨u2, us⟩⟩
      · simp at he
      · cases a1 with
        | cons v _ _ _ b1 b2 => cases b2 with
          | nil => exact hvs v rfl
      · simp at he
    rw [dif_neg hne] at a2
    exact ⟨_, .tuple _ _ (by simpa using a1), a2⟩
  · cases h
/-- a block is no longer spoken of, and becomes another thing -/
theorem gone_ok {φ : Phi} {H : PT AObj} {next : Nat} {w w' : World} (hw : WRel w0 φ H next w) {b g b0 n : Nat} {o : AObj} (hb : H.get b = some o) (hφ : φ b = some (g, b0, n)) (hs : w'.heap.size = w.heap.size) (hk : ∀ k, k ≠ g → w'.heap[k]? = w.heap[k]?)
    (h1 : w'.os = w.os) (h2 : w'.tape = w.tape) (h3 : w'.output = w.output) : WRel w0 φ (H.set b none) next w' ∧ Step φ H w φ (H.set b none) w' := by
  obtain ⟨g', b', n', u, e1, e2, e3, e4⟩ := hw.obj_of hb hφ
  obtain ⟨rfl, rfl, rfl⟩ : g = g' ∧ b0 = b' ∧ n = n' := by rw [hφ] at e1; simpa using e1
  have hget : ∀ y o1, (H.set b none).get y = some o1 → H.get y = some o1 ∧ y ≠ b := fun y o1 hy => by
    rw [PT.get_set] at hy
    split at hy
    · cases hy
    · exact ⟨hy, ‹_›⟩
  refine with_pool hw (fun _ _ _ => rfl) ?_
  refine ⟨⟨⟨h1.trans hw.below.os, h2.trans hw.below.tape, h3.trans hw.below.output, by rw [hs]; exact hw.below.size, fun k hk' => (hk k (by omega)).trans (hw.below.block k hk')⟩, hw.fresh, fun y o1 hy => ?_, fun y z o1 o2 g1 b1 b2 m m' hy hz h4 h5 => hw.inj y z o1 o2 g1 b1 b2 m m' (hget y o1 hy).1 (hget z o2 hz).1 h4 h5, fun y o1 hy => hw.lt y o1 (hget y o1 hy).1⟩,
    ⟨φ.le_refl, by omega, fun y o1 g1 b1 n1 hy h4 => .inr ⟨y, o1, b1, n1, (hget y o1 hy).1, h4⟩, fun g1 hg1 hn => hk g1 fun hgg => hn b o b0 n hb (hgg ▸ hφ), fun _ h k => absurd k h⟩⟩
  obtain ⟨hy1, hy2⟩ := hget y o1 hy
  rcases hw.obj y o1 hy1 with e | ⟨g1, b1, n1, u1, f1, f2, f3, f4⟩
  · exact .inl e
  exact .inr ⟨g1, b1, n1, u1, f1, f2, (hk g1 fun hgg => hy2 (by subst hgg; exact hw.inj y b o1 o g1 b1 b0 n1 n hy1 hb f1 hφ)).trans f3, f4⟩
theorem quiet_deferred {f : FuncId} (h : quietB P f = true) (kk : Nat) (w : World) : CallsDIn (FR none) kk P f #[] .returning w fun e u' w' => (∃ v, e = .returned v) ∧ u' = .returning ∧ w' = w := by
  unfold quietB at h
  split at h
  · rename_i fn hfn
    split at h
    · rename_i id ops hb hres
      split at h
      · rename_i o ho
        have hops : ops = #[o] := Array.toList_inj.1 ho
        subst hops
        have hr : fn.results = #[] := Array.toList_inj.1 hres
        refine callsDIn_of_wpSIn hfn hb trivial fun c₀ cs hu => ?_
        apply wpSIn_region
        obtain ⟨dst, op, type, pos, after, guard⟩ := o
        unfold recO at h
        simp only at h
        split at h
        · rename_i c
          split at h
          · rename_i hc hca hct
            obtain ⟨callee, args, tys⟩ := c
            simp only at hc hca hct
            subst hc
            obtain rfl : args = #[] := Array.toList_inj.1 hca
            obtain rfl : tys = #[] := Array.toList_inj.1 hct
            have hi : List.range (#[(⟨dst, .call ⟨.builtin .recover, #[], #[]⟩, type, pos, after, none⟩ : Oper)]).size = [0] := rfl
            rw [hi]
            simp [wpOpsSIn, go_sem, recoverD, hu, bodyPostS, results, hr, FR, Region.wanted]
            refine ⟨by cases dst <;> rfl, ?_⟩
            rw [← hu]
          · cases h
        · cases h
      · cases h
    · cases h
  · cases h
theorem deferOf_some {fr : Fr} {l : List Oper} {draws : Bool} {f : FuncId} (h : deferOf fr l draws = some f) : fr.round = none ∧ draws = false ∧ ∃ tys type pos after, l = [⟨none, .defer ⟨.value (.func f), #[], tys⟩, type, pos, after, none⟩] := by
  unfold deferOf at h
  split at h
  · cases h
  · rename_i o os
    split at h
    · split at h
      · rename_i c hop
        split at h
        · rename_i hc hca hg hd hf
          cases h
          obtain ⟨dst, op, type, pos, after, guard⟩ := o
          obtain ⟨callee, args, tys⟩ := c
          simp only at hop hc hca hg hd
          subst hop hc hg hd
          obtain rfl : args = #[] := Array.toList_inj.1 hca
          exact ⟨hf, rfl, tys, type, pos, after, rfl⟩
        · cases h
      · cases h
    · cases h
theorem defer_region {id : Nat} {f : FuncId} {type : TypeId} {pos : String} {after : Array Edge} {tys : Array TypeId} {a : Act} {w : World} {kk : Nat} {Q : Exit → Act → World → Prop}
    (h : Q .normal { a with defers := { target := .fn (.func f) #[], args := #[] } :: a.defers } w) :
    (Code.region id #[⟨none, .defer ⟨.value (.func f), #[], tys⟩, type, pos, after, none⟩] false).wpIn (FR none) kk P Q a w := by
  refine wpIn_region_list ?_
  unfold wpListIn
  simp [Region.wanted, Oper.wpIn, FR, wpListIn]
  rw [Oper.semAt_none]
  simp [go_sem, execOp, resolve, Deferred.ofValue, Oper.uponIn, Act.put]
  exact h
theorem leave_logs : ∀ {xs : List Mark} {st s : St}, leaveA P xs st = some s → Logs st s
  | [], st, s, h => by cases h; exact .refl _
  | .fn f :: xs, st, s, h => by
    simp only [leaveA] at h
    split at h
    · exact leave_logs h
    · cases h
  | .old :: xs, st, s, h => leave_logs (xs := xs) h
  | .blk x :: xs, st, s, h => by
    simp only [leaveA] at h
    split at h
    · refine Logs.trans ?_ (leave_logs h)
      exact ⟨[x], rfl, Nat.le_refl _, fun y _ hn => by
        refine (PT.get_set _ _ _ _).trans ?_
        rw [if_neg (by simpa using hn)]⟩
    · cases h
/-- a block that is no longer spoken of is shut -/
theorem dead_gone {φ : Phi} {H : PT AObj} {next : Nat} {w : World} {g : Nat} (hw : WRel w0 φ H next w) (hd : Dead w0 φ H w g) :
    WRel w0 φ H next (w.putObj g (.deferred none)) ∧ ∀ {φ0 : Phi} {H0 : PT AObj} {wS : World}, Step φ0 H0 wS φ H w → wS.heap.size ≤ g → Step φ0 H0 wS φ H (w.putObj g (.deferred none)) := by
  have hk : ∀ k, k ≠ g → (w.putObj g (.deferred none)).heap[k]? = w.heap[k]? := fun k hk => World.putObj_heap_other hk
  refine ⟨⟨⟨⟨hw.below.os, hw.below.tape, hw.below.output, by rw [World.putObj_size]; exact hw.below.size, fun k hk' => (hk k (by have := hd.low; omega)).trans (hw.below.block k hk')⟩, hw.fresh, fun x o hx => ?_, hw.inj, hw.lt⟩, fun k b L t ht => ?_, hw.apart⟩,
    fun {φ0 H0 wS} hS hle => ⟨⟨hS.le, by rw [World.putObj_size]; exact hS.size, hS.orig, fun k hk2 hn => (hk k (by omega)).trans (hS.frame k hk2 hn), hS.only⟩, hS.pl⟩⟩
  · rcases hw.obj x o hx with h1 | ⟨k, b, n, u, e1, e2, e3, e4⟩
    · exact .inl h1
    · exact .inr ⟨k, b, n, u, e1, e2, (hk k fun e => hd.free x o b n hx (e ▸ e1)).trans e3, e4⟩
  · obtain ⟨n, x, e1, e2, e3⟩ := hw.pool k b L t ht
    refine ⟨n, x, e1, (hk k fun e => ?_).trans e2, e3⟩
    subst e
    rw [hd.is] at e2
    cases e2
    cases e3 with
    | sbytes _ _ _ _ _ h => cases h
theorem leave_ok {fn : Func} {tmps : Array Value} {R : Ending → World → Prop} (hn : ∀ (f : FuncId) (fn : Func), P.funcs[f]? = some fn → (fn.name == "runtime.NumGoroutine") = false) {kk : Nat} : ∀ {xs : List Mark} {ds : List Deferred} {st s : St} {w : World} {φ φ0 : Phi} {H0 : PT AObj} {wS : World}, leaveA P xs st = some s → DRel w0 φ st.heap w xs ds → WRel w0 φ st.heap st.next w → Step φ0 H0 wS φ st.heap w → (∀ g, coll g ∈ ds → wS.heap.size ≤ g) →
    (∀ w', WRel w0 φ s.heap s.next w' → Step φ0 H0 wS φ s.heap w' → ∃ v, (results fn tmps).run P w' = .ok v w' ∧ R (.returned v) w') → LeavesInM (FR none) kk P fn tmps R ds .returning w
  | [], ds, st, s, w, φ, φ0, H0, wS, h, hd, hw, hS, hlo, hR => by
    cases h
    cases hd
    exact hR w hw hS
  | .fn f :: xs, ds, st, s, w, φ, φ0, H0, wS, h, hd, hw, hS, hlo, hR => by
    cases hd with
    | fn _ _ ds hds =>
    simp only [leaveA] at h
    split at h
    · rename_i hq
      have hinv : (invoke (.fn (.func f) #[]) #[]).run P w = .ok (.enter f #[]) w := by
        have hq2 := hq
        unfold quietB at hq2
        split at hq2
        · rename_i gn hgn
          have h1 : ¬ gn.name = "runtime.NumGoroutine" := by simpa using hn f gn hgn
          split at hq2
          · rename_i hb _
            simp [invoke, callFunc, hgn, hb, h1]
          · cases hq2
        · cases hq2
      refine ⟨by simp, .inr ⟨fun hh => (by cases hh), .func f, #[], f, #[], rfl, hinv, fun _ _ => trivial, ?_⟩⟩
      obtain ⟨q1, q2⟩ := quiet_deferred (P := P) hq (kk - 1) w
      refine ⟨q1, fun c cs hc hr => ?_⟩
      obtain ⟨e, u', w', fr, ⟨⟨v, rfl⟩, rfl, rfl⟩, hrest⟩ := q2 c cs hc hr
      exact ⟨_, _, _, fr, leave_ok hn h hds hw hS (fun g hg => hlo g (List.mem_cons_of_mem _ hg)) hR, hrest⟩
    · cases h
  | .blk x :: xs, ds, st, s, w, φ, φ0, H0, wS, h, hd, hw, hS, hlo, hR => by
    cases hd with
    | cons _ g b n _ ds hφ hds =>
    simp only [leaveA] at h
    split at h
    · rename_i hx
      obtain ⟨g', b', n', u, e1, e2, e3, e4⟩ := hw.obj_at hx rfl
      obtain ⟨rfl, rfl, rfl⟩ : g = g' ∧ b = b' ∧ n = n' := by rw [hφ] at e1; simpa using e1
      cases e4 with
      | defd =>
      have hg : g < w.heap.size := (Array.getElem?_eq_some_iff.1 e3).1
      obtain ⟨k1, k2⟩ := gone_ok hw hx hφ (w' := w.putObj g (.deferred none)) World.putObj_size (fun k hk => World.putObj_heap_other hk) rfl rfl rfl
      refine ⟨by simp, .inl ⟨g, _, rfl, run_takeDeferred e3, leave_ok hn h (hds.step k2) k1 (hS.trans k2) (fun g hg => hlo g (List.mem_cons_of_mem _ hg)) hR⟩⟩
    · cases h
  | .old :: xs, ds, st, s, w, φ, φ0, H0, wS, h, hd, hw, hS, hlo, hR => by
    have h : leaveA P xs st = some s := h
    cases hd with
    | old gs _ ds hgs hnd hne hds =>
    have inner : ∀ (gs : List Nat) (w : World), (∀ g ∈ gs, Dead w0 φ st.heap w g) → gs.Nodup → (∀ g ∈ gs, coll g ∉ ds) → (∀ g, coll g ∈ gs.map coll ++ ds → wS.heap.size ≤ g) → DRel w0 φ st.heap w xs ds → WRel w0 φ st.heap st.next w → Step φ0 H0 wS φ st.heap w →
        LeavesInM (FR none) kk P fn tmps R (gs.map coll ++ ds) .returning w := by
      intro gs
      induction gs with
      | nil => exact fun w _ _ _ hlo hds hw hS => leave_ok hn h hds hw hS hlo hR
      | cons g gs ih =>
        intro w hgs hnd hne hlo hds hw hS
        have hg := hgs g List.mem_cons_self
        have hlt : g < w.heap.size := (Array.getElem?_eq_some_iff.1 hg.is).1
        rw [List.nodup_cons] at hnd
        obtain ⟨k1, k2⟩ := dead_gone hw hg
        refine ⟨by simp, .inl ⟨g, _, rfl, run_takeDeferred hg.is, ih _ (fun g' hg' => ?_) hnd.2 (fun g' hg' => hne g' (List.mem_cons_of_mem _ hg')) (fun g' hg' => hlo g' (List.mem_cons_of_mem _ hg')) (hds.put (hne g List.mem_cons_self)) k1 (k2 hS (hlo g List.mem_cons_self))⟩⟩
        have hd := hgs g' (List.mem_cons_of_mem _ hg')
        have hne2 : g' ≠ g := fun e => by subst e; exact hnd.1 hg'
        exact ⟨hd.low, by rw [World.putObj_heap_other hne2]; exact hd.is, hd.free⟩
    exact inner gs w hgs hnd hne hlo hds hw hS
theorem callF_ok {hook : FuncId → Option (List AVal → St → Option (AVal × St))} {rec : Code → Nat → Fr → PT AVal → St → Option Res} (hn : ∀ (f : FuncId) (fn : Func), P.funcs[f]? = some fn → (fn.name == "runtime.NumGoroutine") = false) (hh : ∀ f h, hook f = some h → Call1Ok P w0 RO f h) (hrec : ExecOk P w0 RO rec) (f : FuncId) :
    Call1Ok P w0 RO f (callF P RO hook rec f) := by
  intro args st v st' h
  unfold callF at h
  split at h
  · rename_i hk hhk
    exact hh f hk hhk args st v st' h
  · split at h
    · rename_i fn hfn
      split at h
      · rename_i body hbody
        cases hr : rec body (bif Nat.ble (lenL args 0) fn.ntmps then fn.ntmps else lenL args 0) ⟨none, []⟩ (argsT args 0 .leaf) st with
        | none => rw [hr] at h; cases h
        | some r =>
          obtain ⟨e, τ1, s1, fr1⟩ := r
          rw [hr] at h
          obtain ⟨_, k1, k2, _⟩ := hrec _ _ _ _ _ _ _ _ _ hr
          have go : (exOf e = .normal ∨ exOf e = .ret) → (match leaveA P fr1.marks s1 with | some s => (match resultA P RO fn τ1 s with | some v => some (v, s) | none => none) | none => none) = some (v, st') →
              Logs st st' ∧ (∃ fn, P.funcs[f]? = some fn ∧ fn.body.isNone = false ∧ (fn.name == "runtime.NumGoroutine") = false) ∧ ∀ φ us w, VRels φ args us → WRel w0 φ st.heap st.next w → RRel w0 φ RO → Calls P f us.toArray w fun e w' => ∃ u, e = .returned u ∧ StepOk w0 φ st w v st' u w' := fun he hres => by
            split at hres
            · rename_i s2 hs2
              split at hres
              · rename_i v1 hv1
                cases hres
                refine ⟨k1.trans (leave_logs hs2), ⟨fn, hfn, by rw [hbody]; rfl, hn f fn hfn⟩, fun φ us w hus hw hro => ?_⟩
                refine CallsIn.calls (F := FR none) (n := 0) (callsIn_of_wp_marks hfn hbody trivial (Code.wpIn_mono ?_ (k2 φ _ w none 0 (args_rel hus fn.ntmps) .nil .none hw hro))) (fun k d hd => by cases hd)
                rintro x a' w' ⟨rfl, ψ, p1, p2, p3, p4⟩
                have fin : LeavesInM (FR none) 0 P fn a'.tmps (fun e w' => ∃ u, e = .returned u ∧ StepOk w0 φ st w v st' u w') a'.defers .returning w' := leave_ok hn hs2 p2.1 p3 p4 (fun g hg => (p2.2 g hg).elim (fun h => by cases h) (fun h => h)) fun w2 q1 q2 => by
                  obtain ⟨u, r1, r2⟩ := resultA_ok hv1 p1 q1 (hro.mono p4.le)
                  exact ⟨u, r2, u, rfl, ψ, r1, q1, q2⟩
                rcases he with he | he <;> rw [he] <;> exact fin
              · cases hres
            · cases hres
          cases e with
          | normal => exact go (.inl rfl) h
          | exit id => cases h
          | ret => exact go (.inr rfl) h
      · cases h
    · cases h
theorem putPs_ok {φ : Phi} {n : Nat} : ∀ {ps : List Nat} {vs : List AVal} {us : List Value} {τ τ' : PT AVal} {tmps : Array Value}, putPs n ps vs τ = some τ' → VRels φ vs us → TRel φ n τ tmps → us.length = ps.length ∧ TRel φ n τ' ((ps.zip us).foldl (fun t (x : Nat × Value) => t.setIfInBounds x.1 x.2) tmps)
  | [], [], us, τ, τ', tmps, h, hv, ht => by cases h; cases hv; exact ⟨rfl, ht⟩
  | [], _ :: _, _, _, _, _, h, _, _ => by cases h
  | _ :: _, [], _, _, _, _, h, _, _ => by cases h
  | t :: ts, v :: vs, us, τ, τ', tmps, h, hv, ht => by
    cases hv with
    | cons _ u _ us h1 h2 =>
    simp only [putPs] at h
    split at h
    · rename_i τ1 hτ
      have ht' : TRel φ n τ1 (tmps.setIfInBounds t u) := TRel.put (a := ⟨tmps, []⟩) (d := some t) ht hτ h1
      obtain ⟨e1, e2⟩ := putPs_ok h h2 ht'
      exact ⟨by simp [e1], e2⟩
    · cases h
theorem markL_logs {x : Nat} {s : LSt} {j : Jump} {τ : PT AVal} {n : Nat} {ps : List Nat} {assign body : Code} {st : St} : Logs st (markL x s j τ n ps assign body st) :=
  ⟨[x], rfl, Nat.le_refl _, fun y _ hn => by
    refine (PT.get_set _ _ _ _).trans ?_
    rw [if_neg (by simpa using hn)]⟩
/-- the record of a loop -/
theorem loop_obj {φ : Phi} {st : St} {w : World} (hw : WRel w0 φ st.heap st.next w) {x : Nat} {s : LSt} {j : Jump} {τ : PT AVal} {n : Nat} {ps : List Nat} {assign body : Code} (hx : st.heap.get x = some (.loop s j τ n ps assign body)) {g b m : Nat} (hφ : φ x = some (g, b, m)) :
    ∃ r : Loop, w.heap[g]? = some (.loop r) ∧ r.state = lsOf s ∧ r.pending = codeOf j ∧ TRel φ n τ r.tmps ∧ r.params.toList = ps ∧ r.assign = assign ∧ r.body = body := by
  obtain ⟨g', b', m', u, e1, e2, e3, e4⟩ := hw.obj_at hx rfl
  obtain ⟨rfl, rfl, rfl⟩ : g = g' ∧ b = b' ∧ m = m' := by rw [hφ] at e1; simpa using e1
  cases e4 with
  | loop _ _ _ _ _ _ _ _ _ r h1 h2 h3 h4 h5 h6 => exact ⟨r, e3, h1, h2, h3, h4, h5, h6⟩
theorem markL_ok {φ : Phi} {st : St} {w : World} (hw : WRel w0 φ st.heap st.next w) {x : Nat} {s s' : LSt} {j j' : Jump} {τ : PT AVal} {n : Nat} {ps : List Nat} {assign body : Code} (hx : st.heap.get x = some (.loop s j τ n ps assign body)) {g b m : Nat} (hφ : φ x = some (g, b, m)) {r : Loop} (hr : w.heap[g]? = some (.loop r)) :
    WRel w0 φ (markL x s' j' τ n ps assign body st).heap (markL x s' j' τ n ps assign body st).next (w.putObj g (.loop { r with state := lsOf s', pending := codeOf j' })) ∧ Step φ st.heap w φ (markL x s' j' τ n ps assign body st).heap (w.putObj g (.loop { r with state := lsOf s', pending := codeOf j' })) := by
  obtain ⟨r', e1, e2, e3, e4, e5, e6, e7⟩ := loop_obj hw hx hφ
  obtain rfl : r' = r := by have := e1.symm.trans hr; simpa using this
  have hg : g < w.heap.size := (Array.getElem?_eq_some_iff.1 hr).1
  exact turn_ok hw hx hφ World.putObj_size (World.putObj_heap_same hg) (fun k hk => World.putObj_heap_other hk) rfl rfl rfl (.loop _ _ _ _ _ _ _ _ _ _ rfl rfl e4 e5 e6 e7)
theorem yieldF_ok {rec : Code → Nat → Fr → PT AVal → St → Option Res} (hrec : ExecOk P w0 RO rec) {x : Nat} {args : List AVal} {st st' : St} {v : AVal} (h : yieldF rec x args st = some (v, st')) :
    Logs st st' ∧ ∀ φ us w g b m, φ x = some (g, b, m) → VRels φ args us → WRel w0 φ st.heap st.next w → RRel w0 φ RO → ∃ fn tm asg bd, (Instr.yield g us.toArray).run P w = .ok (.round g fn tm asg bd) w ∧
      ∀ rg k, RoundIn (FR rg) k P g fn tm asg bd w fun e w' => ∃ u, e = .returned u ∧ StepOk w0 φ st w v st' u w' := by
  unfold yieldF at h
  split at h
  · rename_i s0 j0 τ0 n0 ps0 as0 bo0 hx0
    split at h
    · rename_i τ1 hps
      cases hr1 : rec as0 n0 ⟨some x, []⟩ τ1 st with
      | none => rw [hr1] at h; cases h
      | some r1 =>
      obtain ⟨e1, τ2, st1, fr1⟩ := r1
      rw [hr1] at h
      simp only [roundBody] at h
      cases e1 with
      | exit id => cases h
      | ret => cases h
      | normal =>
      simp only at h
      split at h
      · rename_i j1 τ3 n3 ps3 as3 bo3 hx1
        cases hr2 : rec bo0 n0 fr1 τ2 (markL x .busy j1 τ3 n3 ps3 as3 bo3 st1) with
        | none => rw [hr2] at h; cases h
        | some r2 =>
        obtain ⟨e2, τ4, st2, fr2⟩ := r2
        rw [hr2] at h
        simp only [roundEnd] at h
        split at h
        · rename_i j5 τ5 n5 ps5 as5 bo5 hx2
          obtain ⟨hro1, l1, ok1, _⟩ := hrec _ _ _ _ _ _ _ _ _ hr1
          obtain ⟨hro2, l2, ok2, _⟩ := hrec _ _ _ _ _ _ _ _ _ hr2
          have hv : v = .bool (isNormal e2) ∧ st' = markL x (bif isNormal e2 then .ready else .done) (jumpOf e2) τ5 n5 ps5 as5 bo5 st2 := by
            have := Option.some.inj h
            exact ⟨(Prod.mk.inj this).1.symm, (Prod.mk.inj this).2.symm⟩
          obtain ⟨rfl, rfl⟩ := hv
          refine ⟨(l1.trans markL_logs).trans (l2.trans markL_logs), fun φ us w g b m hφ hus hw hro => ?_⟩
          obtain ⟨r, q1, q2, q3, q4, q5, q6, q7⟩ := loop_obj hw hx0 hφ
          obtain ⟨hlen, htm⟩ := putPs_ok hps hus q4
          refine ⟨r.fn, _, r.assign, r.body, run_yield q1 (by have := congrArg List.length q5; simp at this hlen ⊢; omega), fun rg k => ?_⟩
          refine roundIn_of_wpIn trivial ?_
          rw [q6, q7]
          have htm' : TRel φ n0 τ1 ((r.params.zip us.toArray).foldl (fun t (x : Nat × Value) => t.setIfInBounds x.1 x.2) r.tmps) := by
            rw [← Array.foldl_toList, Array.toList_zip, q5]
            exact htm
          refine Code.wpIn_mono ?_ (ok1 φ ⟨_, []⟩ w (some g) k htm' .nil (.some x g b m hφ) hw hro)
          rintro y a1 w1 ⟨rfl, ψ, p1, p2, p3, p4⟩
          have hφ1 := p4.le _ _ hφ
          obtain ⟨r1, t1, t2, t3, t4, t5, t6, t7⟩ := loop_obj p3 hx1 hφ1
          obtain ⟨u1, u2⟩ := markL_ok (s' := .busy) (j' := j1) p3 hx1 hφ1 t1
          show ∃ w₂, (Instr.beginRound g).run P w1 = .ok () w₂ ∧ _
          refine ⟨_, run_beginRound t1 (by rw [t2]; rfl), ?_⟩
          have hsame : ({ r1 with state := .busy } : Loop) = { r1 with state := lsOf .busy, pending := codeOf j1 } := by rw [← t3]; rfl
          rw [hsame]
          have hro1' : fr1.round = some x := hro1
          refine Code.wpIn_mono ?_ (ok2 ψ a1 _ (some g) k p1 (p2.1.step u2) (by rw [hro1']; exact .some x g b m hφ1) u1 (hro.mono p4.le))
          rintro y a2 w2 ⟨rfl, χ, v1, v2, v3, v4⟩
          have hφ2 := v4.le _ _ hφ1
          obtain ⟨r2, z1, z2, z3, z4, z5, z6, z7⟩ := loop_obj v3 hx2 hφ2
          obtain ⟨y1, y2⟩ := markL_ok (s' := bif isNormal e2 then .ready else .done) (j' := jumpOf e2) v3 hx2 hφ2 z1
          have hend : ∀ c, c = codeOf (jumpOf e2) → ∃ v w', (Instr.endRound g c).run P w2 = .ok v w' ∧ ∃ u, Ending.returned v = .returned u ∧ StepOk w0 φ st w (.bool (isNormal e2)) (markL x (bif isNormal e2 then .ready else .done) (jumpOf e2) τ5 n5 ps5 as5 bo5 st2) u w' := fun c hc => by
            refine ⟨_, _, run_endRound c z1, _, rfl, χ, ?_, ?_, ((p4.trans u2).trans v4).trans ?_⟩
            · subst hc; cases e2 <;> exact .bool _
            · subst hc; cases e2 <;> exact y1
            · subst hc; cases e2 <;> exact y2
          cases e2 with
          | normal => exact hend none rfl
          | exit id => exact hend (some (.exit id)) rfl
          | ret => exact hend (some .ret) rfl
        · cases h
      · cases h
    · cases h
  · cases h
end
end Go.Proofs.Ytcofcojjofkgcaa.Abs
