/- Functions that change a row of ints that is handed in: as hooks. By an AI agent. -/
import Derived.Test.YtmhbmjagnihopaaGreatDoorHk3
import Derived.Test.YtmhbmjagnihopaaGreatDoorNd
namespace Go.Proofs.YtmhbmjagnihopaaGreatDoor.Abs
open Go Go.RowKit
set_option linter.unusedVariables false
set_option maxRecDepth 100000
section
variable {P : Program} {w0 : World} {RO : PT AObj} {φ : Phi}
/-- a function's formula, begun in a state -/
noncomputable def nestF (P : Program) (RO : PT AObj) (hookP : FuncId → Option (List AVal → St → Option (OP × AVal × St))) (annN : AnnN) (g : FuncId) (args : List AVal) (st : St) (dc : Dc) (K : AVal → St → Prop) : Prop :=
  match P.funcs[g]? with
  | some fn => (match fn.body with
    | some body => recN P RO hookP annN 100 g [] body (bif Nat.ble (lenL args 0) fn.ntmps then fn.ntmps else lenL args 0) ⟨none, []⟩ (argsT args 0 .leaf) st dc (fun r _ => endW P RO fn r K)
    | none => False)
  | none => False
theorem nest_from (hm : P.follows .mixedOrders = true) (hn : ∀ (f : FuncId) (fn : Func), P.funcs[f]? = some fn → (fn.name == "runtime.NumGoroutine") = false) {hookP : FuncId → Option (List AVal → St → Option (OP × AVal × St))} (hh : ∀ f h, hookG hookP f = some h → Call1Ok P w0 RO f h)
    (hlow : ROlow RO 1000) {annN : AnnN} {g : FuncId} {args : List AVal} {st : St} {K : AVal → St → Prop} {dc : Dc} (h : nestF P RO hookP annN g args st dc K) {us : List Value} {w : World} (hus : VRels φ args us) (hw : WRel w0 φ st.heap st.next w) (hro : RRel w0 φ RO) (hrel : RelsOk P w0 RO annN := by exact fun _ _ _ _ h => by cases h) :
    Calls P g us.toArray w fun e w' => ∃ u v st', e = .returned u ∧ K v st' ∧ StepOk w0 φ st w v st' u w' := by
  unfold nestF at h
  split at h
  · rename_i fn hfn
    split at h
    · rename_i body hb
      exact fn_tri hn hfn hb ((recN_ok hm hn hh hlow hrel 100 _ _ _ _ _ _ _ _ _ h).1.mono fun r ⟨_, hr⟩ => hr) φ us w hus hw hro
    · exact h.elim
  · exact h.elim
/-- one block's object is another, and there may be more blocks -/
theorem turn_grow {H : PT AObj} {next : Nat} {w w' : World} (hw : WRel w0 φ H next w) {b g b0 n : Nat} {o o' : AObj} {x' : Obj} (hb : H.get b = some o) (hφ : φ b = some (g, b0, n)) (hs : w.heap.size ≤ w'.heap.size) (hg : w'.heap[g]? = some x') (hk : ∀ k, k < w.heap.size → k ≠ g → w'.heap[k]? = w.heap[k]?)
    (hbel : Below w0.heap.size w0 w') (ho : ORel φ o' b0 n x') : WRel w0 φ (H.set b (some o')) next w' ∧ Step φ H w φ (H.set b (some o')) w' := by
  obtain ⟨g', b', n', u, e1, e2, e3, e4⟩ := hw.obj_of hb hφ
  obtain ⟨rfl, rfl, rfl⟩ : g = g' ∧ b0 = b' ∧ n = n' := by rw [hφ] at e1; simpa using e1
  have hget : ∀ y o1, (H.set b (some o')).get y = some o1 → ∃ o2, H.get y = some o2 := fun y o1 hy => by
    rw [PT.get_set] at hy
    by_cases he : y = b
    · subst he; exact ⟨o, hb⟩
    · rw [if_neg he] at hy; exact ⟨o1, hy⟩
  refine with_pool hw (fun _ _ _ => rfl) ?_
  refine ⟨⟨hbel, hw.fresh, fun y o1 hy => ?_, fun y z o1 o2 g b b' m m' hy hz h4 h5 => ?_, fun y o1 hy => by
    obtain ⟨o2, h2⟩ := hget y o1 hy
    exact hw.lt y o2 h2⟩, ⟨φ.le_refl, hs, fun y o1 g1 b1 n1 hy h4 => ?_, fun g1 hg1 hn => ?_, fun _ h k => absurd k h⟩⟩
  · rw [PT.get_set] at hy
    by_cases he : y = b
    · subst he
      rw [if_pos rfl] at hy
      cases hy
      exact .inr ⟨g, b0, n, x', hφ, e2, hg, ho⟩
    · rw [if_neg he] at hy
      rcases hw.obj y o1 hy with e | ⟨g1, b1, n1, u1, f1, f2, f3, f4⟩
      · exact .inl e
      refine .inr ⟨g1, b1, n1, u1, f1, f2, ?_, f4⟩
      rw [hk g1 (Array.getElem?_eq_some_iff.1 f3).1 (fun hgg => he (by subst hgg; exact hw.inj y b o1 o g1 b1 b0 n1 n hy hb f1 hφ)), f3]
  · obtain ⟨o1', hy'⟩ := hget y o1 hy
    obtain ⟨o2', hz'⟩ := hget z o2 hz
    exact hw.inj y z o1' o2' g b b' m m' hy' hz' h4 h5
  · obtain ⟨o1', hy'⟩ := hget y o1 hy
    exact .inr ⟨y, o1', b1, n1, hy', h4⟩
  · exact hk g1 hg1 fun hgg => hn b o b0 n hb (hgg ▸ hφ)
/-- the state of one row -/
noncomputable def rowSt (k : IntKind) (l : List Int) (t : TypeId) : St := ⟨hp [(1000, .sints k l t)], 1001, []⟩
/-- what is behind: a result, and the row -/
def rowK (k : IntKind) (Q : AVal → List Int → Prop) (t : TypeId) (v : AVal) (st : St) : Prop :=
  match st.heap.get 1000 with | some (.sints k' l t') => (kindEq k' k = true ∧ t' = t) ∧ Q v l | _ => False
/-- a function that changes a row: what must be so; what comes of it -/
structure Mut where
  k : IntKind
  pre : List Int → List Int → Prop
  Z : Type
  post : List Int → List Int → Z → Prop
  row : List Int → Z → List Int
  res : Z → AVal
def noR : RSpec := { pre := False, Z := Unit, post := fun _ => False, res := fun _ => .tuple [], out := fun _ => ⟨.leaf, 0, []⟩ }
def ints64 : List AVal → Option (List Int)
  | [] => some []
  | v :: r => match asR v, ints64 r with | some (.i64, z), some zs => some (z :: zs) | _, _ => none
/-- its contract -/
noncomputable def relM (M : Mut) (args : List AVal) (st : St) : RSpec :=
  match args with
  | .sslice (b, o) n c false z :: rest => (match ints64 rest, st.heap.get b with
    | some zs, some (.sints k l t) => bif kindEq k M.k && Nat.beq z 1 then { pre := o = 0 ∧ n = l.length ∧ 0 < l.length ∧ M.pre l zs, Z := M.Z, post := M.post l zs, res := M.res, out := fun y => putObj st b (.sints k (M.row l y) t) } else noR
    | _, _ => noR)
  | _ => noR
theorem ints64_rel {ψ : Phi} : ∀ {l : List AVal} {zs : List Int} {us : List Value}, ints64 l = some zs → VRels φ l us → VRels ψ (zs.map (.sint .i64)) us
  | [], zs, us, h, hu => by cases h; cases hu; exact .nil
  | v :: l, zs, us, h, hu => by
    cases hu with
    | cons _ u _ us hv hs =>
      unfold ints64 at h
      split at h
      · rename_i z zs' e1 e2
        cases h
        obtain ⟨hv', hz⟩ : u = .int .i64 z ∧ inR .i64 z := by
          unfold asR at e1
          split at e1
          · rename_i k z'
            cases hc : (intLe (loI k) z' && intLe z' (hiI k)) with
            | false => rw [hc] at e1; cases e1
            | true =>
              rw [hc] at e1
              cases e1
              cases hv
              rw [Bool.and_eq_true, intLe_eq, intLe_eq, decide_eq_true_eq, decide_eq_true_eq] at hc
              exact ⟨rfl, hc⟩
          · cases e1; cases hv with | sint _ _ h => exact ⟨rfl, h⟩
          · cases e1
        subst hv'
        exact .cons _ _ _ _ (.sint _ _ hz) (ints64_rel e2 hs)
      · cases h
/-- THE CONTRACT of a function that changes a row -/
theorem relM_ok {M : Mut} {g : FuncId} (hb : ∃ fn, P.funcs[g]? = some fn ∧ fn.body.isNone = false ∧ (fn.name == "runtime.NumGoroutine") = false)
    (hres : ∀ y (φ ψ : Phi) u, VRel φ (M.res y) u → VRel ψ (M.res y) u)
    (run : ∀ (l : List Int) (zs : List Int) (t : TypeId) (c : Nat), 0 < l.length → (∀ x ∈ l, inR M.k x) → (∀ x ∈ zs, inR .i64 x) → M.pre l zs → ∀ (φs : Phi) (w : World) (us : List Value), WRel w0 φs (rowSt M.k l t).heap 1001 w → VRels φs (.sslice (1000, 0) l.length c false 1 :: zs.map (.sint .i64)) us →
      Calls P g us.toArray w fun e w' => ∃ u v st', e = .returned u ∧ rowK M.k (fun v l' => ∃ y, M.post l zs y ∧ (∀ (ψ : Phi) u, VRel ψ v u → VRel ψ (M.res y) u) ∧ l' = M.row l y) t v st' ∧ StepOk w0 φs (rowSt M.k l t) w v st' u w')
    (args : List AVal) (st : St) (hpre : (relM M args st).pre) : CallT P w0 RO g args st fun v s' => ∃ z, (relM M args st).post z ∧ v = (relM M args st).res z ∧ s' = (relM M args st).out z := by
  obtain ⟨k', pre, Z, post, row, res⟩ := M
  have hc : (∃ b o n c zs l t rest, args = .sslice (b, o) n c false 1 :: rest ∧ ints64 rest = some zs ∧ st.heap.get b = some (.sints k' l t) ∧ relM ⟨k', pre, Z, post, row, res⟩ args st = { pre := o = 0 ∧ n = l.length ∧ 0 < l.length ∧ pre l zs, Z := Z, post := post l zs, res := res, out := fun y => putObj st b (.sints k' (row l y) t) }) ∨ relM ⟨k', pre, Z, post, row, res⟩ args st = noR := by
    unfold relM
    split
    · rename_i b o n c z rest
      split
      · rename_i zs k2 l t hz hget
        cases hk1 : (kindEq k2 k' && Nat.beq z 1) with
        | false => exact .inr rfl
        | true =>
          rw [Bool.and_eq_true] at hk1
          obtain rfl := kindEq_eq _ _ hk1.1
          obtain rfl := Nat.eq_of_beq_eq_true hk1.2
          exact .inl ⟨b, o, n, c, zs, l, t, rest, rfl, hz, hget, rfl⟩
      · exact .inr rfl
    · exact .inr rfl
  rcases hc with ⟨b, o, n, c, zs, l, t, rest, rfl, hz, hget, hc⟩ | hc
  · rw [hc] at hpre ⊢
    clear hc
    obtain ⟨rfl, rfl, hl, hpre⟩ := hpre
    · refine ⟨hb, fun φ us w hus hw hro => ?_⟩
      cases hus with
      | cons _ u _ us hv hus =>
      obtain ⟨g0, b0, n0, x0, e1, e2, e3, e4⟩ := hw.obj_at hget (by cases l with | nil => simp at hl | cons _ _ => rfl)
      have hr : ∀ x ∈ l, inR k' x := by cases e4 with | sints _ _ _ _ _ _ hr _ => exact hr
      let φs : Phi := fun k => match k with
        | .blk x => if x = 1000 then φ (.blk b) else none
        | .pool _ _ _ => none
      have hφs : φs 1000 = some (g0, b0, n0) := by simp [φs, e1]
      have hv' : VRel φs (.sslice (1000, 0) l.length c false 1) u := by
        clear hpre
        generalize l.length = ln at hv ⊢
        cases hv with
        | sslice x o len lo z g b' n cap ex a h hl hc he hz ha =>
          rw [e1] at h
          cases h
          exact .sslice 1000 0 _ _ _ g0 b0 n0 _ _ _ hφs hl hc he hz ha
        | snil => exact .snil _ _ _
      have hget1 : ∀ y o1, (rowSt k' l t).heap.get y = some o1 → y = 1000 ∧ o1 = .sints k' l t := fun y o1 hy => by
        have hh : (rowSt k' l t).heap.get y = if y = 1000 then some (.sints k' l t) else (PT.leaf : PT AObj).get y := by
          show (PT.set (.leaf : PT AObj) 1000 (some (.sints k' l t))).get y = _
          exact PT.get_set _ _ _ _
        rw [hh] at hy
        by_cases hy1 : y = 1000
        · rw [if_pos hy1] at hy; exact ⟨hy1, (Option.some.inj hy).symm⟩
        · rw [if_neg hy1] at hy; cases hy
      have hw1 : WRel w0 φs (rowSt k' l t).heap 1001 w := by
        refine ⟨⟨hw.below, fun x hx => if_neg (show ¬ x = 1000 by omega), fun x o1 hx => ?_, fun x y o1 o2 g1 b1 b2 n1 n2 hx hy _ _ => (hget1 x o1 hx).1.trans (hget1 y o2 hy).1.symm, fun x o1 hx => by have := (hget1 x o1 hx).1; omega⟩, fun _ _ _ _ h => (by cases h), fun _ _ _ _ _ _ _ _ h => (by cases h)⟩
        obtain ⟨rfl, rfl⟩ := hget1 x o1 hx
        refine .inr ⟨g0, b0, n0, x0, hφs, e2, e3, ?_⟩
        cases e4 with
        | sints _ _ _ _ _ _ h1 h2 =>
          refine .sints _ _ _ _ _ _ h1 ?_
          cases h2 with
          | cells _ _ t' _ _ cc fz hn hb' h hf =>
            refine .cells _ _ t' _ _ cc fz hn hb' ?_ hf
            have := ints_vals h
            rw [this]
            exact ints_rel _ _
      have hz64 : ∀ x ∈ zs, inR .i64 x := by
        have hh := ints64_rel (φ := φ) (ψ := φ) hz hus
        clear hz hpre
        generalize us = us at hh
        induction zs generalizing us with
        | nil => intro x hx; cases hx
        | cons y ys ih =>
          cases hh with
          | cons _ u2 _ us2 q1 q2 =>
            intro x hx
            rcases List.mem_cons.1 hx with rfl | hx
            · cases q1 with | sint _ _ h => exact h
            · exact ih us2 q2 x hx
      refine (run l zs t c hl hr hz64 hpre φs w (u :: us) hw1 (.cons _ _ _ _ hv' (ints64_rel hz hus))).mono fun e w' he => ?_
      obtain ⟨u', v', st1, rfl, hK, ψ, p1, p2, p3⟩ := he
      unfold rowK at hK
      split at hK
      · rename_i k2 l2 t2 hg2
        obtain ⟨⟨hk2, rfl⟩, y, hy, hvv, rfl⟩ := hK
        refine ⟨u', _, _, rfl, ⟨y, hy, rfl, rfl⟩, φ, hres y _ _ _ (hvv _ _ p1), ?_⟩
        obtain rfl := kindEq_eq _ _ hk2
        have hψ : ψ (.blk 1000) = some (g0, b0, n0) := p3.le _ _ hφs
        rcases p2.obj 1000 _ hg2 with ⟨h1, _⟩ | ⟨g1, b1, n1, u1, f1, f2, f3, f4⟩
        · rw [hψ] at h1; cases h1
        rw [hψ] at f1
        cases f1
        refine turn_grow hw hget e1 p3.size f3 (fun j hj hne => p3.frame j hj fun x o1 b1 n1 hx h5 => ?_) p2.below ?_
        · obtain ⟨rfl, rfl⟩ := hget1 x o1 hx
          have h5 : φs 1000 = some _ := h5
          rw [hφs] at h5
          cases h5
          exact hne rfl
        · cases f4 with
          | sints _ _ _ _ _ _ h1 h2 =>
            refine .sints _ _ _ _ _ _ h1 ?_
            cases h2 with
            | cells _ _ t' _ _ cc fz hn hb' h hf =>
              refine .cells _ _ t' _ _ cc fz hn hb' ?_ hf
              have := ints_vals h
              rw [this]
              exact ints_rel _ _
      · exact hK.elim
  · rw [hc] at hpre
    exact hpre.elim
theorem rowK_mono {k : IntKind} {Q Q' : AVal → List Int → Prop} {t : TypeId} {v : AVal} {st : St} (h : rowK k Q t v st) (hQ : ∀ v l, Q v l → Q' v l) : rowK k Q' t v st := by
  unfold rowK at h ⊢
  split at h
  · exact ⟨h.1, hQ _ _ h.2⟩
  · exact h.elim
theorem z_rel {k : IntKind} {z : Int} {x : AVal} {ψ : Phi} {u : Value} (h : asZ x = some (k, z)) (hz : inR k z) (hu : VRel ψ x u) : VRel ψ (.sint k z) u := by
  unfold asZ at h
  split at h
  · cases h; cases hu; exact .sint _ _ hz
  · cases h; exact hu
  · cases h
theorem b_rel {c : Bool} {x : AVal} {ψ : Phi} {u : Value} (h : asBo x = some c) (hu : VRel ψ x u) : VRel ψ (.sbool c) u := by
  unfold asBo at h
  split at h
  · cases h; cases hu; exact .sbool _
  · cases h; exact hu
  · cases h
theorem pair_rel {x y x' y' : AVal} {ψ : Phi} {u : Value} (hx : ∀ u, VRel ψ x u → VRel ψ x' u) (hy : ∀ u, VRel ψ y u → VRel ψ y' u) (h : VRel ψ (.tuple [x, y]) u) : VRel ψ (.tuple [x', y']) u := by
  cases h with
  | tuple _ c hc =>
    refine .tuple _ _ ?_
    generalize c.toList = l at hc ⊢
    cases hc with
    | cons _ u1 _ us h1 h2 => cases h2 with | cons _ u2 _ us2 h3 h4 => cases h4; exact .cons _ _ _ _ (hx _ h1) (.cons _ _ _ _ (hy _ h3) .nil)
theorem sint_free {k : IntKind} {z : Int} {φ ψ : Phi} {u : Value} (h : VRel φ (.sint k z) u) : VRel ψ (.sint k z) u := by cases h with | sint _ _ h => exact .sint _ _ h
theorem sbool_free {b : Bool} {φ ψ : Phi} {u : Value} (h : VRel φ (.sbool b) u) : VRel ψ (.sbool b) u := by cases h; exact .sbool _
theorem pair_free {x y : AVal} {φ ψ : Phi} {u : Value} (hx : ∀ u, VRel φ x u → VRel ψ x u) (hy : ∀ u, VRel φ y u → VRel ψ y u) (h : VRel φ (.tuple [x, y]) u) : VRel ψ (.tuple [x, y]) u := by
  cases h with
  | tuple _ c hc =>
    refine .tuple _ _ ?_
    generalize c.toList = l at hc ⊢
    cases hc with
    | cons _ u1 _ us h1 h2 => cases h2 with | cons _ u2 _ us2 h3 h4 => cases h4; exact .cons _ _ _ _ (hx _ h1) (.cons _ _ _ _ (hy _ h3) .nil)
theorem rolow_leaf : ROlow .leaf 1000 := rolow_of (entries := []) rfl
theorem rrel_leaf : RRel w0 φ .leaf := fun x o hx => by cases hx
#print axioms relM_ok
end
end Go.Proofs.YtmhbmjagnihopaaGreatDoor.Abs
