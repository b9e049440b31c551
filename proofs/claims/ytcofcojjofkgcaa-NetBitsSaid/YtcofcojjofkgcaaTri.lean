/- Pieces of code: from a state to states. By an AI agent. -/
import Derived.Test.YtcofcojjofkgcaaAbsZ
import Derived.Test.YtcofcojjofkgcaaM
namespace Go.Proofs.Ytcofcojjofkgcaa.Abs
open Go Go.RowKit
set_option linter.unusedVariables false
/-- a piece of code, begun in a state, comes to an outcome of K -/
def Tri (P : Program) (w0 : World) (RO : PT AObj) (c : Code) (n : Nat) (fr : Fr) (τ : PT AVal) (st : St) (K : Res → Prop) : Prop :=
  ∀ φ a w rg kk, TRel φ n τ a.tmps → DRel φ fr.marks a.defers → ORo φ fr.round rg → WRel w0 φ st.heap st.next w → RRel w0 φ RO →
    c.wpIn (FR rg) kk P (fun x a' w' => ∃ r, K r ∧ r.fr.round = fr.round ∧ x = exOf r.ex ∧ PostX w0 φ st w n r.fr r.τ r.st a' w') a w
/-- what is laid lies below -/
def ROlow (RO : PT AObj) (base : Nat) : Prop := ∀ x o, RO.get x = some o → x < base
section
variable {P : Program} {w0 : World} {RO : PT AObj} {n : Nat} {fr : Fr} {τ : PT AVal} {st : St} {K K' : Res → Prop}
theorem Tri.mono {c : Code} (h : Tri P w0 RO c n fr τ st K) (hk : ∀ r, K r → K' r) : Tri P w0 RO c n fr τ st K' := fun φ a w rg kk h1 h2 h3 h4 h5 =>
  Code.wpIn_mono (fun x a' w' ⟨r, k1, k2⟩ => ⟨r, hk r k1, k2⟩) (h φ a w rg kk h1 h2 h3 h4 h5)
theorem tri_exec (hm : P.follows .mixedOrders = true) (hn : ∀ (f : FuncId) (fn : Func), P.funcs[f]? = some fn → (fn.name == "runtime.NumGoroutine") = false) {hookP : FuncId → Option (List AVal → St → Option (OP × AVal × St))} (hh : ∀ f h, hookG hookP f = some h → Call1Ok P w0 RO f h)
    {f : Nat} {c : Code} (h : execW P RO hookP f c n fr τ st K) : Tri P w0 RO c n fr τ st K := by
  obtain ⟨⟨e, τ1, st1, fr1⟩, h1, h2⟩ := execW_ok f c n fr τ st K h
  obtain ⟨k0, k1, k2, _⟩ := exec_ok hm hn hh f _ _ _ _ _ _ _ _ _ h1
  exact fun φ a w rg kk e1 e2 e3 e4 e5 => Code.wpIn_mono (fun x a' w' ⟨hx, hp⟩ => ⟨_, h2, k0, hx, hp⟩) (k2 φ a w rg kk e1 e2 e3 e4 e5)
theorem tri_seq {x y : Code} (h : Tri P w0 RO x n fr τ st (thenW (fun r => Tri P w0 RO y n r.fr r.τ r.st K) K)) : Tri P w0 RO (.seq x y) n fr τ st K := fun φ a w rg kk ht hd hro hw hr => by
  refine wpIn_seq (Code.wpIn_mono ?_ (h φ a w rg kk ht hd hro hw hr))
  rintro e a' w' ⟨⟨ex, τ1, st1, fr1⟩, hk, hf, rfl, ψ, p1, p2, p3, p4⟩
  cases ex with
  | normal =>
    have hk : Tri P w0 RO y n fr1 τ1 st1 K := hk
    show y.wpIn _ _ P _ a' w'
    refine Code.wpIn_mono ?_ (hk ψ a' w' rg kk p1 p2 (by rw [hf]; exact hro.mono p4.le) p3 (hr.mono p4.le))
    rintro x a2 w2 ⟨r, q1, q2, q3, q4⟩
    exact ⟨r, q1, q2.trans hf, q3, q4.after p4⟩
  | exit j => exact ⟨_, hk, hf, rfl, ψ, p1, p2, p3, p4⟩
  | ret => exact ⟨_, hk, hf, rfl, ψ, p1, p2, p3, p4⟩
theorem tri_cond {x : Operand} {a b : Code} (h : condW RO τ x (Tri P w0 RO a n fr τ st K) (Tri P w0 RO b n fr τ st K)) : Tri P w0 RO (.cond x a b) n fr τ st K := fun φ ac w rg kk ht hd hro hw hr => by
  unfold condW at h
  split at h
  · rename_i t hx
    have hev := ev_some hr ht x _ hx
    have hev : ac.eval x = .bool t := by generalize ac.eval x = u at hev; cases hev; rfl
    cases t with
    | true => exact wpIn_cond_true hev (h φ ac w rg kk ht hd hro hw hr)
    | false => exact wpIn_cond_false hev (h φ ac w rg kk ht hd hro hw hr)
  · rename_i t hx
    have hev := ev_some hr ht x _ hx
    have hev : ac.eval x = .bool t := by generalize ac.eval x = u at hev; cases hev; rfl
    cases t with
    | true => exact wpIn_cond_true hev (h.1 rfl φ ac w rg kk ht hd hro hw hr)
    | false => exact wpIn_cond_false hev (h.2 rfl φ ac w rg kk ht hd hro hw hr)
  · exact h.elim
theorem tri_block {id : Nat} {a : Code} (h : Tri P w0 RO a n fr τ st (blockW id K)) : Tri P w0 RO (.block id a) n fr τ st K := fun φ ac w rg kk ht hd hro hw hr => by
  refine wpIn_block (Code.wpIn_mono ?_ (h φ ac w rg kk ht hd hro hw hr))
  rintro e a' w' ⟨⟨ex, τ1, st1, fr1⟩, hk, hf, rfl, hp⟩
  cases ex with
  | normal => exact ⟨_, hk, hf, rfl, hp⟩
  | ret => exact ⟨_, hk, hf, rfl, hp⟩
  | exit j =>
    simp only [blockW] at hk
    show (if j = id then _ else _)
    cases hj : Nat.beq j id with
    | true =>
      rw [hj] at hk
      rw [if_pos (Nat.eq_of_beq_eq_true hj)]
      exact ⟨_, hk, hf, rfl, hp⟩
    | false =>
      rw [hj] at hk
      rw [if_neg (fun he => by subst he; rw [Nat.beq_refl] at hj; cases hj)]
      exact ⟨_, hk, hf, rfl, hp⟩
/-- a state of a loop: its slots, its blocks, the next block -/
structure LS where
  tmps : List (Nat × AVal)
  objs : List (Nat × AObj)
  next : Nat
noncomputable def LS.S (s : LS) : St := ⟨hp s.objs, s.next, []⟩
noncomputable def LS.T (s : LS) : PT AVal := tau s.tmps
theorem drel_low {φ : Phi} {base : Nat} {ρ : List (Nat × Nat)} {xs : List Mark} {ds : List Deferred} (h : DRel φ xs ds) (hl : ∀ x, .blk x ∈ xs → x < base) : DRel (psi base ρ φ) xs ds := by
  induction h with
  | nil => exact .nil
  | fn f xs ds _ ih => exact .fn f xs ds (ih fun y hy => hl y (List.mem_cons_of_mem _ hy))
  | cons x g b n xs ds h _ ih =>
    refine .cons x g b n xs ds ?_ (ih fun y hy => hl y (List.mem_cons_of_mem _ hy))
    rw [psi_at (by unfold renX; rw [show Nat.blt x base = true by simpa [Nat.blt_eq] using hl x List.mem_cons_self]; rfl)]
    exact h
theorem in_i8 (z : Int) : inR .i8 z ↔ -128 ≤ z ∧ z ≤ 127 := Iff.rfl
theorem in_i16 (z : Int) : inR .i16 z ↔ -32768 ≤ z ∧ z ≤ 32767 := Iff.rfl
theorem in_i32 (z : Int) : inR .i32 z ↔ -2147483648 ≤ z ∧ z ≤ 2147483647 := Iff.rfl
theorem in_i64 (z : Int) : inR .i64 z ↔ -9223372036854775808 ≤ z ∧ z ≤ 9223372036854775807 := Iff.rfl
theorem in_u8 (z : Int) : inR .u8 z ↔ 0 ≤ z ∧ z ≤ 255 := Iff.rfl
theorem in_u16 (z : Int) : inR .u16 z ↔ 0 ≤ z ∧ z ≤ 65535 := Iff.rfl
theorem in_u32 (z : Int) : inR .u32 z ↔ 0 ≤ z ∧ z ≤ 4294967295 := Iff.rfl
theorem in_u64 (z : Int) : inR .u64 z ↔ 0 ≤ z ∧ z ≤ 18446744073709551615 := Iff.rfl
/-- the frame has no loop over a function -/
def plain (fr : Fr) (K : Prop) : Prop := match fr.round, fr.marks with | none, [] => K | _, _ => False
theorem plain_eq {fr : Fr} {K : Prop} (h : plain fr K) : fr = ⟨none, []⟩ ∧ K := by
  obtain ⟨a, b⟩ := fr
  unfold plain at h
  simp only at h
  split at h
  · exact ⟨rfl, h⟩
  · exact h.elim
/-- A LOOP BY AN INVARIANT: I x are the states at a round's beginning, m x falls; an outcome that leaves the loop is of K. -/
theorem tri_loop {α : Type} {b : Code} (base : Nat) (I : α → LS) (m : α → Nat) (x0 : α) (ρ0 : List (Nat × Nat)) (hro : ROlow RO base) (hb : st.next ≤ base) (h0 : stE base ρ0 τ st (I x0).tmps (I x0).objs (I x0).next)
    (step : ∀ x, Tri P w0 RO b n fr (I x).T (I x).S (fun r => match r.ex with
      | .normal => ∃ y ρ, m y < m x ∧ r.fr = fr ∧ stE base ρ r.τ r.st (I y).tmps (I y).objs (I y).next
      | _ => K r)) : Tri P w0 RO (.loop b) n fr τ st K := fun φ0 a w rg kk ht hd hrd hw hr => by
  have hdom : ∀ x : Nat, φ0 x ≠ none → x < base := fun x hx => Nat.lt_of_not_le fun hle => hx (hw.fresh x (by omega))
  have rounds : ∀ N x φ a1 w1, m x < N → TRel φ n (I x).T a1.tmps → a1.defers = a.defers → WRel w0 φ (I x).S.heap (I x).S.next w1 → Step φ0 st.heap w φ (I x).S.heap w1 →
      Code.roundsIn (FR rg) kk P b (fun e a' w' => ∃ r, K r ∧ r.fr.round = fr.round ∧ e = exOf r.ex ∧ PostX w0 φ0 st w n r.fr r.τ r.st a' w') N a1 w1 := by
    intro N
    induction N with
    | zero => intro x φ a1 w1 hlt; omega
    | succ N ih =>
      intro x φ a1 w1 hlt k1 k2 k3 k4
      rw [roundsIn_succ]
      refine Code.wpIn_mono ?_ (step x φ a1 w1 rg kk k1 (by rw [k2]; exact hd.mono k4.le) (hrd.mono k4.le) k3 (hr.mono k4.le))
      rintro e a' w' ⟨⟨ex, τ1, st1, fr1⟩, hk, hf, rfl, ψ, p1, p2, p3, p4⟩
      have hst : Step φ0 st.heap w ψ st1.heap w' := k4.trans p4
      cases ex with
      | normal =>
        obtain ⟨y, ρ, hy, rfl, hE⟩ := hk
        obtain ⟨q1, q2, q3⟩ := stE_ok hE hdom hst p1 p3
        have hdef : a'.defers = a.defers := by
          have : ∀ (xs : List Mark) (ds es : List Deferred), DRel φ0 xs ds → DRel ψ xs es → es = ds := by
            intro xs
            induction xs with
            | nil => intro ds es h1 h2; cases h1; cases h2; rfl
            | cons x xs ih2 =>
              intro ds es h1 h2
              cases h1 with
              | fn f _ ds hds =>
                cases h2 with
                | fn _ _ es hes => rw [ih2 _ _ hds hes]
              | cons _ g b0 n0 _ ds hφ hds =>
                cases h2 with
                | cons _ g' b0' n0' _ es hφ' hes =>
                  have := hst.le _ _ hφ
                  rw [this] at hφ'
                  obtain ⟨rfl, _⟩ : g = g' ∧ _ := by simpa using hφ'
                  rw [ih2 _ _ hds hes]
          exact this _ _ _ hd p2
        exact ih y _ a' w' (by omega) q1 hdef q2 q3
      | exit j => exact ⟨_, hk, hf, rfl, ψ, p1, p2, p3, hst⟩
      | ret => exact ⟨_, hk, hf, rfl, ψ, p1, p2, p3, hst⟩
  obtain ⟨q1, q2, q3⟩ := stE_ok h0 hdom (Step.refl φ0 st.heap w) ht hw
  exact wpIn_loop_rounds _ (rounds (m x0 + 1) x0 _ a w (Nat.lt_succ_self _) q1 rfl q2 q3)
/-- an outcome is seen otherwise -/
theorem tri_seen {c : Code} (base : Nat) (hb : st.next ≤ base) (h : Tri P w0 RO c n fr τ st (fun r => ∃ ρ, ∃ s : LS, (∀ x, .blk x ∈ r.fr.marks → x < base) ∧ stE base ρ r.τ r.st s.tmps s.objs s.next ∧ K ⟨r.ex, s.T, s.S, r.fr⟩)) : Tri P w0 RO c n fr τ st K := fun φ0 a w rg kk ht hd hrd hw hr => by
  have hdom : ∀ x : Nat, φ0 x ≠ none → x < base := fun x hx => Nat.lt_of_not_le fun hle => hx (hw.fresh x (by omega))
  refine Code.wpIn_mono ?_ (h φ0 a w rg kk ht hd hrd hw hr)
  rintro e a' w' ⟨⟨ex, τ1, st1, fr1⟩, ⟨ρ, s, hmk, hE, hK⟩, hf, rfl, ψ, p1, p2, p3, p4⟩
  obtain ⟨q1, q2, q3⟩ := stE_ok hE hdom p4 p1 p3
  exact ⟨_, hK, hf, rfl, _, q1, drel_low p2 hmk, q2, q3⟩
/-- what is told of a function's body by its formula, loops told of by ann -/
abbrev Ann := Nat → Option (Nat → Fr → PT AVal → St → (Res → Prop) → Prop)
end
section
variable (P : Program) (RO : PT AObj) (hookP : FuncId → Option (List AVal → St → Option (OP × AVal × St))) (ann : Ann) (f : Nat)
noncomputable def wpT : Code → Nat → Fr → PT AVal → St → (Res → Prop) → Prop
  | .seq a b, n, fr, τ, st, K => wpT a n fr τ st (thenW (fun r => wpT b n r.fr r.τ r.st K) K)
  | .cond x a b, n, fr, τ, st, K => condW RO τ x (wpT a n fr τ st K) (wpT b n fr τ st K)
  | .block id a, n, fr, τ, st, K => (match ann id with
    | some A => A n fr τ st K
    | none => wpT a n fr τ st (blockW id K))
  | c, n, fr, τ, st, K => execW P RO hookP f c n fr τ st K
/-- what ann must keep, in a piece of code -/
def AnnOk (w0 : World) : Code → Prop
  | .seq a b => AnnOk w0 a ∧ AnnOk w0 b
  | .cond _ a b => AnnOk w0 a ∧ AnnOk w0 b
  | .block id a => (match ann id with
    | some A => ∀ n fr τ st K, A n fr τ st K → Tri P w0 RO (.block id a) n fr τ st K
    | none => AnnOk w0 a)
  | _ => True
end
section
variable {P : Program} {w0 : World} {RO : PT AObj} {hookP : FuncId → Option (List AVal → St → Option (OP × AVal × St))} {ann : Ann} {f : Nat}
theorem wpT_ok (hm : P.follows .mixedOrders = true) (hn : ∀ (f : FuncId) (fn : Func), P.funcs[f]? = some fn → (fn.name == "runtime.NumGoroutine") = false) (hh : ∀ f h, hookG hookP f = some h → Call1Ok P w0 RO f h) :
    ∀ (c : Code) (n : Nat) (fr : Fr) (τ : PT AVal) (st : St) (K : Res → Prop), AnnOk P RO ann w0 c → wpT P RO hookP ann f c n fr τ st K → Tri P w0 RO c n fr τ st K
  | .seq a b, n, fr, τ, st, K, hA, h => by
    obtain ⟨h1, h2⟩ := hA
    unfold wpT at h
    refine tri_seq ((wpT_ok hm hn hh a n fr τ st _ h1 h).mono fun r hr => ?_)
    obtain ⟨ex, τ1, st1, fr1⟩ := r
    cases ex with
    | normal => exact wpT_ok hm hn hh b n _ _ _ K h2 hr
    | exit j => exact hr
    | ret => exact hr
  | .cond x a b, n, fr, τ, st, K, hA, h => by
    obtain ⟨h1, h2⟩ := hA
    unfold wpT at h
    refine tri_cond ?_
    unfold condW at h ⊢
    split at h
    · rename_i t ht
      try simp only [ht]
      cases t with
      | true => exact wpT_ok hm hn hh a n fr τ st K h1 h
      | false => exact wpT_ok hm hn hh b n fr τ st K h2 h
    · rename_i t ht
      try simp only [ht]
      exact ⟨fun e => wpT_ok hm hn hh a n fr τ st K h1 (h.1 e), fun e => wpT_ok hm hn hh b n fr τ st K h2 (h.2 e)⟩
    · exact h.elim
  | .block id a, n, fr, τ, st, K, hA, h => by
    unfold wpT at h
    unfold AnnOk at hA
    split at h
    · rename_i A hAn
      rw [hAn] at hA
      exact hA n fr τ st K h
    · rename_i hAn
      rw [hAn] at hA
      exact tri_block (wpT_ok hm hn hh a n fr τ st _ hA h)
  | .skip, n, fr, τ, st, K, _, h => tri_exec hm hn hh h
  | .label l, n, fr, τ, st, K, _, h => tri_exec hm hn hh h
  | .region id ops d, n, fr, τ, st, K, _, h => tri_exec hm hn hh h
  | .loop a, n, fr, τ, st, K, _, h => tri_exec hm hn hh h
  | .exit id, n, fr, τ, st, K, _, h => tri_exec hm hn hh h
  | .ret, n, fr, τ, st, K, _, h => tri_exec hm hn hh h
  | .rangeFunc g ps as bo, n, fr, τ, st, K, _, h => tri_exec hm hn hh h
  | .scope .., n, fr, τ, st, K, _, h => tri_exec hm hn hh h
  | .goto .., n, fr, τ, st, K, _, h => tri_exec hm hn hh h
  | .refuse .., n, fr, τ, st, K, _, h => tri_exec hm hn hh h
/-- A FUNCTION, begun in a state. -/
theorem fn_ok (hm : P.follows .mixedOrders = true) (hn : ∀ (f : FuncId) (fn : Func), P.funcs[f]? = some fn → (fn.name == "runtime.NumGoroutine") = false) (hh : ∀ f h, hookG hookP f = some h → Call1Ok P w0 RO f h)
    {g : FuncId} {fn : Func} {body : Code} (hfn : P.funcs[g]? = some fn) (hbody : fn.body = some body) (hA : AnnOk P RO ann w0 body) {args : List AVal} {st : St} {K : AVal → St → Prop}
    (h : wpT P RO hookP ann f body (bif Nat.ble (lenL args 0) fn.ntmps then fn.ntmps else lenL args 0) ⟨none, []⟩ (argsT args 0 .leaf) st (fun r => endW P RO fn r K)) :
    ∀ φ us w, VRels φ args us → WRel w0 φ st.heap st.next w → RRel w0 φ RO → Calls P g us.toArray w fun e w' => ∃ u v st', e = .returned u ∧ K v st' ∧ StepOk w0 φ st w v st' u w' := fun φ us w hus hw hro => by
  have ht := wpT_ok hm hn hh body _ _ _ _ _ hA h
  refine CallsIn.calls (F := FR none) (n := 0) (callsIn_of_wp_marks hfn hbody trivial (Code.wpIn_mono ?_ (ht φ _ w none 0 (args_rel hus fn.ntmps) .nil .none hw hro))) (fun k d hd => by cases hd)
  rintro x a' w' ⟨⟨ex, τ1, st1, fr1⟩, hK, hf, rfl, ψ, p1, p2, p3, p4⟩
  obtain ⟨v, s, h1, h2⟩ := endW_ok hK
  have fin : (exOf ex = .normal ∨ exOf ex = .ret) → (match leaveA P fr1.marks st1 with | some s => (match resultA P RO fn τ1 s with | some v => some (v, s) | none => none) | none => none) = some (v, s) → LeavesInM (FR none) 0 P fn a'.tmps (fun e w' => ∃ u v st', e = .returned u ∧ K v st' ∧ StepOk w0 φ st w v st' u w') a'.defers .returning w' := fun _ hres => by
    split at hres
    · rename_i s2 hs2
      split at hres
      · rename_i v1 hv1
        cases hres
        exact leave_ok hn hs2 p2 p3 fun w2 q1 q2 => by
          obtain ⟨u, r1, r2⟩ := resultA_ok hv1 p1 q1 (hro.mono p4.le)
          exact ⟨u, r2, u, _, _, rfl, h2, ψ, r1, q1, p4.trans q2⟩
      · cases hres
    · cases hres
  cases ex with
  | normal => exact fin (.inl rfl) h1
  | exit id => cases h1
  | ret => exact fin (.inr rfl) h1
end
/-! whatever names code: a function's body, a loop's -/
def bodyOf (P : Program) (g : FuncId) : Code := match P.funcs[g]? with | some fn => (match fn.body with | some b => b | none => .skip) | none => .skip
def tmpsN (P : Program) (g : FuncId) : Nat := match P.funcs[g]? with | some fn => fn.ntmps | none => 0
/-- the code in the block of that number -/
def inBlock (id : Nat) : Code → Option Code
  | .seq a b => (match inBlock id a with | some c => some c | none => inBlock id b)
  | .cond _ a b => (match inBlock id a with | some c => some c | none => inBlock id b)
  | .block j a => bif Nat.beq j id then some a else inBlock id a
  | .loop a => inBlock id a
  | _ => none
/-- a loop's round -/
def roundOf (P : Program) (g : FuncId) (id : Nat) : Code := match inBlock id (bodyOf P g) with | some (.loop b) => b | _ => .skip
/-- the blocks that ann tells of -/
def told (ids : List Nat) : Code → List (Nat × Code)
  | .seq a b => told ids a ++ told ids b
  | .cond _ a b => told ids a ++ told ids b
  | .block id a => bif memN id ids then [(id, a)] else told ids a
  | _ => []
section
variable {P : Program} {w0 : World} {RO : PT AObj} {hookP : FuncId → Option (List AVal → St → Option (OP × AVal × St))} {ann : Ann} {f : Nat}
theorem annOk_of {ids : List Nat} (hids : ∀ id A, ann id = some A → memN id ids = true) : ∀ {c : Code}, (∀ p ∈ told ids c, ∀ A, ann p.1 = some A → ∀ n fr τ st K, A n fr τ st K → Tri P w0 RO (.block p.1 p.2) n fr τ st K) → (∀ id, memN id ids = true → ann id ≠ none) → AnnOk P RO ann w0 c
  | .seq a b, h, hs => ⟨annOk_of hids (fun p hp => h p (List.mem_append_left _ hp)) hs, annOk_of hids (fun p hp => h p (List.mem_append_right _ hp)) hs⟩
  | .cond x a b, h, hs => ⟨annOk_of hids (fun p hp => h p (List.mem_append_left _ hp)) hs, annOk_of hids (fun p hp => h p (List.mem_append_right _ hp)) hs⟩
  | .block id a, h, hs => by
    unfold AnnOk
    split
    · rename_i A hA
      have hm := hids id A hA
      exact h (id, a) (by unfold told; rw [hm]; exact List.mem_singleton.2 rfl) A hA
    · rename_i hA
      have hm : memN id ids = false := by
        cases hm : memN id ids with
        | true => exact absurd hA (hs id hm)
        | false => rfl
      exact annOk_of hids (fun p hp => h p (by unfold told; rw [hm]; exact hp)) hs
  | .skip, _, _ => trivial
  | .label l, _, _ => trivial
  | .region id ops d, _, _ => trivial
  | .loop a, _, _ => trivial
  | .exit id, _, _ => trivial
  | .ret, _, _ => trivial
  | .rangeFunc g ps as bo, _, _ => trivial
  | .scope .., _, _ => trivial
  | .goto .., _, _ => trivial
  | .refuse .., _, _ => trivial
/-- no loop is told of -/
theorem annOk_none : ∀ {c : Code}, AnnOk P RO (fun _ => none) w0 c
  | .seq a b => ⟨annOk_none, annOk_none⟩
  | .cond x a b => ⟨annOk_none, annOk_none⟩
  | .block id a => annOk_none (c := a)
  | .skip => trivial
  | .label l => trivial
  | .region id ops d => trivial
  | .loop a => trivial
  | .exit id => trivial
  | .ret => trivial
  | .rangeFunc g ps as bo => trivial
  | .scope .. => trivial
  | .goto .. => trivial
  | .refuse .. => trivial
/-- one loop is told of -/
def one1 (id : Nat) (A : Nat → Fr → PT AVal → St → (Res → Prop) → Prop) : Ann := fun j => bif Nat.beq j id then some A else none
theorem annOk_one {id : Nat} {A : Nat → Fr → PT AVal → St → (Res → Prop) → Prop} {c : Code} {a : Code} (hl : told [id] c = [(id, a)]) (h : ∀ n fr τ st K, A n fr τ st K → Tri P w0 RO (.block id a) n fr τ st K) : AnnOk P RO (one1 id A) w0 c := by
  refine annOk_of (ids := [id]) (fun j B hj => ?_) (fun p hp B hB => ?_) (fun j hj => ?_)
  · unfold one1 at hj
    cases hb : Nat.beq j id with
    | false => rw [hb] at hj; cases hj
    | true => rw [Nat.eq_of_beq_eq_true hb]; exact (memN_iff _ _).2 (List.mem_singleton.2 rfl)
  · rw [hl] at hp
    obtain rfl := List.mem_singleton.1 hp
    unfold one1 at hB
    rw [Nat.beq_refl] at hB
    cases hB
    exact h
  · have := List.mem_singleton.1 ((memN_iff _ _).1 hj)
    subst this
    unfold one1
    rw [Nat.beq_refl]
    exact Option.some_ne_none _
/-- a function begun with nothing of its own: what its formula tells -/
theorem fn_pure (hm : P.follows .mixedOrders = true) (hn : ∀ (f : FuncId) (fn : Func), P.funcs[f]? = some fn → (fn.name == "runtime.NumGoroutine") = false) (hh : ∀ f h, hookG hookP f = some h → Call1Ok P w0 RO f h)
    {g : FuncId} {fn : Func} {body : Code} (hfn : P.funcs[g]? = some fn) (hbody : fn.body = some body) (hA : AnnOk P RO ann w0 body) {args : List AVal} {next : Nat} {K : AVal → St → Prop}
    (h : wpT P RO hookP ann f body (bif Nat.ble (lenL args 0) fn.ntmps then fn.ntmps else lenL args 0) ⟨none, []⟩ (argsT args 0 .leaf) ⟨.leaf, next, []⟩ (fun r => endW P RO fn r K)) {φ : Phi} (hf : Fresh0 φ next w0) (hro : RRel w0 φ RO) {us : List Value} (hus : VRels φ args us) :
    Calls P g us.toArray w0 fun e w' => ∃ u v st', e = .returned u ∧ K v st' ∧ StepOk w0 φ ⟨.leaf, next, []⟩ w0 v st' u w' :=
  fn_ok hm hn hh hfn hbody hA h φ us w0 hus (WRel.start hf.high hf.pool) hro
end
/-! a loop, told of by states at its rounds' beginnings (I, where ok) and behind it (J, where post) -/
section
variable {α β : Type} (base : Nat) (ok : α → Prop) (I : α → LS) (m : α → Nat) (ρI : List (Nat × Nat)) (post : β → Prop) (J : β → LS) (ρJ : List (Nat × Nat))
/-- what a round must come to -/
noncomputable def roundK (id : Nat) (x : α) (r : Res) : Prop := plain r.fr (match r.ex with
  | .normal => ∃ y, (m y < m x ∧ ok y) ∧ stE base ρI r.τ r.st (I y).tmps (I y).objs (I y).next
  | .exit j => bif Nat.beq j id then ∃ z, post z ∧ stE base ρJ r.τ r.st (J z).tmps (J z).objs (J z).next else False
  | .ret => False)
/-- what is told of the loop -/
noncomputable def loopA (N : Nat) (ρ0 : List (Nat × Nat)) (n : Nat) (fr : Fr) (τ : PT AVal) (st : St) (K : Res → Prop) : Prop :=
  bif Nat.beq n N && Nat.ble st.next base then plain fr (∃ x0, ok x0 ∧ stE base ρ0 τ st (I x0).tmps (I x0).objs (I x0).next ∧ ∀ z, post z → K ⟨.normal, (J z).T, (J z).S, ⟨none, []⟩⟩) else False
theorem loopA_ok {P : Program} {w0 : World} {RO : PT AObj} {hookP : FuncId → Option (List AVal → St → Option (OP × AVal × St))} {f : Nat} (hm : P.follows .mixedOrders = true) (hn : ∀ (f : FuncId) (fn : Func), P.funcs[f]? = some fn → (fn.name == "runtime.NumGoroutine") = false) (hh : ∀ f h, hookG hookP f = some h → Call1Ok P w0 RO f h) (hro : ROlow RO base)
    {id : Nat} {b : Code} {N : Nat} {ρ0 : List (Nat × Nat)} (round : ∀ x, ok x → execW P RO hookP f b N ⟨none, []⟩ (I x).T (I x).S (roundK base ok I m ρI post J ρJ id x)) (n : Nat) (fr : Fr) (τ : PT AVal) (st : St) (K : Res → Prop) (h : loopA base ok I post J N ρ0 n fr τ st K) :
    Tri P w0 RO (.block id (.loop b)) n fr τ st K := by
  obtain ⟨hN, hp⟩ := cond_some h
  rw [Bool.and_eq_true] at hN
  have hb := Nat.le_of_ble_eq_true hN.2
  obtain rfl := Nat.eq_of_beq_eq_true hN.1
  obtain ⟨rfl, x0, hx0, h0, hK⟩ := plain_eq hp
  refine tri_block (tri_seen base hb (tri_loop (α := { x : α // ok x }) base (fun x => I x.1) (fun x => m x.1) ⟨x0, hx0⟩ ρ0 hro hb h0 (fun x => ?_)))
  refine (tri_exec hm hn hh (round x.1 x.2)).mono fun r hr => ?_
  obtain ⟨ex, τ1, st1, fr1⟩ := r
  obtain ⟨hfr, hr⟩ := plain_eq hr
  simp only at hfr hr
  subst hfr
  cases ex with
  | normal =>
    obtain ⟨y, ⟨hy1, hy2⟩, hE⟩ := hr
    exact ⟨⟨y, hy2⟩, ρI, hy1, rfl, hE⟩
  | exit j =>
    obtain ⟨hj, z, hz, hE⟩ := cond_some hr
    refine ⟨ρJ, J z, (fun x hx => by cases hx), hE, ?_⟩
    show (bif Nat.beq j id then _ else _)
    rw [hj]
    exact hK z hz
  | ret => exact hr.elim
end
end Go.Proofs.Ytcofcojjofkgcaa.Abs
namespace Go.Proofs.Ytcofcojjofkgcaa.Abs
open Go Go.RowKit
set_option linter.unusedVariables false
section
variable {α β : Type} (base : Nat) (ok : α → Prop) (I : α → LS) (m : α → Nat) (ρI : List (Nat × Nat)) (post : β → Prop) (J : β → LS) (ρJ : List (Nat × Nat))
/-- as loopA_ok; the round is told of by a triple -/
theorem loopT_ok {P : Program} {w0 : World} {RO : PT AObj} (hro : ROlow RO base)
    {id : Nat} {b : Code} {N : Nat} {ρ0 : List (Nat × Nat)} (round : ∀ x, ok x → Tri P w0 RO b N ⟨none, []⟩ (I x).T (I x).S (roundK base ok I m ρI post J ρJ id x)) (n : Nat) (fr : Fr) (τ : PT AVal) (st : St) (K : Res → Prop) (h : loopA base ok I post J N ρ0 n fr τ st K) :
    Tri P w0 RO (.block id (.loop b)) n fr τ st K := by
  obtain ⟨hN, hp⟩ := cond_some h
  rw [Bool.and_eq_true] at hN
  have hb := Nat.le_of_ble_eq_true hN.2
  obtain rfl := Nat.eq_of_beq_eq_true hN.1
  obtain ⟨rfl, x0, hx0, h0, hK⟩ := plain_eq hp
  refine tri_block (tri_seen base hb (tri_loop (α := { x : α // ok x }) base (fun x => I x.1) (fun x => m x.1) ⟨x0, hx0⟩ ρ0 hro hb h0 (fun x => ?_)))
  refine (round x.1 x.2).mono fun r hr => ?_
  obtain ⟨ex, τ1, st1, fr1⟩ := r
  obtain ⟨hfr, hr⟩ := plain_eq hr
  simp only at hfr hr
  subst hfr
  cases ex with
  | normal =>
    obtain ⟨y, ⟨hy1, hy2⟩, hE⟩ := hr
    exact ⟨⟨y, hy2⟩, ρI, hy1, rfl, hE⟩
  | exit j =>
    obtain ⟨hj, z, hz, hE⟩ := cond_some hr
    refine ⟨ρJ, J z, (fun x hx => by cases hx), hE, ?_⟩
    show (bif Nat.beq j id then _ else _)
    rw [hj]
    exact hK z hz
  | ret => exact hr.elim
end
/-- several loops are told of -/
def annL (l : List (Nat × (Nat → Fr → PT AVal → St → (Res → Prop) → Prop))) : Ann := fun j => match l with
  | [] => none
  | x :: l => bif Nat.beq x.1 j then some x.2 else annL l j
theorem annL_some {l : List (Nat × (Nat → Fr → PT AVal → St → (Res → Prop) → Prop))} {j : Nat} {A : Nat → Fr → PT AVal → St → (Res → Prop) → Prop} (h : annL l j = some A) : (j, A) ∈ l := by
  induction l with
  | nil => cases h
  | cons x l ih =>
    unfold annL at h
    cases hb : Nat.beq x.1 j with
    | true =>
      rw [hb] at h
      obtain rfl := Nat.eq_of_beq_eq_true hb
      cases h
      exact List.mem_cons_self
    | false => rw [hb] at h; exact List.mem_cons_of_mem _ (ih h)
theorem annL_mem {l : List (Nat × (Nat → Fr → PT AVal → St → (Res → Prop) → Prop))} {j : Nat} (h : j ∈ l.map (·.1)) : annL l j ≠ none := by
  induction l with
  | nil => simp at h
  | cons x l ih =>
    unfold annL
    cases hb : Nat.beq x.1 j with
    | true => exact Option.some_ne_none _
    | false =>
      refine ih ?_
      rcases List.mem_cons.1 h with rfl | h
      · rw [Nat.beq_refl] at hb; cases hb
      · exact h
/-- what is told of loops: each holds in its code -/
theorem annOk_list {P : Program} {w0 : World} {RO : PT AObj} {l : List (Nat × (Nat → Fr → PT AVal → St → (Res → Prop) → Prop))} {c : Code} {ids : List Nat} {cs : List (Nat × Code)} (hids : l.map (·.1) = ids) (hl : told ids c = cs)
    (h : ∀ p ∈ cs, ∀ A, (p.1, A) ∈ l → ∀ n fr τ st K, A n fr τ st K → Tri P w0 RO (.block p.1 p.2) n fr τ st K) : AnnOk P RO (annL l) w0 c := by
  refine annOk_of (ids := ids) (fun j B hj => ?_) (fun p hp B hB => ?_) (fun j hj => ?_)
  · exact (memN_iff _ _).2 (hids ▸ List.mem_map_of_mem (f := (·.1)) (annL_some hj))
  · exact h p (hl ▸ hp) B (annL_some hB)
  · exact annL_mem (hids ▸ (memN_iff _ _).1 hj)
end Go.Proofs.Ytcofcojjofkgcaa.Abs
namespace Go.Proofs.Ytcofcojjofkgcaa.Abs
open Go Go.RowKit Go.Proofs.Ytcofcojjofkgcaa.M
set_option linter.unusedVariables false
theorem rrel_of {w0 : World} {φ : Phi} {entries : List (Nat × AObj)} (h : ∀ x o, (x, o) ∈ entries → (o.nul = true ∧ 900 ≤ x) ∨ ∃ g b n u, φ x = some (g, b, n) ∧ (x < 900 → g = x ∧ b = 0) ∧ g < w0.heap.size ∧ w0.heap[g]? = some u ∧ ORel φ o b n (thaw u)) : RRel w0 φ (hp entries) :=
  fun x o hx => h x o (foldr_get hx)
theorem rolow_of {entries : List (Nat × AObj)} {base : Nat} (h : (entries.all fun x => Nat.blt x.1 base) = true) : ROlow (hp entries) base := fun x o hx => by
  have := List.all_eq_true.1 h _ (foldr_get hx)
  simpa [Nat.blt_eq] using this
/-- where laid blocks lie -/
def phiOf (l : List (Nat × (Nat × Nat × Nat))) : Phi := fun k => match k with
  | .blk x => (l.find? fun e => Nat.beq e.1 x).map (·.2)
  | .pool _ _ _ => none
theorem phiOf_high {l : List (Nat × (Nat × Nat × Nat))} {next : Nat} (h : (l.all fun e => Nat.blt e.1 next) = true) : ∀ {w0 : World}, Fresh0 (phiOf l) next w0 := ⟨fun x hx => by
  show (l.find? fun e => Nat.beq e.1 x).map (·.2) = none
  rw [Option.map_eq_none_iff, List.find?_eq_none]
  intro e he hb
  have := List.all_eq_true.1 h e he
  have h1 : e.1 < next := by simpa [Nat.blt_eq] using this
  have h2 := Nat.eq_of_beq_eq_true hb
  omega, fun _ _ _ _ h => (by cases h)⟩
/-- bytes that come in: the slice, and the row -/
theorem lay_bytes {w : World} {S : Nat → Prop} {v : Value} {l : List UInt8} (h : Byts w S v l) : ∃ (t3 : Nat × Nat × Nat) (cap : Nat), l.length ≤ maxLen ∧ (∀ (φ : Phi) (x : Nat), φ x = some t3 → VRel φ (.sslice (x, 0) l.length cap true 1) v) ∧
    ∀ (φ : Phi) t, (AObj.sbytes l t).nul = true ∨ ∃ u, t3.1 < w.heap.size ∧ w.heap[t3.1]? = some u ∧ ORel φ (.sbytes l t) t3.2.1 t3.2.2 (thaw u) := by
  obtain ⟨A, n, c, rfl, hl, hnc, hm, h0, hat⟩ := h
  cases l with
  | nil =>
    obtain rfl : n = 0 := by simpa using hl.symm
    exact ⟨(0, 0, 0), 0, Nat.zero_le _, fun φ x hx => .semp _ _ _ _, fun φ t => .inl rfl⟩
  | cons b l =>
    cases A with
    | none => have := h0 rfl; simp at hl; omega
    | some ad =>
    obtain ⟨hS, hcell⟩ := hat ad rfl (by simp at hl; omega)
    obtain ⟨g, off, spot⟩ := ad
    have hspot : spot = none := by simpa [Addr.add] using World.cell?_spot (hcell 0 b rfl)
    subst hspot
    have hg : ∃ cs t fz, w.heap[g]? = some (.cells cs t fz) := by
      have := hcell 0 b rfl
      rw [add_lit] at this
      unfold World.cell? at this
      simp only at this
      split at this
      · exact ⟨_, _, _, ‹_›⟩
      all_goals first | (cases this; done) | (simp at this; done)
    obtain ⟨cs, t', fz, hg⟩ := hg
    have hat2 : ∀ j x, (b :: l)[j]? = some x → cs[off + j]? = some (.int .u8 (x.toNat : Int)) := fun j x hj => by
      have := hcell j x hj
      rw [add_lit] at this
      unfold World.cell? at this
      simp only [hg] at this
      simpa using this
    have hlen : off + (b :: l).length ≤ cs.size := by
      have := hat2 l.length ((b :: l)[l.length]'(by simp)) (List.getElem?_eq_getElem (by simp))
      have := (Array.getElem?_eq_some_iff.1 this).1
      simp; omega
    refine ⟨(g, off, cs.size), c, by rw [hl]; exact hm, fun φ x hx => ?_, fun φ t => .inr ⟨_, (Array.getElem?_eq_some_iff.1 hg).1, hg, ?_⟩⟩
    · subst hl
      exact VRel.sslice x 0 _ _ 1 g off cs.size c true ⟨g, off, none⟩ hx hnc (Nat.le_refl _) (fun _ => rfl) (by simp) (.inr rfl)
    refine sbytes_cells rfl hlen ?_ (.inl rfl)
    apply List.ext_getElem?
    intro i
    by_cases hi : i < (b :: l).length
    · rw [List.getElem?_take_of_lt hi, List.getElem?_drop, Array.getElem?_toList, hat2 i _ (List.getElem?_eq_getElem hi)]
      unfold vals
      rw [List.getElem?_map, List.getElem?_eq_getElem hi]
      rfl
    · rw [List.getElem?_eq_none (by simp; simp at hi; omega), List.getElem?_eq_none (by simpa [vals] using hi)]
def isTrue : AVal → Prop
  | .bool b => b = true
  | .sbool b => b = true
  | _ => False
theorem isTrue_rel {φ : Phi} {v : AVal} {u : Value} (h : isTrue v) (hv : VRel φ v u) : u = .bool true := by
  unfold isTrue at h
  split at h
  · subst h; cases hv; rfl
  · subst h; cases hv; rfl
  · exact h.elim
end Go.Proofs.Ytcofcojjofkgcaa.Abs
