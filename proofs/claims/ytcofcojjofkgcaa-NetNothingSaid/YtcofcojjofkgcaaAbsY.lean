/- Closed functions run by an interpreter: all code. By an AI agent. -/
import Derived.Test.YtcofcojjofkgcaaAbsX
import Derived.Test.YtcofcojjofkgcaaM
namespace Go.Proofs.Ytcofcojjofkgcaa.Abs
open Go Go.RowKit
set_option linter.unusedVariables false
section
variable {P : Program} {RO : PT AObj} {w0 : World} {hook : FuncId → Option (List AVal → St → Option (AVal × St))} {rec : Code → Nat → Fr → PT AVal → St → Option Res}
theorem whoF_ok (hn : ∀ (f : FuncId) (fn : Func), P.funcs[f]? = some fn → (fn.name == "runtime.NumGoroutine") = false) (hh : ∀ f h, hook f = some h → Call1Ok P w0 RO f h) (hrec : ExecOk P w0 RO rec) : CallOk P w0 RO (whoF P RO hook rec) := by
  intro who args st v st' h
  cases who with
  | fn f => exact callF_ok hn hh hrec f args st v st' h
  | yield x => exact yieldF_ok hrec h
theorem enter_ok {n : Nat} {τ : PT AVal} {ps : Array Tmp} {assign body : Code} {fr fr1 : Fr} {st st1 : St} {x : Nat} (h : enterA n τ ps.toList assign body fr st = some (x, fr1, st1)) :
    fr1.round = fr.round ∧ Logs st st1 ∧ ∀ φ (a : Act) w rg (fn : FuncId), TRel φ n τ a.tmps → DRel w0 φ st.heap w fr.marks a.defers → ORo φ fr.round rg → WRel w0 φ st.heap st.next w →
      ∃ l mark w1 ψ, (Instr.enterLoop fn a.tmps ps assign body rg).run P w = .ok (l, mark) w1 ∧ ψ x = some (l, 0, 0) ∧ (DRel w0 ψ st1.heap w1 fr1.marks (mark ++ a.defers) ∧ DNew w a.defers (mark ++ a.defers)) ∧ WRel w0 ψ st1.heap st1.next w1 ∧ Step φ st.heap w ψ st1.heap w1 := by
  unfold enterA at h
  split at h
  · rename_i hround
    cases h
    refine ⟨hround.symm, ⟨[], rfl, by show st.next ≤ Nat.succ (Nat.succ st.next); omega, fun b hb _ => ?_⟩, fun φ a w rg fn ht hd hro hw => ?_⟩
    · refine (PT.get_set _ _ _ _).trans ?_
      rw [if_neg (by omega), PT.get_set, if_neg (by omega)]
    · rw [hround] at hro
      cases hro
      obtain ⟨a1, a2⟩ := new_ok (w' := w.alloc (.deferred (some []))) hw rfl rfl rfl rfl (.defd 0 0)
      obtain ⟨b1, b2⟩ := new_ok (w' := (w.alloc (.deferred (some []))).alloc (.loop { state := .ready, pending := none, fn, tmps := a.tmps, params := ps, assign, body, defers := w.heap.size })) a1 rfl rfl rfl rfl
        (.loop .ready .none τ n ps.toList assign body 0 0 _ rfl rfl ((ht.mono a2.le).mono (Phi.ext_le _ (a1.fresh _ (Nat.le_refl _)))) rfl rfl rfl)
      refine ⟨_, _, _, _, run_enterLoop_outer fn a.tmps ps assign body, ?_, ?_, b1, a2.trans b2⟩
      · rw [Phi.ext_at, World.size_alloc]
      · refine ⟨.cons st.next w.heap.size 0 0 _ _ ?_ ((hd.step a2).step b2), fun g hg => ?_⟩
        · rw [Phi.ext_ne _ _ (by omega), Phi.ext_at]
        · rcases List.mem_cons.1 hg with e | e
          · cases e; exact .inr (Nat.le_refl _)
          · exact .inl e
  · rename_i y hround
    split at h
    · rename_i s j τ0 n0 ps0 as0 bo0 hy
      cases h
      refine ⟨rfl, ⟨[], rfl, Nat.le_succ _, fun b hb _ => ?_⟩, fun φ a w rg fn ht hd hro hw => ?_⟩
      · refine (PT.get_set _ _ _ _).trans ?_
        rw [if_neg (by omega)]
      · rw [hround] at hro
        cases hro with
        | some _ g b m hφ =>
        obtain ⟨r, q1, _⟩ := loop_obj hw hy hφ
        obtain ⟨b1, b2⟩ := new_ok (w' := w.alloc (.loop { state := .ready, pending := none, fn, tmps := a.tmps, params := ps, assign, body, defers := r.defers })) hw rfl rfl rfl rfl
          (.loop .ready .none τ n ps.toList assign body 0 0 _ rfl rfl (ht.mono (Phi.ext_le _ (hw.fresh _ (Nat.le_refl _)))) rfl rfl rfl)
        exact ⟨_, _, _, _, run_enterLoop_inner q1 fn a.tmps ps assign body, Phi.ext_at _ _ _, ⟨hd.step b2, DNew.refl _ _⟩, b1, b2⟩
    · cases h
theorem range_ok (hn : ∀ (f : FuncId) (fn : Func), P.funcs[f]? = some fn → (fn.name == "runtime.NumGoroutine") = false) (hh : ∀ f h, hook f = some h → Call1Ok P w0 RO f h) (hrec : ExecOk P w0 RO rec)
    {g : Operand} {ps : Array Tmp} {assign body : Code} {n : Nat} {fr fr' : Fr} {τ τ' : PT AVal} {st st' : St} {e : Ex} {f : FuncId} {first captured : List AVal} (hev : evA RO τ g = some (.func f first captured)) (h : rangeA P RO hook rec τ f first captured (enterA n τ ps.toList assign body fr st) = some ⟨e, τ', st', fr'⟩) :
    fr'.round = fr.round ∧ Logs st st' ∧ ∀ φ a w rg kk, TRel φ n τ a.tmps → DRel w0 φ st.heap w fr.marks a.defers → ORo φ fr.round rg → WRel w0 φ st.heap st.next w → RRel w0 φ RO → (Code.rangeFunc g ps assign body).wpIn (FR rg) kk P (fun x a' w' => x = exOf e ∧ PostX w0 φ st w n a.defers fr' τ' st' a' w') a w := by
  cases hen : enterA n τ ps.toList assign body fr st with
  | none => rw [hen] at h; cases h
  | some r =>
  obtain ⟨x, fr1, st1⟩ := r
  rw [hen] at h
  simp only [rangeA] at h
  obtain ⟨i1, i2, i3⟩ := enter_ok (P := P) (w0 := w0) hen
  cases hc : callF P RO hook rec f (first ++ .yield x :: captured) st1 with
  | none => rw [hc] at h; cases h
  | some r =>
  obtain ⟨v, st2⟩ := r
  rw [hc] at h
  obtain ⟨c1, ⟨fn, hfn, hbody, hname⟩, c3⟩ := callF_ok hn hh hrec f _ _ _ _ hc
  simp only [leaveL] at h
  split at h
  · rename_i s j τ0 n0 ps0 as0 bo0 hx
    have fin : ∀ s', s = s' → s' ≠ .busy → e = exJ j → τ' = τ → st' = markL x .exhausted j τ0 n0 ps0 as0 bo0 st2 → fr' = fr1 → fr'.round = fr.round ∧ Logs st st' ∧ ∀ φ a w rg kk, TRel φ n τ a.tmps → DRel w0 φ st.heap w fr.marks a.defers → ORo φ fr.round rg → WRel w0 φ st.heap st.next w → RRel w0 φ RO → (Code.rangeFunc g ps assign body).wpIn (FR rg) kk P (fun x a' w' => x = exOf e ∧ PostX w0 φ st w n a.defers fr' τ' st' a' w') a w := fun s' hs hnb he hτ hst hfr => by
      subst hs he hτ hst hfr
      refine ⟨i1, (i2.trans c1).trans markL_logs, fun φ a w rg kk ht hd hro hw hr => ?_⟩
      refine wpIn_rangeFunc fun fnn _ => ?_
      obtain ⟨l, mark, w1, ψ, k1, k2, k3, k4, k5⟩ := i3 φ a w rg fnn ht hd hro hw
      have hfv := ev_some hr ht g _ hev
      generalize hval : a.eval g = u at hfv
      cases hfv with
      | func _ _ _ va vb h1 h2 =>
      have hn' : ¬ fn.name = "runtime.NumGoroutine" := by simpa using hname
      have hb' : ¬ fn.body = none := fun e => by rw [e] at hbody; cases hbody
      refine ⟨l, mark, w1, { target := .fn (.func f) vb, args := va ++ #[.func (.yield l) #[] #[]] }, w1, f, va ++ #[.func (.yield l) #[] #[]] ++ vb, w1, k1, ?_, fun _ _ => trivial, ?_, fun h => (by cases h), ?_⟩
      · have hy : a.eval (.const (.func (.yield l) #[] #[])) = .func (.yield l) #[] #[] := rfl
        simp [resolve, hval, hy, Deferred.ofValue]
      · simp [invoke, callFunc, hfn, hb', hn']
      · have hcall := c3 ψ (va.toList ++ .func (.yield l) #[] #[] :: vb.toList) w1 ((h1.mono k5.le).append (.cons _ _ _ _ (.yield x l 0 0 k2) (h2.mono k5.le))) k4 (hr.mono k5.le)
        rw [show (va.toList ++ .func (.yield l) #[] #[] :: vb.toList).toArray = va ++ #[.func (.yield l) #[] #[]] ++ vb by apply Array.toList_inj.1; simp] at hcall
        refine (callsFR rg _ hcall).mono fun ee w2 hee => ?_
        obtain ⟨u, rfl, χ, v1, v2, v3⟩ := hee
        have hφ2 := v3.le _ _ k2
        obtain ⟨r, z1, z2, z3, _⟩ := loop_obj v2 hx hφ2
        obtain ⟨y1, y2⟩ := markL_ok (s' := .exhausted) (j' := j) v2 hx hφ2 z1
        have hsame : ({ r with state := .exhausted } : Loop) = { r with state := lsOf .exhausted, pending := codeOf j } := by rw [← z3]; rfl
        refine ⟨codeOf j, _, by rw [← z3]; exact run_endLoop z1 (by rw [z2]; cases s <;> first | exact absurd rfl hnb | (intro hh; cases hh)), ?_⟩
        rw [hsame]
        have post : ∀ a' : Act, a'.tmps = a.tmps → a'.defers = mark ++ a.defers → PostX w0 φ st w n a.defers fr' τ' (markL x .exhausted j τ0 n0 ps0 as0 bo0 st2) a' (w2.putObj l (.loop { r with state := lsOf .exhausted, pending := codeOf j })) := fun a' e1 e2 =>
          ⟨χ, by rw [e1]; exact (ht.mono k5.le).mono v3.le, by rw [e2]; exact ⟨(k3.1.step v3).step y2, k3.2⟩, y1, (k5.trans v3).trans y2⟩
        cases j with
        | none => exact ⟨rfl, post _ rfl rfl⟩
        | ret => exact wpIn_ret ⟨rfl, post _ rfl rfl⟩
        | exit id => exact wpIn_exit ⟨rfl, post _ rfl rfl⟩
    cases s with
    | busy => cases h
    | exhausted => cases h
    | ready =>
      have h' := Option.some.inj h
      injection h' with h1 h2 h3 h4
      exact fin .ready rfl (fun hh => by cases hh) h1.symm h2.symm h3.symm h4.symm
    | done =>
      have h' := Option.some.inj h
      injection h' with h1 h2 h3 h4
      exact fin .done rfl (fun hh => by cases hh) h1.symm h2.symm h3.symm h4.symm
  · cases h
theorem stepE_ok (hm : P.follows .mixedOrders = true) (hn : ∀ (f : FuncId) (fn : Func), P.funcs[f]? = some fn → (fn.name == "runtime.NumGoroutine") = false) (hh : ∀ f h, hook f = some h → Call1Ok P w0 RO f h) (hrec : ExecOk P w0 RO rec) :
    ExecOk P w0 RO (stepE P RO hook rec) := by
  intro c n fr τ st e τ' st' fr' h
  cases c with
  | skip =>
    cases h
    exact ⟨rfl, .refl _, fun φ a w rg kk ht hd hro hw hr => wpIn_skip ⟨rfl, φ, ht, ⟨hd, DNew.refl _ _⟩, hw, Step.refl _ _ _⟩, fun b hb => by cases hb⟩
  | label l =>
    cases h
    exact ⟨rfl, .refl _, fun φ a w rg kk ht hd hro hw hr => wpIn_label ⟨rfl, φ, ht, ⟨hd, DNew.refl _ _⟩, hw, Step.refl _ _ _⟩, fun b hb => by cases hb⟩
  | exit id =>
    cases h
    exact ⟨rfl, .refl _, fun φ a w rg kk ht hd hro hw hr => wpIn_exit ⟨rfl, φ, ht, ⟨hd, DNew.refl _ _⟩, hw, Step.refl _ _ _⟩, fun b hb => by cases hb⟩
  | ret =>
    cases h
    exact ⟨rfl, .refl _, fun φ a w rg kk ht hd hro hw hr => wpIn_ret ⟨rfl, φ, ht, ⟨hd, DNew.refl _ _⟩, hw, Step.refl _ _ _⟩, fun b hb => by cases hb⟩
  | region id ops draws =>
    simp only [stepE] at h
    split at h
    · rename_i f hf
      cases h
      obtain ⟨h1, rfl, tys, type, pos, after, hops⟩ := deferOf_some hf
      obtain rfl : ops = #[⟨none, .defer ⟨.value (.func f), #[], tys⟩, type, pos, after, none⟩] := Array.toList_inj.1 hops
      refine ⟨h1.symm, .refl _, fun φ a w rg kk ht hd hro hw hr => ?_, fun b hb => by cases hb⟩
      rw [h1] at hro
      cases hro
      exact defer_region ⟨rfl, φ, ht, ⟨.fn f _ _ hd, fun g hg => .inl ((List.mem_cons.1 hg).elim (fun e => by cases e) (fun h => h))⟩, hw, Step.refl _ _ _⟩
    unfold eRegion at h
    split at h
    · rename_i τ1 st1 hreg
      cases h
      obtain ⟨k1, k2⟩ := region_ok (id := id) hm (whoF_ok hn hh hrec) hreg
      refine ⟨rfl, k1, fun φ a w rg kk ht hd hro hw hr => Code.wpIn_mono ?_ (k2 φ a w ht hw hr rg kk), fun b hb => by cases hb⟩
      rintro x a' w' ⟨rfl, ψ, p1, p2, p3, p4⟩
      exact ⟨rfl, ψ, p1, by rw [p2]; exact ⟨hd.step p4, DNew.refl _ _⟩, p3, p4⟩
    · cases h
  | seq x y =>
    simp only [stepE] at h
    cases h1 : rec x n fr τ st with
    | none => rw [h1] at h; cases h
    | some r =>
    obtain ⟨e1, τ1, st1, fr1⟩ := r
    rw [h1] at h
    obtain ⟨a0, a1, a2, _⟩ := hrec _ _ _ _ _ _ _ _ _ h1
    cases e1 with
    | normal =>
      obtain ⟨b0, b1, b2, _⟩ := hrec _ _ _ _ _ _ _ _ _ h
      refine ⟨b0.trans a0, a1.trans b1, fun φ a w rg kk ht hd hro hw hr => wpIn_seq (Code.wpIn_mono ?_ (a2 φ a w rg kk ht hd hro hw hr)), fun b hb => by cases hb⟩
      rintro x a' w' ⟨rfl, ψ, p1, p2, p3, p4⟩
      show y.wpIn _ _ P _ a' w'
      refine Code.wpIn_mono ?_ (b2 ψ a' w' rg kk p1 p2.1 (by rw [a0]; exact hro.mono p4.le) p3 (hr.mono p4.le))
      rintro x a2 w2 ⟨hx, hp⟩
      exact ⟨hx, hp.after p4 p2.2⟩
    | exit id =>
      cases h
      refine ⟨a0, a1, fun φ a w rg kk ht hd hro hw hr => wpIn_seq (Code.wpIn_mono ?_ (a2 φ a w rg kk ht hd hro hw hr)), fun b hb => by cases hb⟩
      rintro x a' w' ⟨rfl, hp⟩
      exact ⟨rfl, hp⟩
    | ret =>
      cases h
      refine ⟨a0, a1, fun φ a w rg kk ht hd hro hw hr => wpIn_seq (Code.wpIn_mono ?_ (a2 φ a w rg kk ht hd hro hw hr)), fun b hb => by cases hb⟩
      rintro x a' w' ⟨rfl, hp⟩
      exact ⟨rfl, hp⟩
  | cond x a b =>
    simp only [stepE] at h
    unfold eCond at h
    split at h
    · rename_i t hx
      have hev : ∀ φ (ac : Act), TRel φ n τ ac.tmps → RRel w0 φ RO → ac.eval x = .bool t := fun φ ac ht hr => by
        have := ev_some hr ht x _ hx
        generalize ac.eval x = u at this
        cases this; rfl
      cases t with
      | true =>
        obtain ⟨a0, a1, a2, _⟩ := hrec _ _ _ _ _ _ _ _ _ h
        exact ⟨a0, a1, fun φ ac w rg kk ht hd hro hw hr => wpIn_cond_true (hev φ ac ht hr) (a2 φ ac w rg kk ht hd hro hw hr), fun b hb => by cases hb⟩
      | false =>
        obtain ⟨a0, a1, a2, _⟩ := hrec _ _ _ _ _ _ _ _ _ h
        exact ⟨a0, a1, fun φ ac w rg kk ht hd hro hw hr => wpIn_cond_false (hev φ ac ht hr) (a2 φ ac w rg kk ht hd hro hw hr), fun b hb => by cases hb⟩
    · rename_i t hx
      have hev : ∀ φ (ac : Act), TRel φ n τ ac.tmps → RRel w0 φ RO → ac.eval x = .bool t := fun φ ac ht hr => by
        have := ev_some hr ht x _ hx
        generalize ac.eval x = u at this
        cases this; rfl
      cases t with
      | true =>
        obtain ⟨a0, a1, a2, _⟩ := hrec _ _ _ _ _ _ _ _ _ h
        exact ⟨a0, a1, fun φ ac w rg kk ht hd hro hw hr => wpIn_cond_true (hev φ ac ht hr) (a2 φ ac w rg kk ht hd hro hw hr), fun b hb => by cases hb⟩
      | false =>
        obtain ⟨a0, a1, a2, _⟩ := hrec _ _ _ _ _ _ _ _ _ h
        exact ⟨a0, a1, fun φ ac w rg kk ht hd hro hw hr => wpIn_cond_false (hev φ ac ht hr) (a2 φ ac w rg kk ht hd hro hw hr), fun b hb => by cases hb⟩
    · cases h
  | block id a =>
    simp only [stepE] at h
    cases h1 : rec a n fr τ st with
    | none => rw [h1] at h; cases h
    | some r =>
    obtain ⟨e1, τ1, st1, fr1⟩ := r
    rw [h1] at h
    obtain ⟨a0, a1, a2, _⟩ := hrec _ _ _ _ _ _ _ _ _ h1
    cases e1 with
    | normal =>
      cases h
      refine ⟨a0, a1, fun φ ac w rg kk ht hd hro hw hr => wpIn_block (Code.wpIn_mono ?_ (a2 φ ac w rg kk ht hd hro hw hr)), fun b hb => by cases hb⟩
      rintro x a' w' ⟨rfl, hp⟩
      exact ⟨rfl, hp⟩
    | ret =>
      cases h
      refine ⟨a0, a1, fun φ ac w rg kk ht hd hro hw hr => wpIn_block (Code.wpIn_mono ?_ (a2 φ ac w rg kk ht hd hro hw hr)), fun b hb => by cases hb⟩
      rintro x a' w' ⟨rfl, hp⟩
      exact ⟨rfl, hp⟩
    | exit j =>
      simp only [eBlock] at h
      cases hj : Nat.beq j id with
      | true =>
        rw [hj] at h
        have hj := Nat.eq_of_beq_eq_true hj
        cases h
        refine ⟨a0, a1, fun φ ac w rg kk ht hd hro hw hr => wpIn_block (Code.wpIn_mono ?_ (a2 φ ac w rg kk ht hd hro hw hr)), fun b hb => by cases hb⟩
        rintro x a' w' ⟨rfl, hp⟩
        show (if j = id then _ else _)
        rw [if_pos hj]
        exact ⟨rfl, hp⟩
      | false =>
        rw [hj] at h
        have hj : j ≠ id := fun he => by subst he; rw [Nat.beq_refl] at hj; cases hj
        cases h
        refine ⟨a0, a1, fun φ ac w rg kk ht hd hro hw hr => wpIn_block (Code.wpIn_mono ?_ (a2 φ ac w rg kk ht hd hro hw hr)), fun b hb => by cases hb⟩
        rintro x a' w' ⟨rfl, hp⟩
        show (if j = id then _ else _)
        rw [if_neg hj]
        exact ⟨rfl, hp⟩
  | loop b =>
    simp only [stepE] at h
    have hrounds : fr'.round = fr.round ∧ Logs st st' ∧ ∃ m, ∀ φ a w rg kk, TRel φ n τ a.tmps → DRel w0 φ st.heap w fr.marks a.defers → ORo φ fr.round rg → WRel w0 φ st.heap st.next w → RRel w0 φ RO → Code.roundsIn (FR rg) kk P b (fun x a' w' => x = exOf e ∧ PostX w0 φ st w n a.defers fr' τ' st' a' w') m a w := by
      cases h1 : rec b n fr τ st with
      | none => rw [h1] at h; cases h
      | some r =>
      obtain ⟨e1, τ1, st1, fr1⟩ := r
      rw [h1] at h
      obtain ⟨a0, a1, a2, _⟩ := hrec _ _ _ _ _ _ _ _ _ h1
      cases e1 with
      | normal =>
        obtain ⟨b0, b1, _, b3⟩ := hrec _ _ _ _ _ _ _ _ _ h
        obtain ⟨m, hmr⟩ := b3 b rfl
        refine ⟨b0.trans a0, a1.trans b1, m + 1, fun φ a w rg kk ht hd hro hw hr => ?_⟩
        rw [roundsIn_succ]
        refine Code.wpIn_mono ?_ (a2 φ a w rg kk ht hd hro hw hr)
        rintro x a' w' ⟨rfl, ψ, p1, p2, p3, p4⟩
        show Code.roundsIn _ _ P b _ m a' w'
        refine roundsIn_mono ?_ m a' w' (hmr ψ a' w' rg kk p1 p2.1 (by rw [a0]; exact hro.mono p4.le) p3 (hr.mono p4.le))
        rintro x a2 w2 ⟨hx, hp⟩
        exact ⟨hx, hp.after p4 p2.2⟩
      | exit j =>
        cases h
        refine ⟨a0, a1, 1, fun φ a w rg kk ht hd hro hw hr => ?_⟩
        rw [roundsIn_succ]
        refine Code.wpIn_mono ?_ (a2 φ a w rg kk ht hd hro hw hr)
        rintro x a' w' ⟨rfl, hp⟩
        exact ⟨rfl, hp⟩
      | ret =>
        cases h
        refine ⟨a0, a1, 1, fun φ a w rg kk ht hd hro hw hr => ?_⟩
        rw [roundsIn_succ]
        refine Code.wpIn_mono ?_ (a2 φ a w rg kk ht hd hro hw hr)
        rintro x a' w' ⟨rfl, hp⟩
        exact ⟨rfl, hp⟩
    obtain ⟨k0, k1, m, k2⟩ := hrounds
    refine ⟨k0, k1, fun φ a w rg kk ht hd hro hw hr => wpIn_loop_rounds m (k2 φ a w rg kk ht hd hro hw hr), fun b' hb => ?_⟩
    cases hb
    exact ⟨m, k2⟩
  | rangeFunc g ps assign body =>
    simp only [stepE] at h
    split at h
    · rename_i f first captured hev
      obtain ⟨k0, k1, k2⟩ := range_ok hn hh hrec hev h
      exact ⟨k0, k1, k2, fun b hb => by cases hb⟩
    · cases h
  | scope => cases h
  | goto => cases h
  | refuse => cases h
theorem exec_ok (hm : P.follows .mixedOrders = true) (hn : ∀ (f : FuncId) (fn : Func), P.funcs[f]? = some fn → (fn.name == "runtime.NumGoroutine") = false) (hh : ∀ f h, hook f = some h → Call1Ok P w0 RO f h) : ∀ f, ExecOk P w0 RO (exec P RO hook f)
  | 0 => fun c n fr τ st e τ' st' fr' h => by cases h
  | f + 1 => stepE_ok hm hn hh (exec_ok hm hn hh f)
theorem callA_ok (hm : P.follows .mixedOrders = true) (hn : ∀ (f : FuncId) (fn : Func), P.funcs[f]? = some fn → (fn.name == "runtime.NumGoroutine") = false) (hh : ∀ f h, hook f = some h → Call1Ok P w0 RO f h) (k : Nat) (g : FuncId) : Call1Ok P w0 RO g (callA P RO hook k g) := callF_ok hn hh (exec_ok hm hn hh k) g
theorem WRel.start {φ : Phi} {next : Nat} (hf : ∀ x : Nat, next ≤ x → φ x = none) (hp : Pool φ w0) : WRel w0 φ (.leaf : PT AObj) next w0 :=
  ⟨⟨Below.refl _ _, hf, fun x o hx => (by cases hx), fun x y o o' g b b' n n' hx => (by cases hx), fun x o hx => (by cases hx)⟩, hp, fun k b L t x o b' n ht hx => (by cases hx)⟩
/-- where a run begins -/
structure Fresh0 (φ : Phi) (next : Nat) (w0 : World) : Prop where
  high : ∀ x : Nat, next ≤ x → φ x = none
  pool : Pool φ w0
/-- a closed function -/
theorem closed_ok (hm : P.follows .mixedOrders = true) (hn : ∀ (f : FuncId) (fn : Func), P.funcs[f]? = some fn → (fn.name == "runtime.NumGoroutine") = false) (hh : ∀ f h, hook f = some h → Call1Ok P w0 RO f h) {φ : Phi} (hro : RRel w0 φ RO) {next : Nat} (hf : ∀ x : Nat, next ≤ x → φ x = none) {k : Nat} {g : FuncId}
    (h : yes (callA P RO hook k g [] ⟨.leaf, next, []⟩) = true) (hp : Pool φ w0 := by exact fun _ _ _ _ h => (by cases h)) : Calls P g #[] w0 fun e w' => e = .returned (.bool true) ∧ Below w0.heap.size w0 w' := by
  unfold yes at h
  split at h
  · rename_i st' hc
    have hw : WRel w0 φ (.leaf : PT AObj) next w0 := WRel.start hf hp
    have := (callA_ok hm hn hh k g _ _ _ _ hc).2.2 φ [] w0 .nil hw hro
    refine this.mono fun e w' he => ?_
    obtain ⟨u, rfl, ψ, h1, h2, _⟩ := he
    cases h1
    exact ⟨rfl, h2.below⟩
  · cases h
theorem named_of (h : (P.funcs.toList.all fun fn => !(fn.name == "runtime.NumGoroutine")) = true) : ∀ (f : FuncId) (fn : Func), P.funcs[f]? = some fn → (fn.name == "runtime.NumGoroutine") = false := fun f fn hf => by
  have hm : fn ∈ P.funcs.toList := by simpa using Array.mem_of_getElem? hf
  simpa using List.all_eq_true.1 h fn hm
/-- nothing is laid -/
theorem ro_none (w0 : World) (φ : Phi) : RRel w0 φ (.leaf : PT AObj) := fun x o hx => by cases hx
end
end Go.Proofs.Ytcofcojjofkgcaa.Abs
namespace Go.Proofs.Ytcofcojjofkgcaa.Abs
open Go Go.RowKit Go.Proofs.Ytcofcojjofkgcaa.M
set_option linter.unusedVariables false
section
variable (RO : PT AObj)
end
section
variable {w0 w : World} {φ : Phi} {RO : PT AObj} {st : St}
/-- a call that changes nothing that was there -/
theorem quiet_ok {w' : World} {v : AVal} {u : Value} (hw : WRel w0 φ st.heap st.next w) (hb : Below w.heap.size w w') (hv : VRel φ v u) : StepOk w0 φ st w v st u w' := by
  refine ⟨φ, hv, with_pool hw (fun _ _ _ => rfl) ?_⟩
  refine ⟨⟨hw.below.trans (hb.mono hw.below.size), hw.fresh, fun x o hx => ?_, hw.inj, hw.lt⟩, ⟨φ.le_refl, hb.size, fun x o g b n h1 h2 => .inr ⟨x, o, b, n, h1, h2⟩, fun g hg _ => hb.block g hg, fun _ h k => absurd k h⟩⟩
  rcases hw.obj x o hx with e | ⟨g, b, n, u, e1, e2, e3, e4⟩
  · exact .inl e
  · exact .inr ⟨g, b, n, u, e1, e2, (hb.block g (Array.getElem?_eq_some_iff.1 e3).1).trans e3, e4⟩
theorem VRels.bytes (φ : Phi) (l : List UInt8) : VRels φ (l.map fun b => AVal.int .u8 (b.toNat : Int)) (l.map fun b => Value.int .u8 (b.toNat : Int)) := by
  induction l with
  | nil => exact .nil
  | cons b l ih => exact .cons _ _ _ _ (.int _ _) ih
end
end Go.Proofs.Ytcofcojjofkgcaa.Abs
