/- Pieces of code: from a state to states. By an AI agent. -/
import Derived.Test.YtcofcojjofkgcaaAbsZ
import Derived.Test.YtcofcojjofkgcaaM
namespace Go.Proofs.Ytcofcojjofkgcaa.Abs
open Go Go.RowKit
set_option linter.unusedVariables false
/-- a piece of code, begun in a state, comes to an outcome of K -/
def Tri (P : Program) (w0 : World) (RO : PT AObj) (c : Code) (n : Nat) (fr : Fr) (τ : PT AVal) (st : St) (K : Res → Prop) : Prop :=
  ∀ φ a w rg kk, TRel φ n τ a.tmps → DRel w0 φ st.heap w fr.marks a.defers → ORo φ fr.round rg → WRel w0 φ st.heap st.next w → RRel w0 φ RO →
    c.wpIn (FR rg) kk P (fun x a' w' => ∃ r, K r ∧ r.fr.round = fr.round ∧ x = exOf r.ex ∧ PostX w0 φ st w n a.defers r.fr r.τ r.st a' w') a w
/-- what is laid lies below -/
def ROlow (RO : PT AObj) (base : Nat) : Prop := ∀ x o, RO.get x = some o → x < base
section
variable {P : Program} {w0 : World} {RO : PT AObj} {n : Nat} {fr : Fr} {τ : PT AVal} {st : St} {K K' : Res → Prop}
theorem Tri.mono {c : Code} (h : Tri P w0 RO c n fr τ st K) (hk : ∀ r, K r → K' r) : Tri P w0 RO c n fr τ st K' := fun φ a w rg kk h1 h2 h3 h4 h5 =>
  Code.wpIn_mono (fun x a' w' ⟨r, k1, k2⟩ => ⟨r, hk r k1, k2⟩) (h φ a w rg kk h1 h2 h3 h4 h5)
theorem tri_seq {x y : Code} (h : Tri P w0 RO x n fr τ st (thenW (fun r => Tri P w0 RO y n r.fr r.τ r.st K) K)) : Tri P w0 RO (.seq x y) n fr τ st K := fun φ a w rg kk ht hd hro hw hr => by
  refine wpIn_seq (Code.wpIn_mono ?_ (h φ a w rg kk ht hd hro hw hr))
  rintro e a' w' ⟨⟨ex, τ1, st1, fr1⟩, hk, hf, rfl, ψ, p1, p2, p3, p4⟩
  cases ex with
  | normal =>
    have hk : Tri P w0 RO y n fr1 τ1 st1 K := hk
    show y.wpIn _ _ P _ a' w'
    refine Code.wpIn_mono ?_ (hk ψ a' w' rg kk p1 p2.1 (by rw [hf]; exact hro.mono p4.le) p3 (hr.mono p4.le))
    rintro x a2 w2 ⟨r, q1, q2, q3, q4⟩
    exact ⟨r, q1, q2.trans hf, q3, q4.after p4 p2.2⟩
  | exit j => exact ⟨_, hk, hf, rfl, ψ, p1, p2, p3, p4⟩
  | ret => exact ⟨_, hk, hf, rfl, ψ, p1, p2, p3, p4⟩
theorem tri_cond {x : Operand} {a b : Code} (h : condW RO τ x (Tri P w0 RO a n fr τ st K) (Tri P w0 RO b n fr τ st K)) : Tri P w0 RO (.cond x a b) n fr τ st K := fun φ ac w rg kk ht hd hro hw hr => by
  unfold condW at h
  split at h
  · rename_i t hx
    have hev := ev_some hr ht x _ hx
    have hev : ac.eval x = .bool t := by generalize ac.eval x = u at hev; cases hev; rfl
    cases t with
    | true => exact wpIn_cond_true hev (h φ ac w rg kk ht hd hro hw hr)
    | false => exact wpIn_cond_false hev (h φ ac w rg kk ht hd hro hw hr)
  · rename_i t hx
    have hev := ev_some hr ht x _ hx
    have hev : ac.eval x = .bool t := by generalize ac.eval x = u at hev; cases hev; rfl
    cases t with
    | true => exact wpIn_cond_true hev (h.1 rfl φ ac w rg kk ht hd hro hw hr)
    | false => exact wpIn_cond_false hev (h.2 rfl φ ac w rg kk ht hd hro hw hr)
  · exact h.elim
theorem tri_block {id : Nat} {a : Code} (h : Tri P w0 RO a n fr τ st (blockW id K)) : Tri P w0 RO (.block id a) n fr τ st K := fun φ ac w rg kk ht hd hro hw hr => by
  refine wpIn_block (Code.wpIn_mono ?_ (h φ ac w rg kk ht hd hro hw hr))
  rintro e a' w' ⟨⟨ex, τ1, st1, fr1⟩, hk, hf, rfl, hp⟩
  cases ex with
  | normal => exact ⟨_, hk, hf, rfl, hp⟩
  | ret => exact ⟨_, hk, hf, rfl, hp⟩
  | exit j =>
    simp only [blockW] at hk
    show (if j = id then _ else _)
    cases hj : Nat.beq j id with
    | true =>
      rw [hj] at hk
      rw [if_pos (Nat.eq_of_beq_eq_true hj)]
      exact ⟨_, hk, hf, rfl, hp⟩
    | false =>
      rw [hj] at hk
      rw [if_neg (fun he => by subst he; rw [Nat.beq_refl] at hj; cases hj)]
      exact ⟨_, hk, hf, rfl, hp⟩
/-- a state of a loop: its slots, its blocks, the next block -/
structure LS where
  tmps : List (Nat × AVal)
  objs : List (Nat × AObj)
  next : Nat
noncomputable def LS.S (s : LS) : St := ⟨hp s.objs, s.next, []⟩
noncomputable def LS.T (s : LS) : PT AVal := tau s.tmps
/-- what stands in the state seen otherwise stood in the other one -/
theorem stE_back {base : Nat} {ρ : List (Nat × Nat)} {τ : PT AVal} {st : St} {L : List (Nat × AVal)} {Hl : List (Nat × AObj)} {next : Nat} {φ : Phi} (h : stE base ρ τ st L Hl next) : ∀ (x : Nat) o t, (hp Hl).get x = some o → psi base ρ φ x = some t → ∃ (y : Nat) (o' : AObj), st.heap.get y = some o' ∧ φ y = some t := fun x o t hx ht => by
  obtain ⟨_, _, hH⟩ := h
  rcases heapE_mem hH x o (foldr_get hx) with ⟨y, o', h1, h2, h3⟩ | ⟨h1, h2⟩
  · rw [psi_at h1] at ht
    exact ⟨y, o', h2, ht⟩
  · rw [psi_no h1] at ht; cases ht
theorem drel_low {w0 w : World} {φ : Phi} {H H' : PT AObj} {base : Nat} {ρ : List (Nat × Nat)} {xs : List Mark} {ds : List Deferred} (h : DRel w0 φ H w xs ds) (hl : ∀ x, .blk x ∈ xs → x < base)
    (hE : ∀ (x : Nat) o t, H'.get x = some o → psi base ρ φ x = some t → ∃ (y : Nat) (o' : AObj), H.get y = some o' ∧ φ y = some t) : DRel w0 (psi base ρ φ) H' w xs ds := by
  induction h with
  | nil => exact .nil
  | fn f xs ds _ ih => exact .fn f xs ds (ih fun y hy => hl y (List.mem_cons_of_mem _ hy))
  | cons x g b n xs ds h _ ih =>
    refine .cons x g b n xs ds ?_ (ih fun y hy => hl y (List.mem_cons_of_mem _ hy))
    rw [psi_at (by unfold renX; rw [show Nat.blt x base = true by simpa [Nat.blt_eq] using hl x List.mem_cons_self]; rfl)]
    exact h
  | old gs xs ds hd hnd hne _ ih =>
    refine .old gs xs ds (fun g hg => ⟨(hd g hg).low, (hd g hg).is, fun x o b n hx hφ => ?_⟩) hnd hne (ih fun y hy => hl y (List.mem_cons_of_mem _ hy))
    obtain ⟨y, o', h1, h2⟩ := hE x o _ hx hφ
    exact (hd g hg).free y o' b n h1 h2
theorem drel_mem {w0 w : World} {φ : Phi} {H : PT AObj} {xs : List Mark} {ds : List Deferred} (h : DRel w0 φ H w xs ds) : ∀ x : Nat, Mark.blk x ∈ xs → φ x ≠ none := by
  induction h with
  | nil => exact fun x hx => by cases hx
  | fn f xs ds _ ih => exact fun x hx => (List.mem_cons.1 hx).elim (fun e => by cases e) (ih x)
  | cons y g b n xs ds h _ ih => exact fun x hx => (List.mem_cons.1 hx).elim (fun e => by cases e; rw [h]; simp) (ih x)
  | old gs xs ds hd hnd hne _ ih => exact fun x hx => (List.mem_cons.1 hx).elim (fun e => by cases e) (ih x)
theorem in_i64 (z : Int) : inR .i64 z ↔ -9223372036854775808 ≤ z ∧ z ≤ 9223372036854775807 := Iff.rfl
theorem in_u8 (z : Int) : inR .u8 z ↔ 0 ≤ z ∧ z ≤ 255 := Iff.rfl
/-- the frame has no loop over a function -/
def plain (fr : Fr) (K : Prop) : Prop := match fr.round, fr.marks with | none, [] => K | _, _ => False
/-- A LOOP BY AN INVARIANT: I x are the states at a round's beginning, m x falls; an outcome that leaves the loop is of K. -/
theorem tri_loop {α : Type} {b : Code} (base : Nat) (I : α → LS) (m : α → Nat) (x0 : α) (ρ0 : List (Nat × Nat)) (hro : ROlow RO base) (hb : st.next ≤ base) (h0 : stE base ρ0 τ st (I x0).tmps (I x0).objs (I x0).next)
    (step : ∀ x, Tri P w0 RO b n fr (I x).T (I x).S (fun r => match r.ex with
      | .normal => ∃ y ρ, m y < m x ∧ r.fr = fr ∧ stE base ρ r.τ r.st (I y).tmps (I y).objs (I y).next
      | _ => K r)) : Tri P w0 RO (.loop b) n fr τ st K := fun φ0 a w rg kk ht hd hrd hw hr => by
  have hdom : ∀ x : Nat, φ0 x ≠ none → x < base := fun x hx => Nat.lt_of_not_le fun hle => hx (hw.fresh x (by omega))
  have hmk : ∀ x, .blk x ∈ fr.marks → x < base := fun x hx => hdom x (drel_mem hd x hx)
  have rounds : ∀ N x φ a1 w1, m x < N → TRel φ n (I x).T a1.tmps → (DRel w0 φ (I x).S.heap w1 fr.marks a1.defers ∧ DNew w a.defers a1.defers) → WRel w0 φ (I x).S.heap (I x).S.next w1 → Step φ0 st.heap w φ (I x).S.heap w1 →
      Code.roundsIn (FR rg) kk P b (fun e a' w' => ∃ r, K r ∧ r.fr.round = fr.round ∧ e = exOf r.ex ∧ PostX w0 φ0 st w n a.defers r.fr r.τ r.st a' w') N a1 w1 := by
    intro N
    induction N with
    | zero => intro x φ a1 w1 hlt; omega
    | succ N ih =>
      intro x φ a1 w1 hlt k1 k2 k3 k4
      rw [roundsIn_succ]
      refine Code.wpIn_mono ?_ (step x φ a1 w1 rg kk k1 k2.1 (hrd.mono k4.le) k3 (hr.mono k4.le))
      rintro e a' w' ⟨⟨ex, τ1, st1, fr1⟩, hk, hf, rfl, ψ, p1, p2, p3, p4⟩
      have hst : Step φ0 st.heap w ψ st1.heap w' := k4.trans p4
      have hnew : DNew w a.defers a'.defers := k2.2.trans k4.size p2.2
      cases ex with
      | normal =>
        obtain ⟨y, ρ, hy, rfl, hE⟩ := hk
        obtain ⟨q1, q2, q3⟩ := stE_ok hE hdom hst p1 p3
        exact ih y _ a' w' (by omega) q1 ⟨drel_low p2.1 hmk (stE_back hE), hnew⟩ q2 q3
      | exit j => exact ⟨_, hk, hf, rfl, ψ, p1, ⟨p2.1, hnew⟩, p3, hst⟩
      | ret => exact ⟨_, hk, hf, rfl, ψ, p1, ⟨p2.1, hnew⟩, p3, hst⟩
  obtain ⟨q1, q2, q3⟩ := stE_ok h0 hdom (Step.refl φ0 st.heap w) ht hw
  exact wpIn_loop_rounds _ (rounds (m x0 + 1) x0 _ a w (Nat.lt_succ_self _) q1 ⟨drel_low hd hmk (stE_back h0), DNew.refl _ _⟩ q2 q3)
/-- an outcome is seen otherwise -/
theorem tri_seen {c : Code} (base : Nat) (hb : st.next ≤ base) (h : Tri P w0 RO c n fr τ st (fun r => ∃ ρ, ∃ s : LS, (∀ x, .blk x ∈ r.fr.marks → x < base) ∧ stE base ρ r.τ r.st s.tmps s.objs s.next ∧ K ⟨r.ex, s.T, s.S, r.fr⟩)) : Tri P w0 RO c n fr τ st K := fun φ0 a w rg kk ht hd hrd hw hr => by
  have hdom : ∀ x : Nat, φ0 x ≠ none → x < base := fun x hx => Nat.lt_of_not_le fun hle => hx (hw.fresh x (by omega))
  refine Code.wpIn_mono ?_ (h φ0 a w rg kk ht hd hrd hw hr)
  rintro e a' w' ⟨⟨ex, τ1, st1, fr1⟩, ⟨ρ, s, hmk, hE, hK⟩, hf, rfl, ψ, p1, p2, p3, p4⟩
  obtain ⟨q1, q2, q3⟩ := stE_ok hE hdom p4 p1 p3
  exact ⟨_, hK, hf, rfl, _, q1, ⟨drel_low p2.1 hmk (stE_back hE), p2.2⟩, q2, q3⟩
/-! blocks of loops that came to their end, and are no longer spoken of -/
theorem tri_old {c : Code} (h : Tri P w0 RO c n ⟨fr.round, .old :: fr.marks⟩ τ st K) : Tri P w0 RO c n fr τ st K := fun φ a w rg kk ht hd hro hw hr =>
  h φ a w rg kk ht (DRel.old [] _ _ (fun g hg => by cases hg) .nil (fun g hg => by cases hg) hd) hro hw hr
theorem coll_mem {w : World} {φ : Phi} {H : PT AObj} {g : Nat} {xs : List Mark} {ds : List Deferred} (h : DRel w0 φ H w xs ds) : coll g ∈ ds → (∃ y, .blk y ∈ xs ∧ ∃ b n, φ (.blk y) = some (g, b, n)) ∨ Dead w0 φ H w g := by
  induction h with
  | nil => intro h; cases h
  | fn f xs ds _ ih =>
    intro h
    rcases List.mem_cons.1 h with e | h
    · cases e
    · exact (ih h).imp (fun ⟨y, h1, h2⟩ => ⟨y, List.mem_cons_of_mem _ h1, h2⟩) id
  | cons y g' b n xs ds h1 _ ih =>
    intro h
    rcases List.mem_cons.1 h with e | h
    · cases e; exact .inl ⟨y, List.mem_cons_self, b, n, h1⟩
    · exact (ih h).imp (fun ⟨y, h1, h2⟩ => ⟨y, List.mem_cons_of_mem _ h1, h2⟩) id
  | old gs xs ds hd hnd hne _ ih =>
    intro h
    rcases List.mem_append.1 h with h | h
    · obtain ⟨g', h1, h2⟩ := List.mem_map.1 h
      cases h2
      exact .inr (hd g h1)
    · exact (ih h).imp (fun ⟨y, h1, h2⟩ => ⟨y, List.mem_cons_of_mem _ h1, h2⟩) id
/-- the loops' blocks below still stand -/
def standM (H : PT AObj) (x : Nat) : List Mark → Prop
  | [] => True
  | m :: r => (match m with | .blk y => y ≠ x ∧ ∃ o, H.get y = some o | _ => True) ∧ standM H x r
theorem standM_mem {H : PT AObj} {x : Nat} : ∀ {l : List Mark}, standM H x l → ∀ y, .blk y ∈ l → y ≠ x ∧ ∃ o, H.get y = some o
  | m :: r, h, y, hy => by
    rcases List.mem_cons.1 hy with e | hy
    · subst e; exact h.1
    · exact standM_mem h.2 y hy
theorem old_up {w : World} {φ : Phi} {H : PT AObj} {next x : Nat} {m : List Mark} {ds : List Deferred} (hw : WRel w0 φ H next w) (hx : H.get x = some .defd) (hm : standM H x m) (hd : DRel w0 φ H w (.blk x :: .old :: m) ds) :
    WRel w0 φ (H.set x none) next w ∧ Step φ H w φ (H.set x none) w ∧ DRel w0 φ (H.set x none) w (.old :: m) ds := by
  obtain ⟨k1, k2⟩ := kill_ok hw x
  refine ⟨k1, k2, ?_⟩
  cases hd with
  | cons _ g b n _ ds hφ hs =>
  cases hs with
  | old gs _ ds hd hnd hne hs =>
  obtain ⟨g', b', n', u, e1, e2, e3, e4⟩ := hw.obj_at hx rfl
  obtain ⟨rfl, rfl, rfl⟩ : g = g' ∧ b = b' ∧ n = n' := by rw [hφ] at e1; simpa using e1
  cases e4
  refine DRel.old (g :: gs) m ds (fun k hk => ?_) (List.nodup_cons.2 ⟨fun hg => (hd g hg).free x _ _ _ hx hφ, hnd⟩) (fun k hk => ?_) (hs.step k2)
  · rcases List.mem_cons.1 hk with rfl | hk
    · refine ⟨e2, e3, fun y o b n hy h4 => ?_⟩
      rw [PT.get_set] at hy
      split at hy
      · cases hy
      · rename_i hne
        exact hne (hw.inj y x o _ k b _ n _ hy hx h4 hφ)
    · exact (hd k hk).step k2
  · rcases List.mem_cons.1 hk with rfl | hk
    · intro hin
      rcases coll_mem hs hin with ⟨y, h1, b, n, h2⟩ | h1
      · obtain ⟨h3, o, h4⟩ := standM_mem hm y h1
        exact h3 (hw.inj y x o _ k b _ n _ h4 hx h2 hφ)
      · exact h1.free x _ _ _ hx hφ
    · exact hne k hk
/-- the frame's new loops are no longer spoken of -/
inductive Drop (tgt : List Mark) : PT AObj → List Mark → PT AObj → Prop
  | refl (H : PT AObj) : Drop tgt H tgt H
  | step (x : Nat) (H H' : PT AObj) (r m : List Mark) (hm : tgt = .old :: m) (hr : Drop tgt H r H') (hx : H'.get x = some .defd) (hs : standM H' x m) : Drop tgt H (.blk x :: r) (H'.set x none)
theorem drop_ok {w : World} {φ : Phi} {H H' : PT AObj} {next : Nat} {tgt ms : List Mark} (h : Drop tgt H ms H') : ∀ {ds : List Deferred}, WRel w0 φ H next w → DRel w0 φ H w ms ds → WRel w0 φ H' next w ∧ Step φ H w φ H' w ∧ DRel w0 φ H' w tgt ds := by
  induction h with
  | refl H => exact fun hw hd => ⟨hw, Step.refl _ _ _, hd⟩
  | step x H H' r m hm hr hx hs ih =>
    intro ds hw hd
    cases hd with
    | cons _ g b n _ ds hφ hd =>
    obtain ⟨k1, k2, k3⟩ := ih hw hd
    subst hm
    obtain ⟨l1, l2, l3⟩ := old_up k1 hx hs (.cons x g b n _ ds (k2.le _ _ hφ) k3)
    exact ⟨l1, k2.trans l2, l3⟩
theorem tri_drop {c : Code} {tgt : List Mark} (h : Tri P w0 RO c n fr τ st (fun r => ∃ H', Drop tgt r.st.heap r.fr.marks H' ∧ K ⟨r.ex, r.τ, ⟨H', r.st.next, r.st.log⟩, ⟨r.fr.round, tgt⟩⟩)) : Tri P w0 RO c n fr τ st K := fun φ0 a w rg kk ht hd hrd hw hr => by
  refine Code.wpIn_mono ?_ (h φ0 a w rg kk ht hd hrd hw hr)
  rintro e a' w' ⟨⟨ex, τ1, st1, fr1⟩, ⟨H', hD, hK⟩, hf, rfl, ψ, p1, p2, p3, p4⟩
  obtain ⟨k1, k2, k3⟩ := drop_ok hD p3 p2.1
  exact ⟨_, hK, hf, rfl, ψ, p1, ⟨k3, p2.2⟩, k1, p4.trans k2⟩
/-- what is told of a function's body by its formula, loops told of by ann -/
abbrev Ann := Nat → Option (Nat → Fr → PT AVal → St → (Res → Prop) → Prop)
end
section
variable (P : Program) (RO : PT AObj) (hookP : FuncId → Option (List AVal → St → Option (OP × AVal × St))) (ann : Ann) (f : Nat)
end
section
variable {P : Program} {w0 : World} {RO : PT AObj} {hookP : FuncId → Option (List AVal → St → Option (OP × AVal × St))} {ann : Ann} {f : Nat}
end
/-! whatever names code: a function's body, a loop's -/
def bodyOf (P : Program) (g : FuncId) : Code := match P.funcs[g]? with | some fn => (match fn.body with | some b => b | none => .skip) | none => .skip
/-- the blocks that ann tells of -/
def told (ids : List Nat) : Code → List (Nat × Code)
  | .seq a b => told ids a ++ told ids b
  | .cond _ a b => told ids a ++ told ids b
  | .block id a => bif memN id ids then [(id, a)] else told ids a
  | _ => []
section
variable {P : Program} {w0 : World} {RO : PT AObj} {hookP : FuncId → Option (List AVal → St → Option (OP × AVal × St))} {ann : Ann} {f : Nat}
end
/-! a loop, told of by states at its rounds' beginnings (I, where ok) and behind it (J, where post) -/
section
variable {α β : Type} (base : Nat) (ok : α → Prop) (I : α → LS) (m : α → Nat) (ρI : List (Nat × Nat)) (post : β → Prop) (J : β → LS) (ρJ : List (Nat × Nat))
end
end Go.Proofs.Ytcofcojjofkgcaa.Abs
namespace Go.Proofs.Ytcofcojjofkgcaa.Abs
open Go Go.RowKit
set_option linter.unusedVariables false
section
variable {α β : Type} (base : Nat) (ok : α → Prop) (I : α → LS) (m : α → Nat) (ρI : List (Nat × Nat)) (post : β → Prop) (J : β → LS) (ρJ : List (Nat × Nat))
end
end Go.Proofs.Ytcofcojjofkgcaa.Abs
namespace Go.Proofs.Ytcofcojjofkgcaa.Abs
open Go Go.RowKit Go.Proofs.Ytcofcojjofkgcaa.M
set_option linter.unusedVariables false
theorem rrel_of {w0 : World} {φ : Phi} {entries : List (Nat × AObj)} (h : ∀ x o, (x, o) ∈ entries → (o.nul = true ∧ 900 ≤ x) ∨ ∃ g b n u, φ x = some (g, b, n) ∧ (x < 900 → g = x ∧ b = 0) ∧ g < w0.heap.size ∧ w0.heap[g]? = some u ∧ ORel φ o b n (thaw u)) : RRel w0 φ (hp entries) :=
  fun x o hx => h x o (foldr_get hx)
theorem rolow_of {entries : List (Nat × AObj)} {base : Nat} (h : (entries.all fun x => Nat.blt x.1 base) = true) : ROlow (hp entries) base := fun x o hx => by
  have := List.all_eq_true.1 h _ (foldr_get hx)
  simpa [Nat.blt_eq] using this
/-- bytes that come in: the slice, and the row -/
theorem lay_bytes {w : World} {S : Nat → Prop} {v : Value} {l : List UInt8} (h : Byts w S v l) : ∃ (t3 : Nat × Nat × Nat) (cap : Nat), l.length ≤ maxLen ∧ (∀ (φ : Phi) (x : Nat), φ x = some t3 → VRel φ (.sslice (x, 0) l.length cap true 1) v) ∧
    ∀ (φ : Phi) t, (AObj.sbytes l t).nul = true ∨ ∃ u, t3.1 < w.heap.size ∧ w.heap[t3.1]? = some u ∧ ORel φ (.sbytes l t) t3.2.1 t3.2.2 (thaw u) := by
  obtain ⟨A, n, c, rfl, hl, hnc, hm, h0, hat⟩ := h
  cases l with
  | nil =>
    obtain rfl : n = 0 := by simpa using hl.symm
    exact ⟨(0, 0, 0), 0, Nat.zero_le _, fun φ x hx => .semp _ _ _ _, fun φ t => .inl rfl⟩
  | cons b l =>
    cases A with
    | none => have := h0 rfl; simp at hl; omega
    | some ad =>
    obtain ⟨hS, hcell⟩ := hat ad rfl (by simp at hl; omega)
    obtain ⟨g, off, spot⟩ := ad
    have hspot : spot = none := by simpa [Addr.add] using World.cell?_spot (hcell 0 b rfl)
    subst hspot
    have hg : ∃ cs t fz, w.heap[g]? = some (.cells cs t fz) := by
      have := hcell 0 b rfl
      rw [add_lit] at this
      unfold World.cell? at this
      simp only at this
      split at this
      · exact ⟨_, _, _, ‹_›⟩
      all_goals first | (cases this; done) | (simp at this; done)
    obtain ⟨cs, t', fz, hg⟩ := hg
    have hat2 : ∀ j x, (b :: l)[j]? = some x → cs[off + j]? = some (.int .u8 (x.toNat : Int)) := fun j x hj => by
      have := hcell j x hj
      rw [add_lit] at this
      unfold World.cell? at this
      simp only [hg] at this
      simpa using this
    have hlen : off + (b :: l).length ≤ cs.size := by
      have := hat2 l.length ((b :: l)[l.length]'(by simp)) (List.getElem?_eq_getElem (by simp))
      have := (Array.getElem?_eq_some_iff.1 this).1
      simp; omega
    refine ⟨(g, off, cs.size), c, by rw [hl]; exact hm, fun φ x hx => ?_, fun φ t => .inr ⟨_, (Array.getElem?_eq_some_iff.1 hg).1, hg, ?_⟩⟩
    · subst hl
      exact VRel.sslice x 0 _ _ 1 g off cs.size c true ⟨g, off, none⟩ hx hnc (Nat.le_refl _) (fun _ => rfl) (by simp) (.inr rfl)
    refine sbytes_cells rfl hlen ?_ (.inl rfl)
    apply List.ext_getElem?
    intro i
    by_cases hi : i < (b :: l).length
    · rw [List.getElem?_take_of_lt hi, List.getElem?_drop, Array.getElem?_toList, hat2 i _ (List.getElem?_eq_getElem hi)]
      unfold vals
      rw [List.getElem?_map, List.getElem?_eq_getElem hi]
      rfl
    · rw [List.getElem?_eq_none (by simp; simp at hi; omega), List.getElem?_eq_none (by simpa [vals] using hi)]
def isTrue : AVal → Prop
  | .bool b => b = true
  | .sbool b => b = true
  | _ => False
theorem isTrue_rel {φ : Phi} {v : AVal} {u : Value} (h : isTrue v) (hv : VRel φ v u) : u = .bool true := by
  unfold isTrue at h
  split at h
  · subst h; cases hv; rfl
  · subst h; cases hv; rfl
  · exact h.elim
end Go.Proofs.Ytcofcojjofkgcaa.Abs
