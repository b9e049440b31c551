/- Code with calls in calls and loops over functions, whose loops are told of by what they change; way by way. By an AI agent. -/
import Derived.Test.YtcofcojjofkgcaaAbsU
namespace Go.Proofs.Ytcofcojjofkgcaa.Abs
open Go Go.RowKit
set_option linter.unusedVariables false
/-! a loop is told of by what changes in its rounds -/
structure LOut where
  Z : Type
  post : Z → Prop
  J : Z → List (Nat × AVal) × List (Nat × AObj)
structure USpec where
  X : Type
  ok : X → Prop
  m : X → Nat
  I : X → List (Nat × AVal) × List (Nat × AObj)
  dc : Dc
  outs : List (Ex × LOut)
  /-- loops over functions are gone through in its rounds -/
  up : Bool := false
/-- the slots that code gives -/
def dstM : List Oper → Nat → Nat
  | [], m => m
  | o :: os, m => dstM os (match o.dst with | some d => Nat.lor m (one d) | none => m)
def setM : Code → Nat → Nat
  | .seq a b, m => setM b (setM a m)
  | .cond _ a b, m => setM b (setM a m)
  | .block _ a, m => setM a m
  | .loop a, m => setM a m
  | .region _ ops _, m => dstM ops.toList m
  | _, m => m
def numsM {α : Type} : List (Nat × α) → Nat → Nat
  | [], m => m
  | (t, _) :: r, m => numsM r (Nat.lor m (one t))
def keepL {α : Type} (m : Nat) : List (Nat × α) → List (Nat × α)
  | [] => []
  | (t, v) :: r => bif bit m t then keepL m r else (t, v) :: keepL m r
def nextU : Nat → List (Nat × AObj) → Nat
  | b, [] => b
  | b, (x, _) :: r => nextU (bif Nat.ble b x then Nat.succ x else b) r
/-- '.defd' says that a block is no longer spoken of -/
def live : List (Nat × AObj) → List (Nat × AObj)
  | [] => []
  | e :: r => match e.2 with
    | .defd => live r
    | _ => e :: live r
/-- a state: what is told of it, and all that the loop leaves alone -/
noncomputable def lsB (b m : Nat) (τ : PT AVal) (st : St) (I : List (Nat × AVal) × List (Nat × AObj)) : LS :=
  ⟨List.append I.1 (keepL (numsM I.1 m) (ents τ 1 0)), List.append (live I.2) (keepL (numsM I.2 0) (ents st.heap 1 0)), nextU b I.2⟩
noncomputable def lsU (m : Nat) (τ : PT AVal) (st : St) (I : List (Nat × AVal) × List (Nat × AObj)) : LS := lsB st.next m τ st I
def rhoP (b x y : Nat) (ρ : List (Nat × Nat)) : List (Nat × Nat) := bif Nat.ble b x then (x, y) :: ρ else ρ
mutual
def rhoW (b : Nat) : AVal → AVal → List (Nat × Nat) → List (Nat × Nat)
  | .ptr (some (x, _)), v, ρ => (match v with | .ptr (some (y, _)) => rhoP b x y ρ | _ => ρ)
  | .slice (some (x, _)) _ _ _ _, v, ρ => (match v with | .slice (some (y, _)) _ _ _ _ => rhoP b x y ρ | _ => ρ)
  | .sslice (x, _) _ _ _ _, v, ρ => (match v with | .slice (some (y, _)) _ _ _ _ => rhoP b x y ρ | .sslice (y, _) _ _ _ _ => rhoP b x y ρ | _ => ρ)
  | .tslice x _ _ _ _ _, v, ρ => (match v with | .tslice y _ _ _ _ _ => rhoP b x y ρ | _ => ρ)
  | .tptr x _ _ _, v, ρ => (match v with | .tptr y _ _ _ => rhoP b x y ρ | _ => ρ)
  | .map (some x), v, ρ => (match v with | .map (some y) => rhoP b x y ρ | _ => ρ)
  | .agg l, v, ρ => (match v with | .agg m => rhoWs b l m ρ | _ => ρ)
  | .tuple l, v, ρ => (match v with | .tuple m => rhoWs b l m ρ | _ => ρ)
  | .func _ l l', v, ρ => (match v with | .func _ m m' => rhoWs b l' m' (rhoWs b l m ρ) | _ => ρ)
  | _, _, ρ => ρ
def rhoWs (b : Nat) : List AVal → List AVal → List (Nat × Nat) → List (Nat × Nat)
  | [], _, ρ => ρ
  | v :: l, m, ρ => (match m with | u :: m => rhoWs b l m (rhoW b v u ρ) | _ => ρ)
end
noncomputable def rhoT (b : Nat) (τ : PT AVal) : List (Nat × AVal) → List (Nat × Nat) → List (Nat × Nat)
  | [], ρ => ρ
  | (t, v) :: r, ρ => rhoT b τ r (match τ.get t with | some u => rhoW b v u ρ | none => ρ)
noncomputable def rhoH (b : Nat) (H : PT AObj) : List (Nat × AObj) → List (Nat × Nat) → List (Nat × Nat)
  | [], ρ => ρ
  | (x, o) :: r, ρ => rhoH b H r (match o, renX b ρ x with
    | .cells l _, some y => (match H.get y with | some (.cells m _) => rhoWs b l m ρ | _ => ρ)
    | _, _ => ρ)
/-- a state is the one told of -/
noncomputable def seenU (b m : Nat) (τ0 : PT AVal) (st0 : St) (I : List (Nat × AVal) × List (Nat × AObj)) (τ : PT AVal) (st : St) : Prop :=
  stE b (rhoH b st.heap I.2 (rhoT b τ I.1 [])) τ st (lsU m τ0 st0 I).tmps (lsU m τ0 st0 I).objs (lsU m τ0 st0 I).next
noncomputable def seenB (b m : Nat) (τ0 : PT AVal) (st0 : St) (I : List (Nat × AVal) × List (Nat × AObj)) (τ : PT AVal) (st : St) : Prop :=
  stE b (rhoH b st.heap I.2 (rhoT b τ I.1 [])) τ st (lsB b m τ0 st0 I).tmps (lsB b m τ0 st0 I).objs (lsB b m τ0 st0 I).next
/-- where ways meet again, behind a block: what is told of it; the numbers of so many new blocks stay -/
structure JSpec where
  Z : Type
  post : Z → Prop
  J : Z → List (Nat × AVal) × List (Nat × AObj)
  up : Nat
  fr : Fr
def lowK (b : Nat) : Mark → Bool
  | .blk x => Nat.blt x b
  | .fn _ => true
  | .old => true
def lowM (b : Nat) : List Mark → Bool
  | [] => true
  | x :: r => lowK b x && lowM b r
def eqK : Mark → Mark → Bool
  | .blk x, .blk y => Nat.beq x y
  | .fn f, .fn g => Nat.beq f g
  | .old, .old => true
  | _, _ => false
def eqM : List Mark → List Mark → Bool
  | [], [] => true
  | x :: l, y :: m => eqK x y && eqM l m
  | _, _ => false
def eqO : Option Nat → Option Nat → Bool
  | none, none => true
  | some x, some y => Nat.beq x y
  | _, _ => false
def frEq (a b : Fr) : Bool := eqO a.round b.round && eqM a.marks b.marks
def eqEx : Ex → Ex → Bool
  | .normal, .normal => true
  | .ret, .ret => true
  | .exit i, .exit j => Nat.beq i j
  | _, _ => false
def allOuts : List (Ex × LOut) → (Ex → List (Nat × AVal) × List (Nat × AObj) → Prop) → Prop
  | [], _ => True
  | (e, o) :: r, k => (∀ z, o.post z → k e (o.J z)) ∧ allOuts r k
def findOut : List (Ex × LOut) → Ex → Option LOut
  | [], _ => none
  | (e', o) :: r, e => bif eqEx e' e then some o else findOut r e
noncomputable def roundU (S : USpec) (b m : Nat) (τ0 : PT AVal) (st0 : St) (fr0 : Fr) (x : S.X) (r : Res) : Prop :=
  bif frEq r.fr fr0 then (match r.ex with
    | .normal => ∃ y, (S.m y < S.m x ∧ S.ok y) ∧ seenU b m τ0 st0 (S.I y) r.τ r.st
    | .exit j => (match findOut S.outs (.exit j) with | some o => ∃ z, o.post z ∧ seenU b m τ0 st0 (o.J z) r.τ r.st | none => False)
    | .ret => (match findOut S.outs .ret with | some o => ∃ z, o.post z ∧ seenU b m τ0 st0 (o.J z) r.τ r.st | none => False)) else False
def afterB (id : Nat) : Ex → Ex
  | .exit j => bif Nat.beq j id then .normal else .exit j
  | .normal => .normal
  | .ret => .ret
noncomputable def loopU (S : USpec) (rec : RecT) (id : Nat) (c : Code) (n : Nat) (fr : Fr) (τ : PT AVal) (st : St) (dc : Dc) (K : Res → Dc → Prop) : Prop :=
  bif lowM st.next fr.marks && Nat.ble 1000 st.next then
    (∃ x, S.ok x ∧ seenU st.next (setM c 0) τ st (S.I x) τ st) ∧
    (∀ x, S.ok x → rec c n fr (lsU (setM c 0) τ st (S.I x)).T (lsU (setM c 0) τ st (S.I x)).S S.dc fun r _ => roundU S st.next (setM c 0) τ st fr x r) ∧
    allOuts S.outs fun e J => K ⟨afterB id e, (lsU (setM c 0) τ st J).T, (lsU (setM c 0) τ st J).S, fr⟩ dc
  else False
noncomputable def standB (H : PT AObj) (x : Nat) : List Mark → Bool
  | [] => true
  | m :: r => (match m with | .blk y => !Nat.beq y x && (match H.get y with | some _ => true | none => false) | _ => true) && standB H x r
def tlOld : List Mark → Option (List Mark)
  | [] => none
  | x :: r => match x with
    | .old => some r
    | _ => none
noncomputable def dropOld (H : PT AObj) (tgt : List Mark) : List Mark → Option (PT AObj)
  | [] => none
  | x :: r => bif eqM (x :: r) tgt then some H else (match x with
    | .blk y => (match dropOld H tgt r, tlOld tgt with
      | some H', some m => (match H'.get y with
        | some .defd => bif standB H' y m then some (H'.set y none) else none
        | _ => none)
      | _, _ => none)
    | _ => none)
noncomputable def roundV (S : USpec) (b m : Nat) (τ0 : PT AVal) (st0 : St) (fr1 : Fr) (x : S.X) (r : Res) : Prop :=
  match dropOld r.st.heap fr1.marks r.fr.marks with
  | some H => roundU S b m τ0 st0 fr1 x ⟨r.ex, r.τ, ⟨H, r.st.next, r.st.log⟩, ⟨r.fr.round, fr1.marks⟩⟩
  | none => False
def upFr (fr : Fr) : Fr := ⟨fr.round, .old :: fr.marks⟩
/-- a loop in whose rounds loops over functions are gone through: their blocks are no longer spoken of -/
noncomputable def loopV (S : USpec) (rec : RecT) (id : Nat) (c : Code) (n : Nat) (fr : Fr) (τ : PT AVal) (st : St) (dc : Dc) (K : Res → Dc → Prop) : Prop :=
  bif lowM st.next fr.marks && Nat.ble 1000 st.next then
    (∃ x, S.ok x ∧ seenU st.next (setM c 0) τ st (S.I x) τ st) ∧
    (∀ x, S.ok x → rec c n (upFr fr) (lsU (setM c 0) τ st (S.I x)).T (lsU (setM c 0) τ st (S.I x)).S S.dc fun r _ => roundV S st.next (setM c 0) τ st (upFr fr) x r) ∧
    allOuts S.outs fun e J => K ⟨afterB id e, (lsU (setM c 0) τ st J).T, (lsU (setM c 0) τ st J).S, upFr fr⟩ dc
  else False
noncomputable def blockJ (S : JSpec) (rec : RecT) (id : Nat) (c : Code) (n : Nat) (fr : Fr) (τ : PT AVal) (st : St) (dc : Dc) (K : Res → Dc → Prop) : Prop :=
  bif lowM (Nat.add st.next S.up) S.fr.marks && Nat.ble 1000 st.next then
    (rec c n fr τ st [] fun r dc' => match r.ex with
      | .normal => bif frEq r.fr S.fr then ∃ z, S.post z ∧ seenB (Nat.add st.next S.up) (setM c 0) τ st (S.J z) r.τ r.st else False
      | .exit j => bif Nat.beq j id then (bif frEq r.fr S.fr then ∃ z, S.post z ∧ seenB (Nat.add st.next S.up) (setM c 0) τ st (S.J z) r.τ r.st else False) else K ⟨.exit j, r.τ, r.st, r.fr⟩ dc'
      | .ret => K ⟨.ret, r.τ, r.st, r.fr⟩ dc') ∧
    ∀ z, S.post z → K ⟨.normal, (lsB (Nat.add st.next S.up) (setM c 0) τ st (S.J z)).T, (lsB (Nat.add st.next S.up) (setM c 0) τ st (S.J z)).S, S.fr⟩ dc
  else False
section
variable {P : Program} {w0 : World} {RO : PT AObj}
/-- an outcome is seen otherwise, or stays -/
theorem tri_mix {c : Code} {n : Nat} {fr : Fr} {τ : PT AVal} {st : St} {K : Res → Prop} (base : Nat) (hb : st.next ≤ base) (h : Tri P w0 RO c n fr τ st (fun r => K r ∨ ∃ ρ, ∃ s : LS, (∀ x, .blk x ∈ r.fr.marks → x < base) ∧ stE base ρ r.τ r.st s.tmps s.objs s.next ∧ K ⟨r.ex, s.T, s.S, r.fr⟩)) : Tri P w0 RO c n fr τ st K := fun φ0 a w rg kk ht hd hrd hw hr => by
  have hdom : ∀ x : Nat, φ0 x ≠ none → x < base := fun x hx => Nat.lt_of_not_le fun hle => hx (hw.fresh x (by omega))
  refine Code.wpIn_mono ?_ (h φ0 a w rg kk ht hd hrd hw hr)
  rintro e a' w' ⟨⟨ex, τ1, st1, fr1⟩, hk | ⟨ρ, s, hmk, hE, hK⟩, hf, rfl, ψ, p1, p2, p3, p4⟩
  · exact ⟨_, hk, hf, rfl, ψ, p1, p2, p3, p4⟩
  · obtain ⟨q1, q2, q3⟩ := stE_ok hE hdom p4 p1 p3
    exact ⟨_, hK, hf, rfl, _, q1, ⟨drel_low p2.1 hmk (stE_back hE), p2.2⟩, q2, q3⟩
theorem eqM_eq : ∀ {l m : List Mark}, eqM l m = true → l = m
  | [], [], _ => rfl
  | [], _ :: _, h => by cases h
  | _ :: _, [], h => by cases h
  | x :: l, y :: m, h => by
    have h : (eqK x y && eqM l m) = true := h
    rw [Bool.and_eq_true] at h
    obtain ⟨h1, h2⟩ := h
    rw [eqM_eq h2]
    cases x <;> cases y <;> first | (cases h1; done) | rfl | rw [Nat.eq_of_beq_eq_true h1]
theorem frEq_eq {a b : Fr} (h : frEq a b = true) : a = b := by
  obtain ⟨r, l⟩ := a
  obtain ⟨r', l'⟩ := b
  unfold frEq at h
  rw [Bool.and_eq_true] at h
  obtain ⟨h1, h2⟩ := h
  have h2 := eqM_eq h2
  simp only at h1 h2
  subst h2
  have : r = r' := by
    cases r <;> cases r' <;> first | rfl | (cases h1; done) | rw [Nat.eq_of_beq_eq_true h1]
  rw [this]
theorem lowM_mem {b : Nat} : ∀ {l : List Mark}, lowM b l = true → ∀ x, .blk x ∈ l → x < b
  | y :: l, h, x, hm => by
    have h : (lowK b y && lowM b l) = true := h
    rw [Bool.and_eq_true] at h
    rcases List.mem_cons.1 hm with he | hm
    · subst he
      have h1 : Nat.blt x b = true := h.1
      simpa [Nat.blt_eq] using h1
    · exact lowM_mem h.2 x hm
theorem eqEx_eq {a b : Ex} (h : eqEx a b = true) : a = b := by
  cases a <;> cases b <;> first | rfl | (cases h; done) | rw [Nat.eq_of_beq_eq_true h]
theorem findOut_all {k : Ex → List (Nat × AVal) × List (Nat × AObj) → Prop} : ∀ {l : List (Ex × LOut)} {e : Ex} {o : LOut}, findOut l e = some o → allOuts l k → ∀ z, o.post z → k e (o.J z)
  | (e', p) :: r, e, o, h, ha, z, hz => by
    simp only [findOut] at h
    cases hb : eqEx e' e with
    | true =>
      rw [hb] at h
      cases h
      rw [← eqEx_eq hb]
      exact ha.1 z hz
    | false => rw [hb] at h; exact findOut_all h ha.2 z hz
def RecS (P : Program) (w0 : World) (RO : PT AObj) (rec : RecT) : Prop := ∀ c n fr τ st dc K, rec c n fr τ st dc K → Tri P w0 RO c n fr τ st fun r => ∃ dc', K r dc'
theorem loopU_core {S : USpec} (hro : ROlow RO 1000) {id : Nat} {c : Code} {n : Nat} {fr : Fr} {τ : PT AVal} {st : St} {dc : Dc} {K : Res → Dc → Prop} (hlow : lowM st.next fr.marks = true) (hnext : 1000 ≤ st.next) (hx : ∃ x, S.ok x ∧ seenU st.next (setM c 0) τ st (S.I x) τ st)
    (hstep : ∀ x, S.ok x → Tri P w0 RO c n fr (lsU (setM c 0) τ st (S.I x)).T (lsU (setM c 0) τ st (S.I x)).S fun r => roundU S st.next (setM c 0) τ st fr x r)
    (houts : allOuts S.outs fun e J => K ⟨afterB id e, (lsU (setM c 0) τ st J).T, (lsU (setM c 0) τ st J).S, fr⟩ dc) :
    Tri P w0 RO (.block id (.loop c)) n fr τ st fun r => ∃ dc', K r dc' := by
  obtain ⟨x0, hx0, h0⟩ := hx
  have hro' : ROlow RO st.next := fun x o hx => Nat.lt_of_lt_of_le (hro x o hx) hnext
  refine tri_block (tri_seen st.next (Nat.le_refl _) (tri_loop (α := { x : S.X // S.ok x }) st.next (fun x => lsU (setM c 0) τ st (S.I x.1)) (fun x => S.m x.1) ⟨x0, hx0⟩ _ hro' (Nat.le_refl _) h0 (fun x => ?_)))
  refine (hstep x.1 x.2).mono fun r hr0 => ?_
  unfold roundU at hr0
  obtain ⟨hfr0, hr⟩ := cond_some hr0
  clear hr0
  have hfr := frEq_eq hfr0
  clear hfr0
  obtain ⟨ex, τ1, st1, fr1⟩ := r
  simp only at hfr hr
  subst hfr
  have fin : ∀ (e : Ex) (o : LOut), findOut S.outs e = some o → (∃ z, o.post z ∧ seenU st.next (setM c 0) τ st (o.J z) τ1 st1) → blockW id (fun r => ∃ dc', K r dc') ⟨e, τ1, st1, fr1⟩ = blockW id (fun r => ∃ dc', K r dc') ⟨e, τ1, st1, fr1⟩ →
      (∀ J : LS, K ⟨afterB id e, J.T, J.S, fr1⟩ dc → blockW id (fun r => ∃ dc', K r dc') ⟨e, J.T, J.S, fr1⟩) → ∃ ρ, ∃ s : LS, (∀ x, .blk x ∈ fr1.marks → x < st.next) ∧ stE st.next ρ τ1 st1 s.tmps s.objs s.next ∧ blockW id (fun r => ∃ dc', K r dc') ⟨e, s.T, s.S, fr1⟩ := fun e o ho ⟨z, hz, hE⟩ _ hK =>
    ⟨_, _, lowM_mem hlow, hE, hK _ (findOut_all ho houts z hz)⟩
  cases ex with
  | normal =>
    obtain ⟨y, ⟨hy1, hy2⟩, hE⟩ := hr
    exact ⟨⟨y, hy2⟩, _, hy1, rfl, hE⟩
  | exit j =>
    simp only at hr ⊢
    split at hr
    · rename_i o ho
      refine fin _ o ho hr rfl fun J hK => ?_
      unfold blockW
      unfold afterB at hK
      simp only at hK ⊢
      cases hj : Nat.beq j id with
      | true => rw [hj] at hK; exact ⟨dc, hK⟩
      | false => rw [hj] at hK; exact ⟨dc, hK⟩
    · exact hr.elim
  | ret =>
    simp only at hr ⊢
    split at hr
    · rename_i o ho
      exact fin _ o ho hr rfl fun J hK => ⟨dc, hK⟩
    · exact hr.elim
/-- A LOOP BY WHAT IT CHANGES. -/
theorem loopU_ok {S : USpec} {rec : RecT} (hrec : RecS P w0 RO rec) (hro : ROlow RO 1000) {id : Nat} {c : Code} {n : Nat} {fr : Fr} {τ : PT AVal} {st : St} {dc : Dc} {K : Res → Dc → Prop} (h : loopU S rec id c n fr τ st dc K) :
    Tri P w0 RO (.block id (.loop c)) n fr τ st fun r => ∃ dc', K r dc' := by
  obtain ⟨hb, hx, hround, houts⟩ := cond_some h
  rw [Bool.and_eq_true] at hb
  obtain ⟨hlow, hnext⟩ := hb
  exact loopU_core hro hlow (Nat.le_of_ble_eq_true hnext) hx (fun x hx => (hrec _ _ _ _ _ _ _ (hround x hx)).mono fun r ⟨_, hr⟩ => hr) houts
theorem standB_ok {H : PT AObj} {x : Nat} : ∀ {l : List Mark}, standB H x l = true → standM H x l
  | [], _ => trivial
  | m :: r, h => by
    simp only [standB, Bool.and_eq_true] at h
    refine ⟨?_, standB_ok h.2⟩
    cases m with
    | blk y =>
      have h1 := h.1
      simp only [Bool.and_eq_true] at h1
      refine ⟨fun e => ?_, ?_⟩
      · subst e; have := h1.1; rw [Nat.beq_refl] at this; cases this
      · have h2 := h1.2
        split at h2
        · rename_i o ho; exact ⟨o, ho⟩
        · cases h2
    | fn f => trivial
    | old => trivial
theorem dropOld_ok {H : PT AObj} {tgt : List Mark} : ∀ {ms : List Mark} {H' : PT AObj}, dropOld H tgt ms = some H' → Drop tgt H ms H'
  | [], H', h => by cases h
  | x :: r, H', h => by
    simp only [dropOld] at h
    cases hb : eqM (x :: r) tgt with
    | true => rw [hb] at h; cases h; rw [← eqM_eq hb]; exact .refl _
    | false =>
      rw [hb] at h
      simp only [cond_false] at h
      split at h
      · rename_i y
        split at h
        · rename_i H1 m h1 h2
          split at h
          · rename_i h3
            cases hs : standB H1 y m with
            | false => rw [hs] at h; cases h
            | true =>
              rw [hs] at h
              cases h
              have hm : tgt = .old :: m := by
                unfold tlOld at h2
                split at h2
                · cases h2
                · split at h2
                  · cases h2; rfl
                  · cases h2
              exact .step y H H1 r m hm (dropOld_ok h1) h3 (standB_ok hs)
          · cases h
        · cases h
      · cases h
theorem loopV_ok {S : USpec} {rec : RecT} (hrec : RecS P w0 RO rec) (hro : ROlow RO 1000) {id : Nat} {c : Code} {n : Nat} {fr : Fr} {τ : PT AVal} {st : St} {dc : Dc} {K : Res → Dc → Prop} (h : loopV S rec id c n fr τ st dc K) :
    Tri P w0 RO (.block id (.loop c)) n fr τ st fun r => ∃ dc', K r dc' := by
  obtain ⟨hb, hx, hround, houts⟩ := cond_some h
  rw [Bool.and_eq_true] at hb
  obtain ⟨hlow, hnext⟩ := hb
  refine tri_old (loopU_core (fr := upFr fr) hro hlow (Nat.le_of_ble_eq_true hnext) hx (fun x hx => tri_drop (tgt := (upFr fr).marks) ((hrec _ _ _ _ _ _ _ (hround x hx)).mono fun r ⟨_, hr⟩ => ?_)) houts)
  unfold roundV at hr
  split at hr
  · rename_i H hH
    exact ⟨H, dropOld_ok hH, hr⟩
  · exact hr.elim
/-- WHERE WAYS MEET AGAIN, behind a block. -/
theorem blockJ_ok {S : JSpec} {rec : RecT} (hrec : RecS P w0 RO rec) {id : Nat} {c : Code} {n : Nat} {fr : Fr} {τ : PT AVal} {st : St} {dc : Dc} {K : Res → Dc → Prop} (h : blockJ S rec id c n fr τ st dc K) :
    Tri P w0 RO (.block id c) n fr τ st fun r => ∃ dc', K r dc' := by
  unfold blockJ at h
  obtain ⟨hb, h1, h2⟩ := cond_some h
  rw [Bool.and_eq_true] at hb
  obtain ⟨hlow, _⟩ := hb
  refine tri_block (tri_mix (Nat.add st.next S.up) (Nat.le_add_right _ _) ((hrec _ _ _ _ _ _ _ h1).mono fun r hr => ?_))
  obtain ⟨dc1, hr⟩ := hr
  obtain ⟨ex, τ1, st1, fr1⟩ := r
  have fin : ∀ e : Ex, (bif frEq fr1 S.fr then ∃ z, S.post z ∧ seenB (Nat.add st.next S.up) (setM c 0) τ st (S.J z) τ1 st1 else False) → (∀ J : LS, K ⟨.normal, J.T, J.S, fr1⟩ dc → blockW id (fun r => ∃ dc', K r dc') ⟨e, J.T, J.S, fr1⟩) → ∃ ρ, ∃ s : LS, (∀ x, .blk x ∈ fr1.marks → x < Nat.add st.next S.up) ∧ stE (Nat.add st.next S.up) ρ τ1 st1 s.tmps s.objs s.next ∧ blockW id (fun r => ∃ dc', K r dc') ⟨e, s.T, s.S, fr1⟩ := fun e he hK => by
    obtain ⟨hf, z, hz, hE⟩ := cond_some he
    have hf := frEq_eq hf
    subst hf
    exact ⟨_, _, lowM_mem hlow, hE, hK _ (h2 z hz)⟩
  cases ex with
  | normal => exact .inr (fin .normal hr fun J hK => ⟨dc, hK⟩)
  | ret => exact .inl ⟨dc1, hr⟩
  | exit j =>
    simp only at hr
    cases hj : Nat.beq j id with
    | true =>
      rw [hj] at hr
      refine .inr (fin (.exit j) hr fun J hK => ?_)
      unfold blockW
      simp only [hj]
      exact ⟨dc, hK⟩
    | false =>
      rw [hj] at hr
      refine .inl ?_
      unfold blockW
      simp only [hj]
      exact ⟨dc1, hr⟩
end
/-! the loops over functions of a piece of code: what each round begins with, and its body -/
def rgsOf : Code → List (Code × Code)
  | .seq a b => rgsOf a ++ rgsOf b
  | .cond _ a b => rgsOf a ++ rgsOf b
  | .block _ a => rgsOf a
  | .loop a => rgsOf a
  | .rangeFunc _ _ a b => (a, b) :: rgsOf b
  | _ => []
def rgA (P : Program) (F : FuncId) (k : Nat) : Code := match nth (rgsOf (bodyOf P F)) k with | some p => p.1 | none => .skip
def rgB (P : Program) (F : FuncId) (k : Nat) : Code := match nth (rgsOf (bodyOf P F)) k with | some p => p.2 | none => .skip
/-! what a state tells -/
noncomputable def ptrN (τ : PT AVal) (t : Nat) : Nat := match τ.get t with | some (.ptr (some (x, _))) => x | some (.yield x) => x | _ => 0
noncomputable def recT (st : St) (x : Nat) : PT AVal := match st.heap.get x with | some (.loop _ _ τ _ _ _ _) => τ | _ => .leaf
noncomputable def cellAt (st : St) (x i : Nat) : AVal := match st.heap.get x with | some (.cells l _) => (match nth l i with | some v => v | none => .undef) | _ => .undef
abbrev Env := List (Nat × FuncId)
abbrev RecN := FuncId → Env → RecT
/-- a call is told of by what comes of it -/
structure CSpec where
  Z : Type
  post : Z → Prop
  res : Z → AVal
  J : Z → List (Nat × AObj)
/-- a call that is told of by a contract: what must be so, and for whatever comes of it the result and the state behind -/
structure RSpec where
  pre : Prop
  Z : Type
  post : Z → Prop
  res : Z → AVal
  out : Z → St
structure AnnN where
  loop : FuncId → Nat → Option (PT AVal → St → USpec)
  cut : FuncId → Option (List AVal → St → CSpec)
  join : FuncId → Nat → Option (PT AVal → St → Fr → JSpec) := fun _ _ => none
  /-- a call whose outcome is told of, whatever the order of its region: its result, its new objects -/
  dcut : FuncId → Option (List AVal → St → AVal × List (Nat × AObj)) := fun _ => none
  /-- likewise, without new objects, told of by bytes that get a name -/
  ncut : FuncId → Option (List AVal → St → Option (List UInt8 × (List UInt8 → AVal))) := fun _ => none
  /-- what a hook hands out is told of by bytes, which get a name -/
  dig : FuncId → Option (List AVal → St → Option (List UInt8 × (List UInt8 → AVal))) := fun _ => none
  rel : FuncId → Option (List AVal → St → RSpec) := fun _ => none
  /-- what a branch is taken on is known in it -/
  lit : Bool := false
/-- the state behind the call: what is told of it, and all that stood there -/
noncomputable def lsC (st : St) (J : List (Nat × AObj)) : LS := ⟨[], List.append (live J) (keepL (numsM J 0) (ents st.heap 1 0)), nextU st.next J⟩
noncomputable def cutK (S : CSpec) (st : St) (v : AVal) (s : St) : Prop :=
  ∃ z, S.post z ∧ valE st.next (rhoH st.next s.heap (S.J z) (rhoW st.next (S.res z) v [])) (S.res z) v ∧
    stE st.next (rhoH st.next s.heap (S.J z) (rhoW st.next (S.res z) v [])) .leaf s [] (lsC st (S.J z)).objs (lsC st (S.J z)).next
def lookE : Env → Nat → FuncId
  | [], _ => 0
  | (x, f) :: r, y => bif Nat.beq x y then f else lookE r y
section
variable (P : Program) (RO : PT AObj) (hookP : FuncId → Option (List AVal → St → Option (OP × AVal × St))) (annN : AnnN)
noncomputable def callN (rec : RecN) (env : Env) (g : FuncId) (args : List AVal) (s : St) (dc : Dc) (K : AVal → St → Dc → Prop) : Prop :=
  match hookP g with
  | some h => (match annN.dig g with
    | some d => (match d args s with
      | some (l, f) => obl3 (h args s) fun v s' => v = f l ∧ ∀ l', l' = l → nameN s.next s' fun s' => K (f l') s' dc
      | none => False)
    | none => obl3 (h args s) fun v s' => nameZ v fun v => nameN s.next s' fun s' => K v s' dc)
  | none => match annN.rel g with
   | some S => (S args s).pre ∧ ∀ z, (S args s).post z → K ((S args s).res z) ((S args s).out z) dc
   | none => match P.funcs[g]? with
    | some fn => (match fn.body with
      | some body => (match annN.cut g with
        | some S => rec g env body (bif Nat.ble (lenL args 0) fn.ntmps then fn.ntmps else lenL args 0) ⟨none, []⟩ (argsT args 0 .leaf) s [] (fun r dc => endW P RO fn r fun v s' => cutK (S args s) s v s') ∧
          ∀ z, (S args s).post z → K ((S args s).res z) (lsC s ((S args s).J z)).S dc
        | none => rec g env body (bif Nat.ble (lenL args 0) fn.ntmps then fn.ntmps else lenL args 0) ⟨none, []⟩ (argsT args 0 .leaf) s dc fun r dc => endW P RO fn r fun v s => K v s dc)
      | none => False)
    | none => False
noncomputable def whoN (rec : RecN) (env : Env) : Who → List AVal → St → Dc → (AVal → St → Dc → Prop) → Prop
  | .fn g => callN P RO hookP annN rec env g
  | .yield x => yieldD (rec (lookE env x) env) x
noncomputable def rangeN (rec : RecN) (F : FuncId) (env : Env) (τ : PT AVal) (f : FuncId) (first captured : List AVal) (dc : Dc) (K : Res → Dc → Prop) : Option (Nat × Fr × St) → Prop
  | some (x, fr, st) => callN P RO hookP annN rec ((x, F) :: env) f (first ++ .yield x :: captured) st dc fun _ st dc => (match st.heap.get x with
    | some (.loop s j τ0 n ps assign body) => (match s with
      | .busy => False
      | .ready => K ⟨exJ j, τ, markL x .exhausted j τ0 n ps assign body st, fr⟩ dc
      | .done => K ⟨exJ j, τ, markL x .exhausted j τ0 n ps assign body st, fr⟩ dc
      | .exhausted => False)
    | _ => False)
  | none => False
/-- the blocks that stood there before, and are changed -/
def lowsB (b : Nat) : List (Nat × AObj) → List Nat
  | [] => []
  | (x, _) :: r => bif Nat.ble b x then lowsB b r else x :: lowsB b r
def hasB : List (Nat × AObj) → Nat → Bool
  | [], _ => false
  | (y, _) :: r, x => bif Nat.beq y x then true else hasB r x
def keepB (J : List (Nat × AObj)) : List (Nat × AObj) → List (Nat × AObj)
  | [] => []
  | (x, o) :: r => bif hasB J x then keepB J r else (x, o) :: keepB J r
noncomputable def heapD (st : St) (J : List (Nat × AObj)) : PT AObj := hp (List.append (live J) (keepB J (ents st.heap 1 0)))
noncomputable def stD (st : St) (J : List (Nat × AObj)) : St := ⟨heapD st J, nextU st.next J, List.append (lowsB st.next J) st.log⟩
noncomputable def cutKD (R : AVal × List (Nat × AObj)) (st : St) (v : AVal) (s : St) : Prop :=
  valE st.next (rhoH st.next s.heap R.2 (rhoW st.next R.1 v [])) R.1 v ∧ stE st.next (rhoH st.next s.heap R.2 (rhoW st.next R.1 v [])) .leaf s [] (List.append (live R.2) (keepB R.2 (ents st.heap 1 0))) (nextU st.next R.2)
noncomputable def whoX (rec : RecN) (env : Env) (who : Who) (args : List AVal) (s : St) (dc : Dc) (K : AVal → St → Dc → Prop) : Prop :=
  match who with
  | .fn g => (match hookP g, annN.dcut g with
    | none, some S => (match P.funcs[g]? with
      | some fn => (match fn.body with
        | some body => rec g env body (bif Nat.ble (lenL args 0) fn.ntmps then fn.ntmps else lenL args 0) ⟨none, []⟩ (argsT args 0 .leaf) s [] (fun r dc => endW P RO fn r fun v s' => cutKD (S args s) s v s') ∧
            K (S args s).1 (stD s (S args s).2) dc
        | none => False)
      | none => False)
    | none, none => (match annN.ncut g with
      | some S => (match S args s, P.funcs[g]? with
        | some (l, f), some fn => (match fn.body with
          | some body => ∀ l', l' = l → rec g env body (bif Nat.ble (lenL args 0) fn.ntmps then fn.ntmps else lenL args 0) ⟨none, []⟩ (argsT args 0 .leaf) s [] (fun r dc => endW P RO fn r fun v s' => cutKD (f l', []) s v s') ∧
              K (f l') (stD s []) dc
          | none => False)
        | _, _ => False)
      | none => whoD P RO hookP (execD P RO hookP 100) (.fn g) args s dc K)
    | _, _ => whoD P RO hookP (execD P RO hookP 100) (.fn g) args s dc K)
  | .yield x => whoD P RO hookP (execD P RO hookP 100) (.yield x) args s dc K
noncomputable def litT (l : Bool) (τ : PT AVal) (x : Operand) (b : Bool) : PT AVal := bif l then (match x with | .tmp t => τ.set t (some (.bool b)) | _ => τ) else τ
noncomputable def stepN (rec : RecN) (F : FuncId) (env : Env) (c : Code) (n : Nat) (fr : Fr) (τ : PT AVal) (st : St) (dc : Dc) (K : Res → Dc → Prop) : Prop :=
  match c with
  | .skip | .label _ => K ⟨.normal, τ, st, fr⟩ dc
  | .region _ ops draws => (match deferOf fr ops.toList draws with
    | some f => K ⟨.normal, τ, st, ⟨none, .fn f :: fr.marks⟩⟩ dc
    | none => bif draws then drawD P RO (whoX P RO hookP annN rec env) ops.toList n τ st dc fun τ' st' dc => K ⟨.normal, τ', st', fr⟩ dc
      else opsD P RO (whoN P RO hookP annN rec env) ops.toList n ops.toList τ st [] dc fun τ' st' dc => K ⟨.normal, τ', st', fr⟩ dc)
  | .seq a b => rec F env a n fr τ st dc (thenD (fun r dc => rec F env b n r.fr r.τ r.st dc K) K)
  | .cond x a b => condD RO τ x dc (fun dc => rec F env a n fr (litT annN.lit τ x true) st dc K) (fun dc => rec F env b n fr (litT annN.lit τ x false) st dc K)
  | .block id a => (match annN.loop F id with
    | some S => (match a with | .loop b => bif (S τ st).up then loopV (S τ st) (rec F env) id b n fr τ st dc K else loopU (S τ st) (rec F env) id b n fr τ st dc K | _ => False)
    | none => (match annN.join F id with
      | some S => blockJ (S τ st fr) (rec F env) id a n fr τ st dc K
      | none => rec F env a n fr τ st dc (blockD id K)))
  | .loop a => rec F env a n fr τ st dc (thenD (fun r dc => rec F env (.loop a) n r.fr r.τ r.st dc K) K)
  | .exit id => K ⟨.exit id, τ, st, fr⟩ dc
  | .ret => K ⟨.ret, τ, st, fr⟩ dc
  | .rangeFunc g ps assign body => (match evA RO τ g with
    | some (.func f first captured) => rangeN P RO hookP annN rec F env τ f first captured dc K (enterA n τ ps.toList assign body fr st)
    | _ => False)
  | _ => False
noncomputable def recN (f : Nat) : RecN :=
  Nat.rec (motive := fun _ => RecN) (fun _ _ _ _ _ _ _ _ _ => False) (fun _ ih => stepN P RO hookP annN ih) f
end
section
variable {P : Program} {w0 : World} {RO : PT AObj}
/-- what a call must do, whatever comes of it -/
def CallT (P : Program) (w0 : World) (RO : PT AObj) (f : FuncId) (args : List AVal) (st : St) (K : AVal → St → Prop) : Prop :=
  (∃ fn, P.funcs[f]? = some fn ∧ fn.body.isNone = false ∧ (fn.name == "runtime.NumGoroutine") = false) ∧
    ∀ φ us w, VRels φ args us → WRel w0 φ st.heap st.next w → RRel w0 φ RO → Calls P f us.toArray w fun e w' => ∃ u v st', e = .returned u ∧ K v st' ∧ StepOk w0 φ st w v st' u w'
def RelsOk (P : Program) (w0 : World) (RO : PT AObj) (annN : AnnN) : Prop :=
  ∀ g S args s, annN.rel g = some S → (S args s).pre → CallT P w0 RO g args s fun v s' => ∃ z, (S args s).post z ∧ v = (S args s).res z ∧ s' = (S args s).out z
def YieldT (P : Program) (w0 : World) (RO : PT AObj) (x : Nat) (args : List AVal) (st : St) (K : AVal → St → Prop) : Prop :=
  ∀ φ us w g b m, φ x = some (g, b, m) → VRels φ args us → WRel w0 φ st.heap st.next w → RRel w0 φ RO → ∃ fn tm asg bd, (Instr.yield g us.toArray).run P w = .ok (.round g fn tm asg bd) w ∧
    ∀ rg k, RoundIn (FR rg) k P g fn tm asg bd w fun e w' => ∃ u v st', e = .returned u ∧ K v st' ∧ StepOk w0 φ st w v st' u w'
def WhoT (P : Program) (w0 : World) (RO : PT AObj) : Who → List AVal → St → (AVal → St → Prop) → Prop
  | .fn f => CallT P w0 RO f
  | .yield x => YieldT P w0 RO x
def WhoOk (P : Program) (w0 : World) (RO : PT AObj) (callD : Who → List AVal → St → Dc → (AVal → St → Dc → Prop) → Prop) : Prop :=
  ∀ who args st dc K, callD who args st dc K → WhoT P w0 RO who args st fun v st' => ∃ dc', K v st' dc'
theorem enter_wp {φ : Phi} {rg : Option Nat} {kk : Nat} {ev : Operand → Option AVal} {a : Act} {o : Oper} {st : St} {w : World} {who : Who} {args : List AVal} {KK : AVal → St → Prop} (he : EvOk φ ev a.eval) (hh : heavy P ev o.op = some (.enter who args)) (hT : WhoT P w0 RO who args st KK)
    (hw : WRel w0 φ st.heap st.next w) (hr : RRel w0 φ RO) {K : Act → World → Prop} {Q : Exit → Act → World → Prop} (hK : ∀ u v st' w', KK v st' → StepOk w0 φ st w v st' u w' → K (a.put o.dst u) w') : o.wpIn (FR rg) kk P a w K Q := by
  unfold heavy at hh
  split at hh
  · split at hh <;> cases hh
  · split at hh <;> cases hh
  · rename_i c hop
    split at hh
    · rename_i f hcal
      split at hh
      · rename_i f' first captured vs hf hvs
        cases hh
        obtain ⟨⟨fn, hfn, hbody, hname⟩, hcalls⟩ := hT
        have r1 := he _ _ hf
        have r2 := evs_some he _ _ hvs
        generalize hfv : a.eval f = fv at r1
        cases r1 with
        | func _ _ _ va vb h1 h2 =>
        have hrun : (execOp a.eval o).run P w = .ok (.enter f' (va ++ c.args.map a.eval ++ vb)) w := by
          have hn' : ¬ fn.name = "runtime.NumGoroutine" := by simpa using hname
          have hb' : ¬ fn.body = none := fun e => by rw [e] at hbody; cases hbody
          simp [execOp, hop, resolve, hcal, hfv, Deferred.ofValue, invoke, callFunc, hfn, hb', hn']
        refine wpIn_of (fun c hc => by rw [hop] at hc; cases hc) ?_
        rw [hrun, Oper.uponIn_enter]
        have := hcalls φ _ w ((h1.append r2).append h2) hw hr
        rw [show (va.toList ++ c.args.toList.map a.eval ++ vb.toList).toArray = va ++ c.args.map a.eval ++ vb by apply Array.toList_inj.1; simp] at this
        refine ⟨fun h => (by cases h), (callsFR rg _ this).mono fun e w' hee => ?_⟩
        obtain ⟨u, v, st', rfl, hk, hs⟩ := hee
        exact hK u v st' w' hk hs
      · rename_i x vs hf hvs
        cases hh
        have r1 := he _ _ hf
        have r2 := evs_some he _ _ hvs
        generalize hfv : a.eval f = fv at r1
        cases r1 with
        | yield _ g b m hφ =>
        obtain ⟨fn, tm, asg, bd, h1, h2⟩ := hT φ _ w g b m hφ r2 hw hr
        rw [show (c.args.toList.map a.eval).toArray = c.args.map a.eval by apply Array.toList_inj.1; simp] at h1
        have hrun : (execOp a.eval o).run P w = .ok (.round g fn tm asg bd) w := by
          simp [execOp, hop, resolve, hcal, hfv, Deferred.ofValue, invoke, h1]
        refine wpIn_of (fun c hc => by rw [hop] at hc; cases hc) ?_
        rw [hrun, Oper.uponIn_round]
        refine ⟨fun h => (by cases h), (h2 rg _).mono fun e w' hee => ?_⟩
        obtain ⟨u, v, st', rfl, hk, hs⟩ := hee
        exact hK u v st' w' hk hs
      · cases hh
    · split at hh
      · split at hh
        · split at hh <;> cases hh
        · cases hh
      · cases hh
    · split at hh
      · split at hh <;> cases hh
      · cases hh
    · split at hh
      · split at hh <;> cases hh
      · cases hh
    · split at hh
      · split at hh <;> cases hh
      · cases hh
    · cases hh
  · cases hh
def noC : Who → List AVal → St → Option (AVal × St) := fun _ _ _ => none
theorem noC_ok : CallOk P w0 RO noC := fun who args st v st' h => by cases h
theorem opT_wp {callD : Who → List AVal → St → Dc → (AVal → St → Dc → Prop) → Prop} (hc : WhoOk P w0 RO callD) {φ : Phi} {rg : Option Nat} {kk n : Nat} {τ : PT AVal} {a : Act} {o : Oper} {st : St} {w : World} {dc : Dc} {KK : AVal → St → Dc → Prop} (h : opD P RO callD τ st o.op dc KK)
    (ht : TRel φ n τ a.tmps) (hw : WRel w0 φ st.heap st.next w) (hr : RRel w0 φ RO) {K : Act → World → Prop} {Q : Exit → Act → World → Prop} (hK : ∀ u v st' dc' w', KK v st' dc' → StepOk w0 φ st w v st' u w' → K (a.put o.dst u) w') : o.wpIn (FR rg) kk P a w K Q := by
  unfold opD at h
  split at h
  · rename_i ob r hr1
    obtain ⟨h1, h2⟩ := obl_got h r
    obtain ⟨v, st', h3, h4⟩ := doLightW_ok h2
    have hrun : runOp P RO noC τ st o.op = some (v, st') := by
      unfold runOp light
      rw [hr1, h1]
      exact h3
    exact (runOp_wp noC_ok hrun).2 ht hw hr fun u w' hs => hK u v st' dc w' (nameOp_ok h4) hs
  · rename_i hl
    split at h
    · rename_i hv hh
      unfold heavyD at h
      split at h
      · rename_i who args
        exact enter_wp (ev_some hr ht) hh (hc _ _ _ _ _ h) hw hr fun u v st' w' ⟨dc', hk⟩ hs => hK u v st' dc' w' hk hs
      · rename_i hv' hne
        have hcw : CallW noW noC := fun who args st K h => h.elim
        obtain ⟨v, s, h1, h2⟩ := doHeavyW_ok hcw h
        have hrun : runOp P RO noC τ st o.op = some (v, s) := by
          unfold runOp light
          rw [hl]
          show (match heavy P (evA RO τ) o.op with | some h => doHeavy P RO noC st h | none => none) = _
          rw [hh]
          exact h1
        exact (runOp_wp noC_ok hrun).2 ht hw hr fun u w' hs => hK u v s dc w' (nameS_ok h2) hs
    · exact h.elim
theorem opsT_ok {callD : Who → List AVal → St → Dc → (AVal → St → Dc → Prop) → Prop} (hc : WhoOk P w0 RO callD) {ops : Array Oper} {nt : Nat} : ∀ {l : List Oper} {τ : PT AVal} {st : St} {kn : Kn} {dc : Dc} {K : PT AVal → St → Dc → Prop}, KnOk kn τ → opsD P RO callD ops.toList nt l τ st kn dc K →
    ∀ {Q : Exit → Act → World → Prop} (φ : Phi) (a : Act) (w : World) rg kk, TRel φ nt τ a.tmps → WRel w0 φ st.heap st.next w → RRel w0 φ RO → (∀ τ' st' dc' a' w', K τ' st' dc' → Post w0 φ st w nt τ' st' a.defers a' w' → Q .normal a' w') → wpListIn (FR rg) kk P ops Q l a w
  | [], τ, st, kn, dc, K, _, h => fun φ a w rg kk ht hw hr hQ => hQ τ st dc a w h ⟨φ, ht, rfl, hw, Step.refl _ _ _⟩
  | o :: os, τ, st, kn, dc, K, hk, h => fun φ a w rg kk ht hw hr hQ => by
    simp only [opsD] at h
    obtain ⟨b, kn1, dc1, h1, hk1, h2⟩ := wantedD_ok hk h
    unfold wpListIn
    rw [wanted_some h1 ht]
    cases b with
    | true =>
      rw [if_pos rfl]
      simp only at h2
      split at h2
      · rename_i q hq
        obtain ⟨v, kn2, dc2, h3, hk2, h4⟩ := chooseD_ok (P := P) hk1 hq h2
        obtain ⟨τ', h5, h6⟩ := putW_ok h4
        have hrun : runOp P RO noC τ st o.op = some (v, st) := by unfold runOp; rw [h3]; rfl
        refine (runOp_wp noC_ok hrun).2 ht hw hr fun u w1 hs => ?_
        obtain ⟨ψ, e1, e2, e3⟩ := hs
        refine opsT_ok hc (hk2.put h5) h6 ψ _ w1 rg kk ((ht.mono e3.le).put h5 e1) e2 (hr.mono e3.le) fun τ2 st2 dc2 a' w' hK hp => hQ τ2 st2 dc2 a' w' hK ?_
        rw [put_defers] at hp
        exact hp.after e3
      · refine opT_wp hc h2 ht hw hr fun u v st' dc2 w1 h4 hs => ?_
        obtain ⟨τ', h5, h6⟩ := putW_ok h4
        obtain ⟨ψ, e1, e2, e3⟩ := hs
        refine opsT_ok hc (hk1.put h5) h6 ψ _ w1 rg kk ((ht.mono e3.le).put h5 e1) e2 (hr.mono e3.le) fun τ2 st2 dc2 a' w' hK hp => hQ τ2 st2 dc2 a' w' hK ?_
        rw [put_defers] at hp
        exact hp.after e3
    | false =>
      rw [if_neg (by simp)]
      simp only at h2
      obtain ⟨τ', h5, h6⟩ := putW_ok h2
      refine ⟨fun _ _ => trivial, opsT_ok hc (hk1.put h5) h6 φ _ w rg kk (ht.put h5 VRel.undef) hw hr fun τ2 st2 dc2 a' w' hK hp => hQ τ2 st2 dc2 a' w' hK ?_⟩
      rw [put_defers] at hp
      exact hp
/-- a call by its body -/
theorem callT_body (hn : ∀ (f : FuncId) (fn : Func), P.funcs[f]? = some fn → (fn.name == "runtime.NumGoroutine") = false) {g : FuncId} {fn : Func} {body : Code} (hfn : P.funcs[g]? = some fn) (hb : fn.body = some body) {args : List AVal} {st : St} {K : AVal → St → Dc → Prop}
    (h : Tri P w0 RO body (bif Nat.ble (lenL args 0) fn.ntmps then fn.ntmps else lenL args 0) ⟨none, []⟩ (argsT args 0 .leaf) st fun r => ∃ dc', endW P RO fn r fun v s => K v s dc') : CallT P w0 RO g args st fun v s => ∃ dc', K v s dc' :=
  ⟨⟨fn, hfn, by rw [hb]; rfl, hn g fn hfn⟩, fn_tri hn hfn hb (h.mono fun r hr => endW_ex hr)⟩
/-- what comes of a call is seen otherwise -/
theorem callT_seen {f : FuncId} {args : List AVal} {st : St} {S : CSpec} {K : AVal → St → Prop} (h : CallT P w0 RO f args st fun v s => cutK S st v s) (hK : ∀ z, S.post z → K (S.res z) (lsC st (S.J z)).S) : CallT P w0 RO f args st K := by
  refine ⟨h.1, fun φ us w hus hw hr => (h.2 φ us w hus hw hr).mono fun e w' he => ?_⟩
  have hdom : ∀ x : Nat, φ x ≠ none → x < st.next := fun x hx => Nat.lt_of_not_le fun hle => hx (hw.fresh x hle)
  obtain ⟨u, v, st', rfl, ⟨z, hz, hv, hE⟩, ψ, e1, e2, e3⟩ := he
  obtain ⟨_, q2, q3⟩ := stE_ok (n := 0) (tmps := #[]) hE hdom e3 ⟨rfl, fun t v hv => by cases hv⟩ e2
  exact ⟨u, _, _, rfl, hK z hz, _, valE_ok hv e1, q2, q3⟩
theorem callN_ok (hn : ∀ (f : FuncId) (fn : Func), P.funcs[f]? = some fn → (fn.name == "runtime.NumGoroutine") = false) {hookP : FuncId → Option (List AVal → St → Option (OP × AVal × St))} (hh : ∀ f h, hookG hookP f = some h → Call1Ok P w0 RO f h)
    {annN : AnnN} (hrel : RelsOk P w0 RO annN) {rec : RecN} (hrec : ∀ F env, RecS P w0 RO (rec F env)) {env : Env} {g : FuncId} {args : List AVal} {s : St} {dc : Dc} {K : AVal → St → Dc → Prop} (h : callN P RO hookP annN rec env g args s dc K) : CallT P w0 RO g args s fun v s' => ∃ dc', K v s' dc' := by
  unfold callN at h
  split at h
  · rename_i hk hg
    have go : ∃ v s', got (hk args s) = some (v, s') ∧ K v s' dc := by
      split at h
      · split at h
        · obtain ⟨v, s', h1, h2, h3⟩ := obl3_got h
          exact ⟨v, s', h1, h2 ▸ nameN_ok (h3 _ rfl)⟩
        · exact h.elim
      · obtain ⟨v, s', h1, h2⟩ := obl3_got h
        exact ⟨v, s', h1, nameN_ok (nameZ_ok h2)⟩
    obtain ⟨v, s', h1, h3⟩ := go
    obtain ⟨_, k2, k3⟩ := hh g (fun args st => got (hk args st)) (by unfold hookG; rw [hg]) args s v s' h1
    exact ⟨k2, fun φ us w e1 e2 e3 => (k3 φ us w e1 e2 e3).mono fun e w' he => by
      obtain ⟨u, rfl, hs⟩ := he
      exact ⟨u, v, s', rfl, ⟨dc, h3⟩, hs⟩⟩
  · split at h
    · rename_i S hS
      obtain ⟨h1, h2⟩ := h
      obtain ⟨k1, k2⟩ := hrel g S args s hS h1
      exact ⟨k1, fun φ us w a b c => (k2 φ us w a b c).mono fun e w' ⟨u, v, st', q1, ⟨z, q2, q4, q5⟩, q3⟩ => ⟨u, v, st', q1, by subst q4 q5; exact ⟨dc, h2 z q2⟩, q3⟩⟩
    split at h
    · rename_i fn hfn
      split at h
      · rename_i body hb
        split at h
        · rename_i S hS
          obtain ⟨h1, h2⟩ := h
          refine callT_seen (S := S args s) ?_ fun z hz => ⟨dc, h2 z hz⟩
          obtain ⟨k1, k2⟩ := callT_body (K := fun v s' _ => cutK (S args s) s v s') hn hfn hb (hrec _ _ _ _ _ _ _ _ _ h1)
          exact ⟨k1, fun φ us w a b c => (k2 φ us w a b c).mono fun e w' ⟨u, v, st', q1, ⟨_, q2⟩, q3⟩ => ⟨u, v, st', q1, q2, q3⟩⟩
        · exact callT_body hn hfn hb (hrec _ _ _ _ _ _ _ _ _ h)
      · exact h.elim
    · exact h.elim
theorem yieldN_ok {rec : RecT} (hrec : RecS P w0 RO rec) {x : Nat} {args : List AVal} {st : St} {dc : Dc} {K : AVal → St → Dc → Prop} (h : yieldD rec x args st dc K) : YieldT P w0 RO x args st fun v s' => ∃ dc', K v s' dc' := by
  intro φ us w g b m hφ hus hw hro
  unfold yieldD at h
  split at h
  · rename_i s0 j0 τ0 n0 ps0 as0 bo0 hx0
    split at h
    · rename_i τ1 hps
      obtain ⟨r, q1, q2, q3, q4, q5, q6, q7⟩ := loop_obj hw hx0 hφ
      obtain ⟨hlen, htm⟩ := putPs_ok hps hus q4
      refine ⟨r.fn, _, r.assign, r.body, run_yield q1 (by have := congrArg List.length q5; simp at this hlen ⊢; omega), fun rg k => ?_⟩
      refine roundIn_of_wpIn trivial ?_
      rw [q6, q7]
      have htm' : TRel φ n0 τ1 ((r.params.zip us.toArray).foldl (fun t (x : Nat × Value) => t.setIfInBounds x.1 x.2) r.tmps) := by
        rw [← Array.foldl_toList, Array.toList_zip, q5]
        exact htm
      refine Code.wpIn_mono ?_ (hrec _ _ _ _ _ _ _ h φ ⟨_, []⟩ w (some g) k htm' .nil (.some x g b m hφ) hw hro)
      rintro y a1 w1 ⟨⟨e1, τ2, st1, fr1⟩, ⟨dc1, hk1⟩, hro1, rfl, ψ, p1, p2, p3, p4⟩
      cases e1 with
      | exit id => exact hk1.elim
      | ret => exact hk1.elim
      | normal =>
      simp only at hk1
      split at hk1
      · rename_i j1 τ3 n3 ps3 as3 bo3 hx1
        have hφ1 := p4.le _ _ hφ
        obtain ⟨r1, t1, t2, t3, t4, t5, t6, t7⟩ := loop_obj p3 hx1 hφ1
        obtain ⟨u1, u2⟩ := markL_ok (s' := .busy) (j' := j1) p3 hx1 hφ1 t1
        show ∃ w₂, (Instr.beginRound g).run P w1 = .ok () w₂ ∧ _
        refine ⟨_, run_beginRound t1 (by rw [t2]; rfl), ?_⟩
        have hsame : ({ r1 with state := .busy } : Loop) = { r1 with state := lsOf .busy, pending := codeOf j1 } := by rw [← t3]; rfl
        rw [hsame]
        have hro1' : fr1.round = some x := hro1
        refine Code.wpIn_mono ?_ (hrec _ _ _ _ _ _ _ hk1 ψ a1 _ (some g) k p1 (p2.1.step u2) (by rw [hro1']; exact .some x g b m hφ1) u1 (hro.mono p4.le))
        rintro y a2 w2 ⟨⟨e2, τ4, st2, fr2⟩, ⟨dc2, hk2⟩, hro2, rfl, χ, v1, v2, v3, v4⟩
        simp only at hk2
        split at hk2
        · rename_i j5 τ5 n5 ps5 as5 bo5 hx2
          have hφ2 := v4.le _ _ hφ1
          obtain ⟨r2, z1, z2, z3, z4, z5, z6, z7⟩ := loop_obj v3 hx2 hφ2
          obtain ⟨y1, y2⟩ := markL_ok (s' := bif isNormal e2 then .ready else .done) (j' := jumpOf e2) v3 hx2 hφ2 z1
          have hend : ∀ c, c = codeOf (jumpOf e2) → ∃ v w', (Instr.endRound g c).run P w2 = .ok v w' ∧ ∃ u v' st', Ending.returned v = .returned u ∧ (∃ dc', K v' st' dc') ∧ StepOk w0 φ st w v' st' u w' := fun c hc => by
            refine ⟨_, _, run_endRound c z1, _, _, _, rfl, ⟨dc2, hk2⟩, χ, ?_, ?_, ((p4.trans u2).trans v4).trans ?_⟩
            · subst hc; cases e2 <;> exact .bool _
            · subst hc; cases e2 <;> exact y1
            · subst hc; cases e2 <;> exact y2
          cases e2 with
          | normal => exact hend none rfl
          | exit id => exact hend (some (.exit id)) rfl
          | ret => exact hend (some .ret) rfl
        · exact hk2.elim
      · exact hk1.elim
    · exact h.elim
  · exact h.elim
theorem whoN_ok (hn : ∀ (f : FuncId) (fn : Func), P.funcs[f]? = some fn → (fn.name == "runtime.NumGoroutine") = false) {hookP : FuncId → Option (List AVal → St → Option (OP × AVal × St))} (hh : ∀ f h, hookG hookP f = some h → Call1Ok P w0 RO f h)
    {annN : AnnN} (hrel : RelsOk P w0 RO annN) {rec : RecN} (hrec : ∀ F env, RecS P w0 RO (rec F env)) (env : Env) : WhoOk P w0 RO (whoN P RO hookP annN rec env) := fun who args st dc K h => by
  cases who with
  | fn g => exact callN_ok hn hh hrel hrec h
  | yield x => exact yieldN_ok (hrec _ _) h
theorem rangeN_ok (hn : ∀ (f : FuncId) (fn : Func), P.funcs[f]? = some fn → (fn.name == "runtime.NumGoroutine") = false) {hookP : FuncId → Option (List AVal → St → Option (OP × AVal × St))} (hh : ∀ f h, hookG hookP f = some h → Call1Ok P w0 RO f h)
    {annN : AnnN} (hrel : RelsOk P w0 RO annN) {rec : RecN} (hrec : ∀ F env, RecS P w0 RO (rec F env)) {F : FuncId} {env : Env} {g : Operand} {ps : Array Tmp} {assign body : Code} {n : Nat} {fr : Fr} {τ : PT AVal} {st : St} {dc : Dc} {f : FuncId} {first captured : List AVal} {K : Res → Dc → Prop} (hev : evA RO τ g = some (.func f first captured))
    (h : rangeN P RO hookP annN rec F env τ f first captured dc K (enterA n τ ps.toList assign body fr st)) : Tri P w0 RO (.rangeFunc g ps assign body) n fr τ st fun r => ∃ dc', K r dc' := by
  cases hen : enterA n τ ps.toList assign body fr st with
  | none => rw [hen] at h; exact h.elim
  | some r =>
  obtain ⟨x, fr1, st1⟩ := r
  rw [hen] at h
  simp only [rangeN] at h
  obtain ⟨i1, i2, i3⟩ := enter_ok (P := P) (w0 := w0) hen
  obtain ⟨⟨fn, hfn, hbody, hname⟩, c3⟩ := callN_ok hn hh hrel hrec h
  intro φ a w rg kk ht hd hro hw hr
  refine wpIn_rangeFunc fun fnn _ => ?_
  obtain ⟨l, mark, w1, ψ, k1, k2, k3, k4, k5⟩ := i3 φ a w rg fnn ht hd hro hw
  have hfv := ev_some hr ht g _ hev
  generalize hval : a.eval g = u at hfv
  cases hfv with
  | func _ _ _ va vb h1 h2 =>
  have hn' : ¬ fn.name = "runtime.NumGoroutine" := by simpa using hname
  have hb' : ¬ fn.body = none := fun e => by rw [e] at hbody; cases hbody
  refine ⟨l, mark, w1, { target := .fn (.func f) vb, args := va ++ #[.func (.yield l) #[] #[]] }, w1, f, va ++ #[.func (.yield l) #[] #[]] ++ vb, w1, k1, ?_, fun _ _ => trivial, ?_, fun h => (by cases h), ?_⟩
  · have hy : a.eval (.const (.func (.yield l) #[] #[])) = .func (.yield l) #[] #[] := rfl
    simp [resolve, hval, hy, Deferred.ofValue]
  · simp [invoke, callFunc, hfn, hb', hn']
  · have hcall := c3 ψ (va.toList ++ .func (.yield l) #[] #[] :: vb.toList) w1 ((h1.mono k5.le).append (.cons _ _ _ _ (.yield x l 0 0 k2) (h2.mono k5.le))) k4 (hr.mono k5.le)
    rw [show (va.toList ++ .func (.yield l) #[] #[] :: vb.toList).toArray = va ++ #[.func (.yield l) #[] #[]] ++ vb by apply Array.toList_inj.1; simp] at hcall
    refine (callsFR rg _ hcall).mono fun ee w2 hee => ?_
    obtain ⟨u, v, st2, rfl, ⟨dc', hk⟩, χ, v1, v2, v3⟩ := hee
    have hφ2 := v3.le _ _ k2
    split at hk
    · rename_i s j τ0 n0 ps0 as0 bo0 hx
      obtain ⟨r, z1, z2, z3, _⟩ := loop_obj v2 hx hφ2
      obtain ⟨y1, y2⟩ := markL_ok (s' := .exhausted) (j' := j) v2 hx hφ2 z1
      have hsame : ({ r with state := .exhausted } : Loop) = { r with state := lsOf .exhausted, pending := codeOf j } := by rw [← z3]; rfl
      have fin : ∀ s', s = s' → s' ≠ .busy → K ⟨exJ j, τ, markL x .exhausted j τ0 n0 ps0 as0 bo0 st2, fr1⟩ dc' → rangePost (FR rg) kk P l (fun x a' w' => ∃ r, (∃ dc', K r dc') ∧ r.fr.round = fr.round ∧ x = exOf r.ex ∧ PostX w0 φ st w n a.defers r.fr r.τ r.st a' w') { a with defers := mark ++ a.defers } (.returned u) w2 := fun s' hs hnb hk => by
        subst hs
        refine ⟨codeOf j, _, by rw [← z3]; exact run_endLoop z1 (by rw [z2]; cases s <;> first | exact absurd rfl hnb | (intro hh; cases hh)), ?_⟩
        rw [hsame]
        have post : ∀ a' : Act, a'.tmps = a.tmps → a'.defers = mark ++ a.defers → PostX w0 φ st w n a.defers fr1 τ (markL x .exhausted j τ0 n0 ps0 as0 bo0 st2) a' (w2.putObj l (.loop { r with state := lsOf .exhausted, pending := codeOf j })) := fun a' e1 e2 =>
          ⟨χ, by rw [e1]; exact (ht.mono k5.le).mono v3.le, by rw [e2]; exact ⟨(k3.1.step v3).step y2, k3.2⟩, y1, (k5.trans v3).trans y2⟩
        cases j with
        | none => exact ⟨_, ⟨dc', hk⟩, i1, rfl, post _ rfl rfl⟩
        | ret => exact wpIn_ret ⟨_, ⟨dc', hk⟩, i1, rfl, post _ rfl rfl⟩
        | exit id => exact wpIn_exit ⟨_, ⟨dc', hk⟩, i1, rfl, post _ rfl rfl⟩
      cases s with
      | busy => exact hk.elim
      | exhausted => exact hk.elim
      | ready => exact fin .ready rfl (fun hh => by cases hh) hk
      | done => exact fin .done rfl (fun hh => by cases hh) hk
    · exact hk.elim
theorem ents_back {α : Type} : ∀ {t : PT α} {a b k : Nat} {v : α}, (k, v) ∈ ents t a b → ∃ j, k = a * j + b ∧ t.get j = some v
  | .leaf, a, b, k, v, h => by cases h
  | .node l u r, a, b, k, v, h => by
    have h' : (u = some v ∧ k = b) ∨ (k, v) ∈ ents l (2 * a) (a + b) ++ ents r (2 * a) (2 * a + b) := by
      cases u with
      | none => exact .inr h
      | some x =>
        have h : (k, v) ∈ [(b, x)] ++ (ents l (2 * a) (a + b) ++ ents r (2 * a) (2 * a + b)) := h
        rcases List.mem_append.1 h with h | h
        · obtain ⟨rfl, rfl⟩ : k = b ∧ v = x := by simpa using h
          exact .inl ⟨rfl, rfl⟩
        · exact .inr h
    rcases h' with ⟨rfl, rfl⟩ | h
    · exact ⟨0, by simp, rfl⟩
    · rcases List.mem_append.1 h with h | h
      · obtain ⟨j, rfl, hj⟩ := ents_back h
        refine ⟨2 * j + 1, ?_, ?_⟩
        · rw [Nat.mul_add, show a * (2 * j) = 2 * a * j by rw [← Nat.mul_assoc, Nat.mul_comm a 2]]; omega
        · rw [PT.get_succ, if_pos (by omega), show 2 * j / 2 = j by omega]; exact hj
      · obtain ⟨j, rfl, hj⟩ := ents_back h
        refine ⟨2 * j + 1 + 1, ?_, ?_⟩
        · rw [show 2 * j + 1 + 1 = 2 * (j + 1) by omega, show a * (2 * (j + 1)) = 2 * a * (j + 1) by rw [← Nat.mul_assoc, Nat.mul_comm a 2], Nat.mul_add]; omega
        · rw [PT.get_succ, if_neg (by omega), show (2 * j + 1) / 2 = j by omega]; exact hj
theorem foldr_none {α : Type} : ∀ {l : List (Nat × α)} {t : Nat} {v : α}, (t, v) ∈ l → (l.foldr (fun x τ => PT.set τ x.1 (some x.2)) (.leaf : PT α)).get t ≠ none
  | (x, u) :: l, t, v, h => by
    simp only [List.foldr_cons]
    rw [PT.get_set]
    split
    · simp
    · rename_i hne
      rcases List.mem_cons.1 h with h | h
      · cases h; exact absurd rfl hne
      · exact foldr_none h
theorem hp_ents (H : PT AObj) (x : Nat) : (hp (ents H 1 0)).get x = H.get x := by
  cases h : H.get x with
  | none =>
    cases h2 : (hp (ents H 1 0)).get x with
    | none => rfl
    | some o =>
      obtain ⟨j, h3, h4⟩ := ents_back (foldr_get h2)
      obtain rfl : x = j := by omega
      rw [h] at h4; cases h4
  | some o =>
    cases h2 : (hp (ents H 1 0)).get x with
    | none => exact absurd h2 (foldr_none (ents_all h))
    | some o' =>
      obtain ⟨j, h3, h4⟩ := ents_back (foldr_get h2)
      obtain rfl : x = j := by omega
      rw [h] at h4; exact h4.symm
theorem hp_keepB (J : List (Nat × AObj)) {x : Nat} (hx : hasB J x = false) : ∀ l : List (Nat × AObj), (hp (keepB J l)).get x = (hp l).get x
  | [] => rfl
  | (y, o) :: l => by
    have hp_cons : ∀ m : List (Nat × AObj), hp ((y, o) :: m) = (hp m).set y (some o) := fun _ => rfl
    unfold keepB
    rw [hp_cons, PT.get_set]
    by_cases hy : x = y
    · subst hy
      rw [hx]
      show (hp ((x, o) :: keepB J l)).get x = _
      rw [hp_cons, PT.get_set]
      simp
    · rw [if_neg hy]
      cases hasB J y with
      | true => exact hp_keepB J hx l
      | false =>
        show (hp ((y, o) :: keepB J l)).get x = _
        rw [hp_cons, PT.get_set, if_neg hy]
        exact hp_keepB J hx l
theorem hp_app (J l : List (Nat × AObj)) : hp (J ++ l) = J.foldr (fun (x : Nat × AObj) τ => τ.set x.1 (some x.2)) (hp l) := by
  unfold hp
  rw [List.foldr_append]
theorem has_live {x : Nat} : ∀ J : List (Nat × AObj), hasB J x = false → hasB (live J) x = false
  | [], _ => rfl
  | (y, o) :: J, h => by
    have h1 : Nat.beq y x = false ∧ hasB J x = false := by
      unfold hasB at h
      cases hb : Nat.beq y x with
      | false => rw [hb] at h; exact ⟨rfl, h⟩
      | true => rw [hb] at h; cases h
    have h2 := has_live J h1.2
    have h3 : hasB ((y, o) :: live J) x = false := by unfold hasB; rw [h1.1]; exact h2
    unfold live
    split
    · exact h2
    · exact h3
theorem no_low {b x : Nat} (hx : x < b) : ∀ J : List (Nat × AObj), x ∉ lowsB b J → hasB J x = false
  | [], _ => rfl
  | (y, o) :: J, h => by
    unfold lowsB at h
    unfold hasB
    cases hb : Nat.ble b y with
    | true =>
      rw [hb] at h
      have hy : b ≤ y := Nat.le_of_ble_eq_true hb
      rw [show Nat.beq y x = false by rw [Bool.eq_false_iff]; intro h; have := Nat.eq_of_beq_eq_true h; omega]
      exact no_low hx J h
    | false =>
      rw [hb] at h
      have h : x ∉ y :: lowsB b J := h
      rw [List.mem_cons, not_or] at h
      rw [show Nat.beq y x = false by rw [Bool.eq_false_iff]; intro h1; exact h.1 (Nat.eq_of_beq_eq_true h1).symm]
      exact no_low hx J h.2
theorem heap_skip {A : PT AObj} {x : Nat} : ∀ J : List (Nat × AObj), hasB J x = false → (J.foldr (fun (x : Nat × AObj) τ => τ.set x.1 (some x.2)) A).get x = A.get x
  | [], _ => rfl
  | (y, o) :: J, h => by
    have h1 : Nat.beq y x = false ∧ hasB J x = false := by
      unfold hasB at h
      cases hb : Nat.beq y x with
      | false => rw [hb] at h; exact ⟨rfl, h⟩
      | true => rw [hb] at h; cases h
    show (PT.set _ y (some o)).get x = _
    rw [PT.get_set, if_neg (fun he => by subst he; rw [Nat.beq_refl] at h1; cases h1.1)]
    exact heap_skip J h1.2
theorem heapD_low (st : St) {b : Nat} {x : Nat} (hx : x < b) (J : List (Nat × AObj)) (h : x ∉ lowsB b J) : (heapD st J).get x = st.heap.get x := by
  have h1 := no_low hx J h
  show (hp (live J ++ keepB J (ents st.heap 1 0))).get x = _
  rw [hp_app, heap_skip _ (has_live J h1), hp_keepB J h1, hp_ents]
theorem nextU_le : ∀ (J : List (Nat × AObj)) (b : Nat), b ≤ nextU b J
  | [], b => Nat.le_refl _
  | (y, o) :: J, b => by
    unfold nextU
    cases h : Nat.ble b y with
    | true => exact Nat.le_trans (Nat.le_succ_of_le (Nat.le_of_ble_eq_true h)) (nextU_le J _)
    | false => exact nextU_le J _
def CallE (P : Program) (w0 : World) (RO : PT AObj) (f : FuncId) (args : List AVal) (st : St) (v : AVal) (st' : St) : Prop :=
  Logs st st' ∧ (∃ fn, P.funcs[f]? = some fn ∧ fn.body.isNone = false ∧ (fn.name == "runtime.NumGoroutine") = false) ∧
    ∀ φ us w, VRels φ args us → WRel w0 φ st.heap st.next w → RRel w0 φ RO → Calls P f us.toArray w fun e w' => ∃ u, e = .returned u ∧ StepOk w0 φ st w v st' u w'
open Classical in
noncomputable def callX (P : Program) (w0 : World) (RO : PT AObj) (hookP : FuncId → Option (List AVal → St → Option (OP × AVal × St))) (annN : AnnN) (who : Who) (args : List AVal) (s : St) : Option (AVal × St) :=
  match who with
  | .fn g => (match hookP g, annN.dcut g with
    | none, some S => if CallE P w0 RO g args s (S args s).1 (stD s (S args s).2) then some ((S args s).1, stD s (S args s).2) else none
    | none, none => (match annN.ncut g with
      | some S => (match S args s with
        | some (l, f) => if CallE P w0 RO g args s (f l) (stD s []) then some (f l, stD s []) else none
        | none => none)
      | none => whoF P RO (hookG hookP) (exec P RO (hookG hookP) 100) (.fn g) args s)
    | _, _ => whoF P RO (hookG hookP) (exec P RO (hookG hookP) 100) (.fn g) args s)
  | .yield x => whoF P RO (hookG hookP) (exec P RO (hookG hookP) 100) (.yield x) args s
theorem callX_ok {hookP : FuncId → Option (List AVal → St → Option (OP × AVal × St))} {annN : AnnN} (hc : CallOk P w0 RO (whoF P RO (hookG hookP) (exec P RO (hookG hookP) 100))) : CallOk P w0 RO (callX P w0 RO hookP annN) := by
  intro who args st v st' h
  unfold callX at h
  split at h
  · split at h
    · split at h
      · rename_i hE
        cases h
        exact hE
      · cases h
    · split at h
      · split at h
        · split at h
          · rename_i hE
            cases h
            exact hE
          · cases h
        · cases h
      · exact hc _ _ _ _ _ h
    · exact hc _ _ _ _ _ h
  · exact hc _ _ _ _ _ h
theorem cutD_ok {f : FuncId} {args : List AVal} {st : St} {R : AVal × List (Nat × AObj)} (h : CallT P w0 RO f args st fun v s => cutKD R st v s) : CallE P w0 RO f args st R.1 (stD st R.2) := by
  refine ⟨⟨lowsB st.next R.2, rfl, nextU_le _ _, fun b hb hn => heapD_low st hb R.2 hn⟩, h.1, fun φ us w hus hw hr => (h.2 φ us w hus hw hr).mono fun e w' he => ?_⟩
  have hdom : ∀ x : Nat, φ x ≠ none → x < st.next := fun x hx => Nat.lt_of_not_le fun hle => hx (hw.fresh x hle)
  obtain ⟨u, v, st', rfl, ⟨hv, hE⟩, ψ, e1, e2, e3⟩ := he
  obtain ⟨_, q2, q3⟩ := stE_ok (n := 0) (tmps := #[]) hE hdom e3 ⟨rfl, fun t v hv => by cases hv⟩ e2
  exact ⟨u, rfl, _, valE_ok hv e1, q2, q3⟩
theorem whoX_ok (hn : ∀ (f : FuncId) (fn : Func), P.funcs[f]? = some fn → (fn.name == "runtime.NumGoroutine") = false) {hookP : FuncId → Option (List AVal → St → Option (OP × AVal × St))} {annN : AnnN} {rec : RecN} (hrec : ∀ F env, RecS P w0 RO (rec F env)) {env : Env} : CallD (whoX P RO hookP annN rec env) (callX P w0 RO hookP annN) := by
  intro who args st dc K h
  unfold whoX at h
  unfold callX
  split at h
  · split at h
    · rename_i g _ S h1 h2
      split at h
      · rename_i fn hfn
        split at h
        · rename_i body hb
          obtain ⟨k1, k2⟩ := h
          have hE := cutD_ok (by
            obtain ⟨a1, a2⟩ := callT_body (K := fun v s' _ => cutKD (S args st) st v s') hn hfn hb (hrec _ _ _ _ _ _ _ _ _ k1)
            exact ⟨a1, fun φ us w a b c => (a2 φ us w a b c).mono fun e w' ⟨u, v, st', q1, ⟨_, q2⟩, q3⟩ => ⟨u, v, st', q1, q2, q3⟩⟩)
          rw [if_pos hE]
          exact ⟨_, _, dc, rfl, k2⟩
        · exact h.elim
      · exact h.elim
    · split at h
      · rename_i S hS
        split at h
        · rename_i l f fn hSa hfn
          simp only [hSa]
          split at h
          · rename_i body hb
            obtain ⟨k1, k2⟩ := h l rfl
            have hE := cutD_ok (R := (f l, [])) (by
              obtain ⟨a1, a2⟩ := callT_body (K := fun v s' _ => cutKD (f l, []) st v s') hn hfn hb (hrec _ _ _ _ _ _ _ _ _ k1)
              exact ⟨a1, fun φ us w a b c => (a2 φ us w a b c).mono fun e w' ⟨u, v, st', q1, ⟨_, q2⟩, q3⟩ => ⟨u, v, st', q1, q2, q3⟩⟩)
            rw [if_pos hE]
            exact ⟨_, _, dc, rfl, k2⟩
          · exact h.elim
        · exact h.elim
      · exact whoD_ok (execD_ok 100) _ _ _ _ _ h
    · exact whoD_ok (execD_ok 100) _ _ _ _ _ h
  · exact whoD_ok (execD_ok 100) _ _ _ _ _ h
/-- a loop's rounds, so many at most -/
def RoundsT (P : Program) (w0 : World) (RO : PT AObj) (b : Code) (m n : Nat) (fr : Fr) (τ : PT AVal) (st : St) (K : Res → Prop) : Prop :=
  ∀ φ a w rg kk, TRel φ n τ a.tmps → DRel w0 φ st.heap w fr.marks a.defers → ORo φ fr.round rg → WRel w0 φ st.heap st.next w → RRel w0 φ RO →
    Code.roundsIn (FR rg) kk P b (fun x a' w' => ∃ r, K r ∧ r.fr.round = fr.round ∧ x = exOf r.ex ∧ PostX w0 φ st w n a.defers r.fr r.τ r.st a' w') m a w
def RecM (P : Program) (w0 : World) (RO : PT AObj) (f : Nat) (rec : RecN) : Prop := ∀ F env c n fr τ st dc K, rec F env c n fr τ st dc K →
  (Tri P w0 RO c n fr τ st fun r => ∃ dc', K r dc') ∧ ∀ b, c = .loop b → ∀ m, f ≤ m → RoundsT P w0 RO b m n fr τ st fun r => ∃ dc', K r dc'
theorem lit_rel {φ : Phi} {n : Nat} {τ : PT AVal} {tmps : Array Value} {x : Operand} {t : Bool} (hev : evA RO τ x = some (.bool t) ∨ evA RO τ x = some (.sbool t)) {l : Bool} (ht : TRel φ n τ tmps) : TRel φ n (litT l τ x t) tmps := by
  unfold litT
  cases l with
  | false => exact ht
  | true =>
    cases x with
    | tmp y =>
      refine ⟨ht.size, fun z v hv => ?_⟩
      have hv : (τ.set y (some (.bool t))).get z = some v := hv
      rw [PT.get_set] at hv
      by_cases hz : z = y
      · rw [if_pos hz] at hv
        cases hv
        subst hz
        rcases hev with he | he
        · exact ht.at_ z _ he
        · have h1 := ht.at_ z _ he
          generalize tmps.getD z Go.undef = u at h1
          cases h1
          exact .bool _
      · rw [if_neg hz] at hv
        exact ht.at_ z v hv
    | _ => exact ht
theorem tri_lit {c : Code} {n : Nat} {fr : Fr} {τ : PT AVal} {st : St} {K : Res → Prop} {x : Operand} {t : Bool} (hev : evA RO τ x = some (.bool t) ∨ evA RO τ x = some (.sbool t)) {l : Bool} (h : Tri P w0 RO c n fr (litT l τ x t) st K) : Tri P w0 RO c n fr τ st K :=
  fun φ ac w rg kk ht hd hro hw hr => h φ ac w rg kk (lit_rel hev ht) hd hro hw hr
theorem stepN_ok (hm : P.follows .mixedOrders = true) (hn : ∀ (f : FuncId) (fn : Func), P.funcs[f]? = some fn → (fn.name == "runtime.NumGoroutine") = false) {hookP : FuncId → Option (List AVal → St → Option (OP × AVal × St))} (hh : ∀ f h, hookG hookP f = some h → Call1Ok P w0 RO f h)
    (hro : ROlow RO 1000) {annN : AnnN} (hrel : RelsOk P w0 RO annN) {f : Nat} {rec : RecN} (hr : RecM P w0 RO f rec) : RecM P w0 RO (f + 1) (stepN P RO hookP annN rec) := fun F env c n fr τ st dc K h => by
  have hrec : ∀ F env, RecS P w0 RO (rec F env) := fun F env c n fr τ st dc K h => (hr F env c n fr τ st dc K h).1
  have simple : ∀ (e : Exit) (r : Res), r.ex = .normal ∨ True → True := fun _ _ _ => trivial
  cases c with
  | skip => exact ⟨fun φ a w rg kk ht hd hro hw hr => wpIn_skip ⟨_, ⟨dc, h⟩, rfl, rfl, φ, ht, ⟨hd, DNew.refl _ _⟩, hw, Step.refl _ _ _⟩, fun b hb => by cases hb⟩
  | label l => exact ⟨fun φ a w rg kk ht hd hro hw hr => wpIn_label ⟨_, ⟨dc, h⟩, rfl, rfl, φ, ht, ⟨hd, DNew.refl _ _⟩, hw, Step.refl _ _ _⟩, fun b hb => by cases hb⟩
  | exit id => exact ⟨fun φ a w rg kk ht hd hro hw hr => wpIn_exit ⟨_, ⟨dc, h⟩, rfl, rfl, φ, ht, ⟨hd, DNew.refl _ _⟩, hw, Step.refl _ _ _⟩, fun b hb => by cases hb⟩
  | ret => exact ⟨fun φ a w rg kk ht hd hro hw hr => wpIn_ret ⟨_, ⟨dc, h⟩, rfl, rfl, φ, ht, ⟨hd, DNew.refl _ _⟩, hw, Step.refl _ _ _⟩, fun b hb => by cases hb⟩
  | region id ops draws =>
    refine ⟨?_, fun b hb => by cases hb⟩
    simp only [stepN] at h
    split at h
    · rename_i g hf
      obtain ⟨h1, rfl, tys, type, pos, after, hops⟩ := deferOf_some hf
      obtain rfl : ops = #[⟨none, .defer ⟨.value (.func g), #[], tys⟩, type, pos, after, none⟩] := Array.toList_inj.1 hops
      intro φ a w rg kk ht hd hro hw hr
      rw [h1] at hro
      cases hro
      exact defer_region ⟨_, ⟨dc, h⟩, h1.symm, rfl, φ, ht, ⟨.fn g _ _ hd, fun g hg => .inl ((List.mem_cons.1 hg).elim (fun e => by cases e) (fun h => h))⟩, hw, Step.refl _ _ _⟩
    · cases draws with
      | true =>
        simp only [cond_true] at h
        obtain ⟨τ', st', dc', h1, h2⟩ := drawD_ok (whoX_ok hn hrec) h
        obtain ⟨k1, k2⟩ := runDraw_ok (id := id) hm (callX_ok (whoF_ok hn hh (exec_ok hm hn hh 100))) h1
        intro φ a w rg kk ht hd hro hw hr
        refine Code.wpIn_mono ?_ (k2 φ a w ht hw hr rg kk)
        rintro x a' w' ⟨rfl, ψ, p1, p2, p3, p4⟩
        exact ⟨_, ⟨dc', h2⟩, rfl, rfl, ψ, p1, by rw [p2]; exact ⟨hd.step p4, DNew.refl _ _⟩, p3, p4⟩
      | false =>
        simp only [cond_false] at h
        intro φ a w rg kk ht hd hro hw hr
        refine wpIn_region_list (opsT_ok (whoN_ok hn hh hrel hrec env) (KnOk.nil _) h φ a w rg kk ht hw hr fun τ' st' dc' a' w' hK hp => ?_)
        obtain ⟨ψ, p1, p2, p3, p4⟩ := hp
        exact ⟨_, ⟨dc', hK⟩, rfl, rfl, ψ, p1, by rw [p2]; exact ⟨hd.step p4, DNew.refl _ _⟩, p3, p4⟩
  | seq a b =>
    refine ⟨tri_seq ((hrec _ _ _ _ _ _ _ _ _ h).mono fun r hr => ?_), fun b hb => by cases hb⟩
    obtain ⟨ex, τ1, st1, fr1⟩ := r
    obtain ⟨dc', hr⟩ := hr
    cases ex with
    | normal => exact hrec _ _ _ _ _ _ _ _ _ hr
    | exit j => exact ⟨dc', hr⟩
    | ret => exact ⟨dc', hr⟩
  | cond x a b =>
    refine ⟨tri_cond ?_, fun b hb => by cases hb⟩
    simp only [stepN] at h
    unfold condD at h
    unfold condW
    split at h
    · rename_i t ht
      simp only [ht]
      cases t with
      | true => exact tri_lit (.inl ht) (hrec _ _ _ _ _ _ _ _ _ h)
      | false => exact tri_lit (.inl ht) (hrec _ _ _ _ _ _ _ _ _ h)
    · rename_i t ht
      simp only [ht]
      obtain ⟨dc', ⟨hb9, k9⟩ | ⟨hb9, k9⟩⟩ := splitW_ok h <;> subst hb9
      · exact ⟨fun _ => tri_lit (.inr ht) (hrec _ _ _ _ _ _ _ _ _ k9), fun e => by cases e⟩
      · exact ⟨fun e => (by cases e), fun _ => tri_lit (.inr ht) (hrec _ _ _ _ _ _ _ _ _ k9)⟩
    · exact h.elim
  | block id a =>
    refine ⟨?_, fun b hb => by cases hb⟩
    simp only [stepN] at h
    split at h
    · rename_i S hS
      split at h
      · cases hu : (S τ st).up with
        | true => rw [hu] at h; exact loopV_ok (hrec F env) hro h
        | false => rw [hu] at h; exact loopU_ok (hrec F env) hro h
      · exact h.elim
    split at h
    · exact blockJ_ok (hrec F env) h
    · refine tri_block ((hrec _ _ _ _ _ _ _ _ _ h).mono fun r hr => ?_)
      obtain ⟨ex, τ1, st1, fr1⟩ := r
      obtain ⟨dc', hr⟩ := hr
      cases ex with
      | normal => exact ⟨dc', hr⟩
      | ret => exact ⟨dc', hr⟩
      | exit j =>
        simp only [blockD] at hr
        simp only [blockW]
        cases hj : Nat.beq j id with
        | true => rw [hj] at hr; exact ⟨dc', hr⟩
        | false => rw [hj] at hr; exact ⟨dc', hr⟩
  | loop b =>
    have main : ∀ m, f + 1 ≤ m → RoundsT P w0 RO b m n fr τ st fun r => ∃ dc', K r dc' := fun m hm' => by
      obtain ⟨m, rfl⟩ : ∃ q, m = q + 1 := ⟨m - 1, by omega⟩
      have ht := hrec F env b n fr τ st dc _ h
      intro φ a w rg kk e1 e2 e3 e4 e5
      rw [roundsIn_succ]
      refine Code.wpIn_mono ?_ (ht φ a w rg kk e1 e2 e3 e4 e5)
      rintro x a' w' ⟨⟨ex, τ1, st1, fr1⟩, ⟨dc', hk⟩, hf, rfl, ψ, p1, p2, p3, p4⟩
      cases ex with
      | normal =>
        have hk : rec F env (.loop b) n fr1 τ1 st1 dc' K := hk
        have := (hr F env _ _ _ _ _ _ _ hk).2 b rfl m (by omega)
        show Code.roundsIn _ _ P b _ m a' w'
        refine roundsIn_mono ?_ m a' w' (this ψ a' w' rg kk p1 p2.1 (by rw [hf]; exact e3.mono p4.le) p3 (e5.mono p4.le))
        rintro x a2 w2 ⟨r, q1, q2, q3, q4⟩
        exact ⟨r, q1, q2.trans hf, q3, q4.after p4 p2.2⟩
      | exit j => exact ⟨_, ⟨dc', hk⟩, hf, rfl, ψ, p1, p2, p3, p4⟩
      | ret => exact ⟨_, ⟨dc', hk⟩, hf, rfl, ψ, p1, p2, p3, p4⟩
    refine ⟨fun φ a w rg kk e1 e2 e3 e4 e5 => wpIn_loop_rounds _ (main _ (Nat.le_refl _) φ a w rg kk e1 e2 e3 e4 e5), fun b' hb => ?_⟩
    cases hb
    exact main
  | rangeFunc g ps assign body =>
    refine ⟨?_, fun b hb => by cases hb⟩
    simp only [stepN] at h
    split at h
    · rename_i f first captured hev
      exact rangeN_ok hn hh hrel hrec hev h
    · exact h.elim
  | scope => exact h.elim
  | goto => exact h.elim
  | refuse => exact h.elim
theorem recN_ok (hm : P.follows .mixedOrders = true) (hn : ∀ (f : FuncId) (fn : Func), P.funcs[f]? = some fn → (fn.name == "runtime.NumGoroutine") = false) {hookP : FuncId → Option (List AVal → St → Option (OP × AVal × St))} (hh : ∀ f h, hookG hookP f = some h → Call1Ok P w0 RO f h)
    (hro : ROlow RO 1000) {annN : AnnN} (hrel : RelsOk P w0 RO annN) : ∀ f, RecM P w0 RO f (recN P RO hookP annN f)
  | 0 => fun F env c n fr τ st dc K h => h.elim
  | f + 1 => stepN_ok hm hn hh hro hrel (recN_ok hm hn hh hro hrel f)
/-- A FUNCTION BEGUN WITH NOTHING OF ITS OWN: what its formula tells. -/
theorem fn_nest (hm : P.follows .mixedOrders = true) (hn : ∀ (f : FuncId) (fn : Func), P.funcs[f]? = some fn → (fn.name == "runtime.NumGoroutine") = false) {hookP : FuncId → Option (List AVal → St → Option (OP × AVal × St))} (hh : ∀ f h, hookG hookP f = some h → Call1Ok P w0 RO f h)
    (hlow : ROlow RO 1000) {annN : AnnN} (hrel : RelsOk P w0 RO annN) {f : Nat} {g : FuncId} {fn : Func} {body : Code} (hfn : P.funcs[g]? = some fn) (hbody : fn.body = some body) {args : List AVal} {next : Nat} {K : AVal → St → Prop} (dc : Dc)
    (h : recN P RO hookP annN f g [] body (bif Nat.ble (lenL args 0) fn.ntmps then fn.ntmps else lenL args 0) ⟨none, []⟩ (argsT args 0 .leaf) ⟨.leaf, next, []⟩ dc (fun r _ => endW P RO fn r K)) {φ : Phi} (hf : Fresh0 φ next w0) (hro : RRel w0 φ RO) {us : List Value} (hus : VRels φ args us) :
    Calls P g us.toArray w0 fun e w' => ∃ u v st', e = .returned u ∧ K v st' ∧ StepOk w0 φ ⟨.leaf, next, []⟩ w0 v st' u w' :=
  fn_tri hn hfn hbody ((recN_ok hm hn hh hlow hrel f _ _ _ _ _ _ _ _ _ h).1.mono fun r ⟨_, hr⟩ => hr) φ us w0 hus (WRel.start hf.high hf.pool) hro
/-- what a function's formula is, begun with nothing of its own -/
noncomputable def nestW (P : Program) (RO : PT AObj) (hookP : FuncId → Option (List AVal → St → Option (OP × AVal × St))) (annN : AnnN) (g : FuncId) (args : List AVal) (dc : Dc) (K : AVal → St → Prop) : Prop :=
  match P.funcs[g]? with
  | some fn => (match fn.body with
    | some body => recN P RO hookP annN 100 g [] body (bif Nat.ble (lenL args 0) fn.ntmps then fn.ntmps else lenL args 0) ⟨none, []⟩ (argsT args 0 .leaf) ⟨.leaf, 1000, []⟩ dc (fun r _ => endW P RO fn r K)
    | none => False)
  | none => False
theorem nest_run (hm : P.follows .mixedOrders = true) (hn : ∀ (f : FuncId) (fn : Func), P.funcs[f]? = some fn → (fn.name == "runtime.NumGoroutine") = false) {hookP : FuncId → Option (List AVal → St → Option (OP × AVal × St))} (hh : ∀ f h, hookG hookP f = some h → Call1Ok P w0 RO f h)
    (hlow : ROlow RO 1000) {annN : AnnN} {g : FuncId} {args : List AVal} {K : AVal → St → Prop} {dc : Dc} (h : nestW P RO hookP annN g args dc K) {φ : Phi} (hf : Fresh0 φ 1000 w0) (hro : RRel w0 φ RO) {us : List Value} (hus : VRels φ args us) (hrel : RelsOk P w0 RO annN := by exact fun _ _ _ _ h => by cases h) :
    Calls P g us.toArray w0 fun e w' => ∃ u v st', e = .returned u ∧ K v st' ∧ StepOk w0 φ ⟨.leaf, 1000, []⟩ w0 v st' u w' := by
  unfold nestW at h
  split at h
  · rename_i fn hfn
    split at h
    · rename_i body hb
      exact fn_nest hm hn hh hlow hrel hfn hb dc h hf hro hus
    · exact h.elim
  · exact h.elim
/-- loops that are told of: the function, the loop's block, what is told -/
noncomputable def loopsU : List (FuncId × Nat × (PT AVal → St → USpec)) → FuncId → Nat → Option (PT AVal → St → USpec)
  | [], _, _ => none
  | (F, id, S) :: r, G, j => bif Nat.beq F G && Nat.beq id j then some S else loopsU r G j
noncomputable def cutsU : List (FuncId × (List AVal → St → CSpec)) → FuncId → Option (List AVal → St → CSpec)
  | [], _ => none
  | (F, S) :: r, G => bif Nat.beq F G then some S else cutsU r G
noncomputable def dcutsU : List (FuncId × (List AVal → St → AVal × List (Nat × AObj))) → FuncId → Option (List AVal → St → AVal × List (Nat × AObj))
  | [], _ => none
  | (F, S) :: r, G => bif Nat.beq F G then some S else dcutsU r G
noncomputable def annD (l : List (FuncId × Nat × (PT AVal → St → USpec))) (c : List (FuncId × (List AVal → St → CSpec))) (d : List (FuncId × (List AVal → St → AVal × List (Nat × AObj)))) : AnnN := { loop := loopsU l, cut := cutsU c, dcut := dcutsU d }
end
end Go.Proofs.Ytcofcojjofkgcaa.Abs
