/- The interpreter as what must be so for it to come to an end: a formula that evaluates. By an AI agent. -/
import Derived.Test.YtcofcojjofkgcaaAbsY
namespace Go.Proofs.Ytcofcojjofkgcaa.Abs
open Go Go.RowKit
set_option linter.unusedVariables false
def obl : OP → Prop → Prop
  | none, K => K
  | some p, K => p ∧ K
theorem obl_got {α : Type} {ob : OP} {K : Prop} (h : obl ob K) (x : α) : got (some (ob, x)) = some x ∧ K := by
  cases ob with
  | none => exact ⟨rfl, h⟩
  | some p => exact ⟨need_ok (show OP.ok (some p) from h.1) _, h.2⟩
def obl3 {α β : Type} (r : Option (OP × α × β)) (K : α → β → Prop) : Prop := match r with | some (ob, a, b) => obl ob (K a b) | none => False
theorem obl3_got {α β : Type} {r : Option (OP × α × β)} {K : α → β → Prop} (h : obl3 r K) : ∃ a b, got r = some (a, b) ∧ K a b := by
  unfold obl3 at h
  split at h
  · obtain ⟨h1, h2⟩ := obl_got h _
    exact ⟨_, _, h1, h2⟩
  · exact h.elim
section
variable (P : Program) (RO : PT AObj)
noncomputable def doLightW (st : St) (K : AVal → St → Prop) : LRes → Prop
  | .pure v => K v st
  | .peek v => K v st
  | .read b k => (match rd RO st b with | some o => (match k o with | some (ob, v) => obl ob (K v st) | none => False) | none => False)
  | .new o k => K (k st.next) { heap := st.heap.set st.next (some o), next := Nat.succ st.next, log := st.log }
  | .touch b v => (match st.heap.get b with | some (.cells _ _) => K v st | _ => False)
variable (callW : Who → List AVal → St → (AVal → St → Prop) → Prop)
noncomputable def doHeavyW (st : St) (K : AVal → St → Prop) : Heavy → Prop
  | .store t (b, o) v => (match sizeA P t with
    | some n => bif Nat.beq (lenL v.cells 0) n then (match storeP st b o v.cells with | some (ob, s) => obl ob (K .undef s) | none => False) else False
    | none => False)
  | .enter f args => callW f args st K
  | .append e s x => obl3 (appendP P RO st e s x) K
  | .copy e d x => obl3 (copyP P RO st e d x) K
  | .clear e s => obl3 (clearP P st e s) K
  | .mapPut t r k v => obl3 (mapPutP P st t r k v) K
  | .mapDel t r k => obl3 (mapDelP P st t r k) K
  | .storeT t b i wd c v => (match sizeA P t with
    | some n => bif Nat.beq (lenL v.cells 0) n then obl3 (storeT st b i wd c v.cells) K else False
    | none => False)
/-- the bools that have been decided, by their slots -/
abbrev Kn := List (Nat × Bool)
def look : Kn → Nat → Option Bool
  | [], _ => none
  | (d, v) :: r, t => bif Nat.beq d t then some v else look r t
def strike (d : Option Tmp) (kn : Kn) : Kn := match d with
  | none => kn
  | some d => go d kn
where go (d : Nat) : Kn → Kn
  | [] => []
  | (x, v) :: r => bif Nat.beq x d then go d r else (x, v) :: go d r
noncomputable def putW (n : Nat) (τ : PT AVal) (d : Option Tmp) (v : AVal) (K : PT AVal → Prop) : Prop :=
  match putA n τ d v with
  | some τ' => K τ'
  | none => False
/-- a choice by what is known by a term alone -/
noncomputable def pickW (τ : PT AVal) (kn : Kn) (op : Op) : Option (Bool × Nat × Operand × Operand) :=
  match op with
  | .pick (.tmp t) a b => (match τ.get t with | some (.sbool cb) => some (cb, t, a, b) | _ => none)
  | _ => none
noncomputable def valW (τ : PT AVal) (x : Operand) (K : AVal → Prop) : Prop := match evA RO τ x with | some v => K v | none => False
noncomputable def effLW (m base n i : Nat) (d : DSt) (K : AVal → Option AObj → Prop) : LRes → Prop
  | .pure v => K v none
  | .peek v => K v none
  | .read b k => bif stableH m b d.hl && ownB m base n b then (match rd RO d.st b with | some o => (match k o with | some (ob, v) => obl ob (K v none) | none => False) | none => False) else False
  | .touch b v => bif stableH m b d.hl && ownB m base n b then (match d.st.heap.get b with | some (.cells _ _) => K v none | _ => False) else False
  | .new o k => match d.st.heap.get (Nat.add base i) with
    | none => K (k (Nat.add base i)) (some o)
    | some _ => False
end
section
variable (P : Program) (RO : PT AObj) (hookP : FuncId → Option (List AVal → St → Option (OP × AVal × St)))
/-- a hook that has conditions -/
noncomputable def hookG (g : FuncId) : Option (List AVal → St → Option (AVal × St)) := match hookP g with | some h => some fun args st => got (h args st) | none => none
noncomputable def endW (fn : Func) (r : Res) (K : AVal → St → Prop) : Prop :=
  match r.ex with
  | .exit _ => False
  | .normal => (match leaveA P r.fr.marks r.st with | some s => (match resultA P RO fn r.τ s with | some v => K v s | none => False) | none => False)
  | .ret => (match leaveA P r.fr.marks r.st with | some s => (match resultA P RO fn r.τ s with | some v => K v s | none => False) | none => False)
noncomputable def callW (rec : Code → Nat → Fr → PT AVal → St → (Res → Prop) → Prop) (g : FuncId) (args : List AVal) (s : St) (K : AVal → St → Prop) : Prop :=
  match hookP g with
  | some h => obl3 (h args s) K
  | none => match P.funcs[g]? with
    | some fn => (match fn.body with
      | some body => rec body (bif Nat.ble (lenL args 0) fn.ntmps then fn.ntmps else lenL args 0) ⟨none, []⟩ (argsT args 0 .leaf) s fun r => endW P RO fn r K
      | none => False)
    | none => False
noncomputable def condW (τ : PT AVal) (x : Operand) (A B : Prop) : Prop :=
  match evA RO τ x with
  | some (.bool b) => (match b with | true => A | false => B)
  | some (.sbool b) => (b = true → A) ∧ (b = false → B)
  | _ => False
def thenW (k : Res → Prop) (K : Res → Prop) (r : Res) : Prop :=
  match r.ex with
  | .normal => k r
  | .exit j => K ⟨.exit j, r.τ, r.st, r.fr⟩
  | .ret => K ⟨.ret, r.τ, r.st, r.fr⟩
def blockW (id : Nat) (K : Res → Prop) (r : Res) : Prop :=
  match r.ex with
  | .exit j => bif Nat.beq j id then K ⟨.normal, r.τ, r.st, r.fr⟩ else K ⟨.exit j, r.τ, r.st, r.fr⟩
  | .normal => K ⟨.normal, r.τ, r.st, r.fr⟩
  | .ret => K ⟨.ret, r.τ, r.st, r.fr⟩
end
/-! the formula tells the interpreter's outcome -/
section
variable {P : Program} {RO : PT AObj}
theorem doLightW_ok {st : St} {r : LRes} {K : AVal → St → Prop} (h : doLightW RO st K r) : ∃ v st', doLight RO st r = some (v, st') ∧ K v st' := by
  cases r with
  | pure v => exact ⟨v, st, rfl, h⟩
  | peek v => exact ⟨v, st, rfl, h⟩
  | read b k =>
    simp only [doLightW] at h
    split at h
    · rename_i o ho
      split at h
      · rename_i ob v hv
        obtain ⟨h1, h2⟩ := obl_got h v
        exact ⟨v, st, by simp only [doLight, ho, hv, h1], h2⟩
      · exact h.elim
    · exact h.elim
  | new o k => exact ⟨_, _, rfl, h⟩
  | touch b v =>
    simp only [doLightW] at h
    split at h
    · rename_i hb
      exact ⟨v, st, by simp only [doLight, hb], h⟩
    · exact h.elim
/-- what a call's formula tells -/
def CallW (callW : Who → List AVal → St → (AVal → St → Prop) → Prop) (call : Who → List AVal → St → Option (AVal × St)) : Prop := ∀ who args st K, callW who args st K → ∃ v st', call who args st = some (v, st') ∧ K v st'
variable {callW : Who → List AVal → St → (AVal → St → Prop) → Prop} {call : Who → List AVal → St → Option (AVal × St)}
theorem doHeavyW_ok (hc : CallW callW call) {st : St} {h : Heavy} {K : AVal → St → Prop} (hh : doHeavyW P RO callW st K h) : ∃ v st', doHeavy P RO call st h = some (v, st') ∧ K v st' := by
  cases h with
  | store t a v =>
    obtain ⟨b, o⟩ := a
    simp only [doHeavyW] at hh
    split at hh
    · rename_i n hn
      cases hb : Nat.beq (lenL v.cells 0) n with
      | false => rw [hb] at hh; exact hh.elim
      | true =>
        rw [hb] at hh
        simp only [cond_true] at hh
        split at hh
        · rename_i ob s hs
          obtain ⟨h1, h2⟩ := obl_got hh s
          exact ⟨.undef, s, by simp only [doHeavy, hn, hb, cond_true, storeA, hs, h1, Option.map_some], h2⟩
        · exact hh.elim
    · exact hh.elim
  | enter f args => exact hc _ _ _ _ hh
  | append e s x =>
    obtain ⟨v, s, h1, h2⟩ := obl3_got hh
    exact ⟨v, s, h1, h2⟩
  | copy e d x =>
    obtain ⟨v, s, h1, h2⟩ := obl3_got hh
    exact ⟨v, s, h1, h2⟩
  | clear e s =>
    obtain ⟨v, s, h1, h2⟩ := obl3_got hh
    exact ⟨v, s, h1, h2⟩
  | mapPut t r k v =>
    obtain ⟨v, s, h1, h2⟩ := obl3_got hh
    exact ⟨v, s, h1, h2⟩
  | mapDel t r k =>
    obtain ⟨v, s, h1, h2⟩ := obl3_got hh
    exact ⟨v, s, h1, h2⟩
  | storeT t b i wd c v =>
    simp only [doHeavyW] at hh
    split at hh
    · rename_i n hn
      cases hb : Nat.beq (lenL v.cells 0) n with
      | false => rw [hb] at hh; exact hh.elim
      | true =>
        rw [hb] at hh
        simp only [cond_true] at hh
        obtain ⟨v1, s, h1, h2⟩ := obl3_got hh
        exact ⟨v1, s, by simp only [doHeavy, hn, hb, cond_true, h1], h2⟩
    · exact hh.elim
theorem putW_ok {n : Nat} {τ : PT AVal} {d : Option Tmp} {v : AVal} {K : PT AVal → Prop} (h : putW n τ d v K) : ∃ τ', putA n τ d v = some τ' ∧ K τ' := by
  unfold putW at h
  split at h
  · exact ⟨_, ‹_›, h⟩
  · exact h.elim
/-- what has been decided is so -/
def KnOk (kn : Kn) (τ : PT AVal) : Prop := ∀ d v, look kn d = some v → τ.get d = some (.sbool v)
theorem KnOk.nil (τ : PT AVal) : KnOk [] τ := fun d v h => by cases h
theorem KnOk.cons {kn : Kn} {τ : PT AVal} (h : KnOk kn τ) {d : Nat} {v : Bool} (hd : τ.get d = some (.sbool v)) : KnOk ((d, v) :: kn) τ := fun x u hx => by
  simp only [look] at hx
  cases hb : Nat.beq d x with
  | true => rw [hb] at hx; cases hx; rw [← Nat.eq_of_beq_eq_true hb]; exact hd
  | false => rw [hb] at hx; exact h x u hx
theorem look_go {d x : Nat} {v : Bool} : ∀ {kn : Kn}, look (strike.go d kn) x = some v → look kn x = some v ∧ x ≠ d
  | [], h => by cases h
  | (y, u) :: r, h => by
    simp only [strike.go] at h
    cases hb : Nat.beq y d with
    | true =>
      rw [hb] at h
      obtain ⟨h1, h2⟩ := look_go h
      refine ⟨?_, h2⟩
      simp only [look]
      cases hx : Nat.beq y x with
      | true => exact absurd ((Nat.eq_of_beq_eq_true hx).symm.trans (Nat.eq_of_beq_eq_true hb)) h2
      | false => exact h1
    | false =>
      rw [hb] at h
      simp only [cond_false, look] at h ⊢
      cases hx : Nat.beq y x with
      | true =>
        rw [hx] at h
        refine ⟨h, fun he => ?_⟩
        rw [Nat.eq_of_beq_eq_true hx, he, Nat.beq_refl] at hb; cases hb
      | false => rw [hx] at h; exact look_go h
theorem KnOk.put {kn : Kn} {τ τ' : PT AVal} (h : KnOk kn τ) {n : Nat} {d : Option Tmp} {v : AVal} (hp : putA n τ d v = some τ') : KnOk (strike d kn) τ' := fun x u hx => by
  rw [putA_get hp]
  cases d with
  | none => rw [if_neg (by simp)]; exact h x u hx
  | some d =>
    obtain ⟨h1, h2⟩ := look_go hx
    rw [if_neg (fun e => h2 (Option.some.inj e).symm)]
    exact h x u h1
theorem pickW_ok {τ : PT AVal} {kn : Kn} {op : Op} {q : Bool × Nat × Operand × Operand} (h : pickW τ kn op = some q) : op = .pick (.tmp q.2.1) q.2.2.1 q.2.2.2 ∧ τ.get q.2.1 = some (.sbool q.1) := by
  unfold pickW at h
  split at h
  · split at h
    · cases h; exact ⟨rfl, ‹_›⟩
    · cases h
  · cases h
theorem effLW_ok {m base n i : Nat} {d : DSt} {r : LRes} {K : AVal → Option AObj → Prop} (h : effLW RO m base n i d K r) : ∃ v oo, effL RO m base n i d r = some (v, oo) ∧ K v oo := by
  cases r with
  | pure v => exact ⟨v, none, rfl, h⟩
  | peek v => exact ⟨v, none, rfl, h⟩
  | read b k =>
    simp only [effLW] at h
    cases hcnd : (stableH m b d.hl && ownB m base n b) with
    | false => rw [hcnd] at h; exact h.elim
    | true =>
      rw [hcnd] at h
      simp only [cond_true] at h
      split at h
      · rename_i o ho
        split at h
        · rename_i ob v hv
          obtain ⟨h1, h2⟩ := obl_got h v
          exact ⟨v, none, by simp only [effL, hcnd, cond_true, ho, hv, h1], h2⟩
        · exact h.elim
      · exact h.elim
  | touch b v =>
    simp only [effLW] at h
    cases hcnd : (stableH m b d.hl && ownB m base n b) with
    | false => rw [hcnd] at h; exact h.elim
    | true =>
      rw [hcnd] at h
      simp only [cond_true] at h
      split at h
      · rename_i hb; exact ⟨v, none, by simp only [effL, hcnd, cond_true, hb], h⟩
      · exact h.elim
  | new o k =>
    simp only [effLW] at h
    split at h
    · rename_i hb; exact ⟨_, _, by simp only [effL, hb], h⟩
    · exact h.elim
end
section
variable {P : Program} {RO : PT AObj} {hookP : FuncId → Option (List AVal → St → Option (OP × AVal × St))} {recW : Code → Nat → Fr → PT AVal → St → (Res → Prop) → Prop} {rec : Code → Nat → Fr → PT AVal → St → Option Res}
theorem endW_ok {fn : Func} {r : Res} {K : AVal → St → Prop} (h : endW P RO fn r K) : ∃ v s, endF P RO fn (some r) = some (v, s) ∧ K v s := by
  unfold endW at h
  unfold endF
  split at h
  · exact h.elim
  all_goals
    rename_i hx
    simp only [hx]
    split at h
    · rename_i s hs
      simp only [hs]
      split at h
      · rename_i v hv
        simp only [hv]
        exact ⟨_, _, rfl, h⟩
      · exact h.elim
    · exact h.elim
end
end Go.Proofs.Ytcofcojjofkgcaa.Abs
