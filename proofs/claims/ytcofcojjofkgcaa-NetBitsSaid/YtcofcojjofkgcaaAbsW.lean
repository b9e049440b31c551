/- The interpreter as what must be so for it to come to an end: a formula that evaluates. By an AI agent. -/
import Derived.Test.YtcofcojjofkgcaaAbsY
namespace Go.Proofs.Ytcofcojjofkgcaa.Abs
open Go Go.RowKit
set_option linter.unusedVariables false
def obl : OP → Prop → Prop
  | none, K => K
  | some p, K => p ∧ K
theorem obl_got {α : Type} {ob : OP} {K : Prop} (h : obl ob K) (x : α) : got (some (ob, x)) = some x ∧ K := by
  cases ob with
  | none => exact ⟨rfl, h⟩
  | some p => exact ⟨need_ok (show OP.ok (some p) from h.1) _, h.2⟩
def obl3 {α β : Type} (r : Option (OP × α × β)) (K : α → β → Prop) : Prop := match r with | some (ob, a, b) => obl ob (K a b) | none => False
theorem obl3_got {α β : Type} {r : Option (OP × α × β)} {K : α → β → Prop} (h : obl3 r K) : ∃ a b, got r = some (a, b) ∧ K a b := by
  unfold obl3 at h
  split at h
  · obtain ⟨h1, h2⟩ := obl_got h _
    exact ⟨_, _, h1, h2⟩
  · exact h.elim
section
variable (P : Program) (RO : PT AObj)
noncomputable def doLightW (st : St) (K : AVal → St → Prop) : LRes → Prop
  | .pure v => K v st
  | .peek v => K v st
  | .read b k => (match rd RO st b with | some o => (match k o with | some (ob, v) => obl ob (K v st) | none => False) | none => False)
  | .new o k => K (k st.next) { heap := st.heap.set st.next (some o), next := Nat.succ st.next, log := st.log }
  | .touch b v => (match st.heap.get b with | some (.cells _ _) => K v st | _ => False)
variable (callW : Who → List AVal → St → (AVal → St → Prop) → Prop)
noncomputable def doHeavyW (st : St) (K : AVal → St → Prop) : Heavy → Prop
  | .store t (b, o) v => (match sizeA P t with
    | some n => bif Nat.beq (lenL v.cells 0) n then (match storeP st b o v.cells with | some (ob, s) => obl ob (K .undef s) | none => False) else False
    | none => False)
  | .enter f args => callW f args st K
  | .append e s x => obl3 (appendP P RO st e s x) K
  | .copy e d x => obl3 (copyP P RO st e d x) K
  | .clear e s => obl3 (clearP P st e s) K
  | .mapPut t r k v => obl3 (mapPutP P st t r k v) K
  | .mapDel t r k => obl3 (mapDelP P st t r k) K
  | .storeT t b i wd c v => (match sizeA P t with
    | some n => bif Nat.beq (lenL v.cells 0) n then obl3 (storeT st b i wd c v.cells) K else False
    | none => False)
noncomputable def opW (τ : PT AVal) (st : St) (op : Op) (K : AVal → St → Prop) : Prop :=
  match lightP P (evA RO τ) op with
  | some (ob, r) => obl ob (doLightW RO st K r)
  | none => (match heavy P (evA RO τ) op with
    | some h => doHeavyW P RO callW st K h
    | none => False)
/-- the bools that have been decided, by their slots -/
abbrev Kn := List (Nat × Bool)
def look : Kn → Nat → Option Bool
  | [], _ => none
  | (d, v) :: r, t => bif Nat.beq d t then some v else look r t
def strike (d : Option Tmp) (kn : Kn) : Kn := match d with
  | none => kn
  | some d => go d kn
where go (d : Nat) : Kn → Kn
  | [] => []
  | (x, v) :: r => bif Nat.beq x d then go d r else (x, v) :: go d r
noncomputable def putW (n : Nat) (τ : PT AVal) (d : Option Tmp) (v : AVal) (K : PT AVal → Prop) : Prop :=
  match putA n τ d v with
  | some τ' => K τ'
  | none => False
/-- is an operation wanted? -/
noncomputable def wantedW (ops : List Oper) (τ : PT AVal) (kn : Kn) (o : Oper) (K : Bool → Kn → Prop) : Prop :=
  match o.guard with
  | none => K true kn
  | some (j, want) => (match nth ops j with
    | some oj => (match oj.dst with
      | some d => (match τ.get d with
        | some (.bool b) => K (b == want) kn
        | some (.sbool b) => (match look kn d with
          | some v => K (v == want) kn
          | none => (b = true → K (true == want) ((d, true) :: kn)) ∧ (b = false → K (false == want) ((d, false) :: kn)))
        | some (.tuple []) => K false kn
        | _ => False)
      | none => False)
    | none => False)
/-- a choice by what is known by a term alone -/
noncomputable def pickW (τ : PT AVal) (kn : Kn) (op : Op) : Option (Bool × Nat × Operand × Operand) :=
  match op with
  | .pick (.tmp t) a b => (match τ.get t with | some (.sbool cb) => some (cb, t, a, b) | _ => none)
  | _ => none
noncomputable def valW (τ : PT AVal) (x : Operand) (K : AVal → Prop) : Prop := match evA RO τ x with | some v => K v | none => False
noncomputable def chooseW (τ : PT AVal) (kn : Kn) (K : AVal → Kn → Prop) : Bool × Nat × Operand × Operand → Prop
  | (cb, t, a, b) => match look kn t with
    | some true => valW RO τ a fun v => K v kn
    | some false => valW RO τ b fun v => K v kn
    | none => (cb = true → valW RO τ a fun v => K v ((t, true) :: kn)) ∧ (cb = false → valW RO τ b fun v => K v ((t, false) :: kn))
noncomputable def opsW (all : List Oper) (n : Nat) : List Oper → PT AVal → St → Kn → (PT AVal → St → Prop) → Prop
  | [], τ, st, kn, K => K τ st
  | o :: os, τ, st, kn, K => wantedW all τ kn o fun w kn => match w with
      | true => (match pickW τ kn o.op with
        | some q => chooseW RO τ kn (fun v kn => putW n τ o.dst v fun τ' => opsW all n os τ' st (strike o.dst kn) K) q
        | none => opW P RO callW τ st o.op fun v st' => putW n τ o.dst v fun τ' => opsW all n os τ' st' (strike o.dst kn) K)
      | false => putW n τ o.dst .undef fun τ' => opsW all n os τ' st (strike o.dst kn) K
noncomputable def effLW (m base n i : Nat) (d : DSt) (K : AVal → Option AObj → Prop) : LRes → Prop
  | .pure v => K v none
  | .peek v => K v none
  | .read b k => bif stableH m b d.hl && ownB m base n b then (match rd RO d.st b with | some o => (match k o with | some (ob, v) => obl ob (K v none) | none => False) | none => False) else False
  | .touch b v => bif stableH m b d.hl && ownB m base n b then (match d.st.heap.get b with | some (.cells _ _) => K v none | _ => False) else False
  | .new o k => match d.st.heap.get (Nat.add base i) with
    | none => K (k (Nat.add base i)) (some o)
    | some _ => False
noncomputable def drawW1 (all : List Oper) (ms : List Nat) (base n nt i : Nat) (d : DSt) (kn : Kn) (K : DSt → Kn → Prop) : Prop :=
  match nth all i with
  | some o => bif isHeavy o.op then
      wantedW all d.τ kn o fun w kn => (match w with
        | true => (match heavy P (evA RO d.τ) o.op with
          | some h => doHeavyW P RO callW ⟨d.st.heap, d.st.next, []⟩ (fun v st' => bif ownL (maskAt ms i) base n st'.log then putW nt d.τ o.dst v fun τ' => K ⟨τ', ⟨st'.heap, st'.next, st'.log ++ d.st.log⟩, (i, d.st.next, st'.log) :: d.hl⟩ (strike o.dst kn) else False) h
          | none => False)
        | false => putW nt d.τ o.dst .undef fun τ' => K ⟨τ', d.st, d.hl⟩ (strike o.dst kn))
    else
      wantedW all d.τ kn o fun w kn => (match w with
        | true => (match pickW d.τ kn o.op with
          | some q => chooseW RO d.τ kn (fun v kn => putW nt d.τ o.dst v fun τ' => K ⟨τ', ⟨setO d.st.heap (Nat.add base i) none, d.st.next, d.st.log⟩, d.hl⟩ (strike o.dst kn)) q
          | none => (match lightP P (evA RO d.τ) o.op with
            | some (ob, r) => obl ob (effLW RO (maskAt ms i) base n i d (fun v oo => putW nt d.τ o.dst v fun τ' => K ⟨τ', ⟨setO d.st.heap (Nat.add base i) oo, d.st.next, d.st.log⟩, d.hl⟩ (strike o.dst kn)) r)
            | none => False))
        | false => putW nt d.τ o.dst .undef fun τ' => K ⟨τ', ⟨setO d.st.heap (Nat.add base i) none, d.st.next, d.st.log⟩, d.hl⟩ (strike o.dst kn))
  | none => False
noncomputable def drawGoW (all : List Oper) (ms : List Nat) (base n nt : Nat) : List Nat → DSt → Kn → (DSt → Prop) → Prop
  | [], d, kn, K => K d
  | i :: σ, d, kn, K => drawW1 P RO callW all ms base n nt i d kn fun d' kn => drawGoW all ms base n nt σ d' kn K
noncomputable def drawW (all : List Oper) (nt : Nat) (τ : PT AVal) (st : St) (K : PT AVal → St → Prop) : Prop :=
  match plan all with
  | some (σ, ms) => drawGoW P RO callW all ms st.next (lenL all 0) nt σ ⟨τ, ⟨st.heap, Nat.succ (Nat.add st.next (lenL all 0)), st.log⟩, []⟩ [] fun d => K d.τ d.st
  | none => False
end
section
variable (P : Program) (RO : PT AObj) (hookP : FuncId → Option (List AVal → St → Option (OP × AVal × St)))
/-- a hook that has conditions -/
noncomputable def hookG (g : FuncId) : Option (List AVal → St → Option (AVal × St)) := match hookP g with | some h => some fun args st => got (h args st) | none => none
noncomputable def endW (fn : Func) (r : Res) (K : AVal → St → Prop) : Prop :=
  match r.ex with
  | .exit _ => False
  | .normal => (match leaveA P r.fr.marks r.st with | some s => (match resultA P RO fn r.τ s with | some v => K v s | none => False) | none => False)
  | .ret => (match leaveA P r.fr.marks r.st with | some s => (match resultA P RO fn r.τ s with | some v => K v s | none => False) | none => False)
noncomputable def callW (rec : Code → Nat → Fr → PT AVal → St → (Res → Prop) → Prop) (g : FuncId) (args : List AVal) (s : St) (K : AVal → St → Prop) : Prop :=
  match hookP g with
  | some h => obl3 (h args s) K
  | none => match P.funcs[g]? with
    | some fn => (match fn.body with
      | some body => rec body (bif Nat.ble (lenL args 0) fn.ntmps then fn.ntmps else lenL args 0) ⟨none, []⟩ (argsT args 0 .leaf) s fun r => endW P RO fn r K
      | none => False)
    | none => False
noncomputable def yieldW (rec : Code → Nat → Fr → PT AVal → St → (Res → Prop) → Prop) (x : Nat) (args : List AVal) (st : St) (K : AVal → St → Prop) : Prop :=
  match st.heap.get x with
  | some (.loop _ _ τ n ps assign bo) => (match putPs n ps args τ with
    | some τ1 => rec assign n ⟨some x, []⟩ τ1 st fun r => (match r.ex with
      | .normal => (match r.st.heap.get x with
        | some (.loop .ready j τ n0 ps assign body) => rec bo n r.fr r.τ (markL x .busy j τ n0 ps assign body r.st) fun r => (match r.st.heap.get x with
          | some (.loop .busy _ τ n ps assign body) => K (.bool (isNormal r.ex)) (markL x (bif isNormal r.ex then .ready else .done) (jumpOf r.ex) τ n ps assign body r.st)
          | _ => False)
        | _ => False)
      | .exit _ => False
      | .ret => False)
    | none => False)
  | _ => False
noncomputable def whoW (rec : Code → Nat → Fr → PT AVal → St → (Res → Prop) → Prop) : Who → List AVal → St → (AVal → St → Prop) → Prop
  | .fn g => callW P RO hookP rec g
  | .yield x => yieldW rec x
noncomputable def rangeW (rec : Code → Nat → Fr → PT AVal → St → (Res → Prop) → Prop) (τ : PT AVal) (f : FuncId) (first captured : List AVal) (K : Res → Prop) : Option (Nat × Fr × St) → Prop
  | some (x, fr, st) => callW P RO hookP rec f (first ++ .yield x :: captured) st fun _ st => (match st.heap.get x with
    | some (.loop s j τ0 n ps assign body) => (match s with
      | .busy => False
      | .ready => K ⟨exJ j, τ, markL x .exhausted j τ0 n ps assign body st, fr⟩
      | .done => K ⟨exJ j, τ, markL x .exhausted j τ0 n ps assign body st, fr⟩
      | .exhausted => False)
    | _ => False)
  | none => False
noncomputable def condW (τ : PT AVal) (x : Operand) (A B : Prop) : Prop :=
  match evA RO τ x with
  | some (.bool b) => (match b with | true => A | false => B)
  | some (.sbool b) => (b = true → A) ∧ (b = false → B)
  | _ => False
def thenW (k : Res → Prop) (K : Res → Prop) (r : Res) : Prop :=
  match r.ex with
  | .normal => k r
  | .exit j => K ⟨.exit j, r.τ, r.st, r.fr⟩
  | .ret => K ⟨.ret, r.τ, r.st, r.fr⟩
def blockW (id : Nat) (K : Res → Prop) (r : Res) : Prop :=
  match r.ex with
  | .exit j => bif Nat.beq j id then K ⟨.normal, r.τ, r.st, r.fr⟩ else K ⟨.exit j, r.τ, r.st, r.fr⟩
  | .normal => K ⟨.normal, r.τ, r.st, r.fr⟩
  | .ret => K ⟨.ret, r.τ, r.st, r.fr⟩
noncomputable def regionW (rec : Code → Nat → Fr → PT AVal → St → (Res → Prop) → Prop) (ops : Array Oper) (draws : Bool) (n : Nat) (fr : Fr) (τ : PT AVal) (st : St) (K : Res → Prop) : Prop :=
  bif draws then drawW P RO (whoW P RO hookP rec) ops.toList n τ st fun τ' st' => K ⟨.normal, τ', st', fr⟩ else opsW P RO (whoW P RO hookP rec) ops.toList n ops.toList τ st [] fun τ' st' => K ⟨.normal, τ', st', fr⟩
noncomputable def stepW (rec : Code → Nat → Fr → PT AVal → St → (Res → Prop) → Prop) (c : Code) (n : Nat) (fr : Fr) (τ : PT AVal) (st : St) (K : Res → Prop) : Prop :=
  match c with
  | .skip | .label _ => K ⟨.normal, τ, st, fr⟩
  | .region _ ops draws => (match deferOf fr ops.toList draws with
    | some f => K ⟨.normal, τ, st, ⟨none, .fn f :: fr.marks⟩⟩
    | none => regionW P RO hookP rec ops draws n fr τ st K)
  | .seq a b => rec a n fr τ st (thenW (fun r => rec b n r.fr r.τ r.st K) K)
  | .cond x a b => condW RO τ x (rec a n fr τ st K) (rec b n fr τ st K)
  | .block id a => rec a n fr τ st (blockW id K)
  | .loop a => rec a n fr τ st (thenW (fun r => rec (.loop a) n r.fr r.τ r.st K) K)
  | .exit id => K ⟨.exit id, τ, st, fr⟩
  | .ret => K ⟨.ret, τ, st, fr⟩
  | .rangeFunc g ps assign body => (match evA RO τ g with
    | some (.func f first captured) => rangeW P RO hookP rec τ f first captured K (enterA n τ ps.toList assign body fr st)
    | _ => False)
  | _ => False
noncomputable def execW (f : Nat) : Code → Nat → Fr → PT AVal → St → (Res → Prop) → Prop :=
  Nat.rec (motive := fun _ => Code → Nat → Fr → PT AVal → St → (Res → Prop) → Prop) (fun _ _ _ _ _ _ => False) (fun _ ih => stepW P RO hookP ih) f
end
/-! the formula tells the interpreter's outcome -/
section
variable {P : Program} {RO : PT AObj}
theorem doLightW_ok {st : St} {r : LRes} {K : AVal → St → Prop} (h : doLightW RO st K r) : ∃ v st', doLight RO st r = some (v, st') ∧ K v st' := by
  cases r with
  | pure v => exact ⟨v, st, rfl, h⟩
  | peek v => exact ⟨v, st, rfl, h⟩
  | read b k =>
    simp only [doLightW] at h
    split at h
    · rename_i o ho
      split at h
      · rename_i ob v hv
        obtain ⟨h1, h2⟩ := obl_got h v
        exact ⟨v, st, by simp only [doLight, ho, hv, h1], h2⟩
      · exact h.elim
    · exact h.elim
  | new o k => exact ⟨_, _, rfl, h⟩
  | touch b v =>
    simp only [doLightW] at h
    split at h
    · rename_i hb
      exact ⟨v, st, by simp only [doLight, hb], h⟩
    · exact h.elim
/-- what a call's formula tells -/
def CallW (callW : Who → List AVal → St → (AVal → St → Prop) → Prop) (call : Who → List AVal → St → Option (AVal × St)) : Prop := ∀ who args st K, callW who args st K → ∃ v st', call who args st = some (v, st') ∧ K v st'
variable {callW : Who → List AVal → St → (AVal → St → Prop) → Prop} {call : Who → List AVal → St → Option (AVal × St)}
theorem doHeavyW_ok (hc : CallW callW call) {st : St} {h : Heavy} {K : AVal → St → Prop} (hh : doHeavyW P RO callW st K h) : ∃ v st', doHeavy P RO call st h = some (v, st') ∧ K v st' := by
  cases h with
  | store t a v =>
    obtain ⟨b, o⟩ := a
    simp only [doHeavyW] at hh
    split at hh
    · rename_i n hn
      cases hb : Nat.beq (lenL v.cells 0) n with
      | false => rw [hb] at hh; exact hh.elim
      | true =>
        rw [hb] at hh
        simp only [cond_true] at hh
        split at hh
        · rename_i ob s hs
          obtain ⟨h1, h2⟩ := obl_got hh s
          exact ⟨.undef, s, by simp only [doHeavy, hn, hb, cond_true, storeA, hs, h1, Option.map_some], h2⟩
        · exact hh.elim
    · exact hh.elim
  | enter f args => exact hc _ _ _ _ hh
  | append e s x =>
    obtain ⟨v, s, h1, h2⟩ := obl3_got hh
    exact ⟨v, s, h1, h2⟩
  | copy e d x =>
    obtain ⟨v, s, h1, h2⟩ := obl3_got hh
    exact ⟨v, s, h1, h2⟩
  | clear e s =>
    obtain ⟨v, s, h1, h2⟩ := obl3_got hh
    exact ⟨v, s, h1, h2⟩
  | mapPut t r k v =>
    obtain ⟨v, s, h1, h2⟩ := obl3_got hh
    exact ⟨v, s, h1, h2⟩
  | mapDel t r k =>
    obtain ⟨v, s, h1, h2⟩ := obl3_got hh
    exact ⟨v, s, h1, h2⟩
  | storeT t b i wd c v =>
    simp only [doHeavyW] at hh
    split at hh
    · rename_i n hn
      cases hb : Nat.beq (lenL v.cells 0) n with
      | false => rw [hb] at hh; exact hh.elim
      | true =>
        rw [hb] at hh
        simp only [cond_true] at hh
        obtain ⟨v1, s, h1, h2⟩ := obl3_got hh
        exact ⟨v1, s, by simp only [doHeavy, hn, hb, cond_true, h1], h2⟩
    · exact hh.elim
theorem opW_ok (hc : CallW callW call) {τ : PT AVal} {st : St} {op : Op} {K : AVal → St → Prop} (h : opW P RO callW τ st op K) : ∃ v st', runOp P RO call τ st op = some (v, st') ∧ K v st' := by
  unfold opW at h
  split at h
  · rename_i ob r hr
    obtain ⟨h1, h2⟩ := obl_got h r
    obtain ⟨v, st', h3, h4⟩ := doLightW_ok h2
    refine ⟨v, st', ?_, h4⟩
    unfold runOp light
    rw [hr, h1]
    exact h3
  · rename_i hl
    split at h
    · rename_i hv hh
      obtain ⟨v, st', h3, h4⟩ := doHeavyW_ok hc h
      refine ⟨v, st', ?_, h4⟩
      unfold runOp light
      rw [hl]
      show (match heavy P (evA RO τ) op with | some h => doHeavy P RO call st h | none => none) = _
      rw [hh]
      exact h3
    · exact h.elim
theorem putW_ok {n : Nat} {τ : PT AVal} {d : Option Tmp} {v : AVal} {K : PT AVal → Prop} (h : putW n τ d v K) : ∃ τ', putA n τ d v = some τ' ∧ K τ' := by
  unfold putW at h
  split at h
  · exact ⟨_, ‹_›, h⟩
  · exact h.elim
/-- what has been decided is so -/
def KnOk (kn : Kn) (τ : PT AVal) : Prop := ∀ d v, look kn d = some v → τ.get d = some (.sbool v)
theorem KnOk.nil (τ : PT AVal) : KnOk [] τ := fun d v h => by cases h
theorem KnOk.cons {kn : Kn} {τ : PT AVal} (h : KnOk kn τ) {d : Nat} {v : Bool} (hd : τ.get d = some (.sbool v)) : KnOk ((d, v) :: kn) τ := fun x u hx => by
  simp only [look] at hx
  cases hb : Nat.beq d x with
  | true => rw [hb] at hx; cases hx; rw [← Nat.eq_of_beq_eq_true hb]; exact hd
  | false => rw [hb] at hx; exact h x u hx
theorem look_go {d x : Nat} {v : Bool} : ∀ {kn : Kn}, look (strike.go d kn) x = some v → look kn x = some v ∧ x ≠ d
  | [], h => by cases h
  | (y, u) :: r, h => by
    simp only [strike.go] at h
    cases hb : Nat.beq y d with
    | true =>
      rw [hb] at h
      obtain ⟨h1, h2⟩ := look_go h
      refine ⟨?_, h2⟩
      simp only [look]
      cases hx : Nat.beq y x with
      | true => exact absurd ((Nat.eq_of_beq_eq_true hx).symm.trans (Nat.eq_of_beq_eq_true hb)) h2
      | false => exact h1
    | false =>
      rw [hb] at h
      simp only [cond_false, look] at h ⊢
      cases hx : Nat.beq y x with
      | true =>
        rw [hx] at h
        refine ⟨h, fun he => ?_⟩
        rw [Nat.eq_of_beq_eq_true hx, he, Nat.beq_refl] at hb; cases hb
      | false => rw [hx] at h; exact look_go h
theorem KnOk.put {kn : Kn} {τ τ' : PT AVal} (h : KnOk kn τ) {n : Nat} {d : Option Tmp} {v : AVal} (hp : putA n τ d v = some τ') : KnOk (strike d kn) τ' := fun x u hx => by
  rw [putA_get hp]
  cases d with
  | none => rw [if_neg (by simp)]; exact h x u hx
  | some d =>
    obtain ⟨h1, h2⟩ := look_go hx
    rw [if_neg (fun e => h2 (Option.some.inj e).symm)]
    exact h x u h1
theorem wantedW_ok {ops : List Oper} {τ : PT AVal} {kn : Kn} {o : Oper} {K : Bool → Kn → Prop} (hk : KnOk kn τ) (h : wantedW ops τ kn o K) : ∃ b kn', wantedA ops τ o = some b ∧ KnOk kn' τ ∧ K b kn' := by
  unfold wantedW at h
  unfold wantedA
  split at h
  · rename_i hg; rw [hg]; exact ⟨true, kn, rfl, hk, h⟩
  · rename_i j want hg
    rw [hg]
    split at h
    · rename_i oj hoj
      simp only [hoj]
      split at h
      · rename_i d hd
        simp only [hd]
        split at h
        · rename_i b hb; exact ⟨_, kn, by simp only [hb], hk, h⟩
        · rename_i b hb
          split at h
          · rename_i v hv
            have := hk d v hv
            rw [hb] at this
            cases this
            exact ⟨_, kn, by simp only [hb], hk, h⟩
          · cases b with
            | true => exact ⟨_, _, by simp only [hb], hk.cons hb, h.1 rfl⟩
            | false => exact ⟨_, _, by simp only [hb], hk.cons hb, h.2 rfl⟩
        · rename_i hb; exact ⟨false, kn, by simp only [hb], hk, h⟩
        · exact h.elim
      · exact h.elim
    · exact h.elim
theorem pickW_ok {τ : PT AVal} {kn : Kn} {op : Op} {q : Bool × Nat × Operand × Operand} (h : pickW τ kn op = some q) : op = .pick (.tmp q.2.1) q.2.2.1 q.2.2.2 ∧ τ.get q.2.1 = some (.sbool q.1) := by
  unfold pickW at h
  split at h
  · split at h
    · cases h; exact ⟨rfl, ‹_›⟩
    · cases h
  · cases h
theorem chooseW_ok {τ : PT AVal} {kn : Kn} {op : Op} {q : Bool × Nat × Operand × Operand} {K : AVal → Kn → Prop} (hk : KnOk kn τ) (hq : pickW τ kn op = some q) (h : chooseW RO τ kn K q) : ∃ v kn', light P (evA RO τ) op = some (.pure v) ∧ KnOk kn' τ ∧ K v kn' := by
  obtain ⟨cb, t, a, b⟩ := q
  obtain ⟨rfl, ht⟩ := pickW_ok hq
  simp only at ht
  have hl : ∀ v, (bif cb then evA RO τ a else evA RO τ b) = some v → light P (evA RO τ) (.pick (.tmp t) a b) = some (.pure v) := fun v hv => by
    have h0 : lightP P (evA RO τ) (.pick (.tmp t) a b) = some (none, .pure v) := by
      have h1 : light0 P (evA RO τ) (.pick (.tmp t) a b) = none := by
        show lPick (evA RO τ) (.tmp t) a b = none
        unfold lPick
        have : evA RO τ (.tmp t) = some (.sbool cb) := ht
        rw [this]
      have h2 : sym P (evA RO τ) (.pick (.tmp t) a b) = some (none, .pure v) := by
        show sPick (evA RO τ) (.tmp t) a b = _
        unfold sPick
        have : evA RO τ (.tmp t) = some (.sbool cb) := ht
        rw [this]
        simp only [hv]
      unfold lightP
      rw [h1, h2]
    unfold light
    rw [h0]; rfl
  have val : ∀ x (kn' : Kn) (hx : (bif cb then evA RO τ a else evA RO τ b) = evA RO τ x), KnOk kn' τ → (valW RO τ x fun v => K v kn') → ∃ v kn', light P (evA RO τ) (.pick (.tmp t) a b) = some (.pure v) ∧ KnOk kn' τ ∧ K v kn' := fun x kn' hx hk' hv => by
    unfold valW at hv
    split at hv
    · rename_i v hxv
      exact ⟨v, kn', hl v (hx.trans hxv), hk', hv⟩
    · exact hv.elim
  simp only [chooseW] at h
  split at h
  · rename_i hlk
    have := hk t true hlk
    rw [ht] at this
    cases this
    exact val a kn rfl hk h
  · rename_i hlk
    have := hk t false hlk
    rw [ht] at this
    cases this
    exact val b kn rfl hk h
  · cases cb with
    | true => exact val a _ rfl (hk.cons ht) (h.1 rfl)
    | false => exact val b _ rfl (hk.cons ht) (h.2 rfl)
theorem opsW_ok (hc : CallW callW call) {all : List Oper} {n : Nat} : ∀ {os : List Oper} {τ : PT AVal} {st : St} {kn : Kn} {K : PT AVal → St → Prop}, KnOk kn τ → opsW P RO callW all n os τ st kn K → ∃ τ' st', runOps P RO call all n os τ st = some (τ', st') ∧ K τ' st'
  | [], τ, st, kn, K, _, h => ⟨τ, st, rfl, h⟩
  | o :: os, τ, st, kn, K, hk, h => by
    simp only [opsW] at h
    obtain ⟨b, kn1, h1, hk1, h2⟩ := wantedW_ok hk h
    simp only [runOps, h1]
    cases b with
    | true =>
      simp only at h2
      split at h2
      · rename_i q hq
        obtain ⟨v, kn2, h3, hk2, h4⟩ := chooseW_ok (P := P) hk1 hq h2
        obtain ⟨τ', h5, h6⟩ := putW_ok h4
        have hr : runOp P RO call τ st o.op = some (v, st) := by unfold runOp; rw [h3]; rfl
        simp only [hr, runGo, h5]
        exact opsW_ok hc (hk2.put h5) h6
      · obtain ⟨v, st', h3, h4⟩ := opW_ok hc h2
        obtain ⟨τ', h5, h6⟩ := putW_ok h4
        simp only [h3, runGo, h5]
        exact opsW_ok hc (hk1.put h5) h6
    | false =>
      simp only at h2
      obtain ⟨τ', h5, h6⟩ := putW_ok h2
      simp only [runGo, h5]
      exact opsW_ok hc (hk1.put h5) h6
theorem effLW_ok {m base n i : Nat} {d : DSt} {r : LRes} {K : AVal → Option AObj → Prop} (h : effLW RO m base n i d K r) : ∃ v oo, effL RO m base n i d r = some (v, oo) ∧ K v oo := by
  cases r with
  | pure v => exact ⟨v, none, rfl, h⟩
  | peek v => exact ⟨v, none, rfl, h⟩
  | read b k =>
    simp only [effLW] at h
    cases hcnd : (stableH m b d.hl && ownB m base n b) with
    | false => rw [hcnd] at h; exact h.elim
    | true =>
      rw [hcnd] at h
      simp only [cond_true] at h
      split at h
      · rename_i o ho
        split at h
        · rename_i ob v hv
          obtain ⟨h1, h2⟩ := obl_got h v
          exact ⟨v, none, by simp only [effL, hcnd, cond_true, ho, hv, h1], h2⟩
        · exact h.elim
      · exact h.elim
  | touch b v =>
    simp only [effLW] at h
    cases hcnd : (stableH m b d.hl && ownB m base n b) with
    | false => rw [hcnd] at h; exact h.elim
    | true =>
      rw [hcnd] at h
      simp only [cond_true] at h
      split at h
      · rename_i hb; exact ⟨v, none, by simp only [effL, hcnd, cond_true, hb], h⟩
      · exact h.elim
  | new o k =>
    simp only [effLW] at h
    split at h
    · rename_i hb; exact ⟨_, _, by simp only [effL, hb], h⟩
    · exact h.elim
theorem drawW1_ok (hc : CallW callW call) {all : List Oper} {ms : List Nat} {base n nt i : Nat} {d : DSt} {kn : Kn} {K : DSt → Kn → Prop} (hk : KnOk kn d.τ) (h : drawW1 P RO callW all ms base n nt i d kn K) : ∃ d' kn', draw1 P RO call all ms base n nt i d = some d' ∧ KnOk kn' d'.τ ∧ K d' kn' := by
  unfold drawW1 at h
  unfold draw1
  split at h
  · rename_i o ho
    rw [ho]
    simp only
    cases hh : isHeavy o.op with
    | true =>
      rw [hh] at h
      simp only [cond_true] at h ⊢
      obtain ⟨b, kn1, h1, hk1, h2⟩ := wantedW_ok hk h
      unfold drawH
      cases b with
      | true =>
        simp only at h2
        simp only [h1]
        split at h2
        · rename_i hv hhv
          obtain ⟨v, st', h3, h4⟩ := doHeavyW_ok hc h2
          simp only [hhv, h3, drawHGo]
          cases hol : ownL (maskAt ms i) base n st'.log with
          | false => rw [hol] at h4; exact h4.elim
          | true =>
            rw [hol] at h4
            simp only [cond_true] at h4 ⊢
            obtain ⟨τ', h5, h6⟩ := putW_ok h4
            simp only [h5]
            exact ⟨_, _, rfl, hk1.put h5, h6⟩
        · exact h2.elim
      | false =>
        simp only at h2
        obtain ⟨τ', h5, h6⟩ := putW_ok h2
        simp only [h1, h5]
        exact ⟨_, _, rfl, hk1.put h5, h6⟩
    | false =>
      rw [hh] at h
      simp only [cond_false] at h ⊢
      obtain ⟨b, kn1, h1, hk1, h2⟩ := wantedW_ok hk h
      unfold effA
      cases b with
      | true =>
        simp only at h2
        simp only [h1]
        split at h2
        · rename_i q hq
          obtain ⟨v, kn2, h3, hk2, h4⟩ := chooseW_ok (P := P) hk1 hq h2
          obtain ⟨τ', h7, h8⟩ := putW_ok h4
          simp only [h3, effL, drawL, h7]
          exact ⟨_, _, rfl, hk2.put h7, h8⟩
        · split at h2
          · rename_i ob r hr
            obtain ⟨h3, h4⟩ := obl_got h2 r
            obtain ⟨v, oo, h5, h6⟩ := effLW_ok h4
            obtain ⟨τ', h7, h8⟩ := putW_ok h6
            have hl : light P (evA RO d.τ) o.op = some r := by unfold light; rw [hr]; exact h3
            simp only [hl, h5, drawL, h7]
            exact ⟨_, _, rfl, hk1.put h7, h8⟩
          · exact h2.elim
      | false =>
        simp only at h2
        obtain ⟨τ', h7, h8⟩ := putW_ok h2
        simp only [h1, drawL, h7]
        exact ⟨_, _, rfl, hk1.put h7, h8⟩
  · exact h.elim
theorem drawGoW_ok (hc : CallW callW call) {all : List Oper} {ms : List Nat} {base n nt : Nat} : ∀ {σ : List Nat} {d : DSt} {kn : Kn} {K : DSt → Prop}, KnOk kn d.τ → drawGoW P RO callW all ms base n nt σ d kn K → ∃ d', drawGo P RO call all ms base n nt σ d = some d' ∧ K d'
  | [], d, kn, K, _, h => ⟨d, rfl, h⟩
  | i :: σ, d, kn, K, hk, h => by
    simp only [drawGoW] at h
    obtain ⟨d', kn', h1, hk', h2⟩ := drawW1_ok hc hk h
    simp only [drawGo, h1]
    exact drawGoW_ok hc hk' h2
theorem drawW_ok (hc : CallW callW call) {all : List Oper} {nt : Nat} {τ : PT AVal} {st : St} {K : PT AVal → St → Prop} (h : drawW P RO callW all nt τ st K) : ∃ τ' st', runDraw P RO call all nt τ st = some (τ', st') ∧ K τ' st' := by
  unfold drawW at h
  unfold runDraw
  split at h
  · rename_i σ ms hp
    obtain ⟨d, h1, h2⟩ := drawGoW_ok hc (KnOk.nil _) h
    simp only [hp, h1]
    exact ⟨_, _, rfl, h2⟩
  · exact h.elim
end
/-- what code's formula tells -/
def RecW (recW : Code → Nat → Fr → PT AVal → St → (Res → Prop) → Prop) (rec : Code → Nat → Fr → PT AVal → St → Option Res) : Prop := ∀ c n fr τ st K, recW c n fr τ st K → ∃ r, rec c n fr τ st = some r ∧ K r
section
variable {P : Program} {RO : PT AObj} {hookP : FuncId → Option (List AVal → St → Option (OP × AVal × St))} {recW : Code → Nat → Fr → PT AVal → St → (Res → Prop) → Prop} {rec : Code → Nat → Fr → PT AVal → St → Option Res}
theorem endW_ok {fn : Func} {r : Res} {K : AVal → St → Prop} (h : endW P RO fn r K) : ∃ v s, endF P RO fn (some r) = some (v, s) ∧ K v s := by
  unfold endW at h
  unfold endF
  split at h
  · exact h.elim
  all_goals
    rename_i hx
    simp only [hx]
    split at h
    · rename_i s hs
      simp only [hs]
      split at h
      · rename_i v hv
        simp only [hv]
        exact ⟨_, _, rfl, h⟩
      · exact h.elim
    · exact h.elim
theorem callW_ok (hr : RecW recW rec) {g : FuncId} {args : List AVal} {s : St} {K : AVal → St → Prop} (h : callW P RO hookP recW g args s K) : ∃ v s', callF P RO (hookG hookP) rec g args s = some (v, s') ∧ K v s' := by
  unfold callW at h
  unfold callF hookG
  split at h
  · rename_i hk hg
    obtain ⟨v, s', h1, h2⟩ := obl3_got h
    simp only []
    exact ⟨v, s', h1, h2⟩
  · rename_i hg
    simp only []
    split at h
    · rename_i fn hfn
      simp only [hfn]
      split at h
      · rename_i body hb
        simp only [hb]
        obtain ⟨r, h1, h2⟩ := hr _ _ _ _ _ _ h
        rw [h1]
        exact endW_ok h2
      · exact h.elim
    · exact h.elim
theorem yieldW_ok (hr : RecW recW rec) {x : Nat} {args : List AVal} {s : St} {K : AVal → St → Prop} (h : yieldW recW x args s K) : ∃ v s', yieldF rec x args s = some (v, s') ∧ K v s' := by
  unfold yieldW at h
  unfold yieldF
  split at h
  · rename_i s0 j0 τ0 n0 ps0 as0 bo0 hx
    simp only [hx]
    split at h
    · rename_i τ1 hp
      simp only [hp]
      obtain ⟨r, h1, h2⟩ := hr _ _ _ _ _ _ h
      rw [h1]
      unfold roundBody
      simp only
      split at h2
      · rename_i hex
        simp only [hex]
        split at h2
        · rename_i j τ n1 ps assign body hx2
          simp only [hx2]
          obtain ⟨r2, h3, h4⟩ := hr _ _ _ _ _ _ h2
          rw [h3]
          unfold roundEnd
          simp only
          split at h4
          · rename_i j2 τ2 n2 ps2 as2 bo2 hx3
            simp only [hx3]
            exact ⟨_, _, rfl, h4⟩
          · exact h4.elim
        · exact h2.elim
      · exact h2.elim
      · exact h2.elim
    · exact h.elim
  · exact h.elim
theorem whoW_ok (hr : RecW recW rec) : CallW (whoW P RO hookP recW) (whoF P RO (hookG hookP) rec) := fun who args st K h => by
  cases who with
  | fn g => exact callW_ok hr h
  | yield x => exact yieldW_ok hr h
theorem stepW_ok (hr : RecW recW rec) : RecW (stepW P RO hookP recW) (stepE P RO (hookG hookP) rec) := fun c n fr τ st K h => by
  have hc := whoW_ok (P := P) (RO := RO) (hookP := hookP) hr
  cases c with
  | skip => exact ⟨_, rfl, h⟩
  | label l => exact ⟨_, rfl, h⟩
  | exit id => exact ⟨_, rfl, h⟩
  | ret => exact ⟨_, rfl, h⟩
  | region id ops draws =>
    simp only [stepW] at h
    simp only [stepE]
    split at h
    · rename_i f hf
      simp only [hf]
      exact ⟨_, rfl, h⟩
    rename_i hf
    simp only [hf]
    simp only [regionW] at h
    cases draws with
    | true =>
      simp only [cond_true] at h ⊢
      obtain ⟨τ', st', h1, h2⟩ := drawW_ok hc h
      rw [h1]
      exact ⟨_, rfl, h2⟩
    | false =>
      simp only [cond_false] at h ⊢
      obtain ⟨τ', st', h1, h2⟩ := opsW_ok hc (KnOk.nil _) h
      rw [h1]
      exact ⟨_, rfl, h2⟩
  | seq a b =>
    simp only [stepW] at h
    simp only [stepE]
    obtain ⟨r, h1, h2⟩ := hr _ _ _ _ _ _ h
    rw [h1]
    obtain ⟨ex, τ1, st1, fr1⟩ := r
    cases ex with
    | normal => exact hr _ _ _ _ _ _ h2
    | exit j => exact ⟨_, rfl, h2⟩
    | ret => exact ⟨_, rfl, h2⟩
  | loop a =>
    simp only [stepW] at h
    simp only [stepE]
    obtain ⟨r, h1, h2⟩ := hr _ _ _ _ _ _ h
    rw [h1]
    obtain ⟨ex, τ1, st1, fr1⟩ := r
    cases ex with
    | normal => exact hr _ _ _ _ _ _ h2
    | exit j => exact ⟨_, rfl, h2⟩
    | ret => exact ⟨_, rfl, h2⟩
  | cond x a b =>
    simp only [stepW, condW] at h
    simp only [stepE]
    split at h
    · rename_i t ht
      rw [ht]
      cases t with
      | true => exact hr _ _ _ _ _ _ h
      | false => exact hr _ _ _ _ _ _ h
    · rename_i t ht
      rw [ht]
      cases t with
      | true => exact hr _ _ _ _ _ _ (h.1 rfl)
      | false => exact hr _ _ _ _ _ _ (h.2 rfl)
    · exact h.elim
  | block id a =>
    simp only [stepW] at h
    simp only [stepE]
    obtain ⟨r, h1, h2⟩ := hr _ _ _ _ _ _ h
    rw [h1]
    obtain ⟨ex, τ1, st1, fr1⟩ := r
    cases ex with
    | normal => exact ⟨_, rfl, h2⟩
    | ret => exact ⟨_, rfl, h2⟩
    | exit j =>
      simp only [blockW] at h2
      simp only [eBlock]
      cases hj : Nat.beq j id with
      | true => rw [hj] at h2; exact ⟨_, rfl, h2⟩
      | false => rw [hj] at h2; exact ⟨_, rfl, h2⟩
  | rangeFunc g ps assign body =>
    simp only [stepW] at h
    simp only [stepE]
    split at h
    · rename_i f first captured hev
      simp only [hev]
      unfold rangeW at h
      unfold rangeA
      split at h
      · rename_i x fr1 st1 hen
        rw [hen]
        simp only
        obtain ⟨v, s', h1, h2⟩ := callW_ok hr h
        rw [h1]
        unfold leaveL
        simp only
        split at h2
        · rename_i s j τ0 n0 ps0 as0 bo0 hx
          simp only [hx]
          cases s with
          | busy => exact h2.elim
          | exhausted => exact h2.elim
          | ready => exact ⟨_, rfl, h2⟩
          | done => exact ⟨_, rfl, h2⟩
        · exact h2.elim
      · exact h.elim
    · exact h.elim
  | scope => exact h.elim
  | goto => exact h.elim
  | refuse => exact h.elim
theorem execW_ok : ∀ f, RecW (execW P RO hookP f) (exec P RO (hookG hookP) f)
  | 0 => fun c n fr τ st K h => h.elim
  | f + 1 => stepW_ok (execW_ok f)
end
end Go.Proofs.Ytcofcojjofkgcaa.Abs
