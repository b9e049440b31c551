/- The formula, way by way: what is decided is told ahead (0: false, 1: true, else both). By an AI agent. -/
import Derived.Test.YtcofcojjofkgcaaTri
namespace Go.Proofs.Ytcofcojjofkgcaa.Abs
open Go Go.RowKit
set_option linter.unusedVariables false
abbrev Dc := List Nat
theorem not_dec_true {p : Prop} [Decidable p] (h : (!decide p) = true) : ¬ p := by simpa using h
theorem not_dec_false {p : Prop} [Decidable p] (h : (!decide p) = false) : p := by simpa using h
/-- there is one of a type -/
abbrev ExT (T : Type) (p : T → Prop) : Prop := ∃ x, p x
def splitW (b : Bool) (dc : Dc) (T F : Dc → Prop) : Prop := match dc with
  | [] => (b = true → T []) ∧ (b = false → F [])
  | d :: r => match d with
    | 0 => b = false ∧ F r
    | 1 => b = true ∧ T r
    | _ => (b = true → T r) ∧ (b = false → F r)
theorem splitW_ok {b : Bool} {dc : Dc} {T F : Dc → Prop} (h : splitW b dc T F) : ∃ dc', (b = true ∧ T dc') ∨ (b = false ∧ F dc') := by
  unfold splitW at h
  have both : ∀ {x}, (b = true → T x) ∧ (b = false → F x) → ∃ dc', (b = true ∧ T dc') ∨ (b = false ∧ F dc') := fun {x} h => by
    cases b with
    | true => exact ⟨x, .inl ⟨rfl, h.1 rfl⟩⟩
    | false => exact ⟨x, .inr ⟨rfl, h.2 rfl⟩⟩
  split at h
  · exact both h
  · split at h
    · exact ⟨_, .inr h⟩
    · exact ⟨_, .inl h⟩
    · exact both h
/-- a row is given a name -/
def nameT (v : AVal) (K : AVal → Prop) : Prop := match v with
  | .sstr l => ∀ l', l' = l → K (.sstr l')
  | v => K v
theorem nameT_ok {v : AVal} {K : AVal → Prop} (h : nameT v K) : K v := by
  unfold nameT at h
  split at h
  · exact h _ rfl
  · exact h
/-- so is a sum or a difference -/
def nameZ (v : AVal) (K : AVal → Prop) : Prop := match v with
  | .sint k z => ∀ z', z' = z → K (.sint k z')
  | v => K v
theorem nameZ_ok {v : AVal} {K : AVal → Prop} (h : nameZ v K) : K v := by
  unfold nameZ at h
  split at h
  · exact h _ rfl
  · exact h
def nameOp (op : Op) (v : AVal) (K : AVal → Prop) : Prop := match op with
  | .binOp o _ _ _ _ => (match o with
    | .add => nameZ v K
    | .sub => nameZ v K
    | .mul => nameZ v K
    | .or => nameZ v K
    | _ => K v)
  | .call c => (match c.callee with
    | .builtin .min => nameZ v K
    | .builtin .max => nameZ v K
    | _ => nameT v K)
  | _ => nameT v K
theorem nameOp_ok {op : Op} {v : AVal} {K : AVal → Prop} (h : nameOp op v K) : K v := by
  unfold nameOp at h
  split at h
  · split at h
    · exact nameZ_ok h
    · exact nameZ_ok h
    · exact nameZ_ok h
    · exact nameZ_ok h
    · exact h
  · split at h
    · exact nameZ_ok h
    · exact nameZ_ok h
    · exact nameT_ok h
  · exact nameT_ok h
theorem PT.set_get {α : Type} {v : α} : ∀ {t : PT α} {n : Nat}, t.get n = some v → t.set n (some v) = t
  | .leaf, n, h => by cases h
  | .node l u r, 0, h => by
    rw [PT.get_zero] at h
    rw [PT.set_zero, h]
  | .node l u r, m + 1, h => by
    rw [PT.get_succ] at h
    rw [PT.set_succ]
    split at h
    · rw [if_pos ‹_›, PT.set_get h]
    · rw [if_neg ‹_›, PT.set_get h]
def nameC (c : TCol) (K : TCol → Prop) : Prop := match c with
  | .zs k l => ∀ l', l' = l → K (.zs k l')
  | .bs l => ∀ l', l' = l → K (.bs l')
  | .ss l => ∀ l', l' = l → K (.ss l')
  | .ps l => ∀ l', l' = l → K (.ps l')
theorem nameC_ok {c : TCol} {K : TCol → Prop} (h : nameC c K) : K c := by
  cases c <;> exact h _ rfl
def nameCs (cs : List TCol) (K : List TCol → Prop) : Prop := match cs with
  | [] => K []
  | c :: cs => nameC c fun c' => nameCs cs fun cs' => K (c' :: cs')
theorem nameCs_ok : ∀ {cs : List TCol} {K : List TCol → Prop}, nameCs cs K → K cs
  | [], _, h => h
  | c :: cs, K, h => nameCs_ok (cs := cs) (K := fun cs' => K (c :: cs')) (nameC_ok (K := fun c' => nameCs cs fun cs' => K (c' :: cs')) h)
noncomputable def nameB (st : St) (b : Nat) (K : St → Prop) : Prop := match st.heap.get b with
  | some (.tab n cs t) => nameCs cs fun cs' => K ⟨st.heap.set b (some (.tab n cs' t)), st.next, st.log⟩
  | some (.smap k ks cs one) => ∀ ks', ks' = ks → nameCs cs fun cs' => K ⟨st.heap.set b (some (.smap k ks' cs' one)), st.next, st.log⟩
  | some (.sbytes l t) => ∀ l', l' = l → K ⟨st.heap.set b (some (.sbytes l' t)), st.next, st.log⟩
  | some (.sints k l t) => ∀ l', l' = l → K ⟨st.heap.set b (some (.sints k l' t)), st.next, st.log⟩
  | _ => K st
theorem nameB_ok {st : St} {b : Nat} {K : St → Prop} (h : nameB st b K) : K st := by
  unfold nameB at h
  split at h
  · rename_i n cs t hb
    have := nameCs_ok h
    rw [PT.set_get hb] at this
    exact this
  · rename_i k ks cs one hb
    have := nameCs_ok (h _ rfl)
    rw [PT.set_get hb] at this
    exact this
  · rename_i l t hb
    have := h _ rfl
    rw [PT.set_get hb] at this
    exact this
  · rename_i k l t hb
    have := h _ rfl
    rw [PT.set_get hb] at this
    exact this
  · exact h
noncomputable def nameN (n : Nat) (s : St) (K : St → Prop) : Prop := bif Nat.beq s.next n then K s else nameB s n K
theorem nameN_ok {n : Nat} {s : St} {K : St → Prop} (h : nameN n s K) : K s := by
  unfold nameN at h
  cases hb : Nat.beq s.next n with
  | true => rw [hb] at h; exact h
  | false => rw [hb] at h; exact nameB_ok h
noncomputable def nameS (n : Nat) (s : St) (K : St → Prop) : Prop := bif Nat.beq s.next n then (match s.log with | b :: _ => nameB s b K | [] => K s) else nameB s n K
theorem nameS_ok {n : Nat} {s : St} {K : St → Prop} (h : nameS n s K) : K s := by
  unfold nameS at h
  cases hb : Nat.beq s.next n with
  | true =>
    rw [hb] at h
    simp only [cond_true] at h
    split at h
    · exact nameB_ok h
    · exact h
  | false => rw [hb] at h; exact nameB_ok h
section
variable (P : Program) (RO : PT AObj)
variable (callD : Who → List AVal → St → Dc → (AVal → St → Dc → Prop) → Prop)
/-- no call -/
def noW : Who → List AVal → St → (AVal → St → Prop) → Prop := fun _ _ _ _ => False
noncomputable def heavyD (st : St) (dc : Dc) (K : AVal → St → Dc → Prop) (h : Heavy) : Prop :=
  match h with
  | .enter f args => callD f args st dc K
  | h => doHeavyW P RO noW st (fun v s => nameS st.next s fun s => K v s dc) h
noncomputable def opD (τ : PT AVal) (st : St) (op : Op) (dc : Dc) (K : AVal → St → Dc → Prop) : Prop :=
  match lightP P (evA RO τ) op with
  | some (ob, r) => obl ob (doLightW RO st (fun v s => nameOp op v fun v => K v s dc) r)
  | none => (match heavy P (evA RO τ) op with
    | some h => heavyD P RO callD st dc K h
    | none => False)
noncomputable def wantedD (ops : List Oper) (τ : PT AVal) (kn : Kn) (o : Oper) (dc : Dc) (K : Bool → Kn → Dc → Prop) : Prop :=
  match o.guard with
  | none => K true kn dc
  | some (j, want) => (match nth ops j with
    | some oj => (match oj.dst with
      | some d => (match τ.get d with
        | some (.bool b) => K (b == want) kn dc
        | some (.sbool b) => (match look kn d with
          | some v => K (v == want) kn dc
          | none => splitW b dc (fun dc => K (true == want) ((d, true) :: kn) dc) (fun dc => K (false == want) ((d, false) :: kn) dc))
        | some (.tuple []) => K false kn dc
        | _ => False)
      | none => False)
    | none => False)
noncomputable def chooseD (τ : PT AVal) (kn : Kn) (dc : Dc) (K : AVal → Kn → Dc → Prop) : Bool × Nat × Operand × Operand → Prop
  | (cb, t, a, b) => match look kn t with
    | some true => valW RO τ a fun v => K v kn dc
    | some false => valW RO τ b fun v => K v kn dc
    | none => splitW cb dc (fun dc => valW RO τ a fun v => K v ((t, true) :: kn) dc) (fun dc => valW RO τ b fun v => K v ((t, false) :: kn) dc)
noncomputable def opsD (all : List Oper) (n : Nat) : List Oper → PT AVal → St → Kn → Dc → (PT AVal → St → Dc → Prop) → Prop
  | [], τ, st, kn, dc, K => K τ st dc
  | o :: os, τ, st, kn, dc, K => wantedD all τ kn o dc fun w kn dc => match w with
      | true => (match pickW τ kn o.op with
        | some q => chooseD RO τ kn dc (fun v kn dc => putW n τ o.dst v fun τ' => opsD all n os τ' st (strike o.dst kn) dc K) q
        | none => opD P RO callD τ st o.op dc fun v st' dc => putW n τ o.dst v fun τ' => opsD all n os τ' st' (strike o.dst kn) dc K)
      | false => putW n τ o.dst .undef fun τ' => opsD all n os τ' st (strike o.dst kn) dc K
noncomputable def drawD1 (all : List Oper) (ms : List Nat) (base n nt i : Nat) (d : DSt) (kn : Kn) (dc : Dc) (K : DSt → Kn → Dc → Prop) : Prop :=
  match nth all i with
  | some o => bif isHeavy o.op then
      wantedD all d.τ kn o dc fun w kn dc => (match w with
        | true => (match heavy P (evA RO d.τ) o.op with
          | some h => heavyD P RO callD ⟨d.st.heap, d.st.next, []⟩ dc (fun v st' dc => bif ownL (maskAt ms i) base n st'.log then putW nt d.τ o.dst v fun τ' => K ⟨τ', ⟨st'.heap, st'.next, st'.log ++ d.st.log⟩, (i, d.st.next, st'.log) :: d.hl⟩ (strike o.dst kn) dc else False) h
          | none => False)
        | false => putW nt d.τ o.dst .undef fun τ' => K ⟨τ', d.st, d.hl⟩ (strike o.dst kn) dc)
    else
      wantedD all d.τ kn o dc fun w kn dc => (match w with
        | true => (match pickW d.τ kn o.op with
          | some q => chooseD RO d.τ kn dc (fun v kn dc => putW nt d.τ o.dst v fun τ' => K ⟨τ', ⟨setO d.st.heap (Nat.add base i) none, d.st.next, d.st.log⟩, d.hl⟩ (strike o.dst kn) dc) q
          | none => (match lightP P (evA RO d.τ) o.op with
            | some (ob, r) => obl ob (effLW RO (maskAt ms i) base n i d (fun v oo => nameOp o.op v fun v => putW nt d.τ o.dst v fun τ' => K ⟨τ', ⟨setO d.st.heap (Nat.add base i) oo, d.st.next, d.st.log⟩, d.hl⟩ (strike o.dst kn) dc) r)
            | none => False))
        | false => putW nt d.τ o.dst .undef fun τ' => K ⟨τ', ⟨setO d.st.heap (Nat.add base i) none, d.st.next, d.st.log⟩, d.hl⟩ (strike o.dst kn) dc)
  | none => False
noncomputable def drawGoD (all : List Oper) (ms : List Nat) (base n nt : Nat) : List Nat → DSt → Kn → Dc → (DSt → Dc → Prop) → Prop
  | [], d, kn, dc, K => K d dc
  | i :: σ, d, kn, dc, K => drawD1 P RO callD all ms base n nt i d kn dc fun d' kn dc => drawGoD all ms base n nt σ d' kn dc K
noncomputable def drawD (all : List Oper) (nt : Nat) (τ : PT AVal) (st : St) (dc : Dc) (K : PT AVal → St → Dc → Prop) : Prop :=
  match plan all with
  | some (σ, ms) => drawGoD P RO callD all ms st.next (lenL all 0) nt σ ⟨τ, ⟨st.heap, Nat.succ (Nat.add st.next (lenL all 0)), st.log⟩, []⟩ [] dc fun d dc => K d.τ d.st dc
  | none => False
end
section
variable (P : Program) (RO : PT AObj) (hookP : FuncId → Option (List AVal → St → Option (OP × AVal × St)))
abbrev RecT := Code → Nat → Fr → PT AVal → St → Dc → (Res → Dc → Prop) → Prop
noncomputable def callDD (rec : RecT) (g : FuncId) (args : List AVal) (s : St) (dc : Dc) (K : AVal → St → Dc → Prop) : Prop :=
  match hookP g with
  | some h => obl3 (h args s) fun v s' => nameZ v fun v => nameN s.next s' fun s' => K v s' dc
  | none => match P.funcs[g]? with
    | some fn => (match fn.body with
      | some body => rec body (bif Nat.ble (lenL args 0) fn.ntmps then fn.ntmps else lenL args 0) ⟨none, []⟩ (argsT args 0 .leaf) s dc fun r dc => endW P RO fn r fun v s => K v s dc
      | none => False)
    | none => False
noncomputable def yieldD (rec : RecT) (x : Nat) (args : List AVal) (st : St) (dc : Dc) (K : AVal → St → Dc → Prop) : Prop :=
  match st.heap.get x with
  | some (.loop _ _ τ n ps assign bo) => (match putPs n ps args τ with
    | some τ1 => rec assign n ⟨some x, []⟩ τ1 st dc fun r dc => (match r.ex with
      | .normal => (match r.st.heap.get x with
        | some (.loop .ready j τ n0 ps assign body) => rec bo n r.fr r.τ (markL x .busy j τ n0 ps assign body r.st) dc fun r dc => (match r.st.heap.get x with
          | some (.loop .busy _ τ n ps assign body) => K (.bool (isNormal r.ex)) (markL x (bif isNormal r.ex then .ready else .done) (jumpOf r.ex) τ n ps assign body r.st) dc
          | _ => False)
        | _ => False)
      | .exit _ => False
      | .ret => False)
    | none => False)
  | _ => False
noncomputable def whoD (rec : RecT) : Who → List AVal → St → Dc → (AVal → St → Dc → Prop) → Prop
  | .fn g => callDD P RO hookP rec g
  | .yield x => yieldD rec x
noncomputable def rangeD (rec : RecT) (τ : PT AVal) (f : FuncId) (first captured : List AVal) (dc : Dc) (K : Res → Dc → Prop) : Option (Nat × Fr × St) → Prop
  | some (x, fr, st) => callDD P RO hookP rec f (first ++ .yield x :: captured) st dc fun _ st dc => (match st.heap.get x with
    | some (.loop s j τ0 n ps assign body) => (match s with
      | .busy => False
      | .ready => K ⟨exJ j, τ, markL x .exhausted j τ0 n ps assign body st, fr⟩ dc
      | .done => K ⟨exJ j, τ, markL x .exhausted j τ0 n ps assign body st, fr⟩ dc
      | .exhausted => False)
    | _ => False)
  | none => False
noncomputable def condD (τ : PT AVal) (x : Operand) (dc : Dc) (A B : Dc → Prop) : Prop :=
  match evA RO τ x with
  | some (.bool b) => (match b with | true => A dc | false => B dc)
  | some (.sbool b) => splitW b dc A B
  | _ => False
def thenD (k : Res → Dc → Prop) (K : Res → Dc → Prop) (r : Res) (dc : Dc) : Prop :=
  match r.ex with
  | .normal => k r dc
  | .exit j => K ⟨.exit j, r.τ, r.st, r.fr⟩ dc
  | .ret => K ⟨.ret, r.τ, r.st, r.fr⟩ dc
def blockD (id : Nat) (K : Res → Dc → Prop) (r : Res) (dc : Dc) : Prop :=
  match r.ex with
  | .exit j => bif Nat.beq j id then K ⟨.normal, r.τ, r.st, r.fr⟩ dc else K ⟨.exit j, r.τ, r.st, r.fr⟩ dc
  | .normal => K ⟨.normal, r.τ, r.st, r.fr⟩ dc
  | .ret => K ⟨.ret, r.τ, r.st, r.fr⟩ dc
noncomputable def regionD (rec : RecT) (ops : Array Oper) (draws : Bool) (n : Nat) (fr : Fr) (τ : PT AVal) (st : St) (dc : Dc) (K : Res → Dc → Prop) : Prop :=
  bif draws then drawD P RO (whoD P RO hookP rec) ops.toList n τ st dc fun τ' st' dc => K ⟨.normal, τ', st', fr⟩ dc else opsD P RO (whoD P RO hookP rec) ops.toList n ops.toList τ st [] dc fun τ' st' dc => K ⟨.normal, τ', st', fr⟩ dc
noncomputable def stepD (rec : RecT) (c : Code) (n : Nat) (fr : Fr) (τ : PT AVal) (st : St) (dc : Dc) (K : Res → Dc → Prop) : Prop :=
  match c with
  | .skip | .label _ => K ⟨.normal, τ, st, fr⟩ dc
  | .region _ ops draws => (match deferOf fr ops.toList draws with
    | some f => K ⟨.normal, τ, st, ⟨none, .fn f :: fr.marks⟩⟩ dc
    | none => regionD P RO hookP rec ops draws n fr τ st dc K)
  | .seq a b => rec a n fr τ st dc (thenD (fun r dc => rec b n r.fr r.τ r.st dc K) K)
  | .cond x a b => condD RO τ x dc (fun dc => rec a n fr τ st dc K) (fun dc => rec b n fr τ st dc K)
  | .block id a => rec a n fr τ st dc (blockD id K)
  | .loop a => rec a n fr τ st dc (thenD (fun r dc => rec (.loop a) n r.fr r.τ r.st dc K) K)
  | .exit id => K ⟨.exit id, τ, st, fr⟩ dc
  | .ret => K ⟨.ret, τ, st, fr⟩ dc
  | .rangeFunc g ps assign body => (match evA RO τ g with
    | some (.func f first captured) => rangeD P RO hookP rec τ f first captured dc K (enterA n τ ps.toList assign body fr st)
    | _ => False)
  | _ => False
noncomputable def execD (f : Nat) : RecT :=
  Nat.rec (motive := fun _ => RecT) (fun _ _ _ _ _ _ _ => False) (fun _ ih => stepD P RO hookP ih) f
end
/-! the formula tells the interpreter's outcome -/
section
variable {P : Program} {RO : PT AObj}
variable {callD : Who → List AVal → St → Dc → (AVal → St → Dc → Prop) → Prop} {call : Who → List AVal → St → Option (AVal × St)}
def CallD (callD : Who → List AVal → St → Dc → (AVal → St → Dc → Prop) → Prop) (call : Who → List AVal → St → Option (AVal × St)) : Prop := ∀ who args st dc K, callD who args st dc K → ∃ v st' dc', call who args st = some (v, st') ∧ K v st' dc'
theorem heavyD_ok (hc : CallD callD call) {st : St} {dc : Dc} {h : Heavy} {K : AVal → St → Dc → Prop} (hh : heavyD P RO callD st dc K h) : ∃ v st' dc', doHeavy P RO call st h = some (v, st') ∧ K v st' dc' := by
  unfold heavyD at hh
  split at hh
  · exact hc _ _ _ _ _ hh
  · rename_i h hne
    have hcw : CallW noW call := fun who args st K h => h.elim
    obtain ⟨v, s, h1, h2⟩ := doHeavyW_ok hcw hh
    exact ⟨v, s, dc, h1, nameS_ok h2⟩
theorem opD_ok (hc : CallD callD call) {τ : PT AVal} {st : St} {op : Op} {dc : Dc} {K : AVal → St → Dc → Prop} (h : opD P RO callD τ st op dc K) : ∃ v st' dc', runOp P RO call τ st op = some (v, st') ∧ K v st' dc' := by
  unfold opD at h
  split at h
  · rename_i ob r hr
    obtain ⟨h1, h2⟩ := obl_got h r
    obtain ⟨v, st', h3, h4⟩ := doLightW_ok h2
    refine ⟨v, st', dc, ?_, nameOp_ok h4⟩
    unfold runOp light
    rw [hr, h1]
    exact h3
  · rename_i hl
    split at h
    · rename_i hv hh
      obtain ⟨v, st', dc', h3, h4⟩ := heavyD_ok hc h
      refine ⟨v, st', dc', ?_, h4⟩
      unfold runOp light
      rw [hl]
      show (match heavy P (evA RO τ) op with | some h => doHeavy P RO call st h | none => none) = _
      rw [hh]
      exact h3
    · exact h.elim
theorem wantedD_ok {ops : List Oper} {τ : PT AVal} {kn : Kn} {o : Oper} {dc : Dc} {K : Bool → Kn → Dc → Prop} (hk : KnOk kn τ) (h : wantedD ops τ kn o dc K) : ∃ b kn' dc', wantedA ops τ o = some b ∧ KnOk kn' τ ∧ K b kn' dc' := by
  unfold wantedD at h
  unfold wantedA
  split at h
  · rename_i hg; rw [hg]; exact ⟨true, kn, dc, rfl, hk, h⟩
  · rename_i j want hg
    rw [hg]
    split at h
    · rename_i oj hoj
      simp only [hoj]
      split at h
      · rename_i d hd
        simp only [hd]
        split at h
        · rename_i b hb; exact ⟨_, kn, dc, by simp only [hb], hk, h⟩
        · rename_i b hb
          split at h
          · rename_i v hv
            have := hk d v hv
            rw [hb] at this
            cases this
            exact ⟨_, kn, dc, by simp only [hb], hk, h⟩
          · obtain ⟨dc', ⟨hb9, k9⟩ | ⟨hb9, k9⟩⟩ := splitW_ok h <;> subst hb9
            · exact ⟨_, _, dc', by simp only [hb], hk.cons hb, k9⟩
            · exact ⟨_, _, dc', by simp only [hb], hk.cons hb, k9⟩
        · rename_i hb; exact ⟨false, kn, dc, by simp only [hb], hk, h⟩
        · exact h.elim
      · exact h.elim
    · exact h.elim
theorem pick_light {τ : PT AVal} {cb : Bool} {t : Nat} {a b x : Operand} {v : AVal} (ht : τ.get t = some (.sbool cb)) (hx : (bif cb then evA RO τ a else evA RO τ b) = evA RO τ x) (hv : evA RO τ x = some v) : light P (evA RO τ) (.pick (.tmp t) a b) = some (.pure v) := by
  have h0 : lightP P (evA RO τ) (.pick (.tmp t) a b) = some (none, .pure v) := by
    have h1 : light0 P (evA RO τ) (.pick (.tmp t) a b) = none := by
      show lPick (evA RO τ) (.tmp t) a b = none
      unfold lPick
      have : evA RO τ (.tmp t) = some (.sbool cb) := ht
      rw [this]
    have h2 : sym P (evA RO τ) (.pick (.tmp t) a b) = some (none, .pure v) := by
      show sPick (evA RO τ) (.tmp t) a b = _
      unfold sPick
      have : evA RO τ (.tmp t) = some (.sbool cb) := ht
      rw [this]
      simp only [hx, hv]
    unfold lightP
    rw [h1, h2]
  unfold light
  rw [h0]; rfl
theorem chooseD_ok {τ : PT AVal} {kn : Kn} {op : Op} {dc : Dc} {q : Bool × Nat × Operand × Operand} {K : AVal → Kn → Dc → Prop} (hk : KnOk kn τ) (hq : pickW τ kn op = some q) (h : chooseD RO τ kn dc K q) : ∃ v kn' dc', light P (evA RO τ) op = some (.pure v) ∧ KnOk kn' τ ∧ K v kn' dc' := by
  obtain ⟨cb, t, a, b⟩ := q
  obtain ⟨rfl, ht⟩ := pickW_ok hq
  simp only at ht
  have val : ∀ x (kn' : Kn) dc (hx : (bif cb then evA RO τ a else evA RO τ b) = evA RO τ x), KnOk kn' τ → (valW RO τ x fun v => K v kn' dc) → ∃ v kn' dc', light P (evA RO τ) (.pick (.tmp t) a b) = some (.pure v) ∧ KnOk kn' τ ∧ K v kn' dc' := fun x kn' dc hx hk' hv => by
    unfold valW at hv
    split at hv
    · rename_i v hxv
      exact ⟨v, kn', dc, pick_light ht hx hxv, hk', hv⟩
    · exact hv.elim
  simp only [chooseD] at h
  split at h
  · rename_i hlk
    have := hk t true hlk
    rw [ht] at this
    cases this
    exact val a kn dc rfl hk h
  · rename_i hlk
    have := hk t false hlk
    rw [ht] at this
    cases this
    exact val b kn dc rfl hk h
  · obtain ⟨dc', ⟨hb9, k9⟩ | ⟨hb9, k9⟩⟩ := splitW_ok h <;> subst hb9
    · exact val a _ dc' rfl (hk.cons ht) k9
    · exact val b _ dc' rfl (hk.cons ht) k9
theorem opsD_ok (hc : CallD callD call) {all : List Oper} {n : Nat} : ∀ {os : List Oper} {τ : PT AVal} {st : St} {kn : Kn} {dc : Dc} {K : PT AVal → St → Dc → Prop}, KnOk kn τ → opsD P RO callD all n os τ st kn dc K → ∃ τ' st' dc', runOps P RO call all n os τ st = some (τ', st') ∧ K τ' st' dc'
  | [], τ, st, kn, dc, K, _, h => ⟨τ, st, dc, rfl, h⟩
  | o :: os, τ, st, kn, dc, K, hk, h => by
    simp only [opsD] at h
    obtain ⟨b, kn1, dc1, h1, hk1, h2⟩ := wantedD_ok hk h
    simp only [runOps, h1]
    cases b with
    | true =>
      simp only at h2
      split at h2
      · rename_i q hq
        obtain ⟨v, kn2, dc2, h3, hk2, h4⟩ := chooseD_ok (P := P) hk1 hq h2
        obtain ⟨τ', h5, h6⟩ := putW_ok h4
        have hr : runOp P RO call τ st o.op = some (v, st) := by unfold runOp; rw [h3]; rfl
        simp only [hr, runGo, h5]
        exact opsD_ok hc (hk2.put h5) h6
      · obtain ⟨v, st', dc2, h3, h4⟩ := opD_ok hc h2
        obtain ⟨τ', h5, h6⟩ := putW_ok h4
        simp only [h3, runGo, h5]
        exact opsD_ok hc (hk1.put h5) h6
    | false =>
      simp only at h2
      obtain ⟨τ', h5, h6⟩ := putW_ok h2
      simp only [runGo, h5]
      exact opsD_ok hc (hk1.put h5) h6
theorem drawD1_ok (hc : CallD callD call) {all : List Oper} {ms : List Nat} {base n nt i : Nat} {d : DSt} {kn : Kn} {dc : Dc} {K : DSt → Kn → Dc → Prop} (hk : KnOk kn d.τ) (h : drawD1 P RO callD all ms base n nt i d kn dc K) : ∃ d' kn' dc', draw1 P RO call all ms base n nt i d = some d' ∧ KnOk kn' d'.τ ∧ K d' kn' dc' := by
  unfold drawD1 at h
  unfold draw1
  split at h
  · rename_i o ho
    rw [ho]
    simp only
    cases hh : isHeavy o.op with
    | true =>
      rw [hh] at h
      simp only [cond_true] at h ⊢
      obtain ⟨b, kn1, dc1, h1, hk1, h2⟩ := wantedD_ok hk h
      unfold drawH
      cases b with
      | true =>
        simp only at h2
        simp only [h1]
        split at h2
        · rename_i hv hhv
          obtain ⟨v, st', dc2, h3, h4⟩ := heavyD_ok hc h2
          simp only [hhv, h3, drawHGo]
          cases hol : ownL (maskAt ms i) base n st'.log with
          | false => rw [hol] at h4; exact h4.elim
          | true =>
            rw [hol] at h4
            simp only [cond_true] at h4 ⊢
            obtain ⟨τ', h5, h6⟩ := putW_ok h4
            simp only [h5]
            exact ⟨_, _, _, rfl, hk1.put h5, h6⟩
        · exact h2.elim
      | false =>
        simp only at h2
        obtain ⟨τ', h5, h6⟩ := putW_ok h2
        simp only [h1, h5]
        exact ⟨_, _, _, rfl, hk1.put h5, h6⟩
    | false =>
      rw [hh] at h
      simp only [cond_false] at h ⊢
      obtain ⟨b, kn1, dc1, h1, hk1, h2⟩ := wantedD_ok hk h
      unfold effA
      cases b with
      | true =>
        simp only at h2
        simp only [h1]
        split at h2
        · rename_i q hq
          obtain ⟨v, kn2, dc2, h3, hk2, h4⟩ := chooseD_ok (P := P) hk1 hq h2
          obtain ⟨τ', h7, h8⟩ := putW_ok h4
          simp only [h3, effL, drawL, h7]
          exact ⟨_, _, _, rfl, hk2.put h7, h8⟩
        · split at h2
          · rename_i ob r hr
            obtain ⟨h3, h4⟩ := obl_got h2 r
            obtain ⟨v, oo, h5, h6⟩ := effLW_ok h4
            obtain ⟨τ', h7, h8⟩ := putW_ok (nameOp_ok h6)
            have hl : light P (evA RO d.τ) o.op = some r := by unfold light; rw [hr]; exact h3
            simp only [hl, h5, drawL, h7]
            exact ⟨_, _, _, rfl, hk1.put h7, h8⟩
          · exact h2.elim
      | false =>
        simp only at h2
        obtain ⟨τ', h7, h8⟩ := putW_ok h2
        simp only [h1, drawL, h7]
        exact ⟨_, _, _, rfl, hk1.put h7, h8⟩
  · exact h.elim
theorem drawGoD_ok (hc : CallD callD call) {all : List Oper} {ms : List Nat} {base n nt : Nat} : ∀ {σ : List Nat} {d : DSt} {kn : Kn} {dc : Dc} {K : DSt → Dc → Prop}, KnOk kn d.τ → drawGoD P RO callD all ms base n nt σ d kn dc K → ∃ d' dc', drawGo P RO call all ms base n nt σ d = some d' ∧ K d' dc'
  | [], d, kn, dc, K, _, h => ⟨d, dc, rfl, h⟩
  | i :: σ, d, kn, dc, K, hk, h => by
    simp only [drawGoD] at h
    obtain ⟨d', kn', dc', h1, hk', h2⟩ := drawD1_ok hc hk h
    simp only [drawGo, h1]
    exact drawGoD_ok hc hk' h2
theorem drawD_ok (hc : CallD callD call) {all : List Oper} {nt : Nat} {τ : PT AVal} {st : St} {dc : Dc} {K : PT AVal → St → Dc → Prop} (h : drawD P RO callD all nt τ st dc K) : ∃ τ' st' dc', runDraw P RO call all nt τ st = some (τ', st') ∧ K τ' st' dc' := by
  unfold drawD at h
  unfold runDraw
  split at h
  · rename_i σ ms hp
    obtain ⟨d, dc', h1, h2⟩ := drawGoD_ok hc (KnOk.nil _) h
    simp only [hp, h1]
    exact ⟨_, _, _, rfl, h2⟩
  · exact h.elim
end
def RecD (recD : RecT) (rec : Code → Nat → Fr → PT AVal → St → Option Res) : Prop := ∀ c n fr τ st dc K, recD c n fr τ st dc K → ∃ r dc', rec c n fr τ st = some r ∧ K r dc'
section
variable {P : Program} {RO : PT AObj} {hookP : FuncId → Option (List AVal → St → Option (OP × AVal × St))} {recD : RecT} {rec : Code → Nat → Fr → PT AVal → St → Option Res}
theorem callDD_ok (hr : RecD recD rec) {g : FuncId} {args : List AVal} {s : St} {dc : Dc} {K : AVal → St → Dc → Prop} (h : callDD P RO hookP recD g args s dc K) : ∃ v s' dc', callF P RO (hookG hookP) rec g args s = some (v, s') ∧ K v s' dc' := by
  unfold callDD at h
  unfold callF hookG
  split at h
  · rename_i hk hg
    obtain ⟨v, s', h1, h2⟩ := obl3_got h
    simp only [hg]
    exact ⟨v, s', dc, h1, nameN_ok (nameZ_ok h2)⟩
  · rename_i hg
    simp only [hg]
    split at h
    · rename_i fn hfn
      simp only [hfn]
      split at h
      · rename_i body hb
        simp only [hb]
        obtain ⟨r, dc', h1, h2⟩ := hr _ _ _ _ _ _ _ h
        rw [h1]
        obtain ⟨v, s', h3, h4⟩ := endW_ok h2
        exact ⟨v, s', dc', h3, h4⟩
      · exact h.elim
    · exact h.elim
theorem yieldD_ok (hr : RecD recD rec) {x : Nat} {args : List AVal} {s : St} {dc : Dc} {K : AVal → St → Dc → Prop} (h : yieldD recD x args s dc K) : ∃ v s' dc', yieldF rec x args s = some (v, s') ∧ K v s' dc' := by
  unfold yieldD at h
  unfold yieldF
  split at h
  · rename_i s0 j0 τ0 n0 ps0 as0 bo0 hx
    simp only [hx]
    split at h
    · rename_i τ1 hp
      simp only [hp]
      obtain ⟨r, dc1, h1, h2⟩ := hr _ _ _ _ _ _ _ h
      rw [h1]
      unfold roundBody
      simp only
      split at h2
      · rename_i hex
        simp only [hex]
        split at h2
        · rename_i j τ n1 ps assign body hx2
          simp only [hx2]
          obtain ⟨r2, dc2, h3, h4⟩ := hr _ _ _ _ _ _ _ h2
          rw [h3]
          unfold roundEnd
          simp only
          split at h4
          · rename_i j2 τ2 n2 ps2 as2 bo2 hx3
            simp only [hx3]
            exact ⟨_, _, _, rfl, h4⟩
          · exact h4.elim
        · exact h2.elim
      · exact h2.elim
      · exact h2.elim
    · exact h.elim
  · exact h.elim
theorem whoD_ok (hr : RecD recD rec) : CallD (whoD P RO hookP recD) (whoF P RO (hookG hookP) rec) := fun who args st dc K h => by
  cases who with
  | fn g => exact callDD_ok hr h
  | yield x => exact yieldD_ok hr h
theorem stepD_ok (hr : RecD recD rec) : RecD (stepD P RO hookP recD) (stepE P RO (hookG hookP) rec) := fun c n fr τ st dc K h => by
  have hc := whoD_ok (P := P) (RO := RO) (hookP := hookP) hr
  cases c with
  | skip => exact ⟨_, _, rfl, h⟩
  | label l => exact ⟨_, _, rfl, h⟩
  | exit id => exact ⟨_, _, rfl, h⟩
  | ret => exact ⟨_, _, rfl, h⟩
  | region id ops draws =>
    simp only [stepD] at h
    simp only [stepE]
    split at h
    · rename_i f hf
      simp only [hf]
      exact ⟨_, _, rfl, h⟩
    rename_i hf
    simp only [hf]
    simp only [regionD] at h
    cases draws with
    | true =>
      simp only [cond_true] at h ⊢
      obtain ⟨τ', st', dc', h1, h2⟩ := drawD_ok hc h
      rw [h1]
      exact ⟨_, _, rfl, h2⟩
    | false =>
      simp only [cond_false] at h ⊢
      obtain ⟨τ', st', dc', h1, h2⟩ := opsD_ok hc (KnOk.nil _) h
      rw [h1]
      exact ⟨_, _, rfl, h2⟩
  | seq a b =>
    simp only [stepD] at h
    simp only [stepE]
    obtain ⟨r, dc1, h1, h2⟩ := hr _ _ _ _ _ _ _ h
    rw [h1]
    obtain ⟨ex, τ1, st1, fr1⟩ := r
    cases ex with
    | normal => exact hr _ _ _ _ _ _ _ h2
    | exit j => exact ⟨_, _, rfl, h2⟩
    | ret => exact ⟨_, _, rfl, h2⟩
  | loop a =>
    simp only [stepD] at h
    simp only [stepE]
    obtain ⟨r, dc1, h1, h2⟩ := hr _ _ _ _ _ _ _ h
    rw [h1]
    obtain ⟨ex, τ1, st1, fr1⟩ := r
    cases ex with
    | normal => exact hr _ _ _ _ _ _ _ h2
    | exit j => exact ⟨_, _, rfl, h2⟩
    | ret => exact ⟨_, _, rfl, h2⟩
  | cond x a b =>
    simp only [stepD, condD] at h
    simp only [stepE]
    split at h
    · rename_i t ht
      rw [ht]
      cases t with
      | true => exact hr _ _ _ _ _ _ _ h
      | false => exact hr _ _ _ _ _ _ _ h
    · rename_i t ht
      rw [ht]
      obtain ⟨dc', ⟨hb9, k9⟩ | ⟨hb9, k9⟩⟩ := splitW_ok h <;> subst hb9
      · exact hr _ _ _ _ _ _ _ k9
      · exact hr _ _ _ _ _ _ _ k9
    · exact h.elim
  | block id a =>
    simp only [stepD] at h
    simp only [stepE]
    obtain ⟨r, dc1, h1, h2⟩ := hr _ _ _ _ _ _ _ h
    rw [h1]
    obtain ⟨ex, τ1, st1, fr1⟩ := r
    cases ex with
    | normal => exact ⟨_, _, rfl, h2⟩
    | ret => exact ⟨_, _, rfl, h2⟩
    | exit j =>
      simp only [blockD] at h2
      simp only [eBlock]
      cases hj : Nat.beq j id with
      | true => rw [hj] at h2; exact ⟨_, _, rfl, h2⟩
      | false => rw [hj] at h2; exact ⟨_, _, rfl, h2⟩
  | rangeFunc g ps assign body =>
    simp only [stepD] at h
    simp only [stepE]
    split at h
    · rename_i f first captured hev
      simp only [hev]
      unfold rangeD at h
      unfold rangeA
      split at h
      · rename_i x fr1 st1 hen
        rw [hen]
        simp only
        obtain ⟨v, s', dc1, h1, h2⟩ := callDD_ok hr h
        rw [h1]
        unfold leaveL
        simp only
        split at h2
        · rename_i s j τ0 n0 ps0 as0 bo0 hx
          simp only [hx]
          cases s with
          | busy => exact h2.elim
          | exhausted => exact h2.elim
          | ready => exact ⟨_, _, rfl, h2⟩
          | done => exact ⟨_, _, rfl, h2⟩
        · exact h2.elim
      · exact h.elim
    · exact h.elim
  | scope => exact h.elim
  | goto => exact h.elim
  | refuse => exact h.elim
theorem execD_ok : ∀ f, RecD (execD P RO hookP f) (exec P RO (hookG hookP) f)
  | 0 => fun c n fr τ st dc K h => h.elim
  | f + 1 => stepD_ok (execD_ok f)
end
/-! with loops that are told of -/
section
variable {P : Program} {w0 : World} {RO : PT AObj} {n : Nat} {fr : Fr} {τ : PT AVal} {st : St}
end
section
variable (P : Program) (RO : PT AObj) (hookP : FuncId → Option (List AVal → St → Option (OP × AVal × St))) (ann : Ann) (f : Nat)
end
section
variable {P : Program} {w0 : World} {RO : PT AObj} {hookP : FuncId → Option (List AVal → St → Option (OP × AVal × St))} {ann : Ann} {f : Nat}
/-- A FUNCTION, begun in a state, told of by a triple. -/
theorem fn_tri (hn : ∀ (f : FuncId) (fn : Func), P.funcs[f]? = some fn → (fn.name == "runtime.NumGoroutine") = false) {g : FuncId} {fn : Func} {body : Code} (hfn : P.funcs[g]? = some fn) (hbody : fn.body = some body) {args : List AVal} {st : St} {K : AVal → St → Prop}
    (ht : Tri P w0 RO body (bif Nat.ble (lenL args 0) fn.ntmps then fn.ntmps else lenL args 0) ⟨none, []⟩ (argsT args 0 .leaf) st (fun r => endW P RO fn r K)) :
    ∀ φ us w, VRels φ args us → WRel w0 φ st.heap st.next w → RRel w0 φ RO → Calls P g us.toArray w fun e w' => ∃ u v st', e = .returned u ∧ K v st' ∧ StepOk w0 φ st w v st' u w' := fun φ us w hus hw hro => by
  refine CallsIn.calls (F := FR none) (n := 0) (callsIn_of_wp_marks hfn hbody trivial (Code.wpIn_mono ?_ (ht φ _ w none 0 (args_rel hus fn.ntmps) .nil .none hw hro))) (fun k d hd => by cases hd)
  rintro x a' w' ⟨⟨ex, τ1, st1, fr1⟩, hK, hf, rfl, ψ, p1, p2, p3, p4⟩
  obtain ⟨v, s, h1, h2⟩ := endW_ok hK
  have fin : (exOf ex = .normal ∨ exOf ex = .ret) → (match leaveA P fr1.marks st1 with | some s => (match resultA P RO fn τ1 s with | some v => some (v, s) | none => none) | none => none) = some (v, s) → LeavesInM (FR none) 0 P fn a'.tmps (fun e w' => ∃ u v st', e = .returned u ∧ K v st' ∧ StepOk w0 φ st w v st' u w') a'.defers .returning w' := fun _ hres => by
    split at hres
    · rename_i s2 hs2
      split at hres
      · rename_i v1 hv1
        cases hres
        exact leave_ok hn hs2 p2.1 p3 p4 (fun g hg => (p2.2 g hg).elim (fun h => by cases h) (fun h => h)) fun w2 q1 q2 => by
          obtain ⟨u, r1, r2⟩ := resultA_ok hv1 p1 q1 (hro.mono p4.le)
          exact ⟨u, r2, u, _, _, rfl, h2, ψ, r1, q1, q2⟩
      · cases hres
    · cases hres
  cases ex with
  | normal => exact fin (.inl rfl) h1
  | exit id => cases h1
  | ret => exact fin (.inr rfl) h1
theorem endW_ex {fn : Func} {r : Res} {K : AVal → St → Dc → Prop} : (∃ dc', endW P RO fn r fun v s => K v s dc') → endW P RO fn r fun v s => ∃ dc', K v s dc' := fun ⟨dc', h⟩ => by
  unfold endW at h ⊢
  split at h
  · exact h
  all_goals
    split at h
    · split at h
      · exact ⟨dc', h⟩
      · exact h.elim
    · exact h.elim
end
end Go.Proofs.Ytcofcojjofkgcaa.Abs
