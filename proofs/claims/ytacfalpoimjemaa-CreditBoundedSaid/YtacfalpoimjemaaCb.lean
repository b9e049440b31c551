/- credit: CreditBounded, run. By an AI agent. -/
import Derived.Test.YtacfalpoimjemaaCe
import Derived.Test.YtacfalpoimjemaaOr
namespace Go.Proofs.Ytacfalpoimjemaa.Cr
open Go Go.RowKit Go.Proofs.Ytacfalpoimjemaa.Abs Go.Proofs.Ytacfalpoimjemaa.M
set_option linter.unusedVariables false
set_option linter.unusedSimpArgs false
open List (getD length take drop)
abbrev BOUND : FuncId := 4
abbrev DOES : FuncId := 23
abbrev ACTT : TypeId := 57
abbrev ENDT : TypeId := 55
abbrev INT : TypeId := 3
noncomputable def roA (Q N : List Int) (n : Nat) (ty : TypeId) : PT AObj := hp [(901, .tab n [.zs .u8 Q, .zs .u8 N] ty)]
def nul : USpec := { X := Empty, ok := fun _ => False, m := fun _ => 0, I := fun _ => ([], []), dc := [], outs := [] }
noncomputable def xO (s g A o w B n : Nat) (sc uc : Int) : AObj := .cells [.ptr (some (s, 0)), .ptr (some (g, 0)), .sslice (A, o) w w false 1, .sslice (B, 0) n n false 1, .sint .i64 sc, .sint .i64 uc] ENDT
universe u
noncomputable def onE {α : Type u} (no : α) (st : St) (x : Nat) (k : Nat → Nat → Nat → Nat → Nat → Nat → Nat → Int → Int → α) : α :=
  match st.heap.get x with | some (.cells [.ptr (some (s, _)), .ptr (some (g, _)), .sslice (A, o) w _ _ _, .sslice (B, _) n _ _ _, .sint _ sc, .sint _ uc] _) => k s g A o w B n sc uc | _ => no
noncomputable def onS {α : Type u} (no : α) (st : St) (x : Nat) (k : Int → Int → Int → α) : α := match st.heap.get x with | some (.cells [.sint _ a, .sint _ b, .sint _ c] _) => k a b c | _ => no
noncomputable def onG {α : Type u} (no : α) (st : St) (x : Nat) (k : Int → Int → Int → Int → α) : α := match st.heap.get x with | some (.cells [.sint _ a, .sint _ b, .sint _ c, .sint _ d] _) => k a b c d | _ => no
noncomputable def onR {α : Type u} (no : α) (st : St) (x : Nat) (k : List Int → α) : α := match st.heap.get x with | some (.sints _ R _) => k R | _ => no
noncomputable def onZ {α : Type u} (no : α) (v : Option AVal) (k : Int → α) : α := match v with | some v => (match asZ v with | some (_, z) => k z | none => no) | none => no
/-- an act, told of -/
noncomputable def doesF : Told := fun args st => match args with
  | [.ptr (some (x, _)), .agg [va, vn]] => atZ va fun a => atZ vn fun N => onE noT st x fun s g A o w B n sc uc => onS noT st s fun L sp gr => onG noT st g fun L' tk us gg => onR noT st A fun R => onR noT st B fun G =>
    (.bool true, [(x, xO s g st.next (dO a N sp gr o w) (dW a N sp gr w) (Nat.succ st.next) (dG a us L gg G).length (dSp a N sp gr sc) (dUs a N tk us uc)), (s, spO L (dSp a N sp gr sp) (dGr a N gr G)), (g, gvO L' (dTk a N tk R o w) (dUs a N tk us us) (dGg a us L gg)),
      (A, .defd), (B, .defd), (st.next, .sints .i64 (dR a N sp gr R o w) INT), (Nat.succ st.next, .sints .i64 (dG a us L gg G) INT)])
  | _ => noT
/-- so many of what is on its way have come -/
noncomputable def takeS (τ : PT AVal) (st : St) : USpec :=
  let x := ptrN τ 0
  onE nul st x fun s g A o w B n sc uc => onG nul st g fun L tk us gg => onR nul st A fun R => onZ nul (τ.get 5) fun n0 =>
    let J : Nat → List (Nat × AObj) := fun j => [(x, xO s g A (o + j) (w - j) B n sc uc), (g, gvO L (tk + sumT R o j) us gg)]
    { X := Nat, ok := fun j => j ≤ w ∧ (j : Int) ≤ n0 % 5, m := fun j => w - j, I := fun j => ([(5, .sint .i64 (n0 - j))], J j), dc := [],
      outs := [(.exit 1, { Z := Nat, post := fun j => (j ≤ w ∧ (j : Int) ≤ n0 % 5) ∧ (j = w ∨ (j : Int) = n0 % 5), J := fun j => ([], J j) })] }
structure EX where
  k : Nat
  sp : Int
  gr : Int
  tk : Int
  us : Int
  gg : Int
  R : List Int
  o : Nat
  w : Nat
  G : List Int
def EX.inv (L : Int) (x : EX) : Prop := EInv L x.k x.sp x.gr x.tk x.us x.gg x.R x.o x.w x.G
structure EOk (L : Int) (x : EX) : Prop where
  inv : EInv L x.k x.sp x.gr x.tk x.us x.gg x.R x.o x.w x.G
def aQ (Q : List Int) (x : EX) : Int := List.getD Q (0 + x.1) (0 : Int)
def uZ (z : EX) : Int := z.us + (z.tk + sumT z.R z.o z.w - z.us)
noncomputable def mainS (L : Int) (n : Nat) (τ : PT AVal) (st : St) : USpec :=
  let J : EX → List (Nat × AObj) := fun x => [(ptrN τ 10, xO (ptrN τ 6) (ptrN τ 8) st.next x.o x.w (Nat.succ st.next) x.G.length x.sp x.us), (ptrN τ 6, spO L x.sp x.gr), (ptrN τ 8, gvO L x.tk x.us x.gg), (st.next, .sints .i64 x.R INT), (Nat.succ st.next, .sints .i64 x.G INT)]
  { X := EX, ok := fun x => (x.k ≤ n ∧ x.k ≤ 120) ∧ EOk L x, m := fun x => n - x.k, I := fun x => ([(41, .sint .i64 (x.k : Int))], J x), dc := [],
    outs := [(.exit 0, { Z := EX, post := fun x => x.k ≤ 120 ∧ EOk L x, J := fun x => ([], J x) })] }
/-- all that is on its way comes -/
noncomputable def flushS (τ : PT AVal) (st : St) : USpec :=
  onE nul st (ptrN τ 10) fun s g A o w B n sc uc => onG nul st g fun L tk us gg => onR nul st A fun R => onR nul st B fun G =>
    let J : Nat → List (Nat × AObj) := fun j => [(ptrN τ 10, xO s g st.next (o + j) (w - j) (Nat.succ st.next) n sc uc), (g, gvO L (tk + sumT R o j) us gg), (A, .defd), (B, .defd), (st.next, .sints .i64 R INT), (Nat.succ st.next, .sints .i64 G INT)]
    { X := Nat, ok := fun j => j ≤ w, m := fun j => w - j, I := fun j => ([], J j), dc := [], outs := [(.exit 2, { Z := Unit, post := fun _ => True, J := fun _ => ([], J w) })] }
/-- all is used -/
noncomputable def useS (τ : PT AVal) (st : St) : USpec :=
  onE nul st (ptrN τ 10) fun s g A o w B n sc uc => onG nul st g fun L tk us gg => onR nul st A fun R => onR nul st B fun G =>
    let J : Int → List (Nat × AObj) := fun u => [(ptrN τ 10, xO s g st.next o w (Nat.succ st.next) n sc (uc + u)), (g, gvO L tk (us + u) gg), (A, .defd), (B, .defd), (st.next, .sints .i64 R INT), (Nat.succ st.next, .sints .i64 G INT)]
    { X := Nat, ok := fun k => k ≤ 2, m := fun k => 2 - k, I := fun k => ([(13, .sint .i64 (k : Int))], J (min (255 * (k : Int)) (tk - us))), dc := [], outs := [(.exit 4, { Z := Unit, post := fun _ => True, J := fun _ => ([], J (tk - us)) })] }
/-- all grants are told -/
noncomputable def rangeS (τ : PT AVal) (st : St) : USpec :=
  onE nul st (ptrN τ 10) fun s g A o w B n sc uc => onS nul st s fun L sp gr => onR nul st B fun G =>
    let J : Nat → List (Nat × AObj) := fun i => [(s, spO L sp (mxI gr (G.take i)))]
    { X := Nat, ok := fun i => i ≤ n, m := fun i => n - i, I := fun i => ([(114, .sint .i64 (i : Int))], J i), dc := [], outs := [(.exit 6, { Z := Unit, post := fun _ => True, J := fun _ => ([], J n) })] }
noncomputable def bW (K : AVal → St → Prop) (ann : List (FuncId × Nat × (PT AVal → St → USpec))) (dc : Dc) (l : Int) (Q N : List Int) (n c : Nat) (ty : TypeId) : Prop :=
  nestW Try.prog (roA Q N n ty) crHooks { annD ((DOES, 1, takeS) :: ann) (cuts ((DOES, doesF) :: crCalls)) ((DOES, doesF) :: crCalls) with lit := true } BOUND [.sint .u8 l, .tslice 901 0 n c true 2] dc K
--forms
end Go.Proofs.Ytacfalpoimjemaa.Cr
