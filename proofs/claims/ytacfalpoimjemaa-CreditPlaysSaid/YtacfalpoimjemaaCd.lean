/- credit: what the calls do. By an AI agent. -/
import Derived.Test.YtacfalpoimjemaaCw
import Derived.Test.YtacfalpoimjemaaHk4
import Derived.Test.YtacfalpoimjemaaNd
import Derived.Test.YtacfalpoimjemaaOpen
namespace Go.Proofs.Ytacfalpoimjemaa.Cr
open Go Go.RowKit Go.Proofs.Ytacfalpoimjemaa.Abs Go.Proofs.Ytacfalpoimjemaa.M
set_option linter.unusedVariables false
set_option linter.unusedSimpArgs false
abbrev WAKES : FuncId := 10
noncomputable def crHooks : FuncId → Option Hook := hkAdd WAKES trueH hkNone
theorem crHooks_ok {w0 : World} {RO : PT AObj} : HooksOk Try.prog w0 RO crHooks := hkAdd_ok (trueH_ok ⟨_, rfl, rfl, by kernel_rfl⟩ fun w _ => wakes_any w) hkNone_ok
/-! what a call answers, and what there is behind it -/
def spE (n sp gr : Int) : Int := if n < 0 then 1 else if gr - sp < n then 8 else 0
def spN (n sp gr : Int) : Int := if n < 0 then sp else if gr - sp < n then sp else sp + n
def grE (t sp L : Int) : Int := if sp + L < t then 24 else 0
def grN (t sp L gr : Int) : Int := if sp + L < t then gr else max gr t
def tkE (n tk gg : Int) : Int := if n < 0 then 1 else if gg - tk < n then 7 else 0
def tkN (n tk gg : Int) : Int := if n < 0 then tk else if gg - tk < n then tk else tk + n
def usE (n us tk : Int) : Int := if n < 0 then 1 else if tk - us < n then 1 else 0
def usN (n us tk : Int) : Int := if n < 0 then us else if tk - us < n then us else us + n
def gtD (us L gg : Int) : Bool := decide (max (L / 2) 1 ≤ us + L - gg)
def gtR (us L gg : Int) : Int := if max (L / 2) 1 ≤ us + L - gg then us + L else 0
def gtN (us L gg : Int) : Int := if max (L / 2) 1 ≤ us + L - gg then us + L else gg
abbrev SPT : TypeId := 64
abbrev GVT : TypeId := 66
abbrev Told := List AVal → St → AVal × List (Nat × AObj)
def x0 : List AVal → Nat | .ptr (some (x, _)) :: _ => x | _ => 0
noncomputable def noT : AVal × List (Nat × AObj) := (.undef, [])
noncomputable def spO (L sp gr : Int) : AObj := .cells [.sint .u64 L, .sint .u64 sp, .sint .u64 gr] SPT
noncomputable def gvO (L tk us gg : Int) : AObj := .cells [.sint .u64 L, .sint .u64 tk, .sint .u64 us, .sint .u64 gg] GVT
noncomputable def atS (args : List AVal) (st : St) (k : Nat → Int → Int → Int → AVal × List (Nat × AObj)) : AVal × List (Nat × AObj) :=
  match st.heap.get (x0 args) with | some (.cells [.sint _ a, .sint _ b, .sint _ c] _) => k (x0 args) a b c | _ => noT
noncomputable def atG (args : List AVal) (st : St) (k : Nat → Int → Int → Int → Int → AVal × List (Nat × AObj)) : AVal × List (Nat × AObj) :=
  match st.heap.get (x0 args) with | some (.cells [.sint _ a, .sint _ b, .sint _ c, .sint _ d] _) => k (x0 args) a b c d | _ => noT
noncomputable def atZ (v : AVal) (k : Int → AVal × List (Nat × AObj)) : AVal × List (Nat × AObj) := match asZ v with | some (_, z) => k z | none => noT
noncomputable def at1 (args : List AVal) (k : Int → AVal × List (Nat × AObj)) : AVal × List (Nat × AObj) := match args with | [_, v] => atZ v k | _ => noT
noncomputable def at0 (args : List AVal) (k : Int → AVal × List (Nat × AObj)) : AVal × List (Nat × AObj) := match args with | [v] => atZ v k | _ => noT
noncomputable def newSF : Told := fun args st => at0 args fun L => (.tuple [.ptr (some (st.next, 0)), .int .i64 0], [(st.next, spO L 0 L)])
noncomputable def newGF : Told := fun args st => at0 args fun L => (.tuple [.ptr (some (st.next, 0)), .int .i64 0], [(st.next, gvO L 0 0 L)])
noncomputable def leftF : Told := fun args st => atS args st fun x L sp gr => (.sint .i64 (gr - sp), [])
noncomputable def heldF : Told := fun args st => atG args st fun x L tk us gg => (.sint .i64 (tk - us), [])
noncomputable def spendF : Told := fun args st => at1 args fun n => atS args st fun x L sp gr => (.sint .i64 (spE n sp gr), [(x, spO L (spN n sp gr) gr)])
noncomputable def grantedF : Told := fun args st => at1 args fun t => atS args st fun x L sp gr => (.sint .i64 (grE t sp L), [(x, spO L sp (grN t sp L gr))])
noncomputable def takeF : Told := fun args st => at1 args fun n => atG args st fun x L tk us gg => (.sint .i64 (tkE n tk gg), [(x, gvO L (tkN n tk gg) us gg)])
noncomputable def useF : Told := fun args st => at1 args fun n => atG args st fun x L tk us gg => (.sint .i64 (usE n us tk), [(x, gvO L tk (usN n us tk) gg)])
noncomputable def grantF : Told := fun args st => atG args st fun x L tk us gg => (.tuple [.sint .u64 (gtR us L gg), .sbool (gtD us L gg)], [(x, gvO L tk us (gtN us L gg))])
noncomputable def asC (F : Told) (args : List AVal) (st : St) : CSpec := { Z := Unit, post := fun _ => True, res := fun _ => (F args st).1, J := fun _ => (F args st).2 }
noncomputable def cuts : List (FuncId × Told) → List (FuncId × (List AVal → St → CSpec))
  | [] => []
  | (f, F) :: l => (f, asC F) :: cuts l
noncomputable def crAnn (loops : List (FuncId × Nat × (PT AVal → St → USpec))) (l : List (FuncId × Told)) : AnnN := annD loops (cuts l) l
noncomputable def crCalls : List (FuncId × Told) := [(7, newSF), (8, newGF), (21, leftF), (22, heldF),
  (11, spendF), (13, grantedF), (15, takeF), (17, useF), (19, grantF)]
end Go.Proofs.Ytacfalpoimjemaa.Cr
