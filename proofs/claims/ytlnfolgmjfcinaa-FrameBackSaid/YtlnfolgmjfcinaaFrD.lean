/- Frames: what may be, what is signed, datagrams; the checks as hooks. By an AI agent. -/
import Derived.Test.YtlnfolgmjfcinaaHk3
import Derived.Test.YtlnfolgmjfcinaaCrc
import Derived.Test.YtlnfolgmjfcinaaProg
import Derived.KernelRfl
namespace Go.Proofs.Ytlnfolgmjfcinaa.Fr
open Go Go.RowKit Go.Proofs.Ytlnfolgmjfcinaa.Abs Go.Proofs.Ytlnfolgmjfcinaa.M
set_option linter.unusedVariables false
/-- may it be? -/
def mayB (k n a m : Int) (len : Nat) : Bool := decide (len ≤ 256) && (if k = 1 ∨ k = 2 ∨ k = 5 then decide (n = 0) && (decide (a = 0) && decide (m = 0)) else if k = 3 then decide (n < 2147483648) else if k = 4 then decide (n = 0) && decide (len = 0) else false)
def u8 (z : Int) : UInt8 := UInt8.ofNat z.toNat
def be2 (z : Int) : List UInt8 := [u8 (z / 256 % 256), u8 (z % 256)]
def be4 (z : Int) : List UInt8 := [u8 (z / 16777216 % 256), u8 (z / 65536 % 256), u8 (z / 256 % 256), u8 (z % 256)]
def be8 (z : Int) : List UInt8 := be4 (z / 4294967296 % 4294967296) ++ be4 (z % 4294967296)
/-- what is signed -/
def sgn (k s e n a m : Int) (P : List UInt8) : List UInt8 := u8 k :: (be4 s ++ (be4 e ++ (be4 n ++ (be4 a ++ (be4 m ++ (be2 P.length ++ P))))))
def crcI (l : List UInt8) : Int := ((Crc.crc l : Nat) : Int)
/-- the datagram -/
def tagd (k s e n a m : Int) (P : List UInt8) (t : Int) : List UInt8 := sgn k s e n a m P ++ be8 t
def enc (k s e n a m : Int) (P : List UInt8) (t : Int) : List UInt8 := tagd k s e n a m P t ++ be4 (crcI (tagd k s e n a m P t))
theorem crcI_in (l : List UInt8) : inR .u32 (crcI l) := by
  rw [in_u32]
  have := Crc.reg_lt l
  unfold crcI Crc.crc
  omega
noncomputable def crcHooks (RO : PT AObj) (r : FuncId → Option Hook) : FuncId → Option Hook := hkAdd 27 (bytesH .u32 crcI RO) (hkAdd 29 (bytesH .u32 crcI RO) r)
theorem crcHooks_ok {w0 : World} {RO : PT AObj} {r : FuncId → Option Hook} (h : HooksOk Try.prog w0 RO r) : HooksOk Try.prog w0 RO (crcHooks RO r) :=
  hkAdd_ok (bytesH_ok ⟨_, rfl, rfl, by kernel_rfl⟩ (fun l _ => crcI_in l) fun v l S w hv _ => (Crc.crc_any v l S w hv).mono fun e w' ⟨h1, h2⟩ => ⟨h1, h2 ▸ Below.refl _ _⟩)
    (hkAdd_ok (bytesH_ok ⟨_, rfl, rfl, by kernel_rfl⟩ (fun l _ => crcI_in l) fun v l S w hv _ => (Crc.refCrc_any v l S w hv).mono fun e w' ⟨h1, h2⟩ => ⟨h1, h2 ▸ Below.refl _ _⟩) h)
theorem follows : Try.prog.follows .mixedOrders = true := by kernel_rfl
theorem named : ∀ (f : FuncId) (fn : Func), Try.prog.funcs[f]? = some fn → (fn.name == "runtime.NumGoroutine") = false := named_of (P := Try.prog) (by kernel_rfl)
/-! May -/
abbrev MAY : FuncId := 11
abbrev RMAY : FuncId := 12
def dF : List AD := [.agg [.int .u8, .int .u32, .int .u32, .int .u32, .int .u32, .int .u32, .bytes]]
def dR : List AD := [.agg [.int .i64, .int .u32, .int .u32, .int .u32, .int .u32, .int .u32, .bytes]]
def argF (k : AVal) (s e n a m : Int) (P : List UInt8) (cap : Nat) : AVal := .agg [k, .sint .u32 s, .sint .u32 e, .sint .u32 n, .sint .u32 a, .sint .u32 m, .sslice (906, 0) P.length cap true 1]
def mayR (xs : List Atom) : AVal := match xs with
  | [k, s, e, n, a, m, p] => .sbool (mayB k.zOf n.zOf a.zOf m.zOf p.lOf.length)
  | _ => .undef
noncomputable def mayW (k : AVal) (s e n a m : Int) (P : List UInt8) (cap : Nat) (kz : Int) (dc : Dc) : Prop := wpD Try.prog .leaf hkNone (fun _ => none) 100 (bodyOf Try.prog MAY) (tmpsN Try.prog MAY) ⟨none, []⟩ (argsT [argF k s e n a m P cap] 0 .leaf) ⟨.leaf, 1000, []⟩ dc (fun r _ => endW Try.prog .leaf Try.f11 r (endK (.sbool (mayB kz n a m P.length)) []))
noncomputable def rmayW (k : AVal) (s e n a m : Int) (P : List UInt8) (cap : Nat) (kz : Int) (dc : Dc) : Prop := wpD Try.prog .leaf hkNone (fun _ => none) 100 (bodyOf Try.prog RMAY) (tmpsN Try.prog RMAY) ⟨none, []⟩ (argsT [argF k s e n a m P cap] 0 .leaf) ⟨.leaf, 1000, []⟩ dc (fun r _ => endW Try.prog .leaf Try.f12 r (endK (.sbool (mayB kz n a m P.length)) []))
--forms
def may0 (s e n a m : Int) (P : List UInt8) (cap : Nat) : Prop :=
    List.length P ≤ 9223372036854775807 ∧ (Decidable.decide ((↑(List.length P) : Int) ≤ (256 : Int)) = Bool.true →
    Go.Proofs.Ytlnfolgmjfcinaa.Fr.mayB (0 : Int) n a m (List.length P) = Bool.false ∧ True ∧ True ∧ True) ∧ (Decidable.decide ((↑(List.length P) : Int) ≤ (256 : Int)) = Bool.false →
    Go.Proofs.Ytlnfolgmjfcinaa.Fr.mayB (0 : Int) n a m (List.length P) = Bool.false ∧ True ∧ True ∧ True)
theorem may0_eq (s e n a m : Int) (P : List UInt8) (cap : Nat) : mayW (.int .u8 0) s e n a m P cap 0 [] = may0 s e n a m P cap := by kernel_rfl
def may1 (s e n a m : Int) (P : List UInt8) (cap : Nat) : Prop :=
    List.length P ≤ 9223372036854775807 ∧ (Decidable.decide ((↑(List.length P) : Int) ≤ (256 : Int)) = Bool.true →
    (Decidable.decide (n = (0 : Int)) = Bool.true →
    (Decidable.decide (a = (0 : Int)) = Bool.true →
    Go.Proofs.Ytlnfolgmjfcinaa.Fr.mayB (1 : Int) n a m (List.length P) = Decidable.decide (m = (0 : Int)) ∧ True ∧ True ∧ True) ∧ (Decidable.decide (a = (0 : Int)) = Bool.false →
    Go.Proofs.Ytlnfolgmjfcinaa.Fr.mayB (1 : Int) n a m (List.length P) = Bool.false ∧ True ∧ True ∧ True)) ∧ (Decidable.decide (n = (0 : Int)) = Bool.false →
    Go.Proofs.Ytlnfolgmjfcinaa.Fr.mayB (1 : Int) n a m (List.length P) = Bool.false ∧ True ∧ True ∧ True)) ∧ (Decidable.decide ((↑(List.length P) : Int) ≤ (256 : Int)) = Bool.false →
    Go.Proofs.Ytlnfolgmjfcinaa.Fr.mayB (1 : Int) n a m (List.length P) = Bool.false ∧ True ∧ True ∧ True)
theorem may1_eq (s e n a m : Int) (P : List UInt8) (cap : Nat) : mayW (.int .u8 1) s e n a m P cap 1 [] = may1 s e n a m P cap := by kernel_rfl
def may2 (s e n a m : Int) (P : List UInt8) (cap : Nat) : Prop :=
    List.length P ≤ 9223372036854775807 ∧ (Decidable.decide ((↑(List.length P) : Int) ≤ (256 : Int)) = Bool.true →
    (Decidable.decide (n = (0 : Int)) = Bool.true →
    (Decidable.decide (a = (0 : Int)) = Bool.true →
    Go.Proofs.Ytlnfolgmjfcinaa.Fr.mayB (2 : Int) n a m (List.length P) = Decidable.decide (m = (0 : Int)) ∧ True ∧ True ∧ True) ∧ (Decidable.decide (a = (0 : Int)) = Bool.false →
    Go.Proofs.Ytlnfolgmjfcinaa.Fr.mayB (2 : Int) n a m (List.length P) = Bool.false ∧ True ∧ True ∧ True)) ∧ (Decidable.decide (n = (0 : Int)) = Bool.false →
    Go.Proofs.Ytlnfolgmjfcinaa.Fr.mayB (2 : Int) n a m (List.length P) = Bool.false ∧ True ∧ True ∧ True)) ∧ (Decidable.decide ((↑(List.length P) : Int) ≤ (256 : Int)) = Bool.false →
    Go.Proofs.Ytlnfolgmjfcinaa.Fr.mayB (2 : Int) n a m (List.length P) = Bool.false ∧ True ∧ True ∧ True)
theorem may2_eq (s e n a m : Int) (P : List UInt8) (cap : Nat) : mayW (.int .u8 2) s e n a m P cap 2 [] = may2 s e n a m P cap := by kernel_rfl
def may3 (s e n a m : Int) (P : List UInt8) (cap : Nat) : Prop :=
    List.length P ≤ 9223372036854775807 ∧ (Decidable.decide ((↑(List.length P) : Int) ≤ (256 : Int)) = Bool.true →
    Go.Proofs.Ytlnfolgmjfcinaa.Fr.mayB (3 : Int) n a m (List.length P) = Decidable.decide (n < (2147483648 : Int)) ∧ True ∧ True ∧ True) ∧ (Decidable.decide ((↑(List.length P) : Int) ≤ (256 : Int)) = Bool.false →
    Go.Proofs.Ytlnfolgmjfcinaa.Fr.mayB (3 : Int) n a m (List.length P) = Bool.false ∧ True ∧ True ∧ True)
theorem may3_eq (s e n a m : Int) (P : List UInt8) (cap : Nat) : mayW (.int .u8 3) s e n a m P cap 3 [] = may3 s e n a m P cap := by kernel_rfl
def may4 (s e n a m : Int) (P : List UInt8) (cap : Nat) : Prop :=
    List.length P ≤ 9223372036854775807 ∧ (Decidable.decide ((↑(List.length P) : Int) ≤ (256 : Int)) = Bool.true →
    (Decidable.decide (n = (0 : Int)) = Bool.true →
    List.length P ≤ 9223372036854775807 ∧ Go.Proofs.Ytlnfolgmjfcinaa.Fr.mayB (4 : Int) n a m (List.length P) = Decidable.decide ((↑(List.length P) : Int) = (0 : Int)) ∧ True ∧ True ∧ True) ∧ (Decidable.decide (n = (0 : Int)) = Bool.false →
    Go.Proofs.Ytlnfolgmjfcinaa.Fr.mayB (4 : Int) n a m (List.length P) = Bool.false ∧ True ∧ True ∧ True)) ∧ (Decidable.decide ((↑(List.length P) : Int) ≤ (256 : Int)) = Bool.false →
    Go.Proofs.Ytlnfolgmjfcinaa.Fr.mayB (4 : Int) n a m (List.length P) = Bool.false ∧ True ∧ True ∧ True)
theorem may4_eq (s e n a m : Int) (P : List UInt8) (cap : Nat) : mayW (.int .u8 4) s e n a m P cap 4 [] = may4 s e n a m P cap := by kernel_rfl
def may5 (s e n a m : Int) (P : List UInt8) (cap : Nat) : Prop :=
    List.length P ≤ 9223372036854775807 ∧ (Decidable.decide ((↑(List.length P) : Int) ≤ (256 : Int)) = Bool.true →
    (Decidable.decide (n = (0 : Int)) = Bool.true →
    (Decidable.decide (a = (0 : Int)) = Bool.true →
    Go.Proofs.Ytlnfolgmjfcinaa.Fr.mayB (5 : Int) n a m (List.length P) = Decidable.decide (m = (0 : Int)) ∧ True ∧ True ∧ True) ∧ (Decidable.decide (a = (0 : Int)) = Bool.false →
    Go.Proofs.Ytlnfolgmjfcinaa.Fr.mayB (5 : Int) n a m (List.length P) = Bool.false ∧ True ∧ True ∧ True)) ∧ (Decidable.decide (n = (0 : Int)) = Bool.false →
    Go.Proofs.Ytlnfolgmjfcinaa.Fr.mayB (5 : Int) n a m (List.length P) = Bool.false ∧ True ∧ True ∧ True)) ∧ (Decidable.decide ((↑(List.length P) : Int) ≤ (256 : Int)) = Bool.false →
    Go.Proofs.Ytlnfolgmjfcinaa.Fr.mayB (5 : Int) n a m (List.length P) = Bool.false ∧ True ∧ True ∧ True)
theorem may5_eq (s e n a m : Int) (P : List UInt8) (cap : Nat) : mayW (.int .u8 5) s e n a m P cap 5 [] = may5 s e n a m P cap := by kernel_rfl
def may6 (k s e n a m : Int) (P : List UInt8) (cap : Nat) : Prop :=
    List.length P ≤ 9223372036854775807 ∧ (Decidable.decide ((↑(List.length P) : Int) ≤ (256 : Int)) = Bool.true →
    Decidable.decide (k < (6 : Int)) = Bool.false ∧ Go.Proofs.Ytlnfolgmjfcinaa.Fr.mayB k n a m (List.length P) = Bool.false ∧ True ∧ True ∧ True) ∧ (Decidable.decide ((↑(List.length P) : Int) ≤ (256 : Int)) = Bool.false →
    Go.Proofs.Ytlnfolgmjfcinaa.Fr.mayB k n a m (List.length P) = Bool.false ∧ True ∧ True ∧ True)
theorem may6_eq (k s e n a m : Int) (P : List UInt8) (cap : Nat) : mayW (.sint .u8 k) s e n a m P cap k [2, 0] = may6 k s e n a m P cap := by kernel_rfl
def rmay (k s e n a m : Int) (P : List UInt8) (cap : Nat) : Prop :=
    List.length P ≤ 9223372036854775807 ∧ (Decidable.decide ((256 : Int) < (↑(List.length P) : Int)) = Bool.true →
    Go.Proofs.Ytlnfolgmjfcinaa.Fr.mayB k n a m (List.length P) = Bool.false ∧ True ∧ True ∧ True) ∧ (Decidable.decide ((256 : Int) < (↑(List.length P) : Int)) = Bool.false →
    (Decidable.decide (k = (1 : Int)) = Bool.true →
    (Decidable.decide (k = (1 : Int)) = Bool.true →
    (Decidable.decide (n = (0 : Int)) = Bool.true →
    (Decidable.decide (a = (0 : Int)) = Bool.true →
    Go.Proofs.Ytlnfolgmjfcinaa.Fr.mayB k n a m (List.length P) = Decidable.decide (m = (0 : Int)) ∧ True ∧ True ∧ True) ∧ (Decidable.decide (a = (0 : Int)) = Bool.false →
    Go.Proofs.Ytlnfolgmjfcinaa.Fr.mayB k n a m (List.length P) = Bool.false ∧ True ∧ True ∧ True)) ∧ (Decidable.decide (n = (0 : Int)) = Bool.false →
    Go.Proofs.Ytlnfolgmjfcinaa.Fr.mayB k n a m (List.length P) = Bool.false ∧ True ∧ True ∧ True)) ∧ (Decidable.decide (k = (1 : Int)) = Bool.false →
    (Decidable.decide (k = (3 : Int)) = Bool.true →
    Go.Proofs.Ytlnfolgmjfcinaa.Fr.mayB k n a m (List.length P) = Decidable.decide (n < (2147483648 : Int)) ∧ True ∧ True ∧ True) ∧ (Decidable.decide (k = (3 : Int)) = Bool.false →
    (Decidable.decide (k = (4 : Int)) = Bool.true →
    (Decidable.decide (n = (0 : Int)) = Bool.true →
    List.length P ≤ 9223372036854775807 ∧ Go.Proofs.Ytlnfolgmjfcinaa.Fr.mayB k n a m (List.length P) = Decidable.decide ((↑(List.length P) : Int) = (0 : Int)) ∧ True ∧ True ∧ True) ∧ (Decidable.decide (n = (0 : Int)) = Bool.false →
    Go.Proofs.Ytlnfolgmjfcinaa.Fr.mayB k n a m (List.length P) = Bool.false ∧ True ∧ True ∧ True)) ∧ (Decidable.decide (k = (4 : Int)) = Bool.false →
    Go.Proofs.Ytlnfolgmjfcinaa.Fr.mayB k n a m (List.length P) = Bool.false ∧ True ∧ True ∧ True)))) ∧ (Decidable.decide (k = (1 : Int)) = Bool.false →
    (Decidable.decide (k = (2 : Int)) = Bool.true →
    (Decidable.decide (k = (2 : Int)) = Bool.true →
    (Decidable.decide (n = (0 : Int)) = Bool.true →
    (Decidable.decide (a = (0 : Int)) = Bool.true →
    Go.Proofs.Ytlnfolgmjfcinaa.Fr.mayB k n a m (List.length P) = Decidable.decide (m = (0 : Int)) ∧ True ∧ True ∧ True) ∧ (Decidable.decide (a = (0 : Int)) = Bool.false →
    Go.Proofs.Ytlnfolgmjfcinaa.Fr.mayB k n a m (List.length P) = Bool.false ∧ True ∧ True ∧ True)) ∧ (Decidable.decide (n = (0 : Int)) = Bool.false →
    Go.Proofs.Ytlnfolgmjfcinaa.Fr.mayB k n a m (List.length P) = Bool.false ∧ True ∧ True ∧ True)) ∧ (Decidable.decide (k = (2 : Int)) = Bool.false →
    (Decidable.decide (k = (3 : Int)) = Bool.true →
    Go.Proofs.Ytlnfolgmjfcinaa.Fr.mayB k n a m (List.length P) = Decidable.decide (n < (2147483648 : Int)) ∧ True ∧ True ∧ True) ∧ (Decidable.decide (k = (3 : Int)) = Bool.false →
    (Decidable.decide (k = (4 : Int)) = Bool.true →
    (Decidable.decide (n = (0 : Int)) = Bool.true →
    List.length P ≤ 9223372036854775807 ∧ Go.Proofs.Ytlnfolgmjfcinaa.Fr.mayB k n a m (List.length P) = Decidable.decide ((↑(List.length P) : Int) = (0 : Int)) ∧ True ∧ True ∧ True) ∧ (Decidable.decide (n = (0 : Int)) = Bool.false →
    Go.Proofs.Ytlnfolgmjfcinaa.Fr.mayB k n a m (List.length P) = Bool.false ∧ True ∧ True ∧ True)) ∧ (Decidable.decide (k = (4 : Int)) = Bool.false →
    Go.Proofs.Ytlnfolgmjfcinaa.Fr.mayB k n a m (List.length P) = Bool.false ∧ True ∧ True ∧ True)))) ∧ (Decidable.decide (k = (2 : Int)) = Bool.false →
    (Decidable.decide (k = (5 : Int)) = Bool.true →
    (Decidable.decide (n = (0 : Int)) = Bool.true →
    (Decidable.decide (a = (0 : Int)) = Bool.true →
    Go.Proofs.Ytlnfolgmjfcinaa.Fr.mayB k n a m (List.length P) = Decidable.decide (m = (0 : Int)) ∧ True ∧ True ∧ True) ∧ (Decidable.decide (a = (0 : Int)) = Bool.false →
    Go.Proofs.Ytlnfolgmjfcinaa.Fr.mayB k n a m (List.length P) = Bool.false ∧ True ∧ True ∧ True)) ∧ (Decidable.decide (n = (0 : Int)) = Bool.false →
    Go.Proofs.Ytlnfolgmjfcinaa.Fr.mayB k n a m (List.length P) = Bool.false ∧ True ∧ True ∧ True)) ∧ (Decidable.decide (k = (5 : Int)) = Bool.false →
    (Decidable.decide (k = (3 : Int)) = Bool.true →
    Go.Proofs.Ytlnfolgmjfcinaa.Fr.mayB k n a m (List.length P) = Decidable.decide (n < (2147483648 : Int)) ∧ True ∧ True ∧ True) ∧ (Decidable.decide (k = (3 : Int)) = Bool.false →
    (Decidable.decide (k = (4 : Int)) = Bool.true →
    (Decidable.decide (n = (0 : Int)) = Bool.true →
    List.length P ≤ 9223372036854775807 ∧ Go.Proofs.Ytlnfolgmjfcinaa.Fr.mayB k n a m (List.length P) = Decidable.decide ((↑(List.length P) : Int) = (0 : Int)) ∧ True ∧ True ∧ True) ∧ (Decidable.decide (n = (0 : Int)) = Bool.false →
    Go.Proofs.Ytlnfolgmjfcinaa.Fr.mayB k n a m (List.length P) = Bool.false ∧ True ∧ True ∧ True)) ∧ (Decidable.decide (k = (4 : Int)) = Bool.false →
    Go.Proofs.Ytlnfolgmjfcinaa.Fr.mayB k n a m (List.length P) = Bool.false ∧ True ∧ True ∧ True))))))
theorem rmay_eq (k s e n a m : Int) (P : List UInt8) (cap : Nat) : rmayW (.sint .i64 k) s e n a m P cap k [] = rmay k s e n a m P cap := by kernel_rfl
theorem may0_ok (s e n a m : Int) (P : List UInt8) (cap : Nat) (hP : P.length ≤ 9223372036854775807) : may0 s e n a m P cap := by
  unfold may0 mayB
  refine ⟨by omega, ?_⟩
  simp
theorem may1_ok (s e n a m : Int) (P : List UInt8) (cap : Nat) (hP : P.length ≤ 9223372036854775807) : may1 s e n a m P cap := by
  unfold may1 mayB
  refine ⟨by omega, ?_⟩
  simp +contextual
  try omega
theorem may2_ok (s e n a m : Int) (P : List UInt8) (cap : Nat) (hP : P.length ≤ 9223372036854775807) : may2 s e n a m P cap := by
  unfold may2 mayB
  refine ⟨by omega, ?_⟩
  simp +contextual
  try omega
theorem may3_ok (s e n a m : Int) (P : List UInt8) (cap : Nat) (hP : P.length ≤ 9223372036854775807) : may3 s e n a m P cap := by
  unfold may3 mayB
  refine ⟨by omega, ?_⟩
  simp +contextual
  try omega
theorem may4_ok (s e n a m : Int) (P : List UInt8) (cap : Nat) (hP : P.length ≤ 9223372036854775807) : may4 s e n a m P cap := by
  unfold may4 mayB
  refine ⟨by omega, ?_⟩
  simp +contextual
  try omega
theorem may5_ok (s e n a m : Int) (P : List UInt8) (cap : Nat) (hP : P.length ≤ 9223372036854775807) : may5 s e n a m P cap := by
  unfold may5 mayB
  refine ⟨by omega, ?_⟩
  simp +contextual
  try omega
theorem may6_ok (k s e n a m : Int) (P : List UInt8) (cap : Nat) (hP : P.length ≤ 9223372036854775807) (hk : 6 ≤ k) : may6 k s e n a m P cap := by
  unfold may6 mayB
  rw [if_neg (by omega), if_neg (by omega), if_neg (by omega)]
  refine ⟨by omega, ?_⟩
  simp
  try omega
theorem rmay_ok (k s e n a m : Int) (P : List UInt8) (cap : Nat) (hP : P.length ≤ 9223372036854775807) : rmay k s e n a m P cap := by
  unfold rmay mayB
  refine ⟨by omega, ?_⟩
  by_cases h1 : k = 1
  · subst h1; simp +contextual; try omega
  by_cases h2 : k = 2
  · subst h2; simp +contextual; try omega
  by_cases h5 : k = 5
  · subst h5; simp +contextual; try omega
  by_cases h3 : k = 3
  · subst h3; simp +contextual; try omega
  by_cases h4 : k = 4
  · subst h4; simp +contextual; try omega
  simp [h1, h2, h3, h4, h5]
  try omega
end Go.Proofs.Ytlnfolgmjfcinaa.Fr
