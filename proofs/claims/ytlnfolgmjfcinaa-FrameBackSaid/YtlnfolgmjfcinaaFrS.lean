/- Frames: Signed; the reference's Signed and Encode. By an AI agent. -/
import Derived.Test.YtlnfolgmjfcinaaFrE
namespace Go.Proofs.Ytlnfolgmjfcinaa.Fr
open Go Go.RowKit Go.Proofs.Ytlnfolgmjfcinaa.Abs Go.Proofs.Ytlnfolgmjfcinaa.M
set_option linter.unusedVariables false
set_option linter.unusedSimpArgs false
def sgnR (ex : Bool) (xs : List Atom) : AVal := match xs with
  | [k, s, e, n, a, m, p] => outS ex (sgnT k.zOf s.zOf e.zOf n.zOf a.zOf m.zOf p.lOf)
  | _ => .undef
def sgnO (xs : List Atom) : List AObj := match xs with
  | [k, s, e, n, a, m, p] => [.sbytes (sgnT k.zOf s.zOf e.zOf n.zOf a.zOf m.zOf p.lOf) U8]
  | _ => []
noncomputable def rsgnH (RO : PT AObj) : Hook := hookR dR (fun _ => True) (sgnR false) sgnO RO
noncomputable def rsgnHooks (RO : PT AObj) : FuncId → Option Hook := hkAdd RSGN (rsgnH RO) (mayHooks RO)
noncomputable def rencW (k s e n a m : Int) (P : List UInt8) (cap : Nat) (t : Int) (dc : Dc) : Prop := wpD Try.prog (roP P) (rsgnHooks (roP P)) (fun _ => none) 100 (bodyOf Try.prog RENC) (tmpsN Try.prog RENC) ⟨none, []⟩ (argsT [argF (.sint .i64 k) s e n a m P cap, .sint .u64 t] 0 .leaf) ⟨.leaf, 1000, []⟩ dc (fun r _ => endW Try.prog (roP P) Try.f10 r (endK (outE false (encT k s e n a m P t) (errT k n a m P)) [.sbytes (encT k s e n a m P t) U8]))
theorem dd2 (x : Int) : x / 256 / 256 = x / 65536 := by omega
theorem dd3 (x : Int) : x / 65536 / 256 = x / 16777216 := by omega
theorem dd4 (x : Int) : x / 16777216 / 256 = x / 4294967296 := by omega
theorem dd5 (x : Int) : x / 4294967296 / 256 = x / 1099511627776 := by omega
theorem dd6 (x : Int) : x / 1099511627776 / 256 = x / 281474976710656 := by omega
theorem dd7 (x : Int) : x / 281474976710656 / 256 = x / 72057594037927936 := by omega
theorem mm (x : Int) : x % 256 % 256 = x % 256 := by omega
theorem may_k {k n a m : Int} {len : Nat} (h : mayB k n a m len = true) : 1 ≤ k ∧ k ≤ 5 ∧ len ≤ 256 := by
  unfold mayB at h
  simp only [Bool.and_eq_true, decide_eq_true_eq] at h
  obtain ⟨h1, h2⟩ := h
  split at h2
  · omega
  · split at h2
    · omega
    · split at h2
      · omega
      · cases h2
--forms
def sgnA (k s e n a m : Int) (P : List UInt8) (cap : Nat) : Prop :=
    ((0 + List.length P ≤ List.length P ∧ List.length (List.take (List.length P) (List.drop 0 P)) ≤ 9223372036854775807) ∧ True) ∧ (!Go.Proofs.Ytlnfolgmjfcinaa.Fr.mayB k n a m (List.length (Go.Proofs.Ytlnfolgmjfcinaa.Abs.Atom.lOf (Go.Proofs.Ytlnfolgmjfcinaa.Abs.Atom.l (List.take (List.length P) (List.drop 0 P)))))) = Bool.false ∧ ((0 : Int) ≤ s ∧ (0 : Int) ≤ (24 : Int)) ∧ ((0 : Int) ≤ s ∧ (0 : Int) ≤ (16 : Int)) ∧ ((0 : Int) ≤ s ∧ (0 : Int) ≤ (8 : Int)) ∧ ((0 : Int) ≤ e ∧ (0 : Int) ≤ (24 : Int)) ∧ ((0 : Int) ≤ e ∧ (0 : Int) ≤ (16 : Int)) ∧ ((0 : Int) ≤ e ∧ (0 : Int) ≤ (8 : Int)) ∧ ((0 : Int) ≤ n ∧ (0 : Int) ≤ (24 : Int)) ∧ ((0 : Int) ≤ n ∧ (0 : Int) ≤ (16 : Int)) ∧ ((0 : Int) ≤ n ∧ (0 : Int) ≤ (8 : Int)) ∧ ((0 : Int) ≤ a ∧ (0 : Int) ≤ (24 : Int)) ∧ ((0 : Int) ≤ a ∧ (0 : Int) ≤ (16 : Int)) ∧ ((0 : Int) ≤ a ∧ (0 : Int) ≤ (8 : Int)) ∧ ((0 : Int) ≤ m ∧ (0 : Int) ≤ (24 : Int)) ∧ ((0 : Int) ≤ m ∧ (0 : Int) ≤ (16 : Int)) ∧ ((0 : Int) ≤ m ∧ (0 : Int) ≤ (8 : Int)) ∧ 0 + List.length P ≤ List.length P ∧ ∀ (l' : List UInt8), l' = List.take (List.length P) (List.drop 0 P) →
    ∀ (l'_1 : List UInt8), l'_1 = l' →
    List.length l'_1 ≤ 9223372036854775807 ∧ Decidable.decide ((↑(List.length l'_1) : Int) ≤ (65535 : Int)) = Bool.true ∧ ∀ (l'_2 : List UInt8), l'_2 = l' →
    List.length l'_2 ≤ 9223372036854775807 ∧ ((0 : Int) ≤ (↑(List.length l'_2) : Int) % (65536 : Int) ∧ (0 : Int) ≤ (8 : Int)) ∧ ∀ (l'_3 : List UInt8), l'_3 = l' →
    List.length l'_3 ≤ 1048576 ∧ List.length l'_3 ≤ 9223372036854775807 ∧ Decidable.decide ((↑(List.length l'_3) : Int) = (0 : Int)) = Bool.false ∧ 0 < List.length l'_3 ∧ (0 + List.length l'_3 ≤ List.length l'_3 ∧ Nat.le 0 0 ∧ 0 + (List.length l'_3) ≤ 65536 ∧ (Bool.true = Bool.true →
    0 ≤ 0)) ∧ ∀ (l' : List UInt8), l' = List.take 0 (List.drop 0 []) ++ List.take (List.length l'_3) (List.drop 0 l'_3) →
    List.length l'_3 ≤ 9223372036854775807 ∧ Go.Proofs.Ytlnfolgmjfcinaa.Abs.inR Go.IntKind.i64 ((23 : Int) + (↑(List.length l'_3) : Int)) ∧ ∀ (z' : Int), z' = (23 : Int) + (↑(List.length l'_3) : Int) →
    ((0 : Int) ≤ z' ∧ z' ≤ z' ∧ z' ≤ (1048576 : Int)) ∧ 0 + (List.length l'_3) ≤ 9223372036854775807 ∧ Go.Proofs.Ytlnfolgmjfcinaa.Abs.inR Go.IntKind.i64 (z' - (↑(0 + (List.length l'_3)) : Int)) ∧ ∀ (z'_1 : Int), z'_1 = z' - (↑(0 + (List.length l'_3)) : Int) →
    (True ∧ True ∧ (0 : Int) ≤ z'_1 ∧ Int.toNat z'_1 ≤ Int.toNat z' ∧ Int.toNat z' ≤ Int.toNat z' ∧ Int.toNat z' ≤ Int.toNat z') ∧ (0 + (0 + (List.length l'_3)) ≤ List.length l' ∧ Nat.le (0 + Int.toNat z'_1 * 1 + (Int.toNat z' - Int.toNat z'_1)) (List.length (List.replicate (Int.toNat z') (0 : UInt8))) ∧ Min.min (0 + (List.length l'_3)) (Int.toNat z' - Int.toNat z'_1) ≤ 9223372036854775807) ∧ ∀ (l'_4 : List UInt8), l'_4 = Go.Proofs.Ytlnfolgmjfcinaa.Abs.cpyL (List.replicate (Int.toNat z') (0 : UInt8)) (0 + Int.toNat z'_1 * 1) (Min.min (0 + (List.length l'_3)) (Int.toNat z' - Int.toNat z'_1)) (List.take (0 + (List.length l'_3)) (List.drop 0 l')) →
    Go.Proofs.Ytlnfolgmjfcinaa.Abs.inR Go.IntKind.i64 (z'_1 - (2 : Int)) ∧ ∀ (z'_2 : Int), z'_2 = z'_1 - (2 : Int) →
    (True ∧ True ∧ (0 : Int) ≤ z'_2 ∧ Int.toNat z'_2 ≤ Int.toNat z' ∧ Int.toNat z' ≤ Int.toNat z' ∧ Int.toNat z' ≤ Int.toNat z') ∧ (2 ≤ List.length [UInt8.ofNat (Int.toNat ((↑(List.length l'_2) : Int) % (65536 : Int) / (256 : Int) % (256 : Int))), UInt8.ofNat (Int.toNat ((↑(List.length l'_2) : Int) % (65536 : Int) % (256 : Int)))] ∧ Nat.le (0 + Int.toNat z'_2 * 1 + (Int.toNat z' - Int.toNat z'_2)) (List.length l'_4) ∧ Min.min 2 (Int.toNat z' - Int.toNat z'_2) ≤ 9223372036854775807) ∧ ∀ (l' : List UInt8), l' = Go.Proofs.Ytlnfolgmjfcinaa.Abs.cpyL l'_4 (0 + Int.toNat z'_2 * 1) (Min.min 2 (Int.toNat z' - Int.toNat z'_2)) (List.take 2 (List.drop 0 [UInt8.ofNat (Int.toNat ((↑(List.length l'_2) : Int) % (65536 : Int) / (256 : Int) % (256 : Int))), UInt8.ofNat (Int.toNat ((↑(List.length l'_2) : Int) % (65536 : Int) % (256 : Int)))])) →
    Go.Proofs.Ytlnfolgmjfcinaa.Abs.inR Go.IntKind.i64 (z'_2 - (4 : Int)) ∧ ∀ (z'_3 : Int), z'_3 = z'_2 - (4 : Int) →
    (True ∧ True ∧ (0 : Int) ≤ z'_3 ∧ Int.toNat z'_3 ≤ Int.toNat z' ∧ Int.toNat z' ≤ Int.toNat z' ∧ Int.toNat z' ≤ Int.toNat z') ∧ (4 ≤ List.length [UInt8.ofNat (Int.toNat (m / (16777216 : Int) % (256 : Int))), UInt8.ofNat (Int.toNat (m / (65536 : Int) % (256 : Int))), UInt8.ofNat (Int.toNat (m / (256 : Int) % (256 : Int))), UInt8.ofNat (Int.toNat (m % (256 : Int)))] ∧ Nat.le (0 + Int.toNat z'_3 * 1 + (Int.toNat z' - Int.toNat z'_3)) (List.length l') ∧ Min.min 4 (Int.toNat z' - Int.toNat z'_3) ≤ 9223372036854775807) ∧ ∀ (l'_5 : List UInt8), l'_5 = Go.Proofs.Ytlnfolgmjfcinaa.Abs.cpyL l' (0 + Int.toNat z'_3 * 1) (Min.min 4 (Int.toNat z' - Int.toNat z'_3)) (List.take 4 (List.drop 0 [UInt8.ofNat (Int.toNat (m / (16777216 : Int) % (256 : Int))), UInt8.ofNat (Int.toNat (m / (65536 : Int) % (256 : Int))), UInt8.ofNat (Int.toNat (m / (256 : Int) % (256 : Int))), UInt8.ofNat (Int.toNat (m % (256 : Int)))])) →
    Go.Proofs.Ytlnfolgmjfcinaa.Abs.inR Go.IntKind.i64 (z'_3 - (4 : Int)) ∧ ∀ (z'_4 : Int), z'_4 = z'_3 - (4 : Int) →
    (True ∧ True ∧ (0 : Int) ≤ z'_4 ∧ Int.toNat z'_4 ≤ Int.toNat z' ∧ Int.toNat z' ≤ Int.toNat z' ∧ Int.toNat z' ≤ Int.toNat z') ∧ (4 ≤ List.length [UInt8.ofNat (Int.toNat (a / (16777216 : Int) % (256 : Int))), UInt8.ofNat (Int.toNat (a / (65536 : Int) % (256 : Int))), UInt8.ofNat (Int.toNat (a / (256 : Int) % (256 : Int))), UInt8.ofNat (Int.toNat (a % (256 : Int)))] ∧ Nat.le (0 + Int.toNat z'_4 * 1 + (Int.toNat z' - Int.toNat z'_4)) (List.length l'_5) ∧ Min.min 4 (Int.toNat z' - Int.toNat z'_4) ≤ 9223372036854775807) ∧ ∀ (l' : List UInt8), l' = Go.Proofs.Ytlnfolgmjfcinaa.Abs.cpyL l'_5 (0 + Int.toNat z'_4 * 1) (Min.min 4 (Int.toNat z' - Int.toNat z'_4)) (List.take 4 (List.drop 0 [UInt8.ofNat (Int.toNat (a / (16777216 : Int) % (256 : Int))), UInt8.ofNat (Int.toNat (a / (65536 : Int) % (256 : Int))), UInt8.ofNat (Int.toNat (a / (256 : Int) % (256 : Int))), UInt8.ofNat (Int.toNat (a % (256 : Int)))])) →
    Go.Proofs.Ytlnfolgmjfcinaa.Abs.inR Go.IntKind.i64 (z'_4 - (4 : Int)) ∧ ∀ (z'_5 : Int), z'_5 = z'_4 - (4 : Int) →
    (True ∧ True ∧ (0 : Int) ≤ z'_5 ∧ Int.toNat z'_5 ≤ Int.toNat z' ∧ Int.toNat z' ≤ Int.toNat z' ∧ Int.toNat z' ≤ Int.toNat z') ∧ (4 ≤ List.length [UInt8.ofNat (Int.toNat (n / (16777216 : Int) % (256 : Int))), UInt8.ofNat (Int.toNat (n / (65536 : Int) % (256 : Int))), UInt8.ofNat (Int.toNat (n / (256 : Int) % (256 : Int))), UInt8.ofNat (Int.toNat (n % (256 : Int)))] ∧ Nat.le (0 + Int.toNat z'_5 * 1 + (Int.toNat z' - Int.toNat z'_5)) (List.length l') ∧ Min.min 4 (Int.toNat z' - Int.toNat z'_5) ≤ 9223372036854775807) ∧ ∀ (l'_6 : List UInt8), l'_6 = Go.Proofs.Ytlnfolgmjfcinaa.Abs.cpyL l' (0 + Int.toNat z'_5 * 1) (Min.min 4 (Int.toNat z' - Int.toNat z'_5)) (List.take 4 (List.drop 0 [UInt8.ofNat (Int.toNat (n / (16777216 : Int) % (256 : Int))), UInt8.ofNat (Int.toNat (n / (65536 : Int) % (256 : Int))), UInt8.ofNat (Int.toNat (n / (256 : Int) % (256 : Int))), UInt8.ofNat (Int.toNat (n % (256 : Int)))])) →
    Go.Proofs.Ytlnfolgmjfcinaa.Abs.inR Go.IntKind.i64 (z'_5 - (4 : Int)) ∧ ∀ (z'_6 : Int), z'_6 = z'_5 - (4 : Int) →
    (True ∧ True ∧ (0 : Int) ≤ z'_6 ∧ Int.toNat z'_6 ≤ Int.toNat z' ∧ Int.toNat z' ≤ Int.toNat z' ∧ Int.toNat z' ≤ Int.toNat z') ∧ (4 ≤ List.length [UInt8.ofNat (Int.toNat (e / (16777216 : Int) % (256 : Int))), UInt8.ofNat (Int.toNat (e / (65536 : Int) % (256 : Int))), UInt8.ofNat (Int.toNat (e / (256 : Int) % (256 : Int))), UInt8.ofNat (Int.toNat (e % (256 : Int)))] ∧ Nat.le (0 + Int.toNat z'_6 * 1 + (Int.toNat z' - Int.toNat z'_6)) (List.length l'_6) ∧ Min.min 4 (Int.toNat z' - Int.toNat z'_6) ≤ 9223372036854775807) ∧ ∀ (l' : List UInt8), l' = Go.Proofs.Ytlnfolgmjfcinaa.Abs.cpyL l'_6 (0 + Int.toNat z'_6 * 1) (Min.min 4 (Int.toNat z' - Int.toNat z'_6)) (List.take 4 (List.drop 0 [UInt8.ofNat (Int.toNat (e / (16777216 : Int) % (256 : Int))), UInt8.ofNat (Int.toNat (e / (65536 : Int) % (256 : Int))), UInt8.ofNat (Int.toNat (e / (256 : Int) % (256 : Int))), UInt8.ofNat (Int.toNat (e % (256 : Int)))])) →
    Go.Proofs.Ytlnfolgmjfcinaa.Abs.inR Go.IntKind.i64 (z'_6 - (4 : Int)) ∧ ∀ (z'_7 : Int), z'_7 = z'_6 - (4 : Int) →
    (True ∧ True ∧ (0 : Int) ≤ z'_7 ∧ Int.toNat z'_7 ≤ Int.toNat z' ∧ Int.toNat z' ≤ Int.toNat z' ∧ Int.toNat z' ≤ Int.toNat z') ∧ (4 ≤ List.length [UInt8.ofNat (Int.toNat (s / (16777216 : Int) % (256 : Int))), UInt8.ofNat (Int.toNat (s / (65536 : Int) % (256 : Int))), UInt8.ofNat (Int.toNat (s / (256 : Int) % (256 : Int))), UInt8.ofNat (Int.toNat (s % (256 : Int)))] ∧ Nat.le (0 + Int.toNat z'_7 * 1 + (Int.toNat z' - Int.toNat z'_7)) (List.length l') ∧ Min.min 4 (Int.toNat z' - Int.toNat z'_7) ≤ 9223372036854775807) ∧ ∀ (l'_7 : List UInt8), l'_7 = Go.Proofs.Ytlnfolgmjfcinaa.Abs.cpyL l' (0 + Int.toNat z'_7 * 1) (Min.min 4 (Int.toNat z' - Int.toNat z'_7)) (List.take 4 (List.drop 0 [UInt8.ofNat (Int.toNat (s / (16777216 : Int) % (256 : Int))), UInt8.ofNat (Int.toNat (s / (65536 : Int) % (256 : Int))), UInt8.ofNat (Int.toNat (s / (256 : Int) % (256 : Int))), UInt8.ofNat (Int.toNat (s % (256 : Int)))])) →
    Go.Proofs.Ytlnfolgmjfcinaa.Abs.inR Go.IntKind.i64 (z'_7 - (1 : Int)) ∧ ∀ (z'_8 : Int), z'_8 = z'_7 - (1 : Int) →
    (True ∧ True ∧ (0 : Int) ≤ z'_8 ∧ Int.toNat z'_8 ≤ Int.toNat z' ∧ Int.toNat z' ≤ Int.toNat z' ∧ Int.toNat z' ≤ Int.toNat z') ∧ (1 ≤ List.length [UInt8.ofNat (Int.toNat k)] ∧ Nat.le (0 + Int.toNat z'_8 * 1 + (Int.toNat z' - Int.toNat z'_8)) (List.length l'_7) ∧ Min.min 1 (Int.toNat z' - Int.toNat z'_8) ≤ 9223372036854775807) ∧ ∀ (l' : List UInt8), l' = Go.Proofs.Ytlnfolgmjfcinaa.Abs.cpyL l'_7 (0 + Int.toNat z'_8 * 1) (Min.min 1 (Int.toNat z' - Int.toNat z'_8)) (List.take 1 (List.drop 0 [UInt8.ofNat (Int.toNat k)])) →
    (0 = 0 ∧ List.length (Go.Proofs.Ytlnfolgmjfcinaa.Fr.sgnT k s e n a m P) = Int.toNat z' ∧ List.length (Go.Proofs.Ytlnfolgmjfcinaa.Fr.sgnT k s e n a m P) = Int.toNat z') ∧ True ∧ True ∧ Go.Proofs.Ytlnfolgmjfcinaa.Fr.sgnT k s e n a m P = l' ∧ True
theorem sgnA_eq (k s e n a m : Int) (P : List UInt8) (cap : Nat) : sgnW k s e n a m P cap [0, 1, 0] = sgnA k s e n a m P cap := by kernel_rfl
def sgnB (k s e n a m : Int) (P : List UInt8) (cap : Nat) : Prop :=
    ((0 + List.length P ≤ List.length P ∧ List.length (List.take (List.length P) (List.drop 0 P)) ≤ 9223372036854775807) ∧ True) ∧ (!Go.Proofs.Ytlnfolgmjfcinaa.Fr.mayB k n a m (List.length (Go.Proofs.Ytlnfolgmjfcinaa.Abs.Atom.lOf (Go.Proofs.Ytlnfolgmjfcinaa.Abs.Atom.l (List.take (List.length P) (List.drop 0 P)))))) = Bool.false ∧ ((0 : Int) ≤ s ∧ (0 : Int) ≤ (24 : Int)) ∧ ((0 : Int) ≤ s ∧ (0 : Int) ≤ (16 : Int)) ∧ ((0 : Int) ≤ s ∧ (0 : Int) ≤ (8 : Int)) ∧ ((0 : Int) ≤ e ∧ (0 : Int) ≤ (24 : Int)) ∧ ((0 : Int) ≤ e ∧ (0 : Int) ≤ (16 : Int)) ∧ ((0 : Int) ≤ e ∧ (0 : Int) ≤ (8 : Int)) ∧ ((0 : Int) ≤ n ∧ (0 : Int) ≤ (24 : Int)) ∧ ((0 : Int) ≤ n ∧ (0 : Int) ≤ (16 : Int)) ∧ ((0 : Int) ≤ n ∧ (0 : Int) ≤ (8 : Int)) ∧ ((0 : Int) ≤ a ∧ (0 : Int) ≤ (24 : Int)) ∧ ((0 : Int) ≤ a ∧ (0 : Int) ≤ (16 : Int)) ∧ ((0 : Int) ≤ a ∧ (0 : Int) ≤ (8 : Int)) ∧ ((0 : Int) ≤ m ∧ (0 : Int) ≤ (24 : Int)) ∧ ((0 : Int) ≤ m ∧ (0 : Int) ≤ (16 : Int)) ∧ ((0 : Int) ≤ m ∧ (0 : Int) ≤ (8 : Int)) ∧ 0 + List.length P ≤ List.length P ∧ ∀ (l' : List UInt8), l' = List.take (List.length P) (List.drop 0 P) →
    ∀ (l'_1 : List UInt8), l'_1 = l' →
    List.length l'_1 ≤ 9223372036854775807 ∧ Decidable.decide ((↑(List.length l'_1) : Int) ≤ (65535 : Int)) = Bool.true ∧ ∀ (l'_2 : List UInt8), l'_2 = l' →
    List.length l'_2 ≤ 9223372036854775807 ∧ ((0 : Int) ≤ (↑(List.length l'_2) : Int) % (65536 : Int) ∧ (0 : Int) ≤ (8 : Int)) ∧ ∀ (l'_3 : List UInt8), l'_3 = l' →
    List.length l'_3 ≤ 1048576 ∧ List.length l'_3 ≤ 9223372036854775807 ∧ Decidable.decide ((↑(List.length l'_3) : Int) = (0 : Int)) = Bool.true ∧ (0 = 0 ∧ List.length (Go.Proofs.Ytlnfolgmjfcinaa.Fr.sgnT k s e n a m P) = 23 ∧ List.length (Go.Proofs.Ytlnfolgmjfcinaa.Fr.sgnT k s e n a m P) = 23) ∧ True ∧ True ∧ Go.Proofs.Ytlnfolgmjfcinaa.Fr.sgnT k s e n a m P = [UInt8.ofNat (Int.toNat k), UInt8.ofNat (Int.toNat (s / (16777216 : Int) % (256 : Int))), UInt8.ofNat (Int.toNat (s / (65536 : Int) % (256 : Int))), UInt8.ofNat (Int.toNat (s / (256 : Int) % (256 : Int))), UInt8.ofNat (Int.toNat (s % (256 : Int))), UInt8.ofNat (Int.toNat (e / (16777216 : Int) % (256 : Int))), UInt8.ofNat (Int.toNat (e / (65536 : Int) % (256 : Int))), UInt8.ofNat (Int.toNat (e / (256 : Int) % (256 : Int))), UInt8.ofNat (Int.toNat (e % (256 : Int))), UInt8.ofNat (Int.toNat (n / (16777216 : Int) % (256 : Int))), UInt8.ofNat (Int.toNat (n / (65536 : Int) % (256 : Int))), UInt8.ofNat (Int.toNat (n / (256 : Int) % (256 : Int))), UInt8.ofNat (Int.toNat (n % (256 : Int))), UInt8.ofNat (Int.toNat (a / (16777216 : Int) % (256 : Int))), UInt8.ofNat (Int.toNat (a / (65536 : Int) % (256 : Int))), UInt8.ofNat (Int.toNat (a / (256 : Int) % (256 : Int))), UInt8.ofNat (Int.toNat (a % (256 : Int))), UInt8.ofNat (Int.toNat (m / (16777216 : Int) % (256 : Int))), UInt8.ofNat (Int.toNat (m / (65536 : Int) % (256 : Int))), UInt8.ofNat (Int.toNat (m / (256 : Int) % (256 : Int))), UInt8.ofNat (Int.toNat (m % (256 : Int))), UInt8.ofNat (Int.toNat ((↑(List.length l'_2) : Int) % (65536 : Int) / (256 : Int) % (256 : Int))), UInt8.ofNat (Int.toNat ((↑(List.length l'_2) : Int) % (65536 : Int) % (256 : Int)))] ∧ True
theorem sgnB_eq (k s e n a m : Int) (P : List UInt8) (cap : Nat) : sgnW k s e n a m P cap [0, 1, 1] = sgnB k s e n a m P cap := by kernel_rfl
def sgnC (k s e n a m : Int) (P : List UInt8) (cap : Nat) : Prop :=
    ((0 + List.length P ≤ List.length P ∧ List.length (List.take (List.length P) (List.drop 0 P)) ≤ 9223372036854775807) ∧ True) ∧ (!Go.Proofs.Ytlnfolgmjfcinaa.Fr.mayB k n a m (List.length (Go.Proofs.Ytlnfolgmjfcinaa.Abs.Atom.lOf (Go.Proofs.Ytlnfolgmjfcinaa.Abs.Atom.l (List.take (List.length P) (List.drop 0 P)))))) = Bool.true ∧ (List.length (Go.Proofs.Ytlnfolgmjfcinaa.Fr.sgnT k s e n a m P) = 0 ∧ List.length (Go.Proofs.Ytlnfolgmjfcinaa.Fr.sgnT k s e n a m P) = 0) ∧ True ∧ True ∧ Go.Proofs.Ytlnfolgmjfcinaa.Fr.sgnT k s e n a m P = [] ∧ True
theorem sgnC_eq (k s e n a m : Int) (P : List UInt8) (cap : Nat) : sgnW k s e n a m P cap [1] = sgnC k s e n a m P cap := by kernel_rfl
def rsgnA (k s e n a m : Int) (P : List UInt8) (cap : Nat) : Prop :=
    ((0 + List.length P ≤ List.length P ∧ List.length (List.take (List.length P) (List.drop 0 P)) ≤ 9223372036854775807) ∧ True) ∧ (!Go.Proofs.Ytlnfolgmjfcinaa.Fr.mayB k n a m (List.length (Go.Proofs.Ytlnfolgmjfcinaa.Abs.Atom.lOf (Go.Proofs.Ytlnfolgmjfcinaa.Abs.Atom.l (List.take (List.length P) (List.drop 0 P)))))) = Bool.false ∧ ((0 : Int) ≤ s ∧ (0 : Int) < (256 : Int)) ∧ ((0 : Int) ≤ s ∧ (0 : Int) < (256 : Int)) ∧ ((0 : Int) ≤ s / (256 : Int) ∧ (0 : Int) < (256 : Int)) ∧ ((0 : Int) ≤ s / (256 : Int) ∧ (0 : Int) < (256 : Int)) ∧ ((0 : Int) ≤ s / (256 : Int) / (256 : Int) ∧ (0 : Int) < (256 : Int)) ∧ ((0 : Int) ≤ s / (256 : Int) / (256 : Int) ∧ (0 : Int) < (256 : Int)) ∧ ((0 : Int) ≤ s / (256 : Int) / (256 : Int) / (256 : Int) ∧ (0 : Int) < (256 : Int)) ∧ ((0 : Int) ≤ s / (256 : Int) / (256 : Int) / (256 : Int) ∧ (0 : Int) < (256 : Int)) ∧ ((0 : Int) ≤ e ∧ (0 : Int) < (256 : Int)) ∧ ((0 : Int) ≤ e ∧ (0 : Int) < (256 : Int)) ∧ ((0 : Int) ≤ e / (256 : Int) ∧ (0 : Int) < (256 : Int)) ∧ ((0 : Int) ≤ e / (256 : Int) ∧ (0 : Int) < (256 : Int)) ∧ ((0 : Int) ≤ e / (256 : Int) / (256 : Int) ∧ (0 : Int) < (256 : Int)) ∧ ((0 : Int) ≤ e / (256 : Int) / (256 : Int) ∧ (0 : Int) < (256 : Int)) ∧ ((0 : Int) ≤ e / (256 : Int) / (256 : Int) / (256 : Int) ∧ (0 : Int) < (256 : Int)) ∧ ((0 : Int) ≤ e / (256 : Int) / (256 : Int) / (256 : Int) ∧ (0 : Int) < (256 : Int)) ∧ ((0 : Int) ≤ n ∧ (0 : Int) < (256 : Int)) ∧ ((0 : Int) ≤ n ∧ (0 : Int) < (256 : Int)) ∧ ((0 : Int) ≤ n / (256 : Int) ∧ (0 : Int) < (256 : Int)) ∧ ((0 : Int) ≤ n / (256 : Int) ∧ (0 : Int) < (256 : Int)) ∧ ((0 : Int) ≤ n / (256 : Int) / (256 : Int) ∧ (0 : Int) < (256 : Int)) ∧ ((0 : Int) ≤ n / (256 : Int) / (256 : Int) ∧ (0 : Int) < (256 : Int)) ∧ ((0 : Int) ≤ n / (256 : Int) / (256 : Int) / (256 : Int) ∧ (0 : Int) < (256 : Int)) ∧ ((0 : Int) ≤ n / (256 : Int) / (256 : Int) / (256 : Int) ∧ (0 : Int) < (256 : Int)) ∧ ((0 : Int) ≤ a ∧ (0 : Int) < (256 : Int)) ∧ ((0 : Int) ≤ a ∧ (0 : Int) < (256 : Int)) ∧ ((0 : Int) ≤ a / (256 : Int) ∧ (0 : Int) < (256 : Int)) ∧ ((0 : Int) ≤ a / (256 : Int) ∧ (0 : Int) < (256 : Int)) ∧ ((0 : Int) ≤ a / (256 : Int) / (256 : Int) ∧ (0 : Int) < (256 : Int)) ∧ ((0 : Int) ≤ a / (256 : Int) / (256 : Int) ∧ (0 : Int) < (256 : Int)) ∧ ((0 : Int) ≤ a / (256 : Int) / (256 : Int) / (256 : Int) ∧ (0 : Int) < (256 : Int)) ∧ ((0 : Int) ≤ a / (256 : Int) / (256 : Int) / (256 : Int) ∧ (0 : Int) < (256 : Int)) ∧ ((0 : Int) ≤ m ∧ (0 : Int) < (256 : Int)) ∧ ((0 : Int) ≤ m ∧ (0 : Int) < (256 : Int)) ∧ ((0 : Int) ≤ m / (256 : Int) ∧ (0 : Int) < (256 : Int)) ∧ ((0 : Int) ≤ m / (256 : Int) ∧ (0 : Int) < (256 : Int)) ∧ ((0 : Int) ≤ m / (256 : Int) / (256 : Int) ∧ (0 : Int) < (256 : Int)) ∧ ((0 : Int) ≤ m / (256 : Int) / (256 : Int) ∧ (0 : Int) < (256 : Int)) ∧ ((0 : Int) ≤ m / (256 : Int) / (256 : Int) / (256 : Int) ∧ (0 : Int) < (256 : Int)) ∧ ((0 : Int) ≤ m / (256 : Int) / (256 : Int) / (256 : Int) ∧ (0 : Int) < (256 : Int)) ∧ List.length P ≤ 9223372036854775807 ∧ ((0 : Int) ≤ (↑(List.length P) : Int) % (18446744073709551616 : Int) ∧ (0 : Int) < (256 : Int)) ∧ ((0 : Int) ≤ (↑(List.length P) : Int) % (18446744073709551616 : Int) ∧ (0 : Int) < (256 : Int)) ∧ ((0 : Int) ≤ (↑(List.length P) : Int) % (18446744073709551616 : Int) / (256 : Int) ∧ (0 : Int) < (256 : Int)) ∧ ((0 : Int) ≤ (↑(List.length P) : Int) % (18446744073709551616 : Int) / (256 : Int) ∧ (0 : Int) < (256 : Int)) ∧ (0 + List.length P ≤ List.length P ∧ Nat.le 23 (List.length [UInt8.ofNat (Int.toNat (k % (256 : Int))), UInt8.ofNat (Int.toNat (s / (256 : Int) / (256 : Int) / (256 : Int) % (256 : Int) % (256 : Int))), UInt8.ofNat (Int.toNat (s / (256 : Int) / (256 : Int) % (256 : Int) % (256 : Int))), UInt8.ofNat (Int.toNat (s / (256 : Int) % (256 : Int) % (256 : Int))), UInt8.ofNat (Int.toNat (s % (256 : Int) % (256 : Int))), UInt8.ofNat (Int.toNat (e / (256 : Int) / (256 : Int) / (256 : Int) % (256 : Int) % (256 : Int))), UInt8.ofNat (Int.toNat (e / (256 : Int) / (256 : Int) % (256 : Int) % (256 : Int))), UInt8.ofNat (Int.toNat (e / (256 : Int) % (256 : Int) % (256 : Int))), UInt8.ofNat (Int.toNat (e % (256 : Int) % (256 : Int))), UInt8.ofNat (Int.toNat (n / (256 : Int) / (256 : Int) / (256 : Int) % (256 : Int) % (256 : Int))), UInt8.ofNat (Int.toNat (n / (256 : Int) / (256 : Int) % (256 : Int) % (256 : Int))), UInt8.ofNat (Int.toNat (n / (256 : Int) % (256 : Int) % (256 : Int))), UInt8.ofNat (Int.toNat (n % (256 : Int) % (256 : Int))), UInt8.ofNat (Int.toNat (a / (256 : Int) / (256 : Int) / (256 : Int) % (256 : Int) % (256 : Int))), UInt8.ofNat (Int.toNat (a / (256 : Int) / (256 : Int) % (256 : Int) % (256 : Int))), UInt8.ofNat (Int.toNat (a / (256 : Int) % (256 : Int) % (256 : Int))), UInt8.ofNat (Int.toNat (a % (256 : Int) % (256 : Int))), UInt8.ofNat (Int.toNat (m / (256 : Int) / (256 : Int) / (256 : Int) % (256 : Int) % (256 : Int))), UInt8.ofNat (Int.toNat (m / (256 : Int) / (256 : Int) % (256 : Int) % (256 : Int))), UInt8.ofNat (Int.toNat (m / (256 : Int) % (256 : Int) % (256 : Int))), UInt8.ofNat (Int.toNat (m % (256 : Int) % (256 : Int))), UInt8.ofNat (Int.toNat ((↑(List.length P) : Int) % (18446744073709551616 : Int) / (256 : Int) % (256 : Int) % (256 : Int))), UInt8.ofNat (Int.toNat ((↑(List.length P) : Int) % (18446744073709551616 : Int) % (256 : Int) % (256 : Int)))]) ∧ 23 + (List.length P) ≤ 65536 ∧ (Bool.false = Bool.true →
    23 ≤ 23)) ∧ ∀ (l' : List UInt8), l' = List.take 23 (List.drop 0 [UInt8.ofNat (Int.toNat (k % (256 : Int))), UInt8.ofNat (Int.toNat (s / (256 : Int) / (256 : Int) / (256 : Int) % (256 : Int) % (256 : Int))), UInt8.ofNat (Int.toNat (s / (256 : Int) / (256 : Int) % (256 : Int) % (256 : Int))), UInt8.ofNat (Int.toNat (s / (256 : Int) % (256 : Int) % (256 : Int))), UInt8.ofNat (Int.toNat (s % (256 : Int) % (256 : Int))), UInt8.ofNat (Int.toNat (e / (256 : Int) / (256 : Int) / (256 : Int) % (256 : Int) % (256 : Int))), UInt8.ofNat (Int.toNat (e / (256 : Int) / (256 : Int) % (256 : Int) % (256 : Int))), UInt8.ofNat (Int.toNat (e / (256 : Int) % (256 : Int) % (256 : Int))), UInt8.ofNat (Int.toNat (e % (256 : Int) % (256 : Int))), UInt8.ofNat (Int.toNat (n / (256 : Int) / (256 : Int) / (256 : Int) % (256 : Int) % (256 : Int))), UInt8.ofNat (Int.toNat (n / (256 : Int) / (256 : Int) % (256 : Int) % (256 : Int))), UInt8.ofNat (Int.toNat (n / (256 : Int) % (256 : Int) % (256 : Int))), UInt8.ofNat (Int.toNat (n % (256 : Int) % (256 : Int))), UInt8.ofNat (Int.toNat (a / (256 : Int) / (256 : Int) / (256 : Int) % (256 : Int) % (256 : Int))), UInt8.ofNat (Int.toNat (a / (256 : Int) / (256 : Int) % (256 : Int) % (256 : Int))), UInt8.ofNat (Int.toNat (a / (256 : Int) % (256 : Int) % (256 : Int))), UInt8.ofNat (Int.toNat (a % (256 : Int) % (256 : Int))), UInt8.ofNat (Int.toNat (m / (256 : Int) / (256 : Int) / (256 : Int) % (256 : Int) % (256 : Int))), UInt8.ofNat (Int.toNat (m / (256 : Int) / (256 : Int) % (256 : Int) % (256 : Int))), UInt8.ofNat (Int.toNat (m / (256 : Int) % (256 : Int) % (256 : Int))), UInt8.ofNat (Int.toNat (m % (256 : Int) % (256 : Int))), UInt8.ofNat (Int.toNat ((↑(List.length P) : Int) % (18446744073709551616 : Int) / (256 : Int) % (256 : Int) % (256 : Int))), UInt8.ofNat (Int.toNat ((↑(List.length P) : Int) % (18446744073709551616 : Int) % (256 : Int) % (256 : Int)))]) ++ List.take (List.length P) (List.drop 0 P) →
    (0 = 0 ∧ List.length (Go.Proofs.Ytlnfolgmjfcinaa.Fr.sgnT k s e n a m P) = 23 + (List.length P) ∧ List.length (Go.Proofs.Ytlnfolgmjfcinaa.Fr.sgnT k s e n a m P) = 23 + (List.length P)) ∧ True ∧ True ∧ Go.Proofs.Ytlnfolgmjfcinaa.Fr.sgnT k s e n a m P = l' ∧ True
theorem rsgnA_eq (k s e n a m : Int) (P : List UInt8) (cap : Nat) : rsgnW k s e n a m P cap [0] = rsgnA k s e n a m P cap := by kernel_rfl
def rsgnC (k s e n a m : Int) (P : List UInt8) (cap : Nat) : Prop :=
    ((0 + List.length P ≤ List.length P ∧ List.length (List.take (List.length P) (List.drop 0 P)) ≤ 9223372036854775807) ∧ True) ∧ (!Go.Proofs.Ytlnfolgmjfcinaa.Fr.mayB k n a m (List.length (Go.Proofs.Ytlnfolgmjfcinaa.Abs.Atom.lOf (Go.Proofs.Ytlnfolgmjfcinaa.Abs.Atom.l (List.take (List.length P) (List.drop 0 P)))))) = Bool.true ∧ (List.length (Go.Proofs.Ytlnfolgmjfcinaa.Fr.sgnT k s e n a m P) = 0 ∧ List.length (Go.Proofs.Ytlnfolgmjfcinaa.Fr.sgnT k s e n a m P) = 0) ∧ True ∧ True ∧ Go.Proofs.Ytlnfolgmjfcinaa.Fr.sgnT k s e n a m P = [] ∧ True
theorem rsgnC_eq (k s e n a m : Int) (P : List UInt8) (cap : Nat) : rsgnW k s e n a m P cap [1] = rsgnC k s e n a m P cap := by kernel_rfl
def rencA (k s e n a m : Int) (P : List UInt8) (cap : Nat) (t : Int) : Prop :=
    ((0 + List.length P ≤ List.length P ∧ List.length (List.take (List.length P) (List.drop 0 P)) ≤ 9223372036854775807) ∧ True) ∧ (!Go.Proofs.Ytlnfolgmjfcinaa.Fr.mayB k n a m (List.length (Go.Proofs.Ytlnfolgmjfcinaa.Abs.Atom.lOf (Go.Proofs.Ytlnfolgmjfcinaa.Abs.Atom.l (List.take (List.length P) (List.drop 0 P)))))) = Bool.false ∧ ((0 + List.length P ≤ List.length P ∧ List.length (List.take (List.length P) (List.drop 0 P)) ≤ 9223372036854775807) ∧ True) ∧ ∀ (l' : List UInt8), l' = Go.Proofs.Ytlnfolgmjfcinaa.Fr.sgnT k s e n a m (Go.Proofs.Ytlnfolgmjfcinaa.Abs.Atom.lOf (Go.Proofs.Ytlnfolgmjfcinaa.Abs.Atom.l (List.take (List.length P) (List.drop 0 P)))) →
    ((0 : Int) ≤ t ∧ (0 : Int) < (256 : Int)) ∧ ((0 : Int) ≤ t ∧ (0 : Int) < (256 : Int)) ∧ ((0 : Int) ≤ t / (256 : Int) ∧ (0 : Int) < (256 : Int)) ∧ ((0 : Int) ≤ t / (256 : Int) ∧ (0 : Int) < (256 : Int)) ∧ ((0 : Int) ≤ t / (256 : Int) / (256 : Int) ∧ (0 : Int) < (256 : Int)) ∧ ((0 : Int) ≤ t / (256 : Int) / (256 : Int) ∧ (0 : Int) < (256 : Int)) ∧ ((0 : Int) ≤ t / (256 : Int) / (256 : Int) / (256 : Int) ∧ (0 : Int) < (256 : Int)) ∧ ((0 : Int) ≤ t / (256 : Int) / (256 : Int) / (256 : Int) ∧ (0 : Int) < (256 : Int)) ∧ ((0 : Int) ≤ t / (256 : Int) / (256 : Int) / (256 : Int) / (256 : Int) ∧ (0 : Int) < (256 : Int)) ∧ ((0 : Int) ≤ t / (256 : Int) / (256 : Int) / (256 : Int) / (256 : Int) ∧ (0 : Int) < (256 : Int)) ∧ ((0 : Int) ≤ t / (256 : Int) / (256 : Int) / (256 : Int) / (256 : Int) / (256 : Int) ∧ (0 : Int) < (256 : Int)) ∧ ((0 : Int) ≤ t / (256 : Int) / (256 : Int) / (256 : Int) / (256 : Int) / (256 : Int) ∧ (0 : Int) < (256 : Int)) ∧ ((0 : Int) ≤ t / (256 : Int) / (256 : Int) / (256 : Int) / (256 : Int) / (256 : Int) / (256 : Int) ∧ (0 : Int) < (256 : Int)) ∧ ((0 : Int) ≤ t / (256 : Int) / (256 : Int) / (256 : Int) / (256 : Int) / (256 : Int) / (256 : Int) ∧ (0 : Int) < (256 : Int)) ∧ ((0 : Int) ≤ t / (256 : Int) / (256 : Int) / (256 : Int) / (256 : Int) / (256 : Int) / (256 : Int) / (256 : Int) ∧ (0 : Int) < (256 : Int)) ∧ ((0 : Int) ≤ t / (256 : Int) / (256 : Int) / (256 : Int) / (256 : Int) / (256 : Int) / (256 : Int) / (256 : Int) ∧ (0 : Int) < (256 : Int)) ∧ (8 ≤ List.length [UInt8.ofNat (Int.toNat (t / (256 : Int) / (256 : Int) / (256 : Int) / (256 : Int) / (256 : Int) / (256 : Int) / (256 : Int) % (256 : Int) % (256 : Int))), UInt8.ofNat (Int.toNat (t / (256 : Int) / (256 : Int) / (256 : Int) / (256 : Int) / (256 : Int) / (256 : Int) % (256 : Int) % (256 : Int))), UInt8.ofNat (Int.toNat (t / (256 : Int) / (256 : Int) / (256 : Int) / (256 : Int) / (256 : Int) % (256 : Int) % (256 : Int))), UInt8.ofNat (Int.toNat (t / (256 : Int) / (256 : Int) / (256 : Int) / (256 : Int) % (256 : Int) % (256 : Int))), UInt8.ofNat (Int.toNat (t / (256 : Int) / (256 : Int) / (256 : Int) % (256 : Int) % (256 : Int))), UInt8.ofNat (Int.toNat (t / (256 : Int) / (256 : Int) % (256 : Int) % (256 : Int))), UInt8.ofNat (Int.toNat (t / (256 : Int) % (256 : Int) % (256 : Int))), UInt8.ofNat (Int.toNat (t % (256 : Int) % (256 : Int)))] ∧ Nat.le (0 + List.length (Go.Proofs.Ytlnfolgmjfcinaa.Fr.sgnT k s e n a m (Go.Proofs.Ytlnfolgmjfcinaa.Abs.Atom.lOf (Go.Proofs.Ytlnfolgmjfcinaa.Abs.Atom.l (List.take (List.length P) (List.drop 0 P)))))) (List.length l') ∧ List.length (Go.Proofs.Ytlnfolgmjfcinaa.Fr.sgnT k s e n a m (Go.Proofs.Ytlnfolgmjfcinaa.Abs.Atom.lOf (Go.Proofs.Ytlnfolgmjfcinaa.Abs.Atom.l (List.take (List.length P) (List.drop 0 P))))) + 8 ≤ 65536 ∧ (Bool.false = Bool.true →
    0 + List.length (Go.Proofs.Ytlnfolgmjfcinaa.Fr.sgnT k s e n a m (Go.Proofs.Ytlnfolgmjfcinaa.Abs.Atom.lOf (Go.Proofs.Ytlnfolgmjfcinaa.Abs.Atom.l (List.take (List.length P) (List.drop 0 P))))) ≤ (List.length l'))) ∧ ∀ (l'_1 : List UInt8), l'_1 = List.take (List.length (Go.Proofs.Ytlnfolgmjfcinaa.Fr.sgnT k s e n a m (Go.Proofs.Ytlnfolgmjfcinaa.Abs.Atom.lOf (Go.Proofs.Ytlnfolgmjfcinaa.Abs.Atom.l (List.take (List.length P) (List.drop 0 P)))))) (List.drop 0 l') ++ List.take 8 (List.drop 0 [UInt8.ofNat (Int.toNat (t / (256 : Int) / (256 : Int) / (256 : Int) / (256 : Int) / (256 : Int) / (256 : Int) / (256 : Int) % (256 : Int) % (256 : Int))), UInt8.ofNat (Int.toNat (t / (256 : Int) / (256 : Int) / (256 : Int) / (256 : Int) / (256 : Int) / (256 : Int) % (256 : Int) % (256 : Int))), UInt8.ofNat (Int.toNat (t / (256 : Int) / (256 : Int) / (256 : Int) / (256 : Int) / (256 : Int) % (256 : Int) % (256 : Int))), UInt8.ofNat (Int.toNat (t / (256 : Int) / (256 : Int) / (256 : Int) / (256 : Int) % (256 : Int) % (256 : Int))), UInt8.ofNat (Int.toNat (t / (256 : Int) / (256 : Int) / (256 : Int) % (256 : Int) % (256 : Int))), UInt8.ofNat (Int.toNat (t / (256 : Int) / (256 : Int) % (256 : Int) % (256 : Int))), UInt8.ofNat (Int.toNat (t / (256 : Int) % (256 : Int) % (256 : Int))), UInt8.ofNat (Int.toNat (t % (256 : Int) % (256 : Int)))]) →
    (0 + (List.length (Go.Proofs.Ytlnfolgmjfcinaa.Fr.sgnT k s e n a m (Go.Proofs.Ytlnfolgmjfcinaa.Abs.Atom.lOf (Go.Proofs.Ytlnfolgmjfcinaa.Abs.Atom.l (List.take (List.length P) (List.drop 0 P))))) + 8) ≤ List.length l'_1 ∧ List.length (List.take (List.length (Go.Proofs.Ytlnfolgmjfcinaa.Fr.sgnT k s e n a m (Go.Proofs.Ytlnfolgmjfcinaa.Abs.Atom.lOf (Go.Proofs.Ytlnfolgmjfcinaa.Abs.Atom.l (List.take (List.length P) (List.drop 0 P))))) + 8) (List.drop 0 l'_1)) ≤ 9223372036854775807) ∧ ∀ (z' : Int), z' = Go.Proofs.Ytlnfolgmjfcinaa.Fr.crcI (List.take (List.length (Go.Proofs.Ytlnfolgmjfcinaa.Fr.sgnT k s e n a m (Go.Proofs.Ytlnfolgmjfcinaa.Abs.Atom.lOf (Go.Proofs.Ytlnfolgmjfcinaa.Abs.Atom.l (List.take (List.length P) (List.drop 0 P))))) + 8) (List.drop 0 l'_1)) →
    ((0 : Int) ≤ z' ∧ (0 : Int) < (256 : Int)) ∧ ((0 : Int) ≤ z' ∧ (0 : Int) < (256 : Int)) ∧ ((0 : Int) ≤ z' / (256 : Int) ∧ (0 : Int) < (256 : Int)) ∧ ((0 : Int) ≤ z' / (256 : Int) ∧ (0 : Int) < (256 : Int)) ∧ ((0 : Int) ≤ z' / (256 : Int) / (256 : Int) ∧ (0 : Int) < (256 : Int)) ∧ ((0 : Int) ≤ z' / (256 : Int) / (256 : Int) ∧ (0 : Int) < (256 : Int)) ∧ ((0 : Int) ≤ z' / (256 : Int) / (256 : Int) / (256 : Int) ∧ (0 : Int) < (256 : Int)) ∧ ((0 : Int) ≤ z' / (256 : Int) / (256 : Int) / (256 : Int) ∧ (0 : Int) < (256 : Int)) ∧ (4 ≤ List.length [UInt8.ofNat (Int.toNat (z' / (256 : Int) / (256 : Int) / (256 : Int) % (256 : Int) % (256 : Int))), UInt8.ofNat (Int.toNat (z' / (256 : Int) / (256 : Int) % (256 : Int) % (256 : Int))), UInt8.ofNat (Int.toNat (z' / (256 : Int) % (256 : Int) % (256 : Int))), UInt8.ofNat (Int.toNat (z' % (256 : Int) % (256 : Int)))] ∧ Nat.le (0 + (List.length (Go.Proofs.Ytlnfolgmjfcinaa.Fr.sgnT k s e n a m (Go.Proofs.Ytlnfolgmjfcinaa.Abs.Atom.lOf (Go.Proofs.Ytlnfolgmjfcinaa.Abs.Atom.l (List.take (List.length P) (List.drop 0 P))))) + 8)) (List.length l'_1) ∧ List.length (Go.Proofs.Ytlnfolgmjfcinaa.Fr.sgnT k s e n a m (Go.Proofs.Ytlnfolgmjfcinaa.Abs.Atom.lOf (Go.Proofs.Ytlnfolgmjfcinaa.Abs.Atom.l (List.take (List.length P) (List.drop 0 P))))) + 8 + 4 ≤ 65536 ∧ (Bool.false = Bool.true →
    0 + (List.length (Go.Proofs.Ytlnfolgmjfcinaa.Fr.sgnT k s e n a m (Go.Proofs.Ytlnfolgmjfcinaa.Abs.Atom.lOf (Go.Proofs.Ytlnfolgmjfcinaa.Abs.Atom.l (List.take (List.length P) (List.drop 0 P))))) + 8) ≤ (List.length l'_1))) ∧ ∀ (l' : List UInt8), l' = List.take (List.length (Go.Proofs.Ytlnfolgmjfcinaa.Fr.sgnT k s e n a m (Go.Proofs.Ytlnfolgmjfcinaa.Abs.Atom.lOf (Go.Proofs.Ytlnfolgmjfcinaa.Abs.Atom.l (List.take (List.length P) (List.drop 0 P))))) + 8) (List.drop 0 l'_1) ++ List.take 4 (List.drop 0 [UInt8.ofNat (Int.toNat (z' / (256 : Int) / (256 : Int) / (256 : Int) % (256 : Int) % (256 : Int))), UInt8.ofNat (Int.toNat (z' / (256 : Int) / (256 : Int) % (256 : Int) % (256 : Int))), UInt8.ofNat (Int.toNat (z' / (256 : Int) % (256 : Int) % (256 : Int))), UInt8.ofNat (Int.toNat (z' % (256 : Int) % (256 : Int)))]) →
    ((0 = 0 ∧ List.length (Go.Proofs.Ytlnfolgmjfcinaa.Fr.encT k s e n a m P t) = List.length (Go.Proofs.Ytlnfolgmjfcinaa.Fr.sgnT k s e n a m (Go.Proofs.Ytlnfolgmjfcinaa.Abs.Atom.lOf (Go.Proofs.Ytlnfolgmjfcinaa.Abs.Atom.l (List.take (List.length P) (List.drop 0 P))))) + 8 + 4 ∧ List.length (Go.Proofs.Ytlnfolgmjfcinaa.Fr.encT k s e n a m P t) = List.length (Go.Proofs.Ytlnfolgmjfcinaa.Fr.sgnT k s e n a m (Go.Proofs.Ytlnfolgmjfcinaa.Abs.Atom.lOf (Go.Proofs.Ytlnfolgmjfcinaa.Abs.Atom.l (List.take (List.length P) (List.drop 0 P))))) + 8 + 4) ∧ (Go.Proofs.Ytlnfolgmjfcinaa.Fr.errT k n a m P = (0 : Int) ∧ Go.Proofs.Ytlnfolgmjfcinaa.Abs.inR Go.IntKind.i64 (Go.Proofs.Ytlnfolgmjfcinaa.Fr.errT k n a m P)) ∧ True) ∧ True ∧ True ∧ Go.Proofs.Ytlnfolgmjfcinaa.Fr.encT k s e n a m P t = l' ∧ True
theorem rencA_eq (k s e n a m : Int) (P : List UInt8) (cap : Nat) (t : Int) : rencW k s e n a m P cap t [0] = rencA k s e n a m P cap t := by kernel_rfl
def rencC (k s e n a m : Int) (P : List UInt8) (cap : Nat) (t : Int) : Prop :=
    ((0 + List.length P ≤ List.length P ∧ List.length (List.take (List.length P) (List.drop 0 P)) ≤ 9223372036854775807) ∧ True) ∧ (!Go.Proofs.Ytlnfolgmjfcinaa.Fr.mayB k n a m (List.length (Go.Proofs.Ytlnfolgmjfcinaa.Abs.Atom.lOf (Go.Proofs.Ytlnfolgmjfcinaa.Abs.Atom.l (List.take (List.length P) (List.drop 0 P)))))) = Bool.true ∧ ((List.length (Go.Proofs.Ytlnfolgmjfcinaa.Fr.encT k s e n a m P t) = 0 ∧ List.length (Go.Proofs.Ytlnfolgmjfcinaa.Fr.encT k s e n a m P t) = 0) ∧ (Go.Proofs.Ytlnfolgmjfcinaa.Fr.errT k n a m P = (1 : Int) ∧ Go.Proofs.Ytlnfolgmjfcinaa.Abs.inR Go.IntKind.i64 (Go.Proofs.Ytlnfolgmjfcinaa.Fr.errT k n a m P)) ∧ True) ∧ True ∧ True ∧ Go.Proofs.Ytlnfolgmjfcinaa.Fr.encT k s e n a m P t = [] ∧ True
theorem rencC_eq (k s e n a m : Int) (P : List UInt8) (cap : Nat) (t : Int) : rencW k s e n a m P cap t [1] = rencC k s e n a m P cap t := by kernel_rfl
theorem sgnC_ok {k s e n a m : Int} {P : List UInt8} (cap : Nat) (hP : P.length ≤ 9223372036854775807) (hm : mayB k n a m P.length = false) : sgnC k s e n a m P cap := by
  unfold sgnC sgnT
  simp [Atom.zOf, Atom.lOf, hm, hP]
theorem rsgnC_ok {k s e n a m : Int} {P : List UInt8} (cap : Nat) (hP : P.length ≤ 9223372036854775807) (hm : mayB k n a m P.length = false) : rsgnC k s e n a m P cap := by
  unfold rsgnC sgnT
  simp [Atom.zOf, Atom.lOf, hm, hP]
theorem rencC_ok {k s e n a m t : Int} {P : List UInt8} (cap : Nat) (hP : P.length ≤ 9223372036854775807) (hm : mayB k n a m P.length = false) : rencC k s e n a m P cap t := by
  unfold rencC encT errT
  simp [Atom.zOf, Atom.lOf, hm, hP, in_i64]
set_option maxHeartbeats 4000000 in
theorem sgnA_ok {k s e n a m : Int} {P : List UInt8} (cap : Nat) (hs : inR .u32 s) (he : inR .u32 e) (hn : inR .u32 n) (ha : inR .u32 a) (hmm : inR .u32 m) (h0 : 0 < P.length) (hm : mayB k n a m P.length = true) : sgnA k s e n a m P cap := by
  rw [in_u32] at hs he hn ha hmm
  obtain ⟨hk1, hk5, hP⟩ := may_k hm
  have hE : sgnT k s e n a m P = sgn k s e n a m P := if_pos hm
  unfold sgnA
  rw [hE]
  have hq : List.take (List.length P) (List.drop 0 P) = P := by simp
  rw [hq]
  simp only [Atom.zOf, Atom.lOf, hm, Nat.zero_add]
  refine ⟨⟨⟨Nat.le_refl _, by omega⟩, trivial⟩, rfl, ?_⟩
  have b2 : (P.length : Int) % 65536 = P.length := by omega
  repeat (first
    | (refine And.intro (by first | omega | (simp only [in_i64]; omega) | (simp only [true_and, and_true, forall_const, Nat.le_eq, List.length_replicate, List.length_cons, List.length_nil, List.length_append, List.length_take, List.length_drop, decide_eq_true_eq, decide_eq_false_iff_not]; omega)) ?_)
    | (intro (z : Int) hz)
    | (intro l hl
       have HL := cpy_len hl (by simp; omega) (by simp; omega)
       have H := cpy_step hl H (by simp; omega) (by simp; omega)
       clear hl)
    | (intro l hl
       have HL := cpy_len hl (by simp; omega) (by simp; omega)
       have H := cpy_step hl (suf := []) (List.append_nil _).symm (by simp; omega) (by simp; omega)
       rw [List.length_replicate] at HL
       clear hl)
    | (intro l hl; subst l))
  have HE : l = sgn k s e n a m P := by
    rw [rep0 H (by omega)]
    try rw [b2]
    unfold sgn be2 be4 u8
    simp
  subst HE
  exact ⟨⟨trivial, by omega, by omega⟩, trivial, trivial, rfl, trivial⟩
theorem sgnB_ok {k s e n a m : Int} {P : List UInt8} (cap : Nat) (hs : inR .u32 s) (he : inR .u32 e) (hn : inR .u32 n) (ha : inR .u32 a) (hmm : inR .u32 m) (hP0 : P = []) (hm : mayB k n a m P.length = true) : sgnB k s e n a m P cap := by
  rw [in_u32] at hs he hn ha hmm
  obtain ⟨hk1, hk5, hP⟩ := may_k hm
  have hE : sgnT k s e n a m P = sgn k s e n a m P := if_pos hm
  unfold sgnB
  rw [hE]
  have hq : List.take (List.length P) (List.drop 0 P) = P := by simp
  rw [hq]
  simp only [Atom.zOf, Atom.lOf, hm, Nat.zero_add]
  refine ⟨⟨⟨Nat.le_refl _, by omega⟩, trivial⟩, rfl, ?_⟩
  have b2 : (P.length : Int) % 65536 = P.length := by omega
  subst hP0
  repeat (first
    | (refine And.intro (by first | omega | (simp only [in_i64]; omega) | (simp only [true_and, and_true, forall_const, Nat.le_eq, List.length_replicate, List.length_cons, List.length_nil, List.length_append, List.length_take, List.length_drop, decide_eq_true_eq, decide_eq_false_iff_not]; omega)) ?_)
    | (intro (z : Int) hz)
    | (intro l hl
       have HL := cpy_len hl (by simp; omega) (by simp; omega)
       have H := cpy_step hl H (by simp; omega) (by simp; omega)
       clear hl)
    | (intro l hl
       have HL := cpy_len hl (by simp; omega) (by simp; omega)
       have H := cpy_step hl (suf := []) (List.append_nil _).symm (by simp; omega) (by simp; omega)
       rw [List.length_replicate] at HL
       clear hl)
    | (intro l hl; subst l))
  have hL : (sgn k s e n a m []).length = 23 := rfl
  exact ⟨⟨trivial, hL, hL⟩, trivial, trivial, rfl, trivial⟩
set_option maxHeartbeats 4000000 in
theorem rsgnA_ok {k s e n a m : Int} {P : List UInt8} (cap : Nat) (hs : inR .u32 s) (he : inR .u32 e) (hn : inR .u32 n) (ha : inR .u32 a) (hmm : inR .u32 m) (hm : mayB k n a m P.length = true) : rsgnA k s e n a m P cap := by
  rw [in_u32] at hs he hn ha hmm
  obtain ⟨hk1, hk5, hP⟩ := may_k hm
  have hE : sgnT k s e n a m P = sgn k s e n a m P := if_pos hm
  unfold rsgnA
  rw [hE]
  have hq : List.take (List.length P) (List.drop 0 P) = P := by simp
  rw [hq]
  simp only [Atom.zOf, Atom.lOf, hm, Nat.zero_add]
  refine ⟨⟨⟨Nat.le_refl _, by omega⟩, trivial⟩, rfl, ?_⟩
  have b2 : (P.length : Int) % 65536 = P.length := by omega
  have b3 : (P.length : Int) % 18446744073709551616 = P.length := by omega
  repeat (first
    | (refine And.intro (by first | omega | (simp only [in_i64]; omega) | (simp only [true_and, and_true, forall_const, Nat.le_eq, List.length_replicate, List.length_cons, List.length_nil, List.length_append, List.length_take, List.length_drop, decide_eq_true_eq, decide_eq_false_iff_not]; omega)) ?_)
    | (intro l hl))
  have HE : l = sgn k s e n a m P := by
    rw [hl, b3, show k % 256 = k by omega]
    unfold sgn be2 be4 u8
    simp only [dd2, dd3, mm]
    simp
  have hL : (sgn k s e n a m P).length = 23 + P.length := by
    unfold sgn be2 be4
    simp; omega
  subst HE
  exact ⟨⟨trivial, hL, hL⟩, trivial, trivial, rfl, trivial⟩
theorem sgn_length (k s e n a m : Int) (P : List UInt8) : (sgn k s e n a m P).length = 23 + P.length := by
  unfold sgn be2 be4
  simp; omega
theorem tagd_length (k s e n a m : Int) (P : List UInt8) (t : Int) : (tagd k s e n a m P t).length = 31 + P.length := by
  unfold tagd be8 be4
  simp [sgn_length]; omega
theorem enc_length (k s e n a m : Int) (P : List UInt8) (t : Int) : (enc k s e n a m P t).length = 35 + P.length := by
  unfold enc be4
  simp [tagd_length]; omega
theorem be8_dd (t : Int) : be8 t = [u8 (t / 72057594037927936 % 256), u8 (t / 281474976710656 % 256), u8 (t / 1099511627776 % 256), u8 (t / 4294967296 % 256), u8 (t / 16777216 % 256), u8 (t / 65536 % 256), u8 (t / 256 % 256), u8 (t % 256)] := by
  unfold be8 be4
  rw [show t / 4294967296 % 4294967296 / 16777216 % 256 = t / 72057594037927936 % 256 by omega, show t / 4294967296 % 4294967296 / 65536 % 256 = t / 281474976710656 % 256 by omega, show t / 4294967296 % 4294967296 / 256 % 256 = t / 1099511627776 % 256 by omega, show t / 4294967296 % 4294967296 % 256 = t / 4294967296 % 256 by omega,
    show t % 4294967296 / 16777216 % 256 = t / 16777216 % 256 by omega, show t % 4294967296 / 65536 % 256 = t / 65536 % 256 by omega, show t % 4294967296 / 256 % 256 = t / 256 % 256 by omega, show t % 4294967296 % 256 = t % 256 by omega]
  rfl
set_option maxHeartbeats 4000000 in
theorem rencA_ok {k s e n a m t : Int} {P : List UInt8} (cap : Nat) (ht : inR .u64 t) (hm : mayB k n a m P.length = true) : rencA k s e n a m P cap t := by
  rw [in_u64] at ht
  obtain ⟨hk1, hk5, hP⟩ := may_k hm
  have hE : encT k s e n a m P t = enc k s e n a m P t := if_pos hm
  have hR : errT k n a m P = 0 := if_pos hm
  have hS : sgnT k s e n a m P = sgn k s e n a m P := if_pos hm
  unfold rencA
  rw [hE, hR]
  have hq : List.take (List.length P) (List.drop 0 P) = P := by simp
  rw [hq]
  simp only [Atom.zOf, Atom.lOf, hm, Nat.zero_add, hS]
  have hLs := sgn_length k s e n a m P
  refine ⟨⟨⟨Nat.le_refl _, by omega⟩, trivial⟩, rfl, ⟨⟨Nat.le_refl _, by omega⟩, trivial⟩, ?_⟩
  intro l hl
  subst hl
  repeat (refine And.intro (by first | omega | (simp only [in_i64]; omega) | (simp only [true_and, and_true, forall_const, Nat.le_eq, List.length_replicate, List.length_cons, List.length_nil, List.length_append, List.length_take, List.length_drop, decide_eq_true_eq, decide_eq_false_iff_not]; omega)) ?_)
  intro l hl
  have HT : l = tagd k s e n a m P t := by
    rw [hl]
    unfold tagd
    rw [be8_dd]
    simp only [dd2, dd3, dd4, dd5, dd6, dd7, mm]
    simp [u8]
  subst HT
  clear hl
  have hLt := tagd_length k s e n a m P t
  repeat (refine And.intro (by first | omega | (simp only [in_i64]; omega) | (simp only [true_and, and_true, forall_const, Nat.le_eq, List.length_replicate, List.length_cons, List.length_nil, List.length_append, List.length_take, List.length_drop, decide_eq_true_eq, decide_eq_false_iff_not]; omega)) ?_)
  intro z hz
  have hT : List.take (List.length (sgn k s e n a m P) + 8) (List.drop 0 (tagd k s e n a m P t)) = tagd k s e n a m P t := by rw [List.drop_zero, List.take_of_length_le (by omega)]
  rw [hT] at hz ⊢
  have hc := crcI_nn (tagd k s e n a m P t)
  rw [← hz] at hc
  repeat (refine And.intro (by first | omega | (simp only [in_i64]; omega) | (simp only [true_and, and_true, forall_const, Nat.le_eq, List.length_replicate, List.length_cons, List.length_nil, List.length_append, List.length_take, List.length_drop, decide_eq_true_eq, decide_eq_false_iff_not]; omega)) ?_)
  intro l hl
  have HE : l = enc k s e n a m P t := by
    rw [hl]
    unfold enc
    rw [← hz]
    unfold be4
    simp only [dd2, dd3, mm]
    simp [u8]
  subst HE
  have hLe := enc_length k s e n a m P t
  exact ⟨⟨⟨trivial, by omega, by omega⟩, ⟨trivial, by rw [in_i64]; omega⟩, trivial⟩, trivial, trivial, rfl, trivial⟩
end Go.Proofs.Ytlnfolgmjfcinaa.Fr
