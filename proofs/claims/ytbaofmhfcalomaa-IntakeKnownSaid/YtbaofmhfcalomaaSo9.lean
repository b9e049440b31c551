/- slices.Sort of uint32s, at most 16 that are all others. By an AI agent. -/
import Derived.Test.YtbaofmhfcalomaaSo8
namespace Go.Proofs.Ytbaofmhfcalomaa.So
open Go Go.RowKit Go.Proofs.Ytbaofmhfcalomaa.Abs
set_option linter.unusedVariables false
set_option maxRecDepth 100000
set_option linter.unusedSimpArgs false
abbrev SORT : FuncId := 90
def bigM : Mut := { k := .u32, pre := fun l zs => zs.length = 3 ∧ zs.getD 0 0 = 0 ∧ zs.getD 1 0 = l.length ∧ l.length ≤ 16 ∧ l.Nodup ∧ 0 ≤ zs.getD 2 0 ∧ zs.getD 2 0 ≤ 5 ∧ (l.length : Int) ≤ 12 + zs.getD 2 0, Z := List Int, post := fun l zs m => m.length = l.length ∧ Sw 0 l.length l m ∧ Srt m 0 l.length, row := fun _ m => m, res := fun _ => .tuple [] }
section
variable {w0 : World} {RO : PT AObj}
theorem sml_rel (args : List AVal) (st : St) (h : (relM smlM args st).pre) : CallT Try.prog w0 RO PDQ args st fun v s' => ∃ z, (relM smlM args st).post z ∧ v = (relM smlM args st).res z ∧ s' = (relM smlM args st).out z := by
  refine relM_ok ⟨_, rfl, rfl, by kernel_rfl⟩ (fun y φ ψ u h => noRes h) (fun l zs t c hl hr hz hpre φs w us hw hus => ?_) args st h
  obtain ⟨⟨hlen, hin⟩, hp⟩ := hpre
  match zs, hlen, hin, hp with
  | [x, y, q], _, ⟨h0, h1, h2, h3⟩, p1 =>
    obtain ⟨a, rfl⟩ := Int.eq_ofNat_of_zero_le h0
    obtain ⟨b, rfl⟩ := Int.eq_ofNat_of_zero_le (show 0 ≤ y by omega)
    have p1 : b ≤ a + 12 := p1
    have hr0 : RelsOk Try.prog w0 .leaf (annR [(PDQ, 0, smlO l a b q t)] [(INS, relM insM)]) := fun g S x y h => by
      simp only [annR, relsU] at h
      cases hb : Nat.beq INS g with
      | false => rw [hb] at h; cases h
      | true =>
        rw [hb] at h
        cases h
        obtain rfl := Nat.eq_of_beq_eq_true hb
        exact ins_rel x y
    have hp1 := smlf_ok (c := c) (L := q) (t := t) (show a ≤ b by omega) (show b ≤ l.length by omega) h3 hl p1
    rw [← smlf_eq] at hp1
    refine (nest_from (RO := .leaf) follows named (hkAdd_ok noH_ok (hkAdd_ok noH_ok soHooks_ok)) rolow_leaf hp1 hus hw rrel_leaf hr0).mono ?_
    rintro e w' ⟨u, v, st', rfl, hK, hs⟩
    exact ⟨u, v, st', rfl, rowK_mono hK fun v m hq => ⟨m, hq.2, fun ψ u hu => (by rw [hq.1] at hu; exact hu), rfl⟩, hs⟩
theorem pdq_rels (l : List Int) (n : Nat) (t : TypeId) : RelsOk Try.prog w0 RO (pdqAnn l n t) := fun g S x y h => by
  simp only [pdqAnn, annR, relsU] at h
  cases hb : Nat.beq INS g with
  | true => rw [hb] at h; cases h; obtain rfl := Nat.eq_of_beq_eq_true hb; exact ins_rel x y
  | false =>
  rw [hb] at h
  cases hb2 : Nat.beq PART g with
  | true => rw [hb2] at h; cases h; obtain rfl := Nat.eq_of_beq_eq_true hb2; exact par_rel x y
  | false =>
  rw [hb2] at h
  cases hb3 : Nat.beq CHOOSE g with
  | true => rw [hb3] at h; cases h; obtain rfl := Nat.eq_of_beq_eq_true hb3; exact cho_rel x y
  | false =>
  rw [hb3] at h
  cases hb4 : Nat.beq PARTIAL g with
  | true => rw [hb4] at h; cases h; obtain rfl := Nat.eq_of_beq_eq_true hb4; exact prt_rel x y
  | false =>
  rw [hb4] at h
  cases hb5 : Nat.beq BREAK g with
  | true => rw [hb5] at h; cases h; obtain rfl := Nat.eq_of_beq_eq_true hb5; exact brk_rel x y
  | false =>
  rw [hb5] at h
  cases hb6 : Nat.beq PDQ g with
  | true => rw [hb6] at h; cases h; obtain rfl := Nat.eq_of_beq_eq_true hb6; exact sml_rel x y
  | false => rw [hb6] at h; cases h
set_option maxRecDepth 100000 in
theorem big_rel (args : List AVal) (st : St) (h : (relM bigM args st).pre) : CallT Try.prog w0 RO PDQ args st fun v s' => ∃ z, (relM bigM args st).post z ∧ v = (relM bigM args st).res z ∧ s' = (relM bigM args st).out z := by
  refine relM_ok ⟨_, rfl, rfl, by kernel_rfl⟩ (fun y φ ψ u h => noRes h) (fun l zs t c hl hr hz hpre φs w us hw hus => ?_) args st h
  obtain ⟨hlen, h0, h1, h2, h3, h4, h5, h6⟩ := hpre
  match zs, hlen, h0, h1, h4, h5, h6 with
  | [x, y, q], _, h0, h1, h4, h5, h6 =>
    have h0 : x = 0 := h0
    have h1 : y = l.length := h1
    have h4 : 0 ≤ q := h4
    have h5 : q ≤ 5 := h5
    have h6 : (l.length : Int) ≤ 12 + q := h6
    subst h0 h1
    have hp1 := pdqf_ok (c := c) (L := q) (t := t) rfl h2 hl h3 h4 h5 (by omega)
    rw [← pdqf_eq] at hp1
    have hus2 : VRels φs [.sslice (1000, 0) l.length c false 1, .int .i64 0, .sint .i64 (l.length : Int), .sint .i64 q] us := by
      cases hus with
      | cons _ u1 _ us1 q1 q2 => cases q2 with
        | cons _ u2 _ us2 q3 q4 =>
          refine .cons _ _ _ _ q1 (.cons _ _ _ _ ?_ q4)
          cases q3; exact .int _ _
    refine (nest_from (RO := .leaf) follows named (hkAdd_ok noH_ok (hkAdd_ok noH_ok soHooks_ok)) rolow_leaf hp1 hus2 hw rrel_leaf (pdq_rels _ _ _)).mono ?_
    rintro e w' ⟨u, v, st', rfl, hK, hs⟩
    exact ⟨u, v, st', rfl, rowK_mono hK fun v m hq => ⟨m, hq.2, fun ψ u hu => (by rw [hq.1] at hu; exact hu), rfl⟩, hs⟩
end
--forms
def sorf (l : List Int) (c : Nat) (t : TypeId) : Prop :=
    List.length l ≤ 9223372036854775807 ∧ ((0 : Int) ≤ Go.Proofs.Ytbaofmhfcalomaa.Abs.Atom.zOf (Go.Proofs.Ytbaofmhfcalomaa.Abs.Atom.z ((↑(List.length l) : Int) % (18446744073709551616 : Int))) ∧ Go.Proofs.Ytbaofmhfcalomaa.Abs.Atom.zOf (Go.Proofs.Ytbaofmhfcalomaa.Abs.Atom.z ((↑(List.length l) : Int) % (18446744073709551616 : Int))) ≤ (16 : Int)) ∧ ∀ (z' : Int), z' = Go.Proofs.Ytbaofmhfcalomaa.So.lenI (Go.Proofs.Ytbaofmhfcalomaa.Abs.Atom.zOf (Go.Proofs.Ytbaofmhfcalomaa.Abs.Atom.z ((↑(List.length l) : Int) % (18446744073709551616 : Int)))) →
    ((0 : Nat) = 0 ∧ List.length l = List.length l ∧ 0 < List.length l ∧ List.length [(0 : Int), (↑(List.length l) : Int), z'] = 3 ∧ List.getD [(0 : Int), (↑(List.length l) : Int), z'] 0 (0 : Int) = (0 : Int) ∧ List.getD [(0 : Int), (↑(List.length l) : Int), z'] 1 (0 : Int) = (↑(List.length l) : Int) ∧ List.length l ≤ 16 ∧ List.Pairwise (fun x1 x2 => x1 ≠ x2) l ∧ (0 : Int) ≤ z' ∧ z' ≤ (5 : Int) ∧ (↑(List.length l) : Int) ≤ (12 : Int) + z') ∧ ∀ (z : List Int), List.length z = List.length l ∧ Go.Proofs.Ytbaofmhfcalomaa.So.Sw 0 (List.length l) l z ∧ Go.Proofs.Ytbaofmhfcalomaa.So.Srt z 0 (List.length l) →
    (Go.Proofs.Ytbaofmhfcalomaa.Abs.kindEq Go.IntKind.u32 Go.IntKind.u32 = Bool.true ∧ t = t) ∧ Go.Proofs.Ytbaofmhfcalomaa.Abs.AVal.tuple [] = Go.Proofs.Ytbaofmhfcalomaa.Abs.AVal.tuple [] ∧ List.length z = List.length l ∧ Go.Proofs.Ytbaofmhfcalomaa.So.Sw 0 (List.length l) l z ∧ Go.Proofs.Ytbaofmhfcalomaa.So.Srt z 0 (List.length l)
theorem sorf_eq (l : List Int) (c : Nat) (t : TypeId) : nestF Try.prog .leaf (brkHooks .leaf) (annR [] [(PDQ, relM bigM)]) SORT [.sslice (1000, 0) l.length c false 1] (rowSt .u32 l t) [] (rowK .u32 (fun v m => v = .tuple [] ∧ m.length = l.length ∧ Sw 0 l.length l m ∧ Srt m 0 l.length) t) = sorf l c t := by kernel_rfl
def sorfS (l : List Int) (c : Nat) (t : TypeId) : Prop :=
    List.length l ≤ 9223372036854775807 ∧ ((0 : Int) ≤ (↑(List.length l) : Int) % (18446744073709551616 : Int) ∧ (↑(List.length l) : Int) % (18446744073709551616 : Int) ≤ (16 : Int)) ∧ ∀ (z' : Int), z' = Go.Proofs.Ytbaofmhfcalomaa.So.lenI ((↑(List.length l) : Int) % (18446744073709551616 : Int)) →
    (0 < List.length l ∧ List.length [(0 : Int), (↑(List.length l) : Int), z'] = 3 ∧ List.getD [(0 : Int), (↑(List.length l) : Int), z'] 0 (0 : Int) = (0 : Int) ∧ List.getD [(0 : Int), (↑(List.length l) : Int), z'] 1 (0 : Int) = (↑(List.length l) : Int) ∧ List.length l ≤ 16 ∧ List.Pairwise (fun x1 x2 => x1 ≠ x2) l ∧ (0 : Int) ≤ z' ∧ z' ≤ (5 : Int) ∧ (↑(List.length l) : Int) ≤ (12 : Int) + z') ∧ ∀ (z : List Int), List.length z = List.length l ∧ Go.Proofs.Ytbaofmhfcalomaa.So.Sw 0 (List.length l) l z ∧ Go.Proofs.Ytbaofmhfcalomaa.So.Srt z 0 (List.length l) →
    Go.Proofs.Ytbaofmhfcalomaa.Abs.kindEq Go.IntKind.u32 Go.IntKind.u32 = Bool.true ∧ List.length z = List.length l ∧ Go.Proofs.Ytbaofmhfcalomaa.So.Sw 0 (List.length l) l z ∧ Go.Proofs.Ytbaofmhfcalomaa.So.Srt z 0 (List.length l)
theorem sorf_of (l : List Int) (c : Nat) (t : TypeId) (hS0 : sorfS l c t) : sorf l c t := by
  unfold sorfS at hS0
  unfold sorf
  exact (have a37 := hS0.1; have b38 := hS0.2; ⟨a37, (have a35 := b38.1; have b36 := b38.2; ⟨(have a1 := a35.1; have b2 := a35.2; ⟨a1, b2⟩), (fun x3 => have y34 := b36 x3; (fun k4 => have y33 := y34 k4; (have a31 := y33.1; have b32 := y33.2; ⟨⟨rfl, ⟨rfl, (have a19 := a31.1; have b20 := a31.2; ⟨a19, (have a17 := b20.1; have b18 := b20.2; ⟨a17, (have a15 := b18.1; have b16 := b18.2; ⟨a15, (have a13 := b16.1; have b14 := b16.2; ⟨a13, (have a11 := b14.1; have b12 := b14.2; ⟨a11, (have a9 := b12.1; have b10 := b12.2; ⟨a9, (have a7 := b10.1; have b8 := b10.2; ⟨a7, (have a5 := b8.1; have b6 := b8.2; ⟨a5, b6⟩)⟩)⟩)⟩)⟩)⟩)⟩)⟩)⟩⟩, (fun x21 => have y30 := b32 x21; (fun k22 => have y29 := y30 k22; (have a27 := y29.1; have b28 := y29.2; ⟨⟨a27, rfl⟩, ⟨rfl, (have a25 := b28.1; have b26 := b28.2; ⟨a25, (have a23 := b26.1; have b24 := b26.2; ⟨a23, b24⟩)⟩)⟩⟩)))⟩)))⟩)⟩)

theorem sorf_ok {l : List Int} {c : Nat} {t : TypeId} (h0 : 0 < l.length) (h16 : l.length ≤ 16) (hd : l.Nodup) : sorf l c t := by
  refine sorf_of _ _ _ ?_
  unfold sorfS
  repeat' (first
    | (with_reducible refine And.intro ?_ ?_)
    | (intro (h : false = true); cases h)
    | (intro (h : true = false); cases h)
    | (intro h; first | (replace h := of_decide_eq_true h) | (replace h := of_decide_eq_false h) | skip)
    | (with_reducible exact trivial)
    | (with_reducible rfl)
    | (with_reducible exact ⟨(), trivial, trivial, trivial, trivial⟩)
    | (show kindEq IntKind.u32 IntKind.u32 = true; rfl)
    | assumption
    | omega
    | (with_reducible refine decide_eq_true ?_; omega)
    | (with_reducible refine decide_eq_false ?_; omega)
    | (simp only [in_u8, in_u16, in_u32, in_u64, in_i64, Nat.le_eq]; omega)
    | (exfalso; omega))
  · rfl
  · rfl
  · rfl
  · rw [Int.emod_eq_of_lt (by omega) (by omega)] at h; unfold lenI at h; omega
  · rw [Int.emod_eq_of_lt (by omega) (by omega)] at h; unfold lenI at h; omega
  · rw [Int.emod_eq_of_lt (by omega) (by omega)] at h; unfold lenI at h; omega
  all_goals first | exact h.2.1 | exact h.2.2
end Go.Proofs.Ytbaofmhfcalomaa.So
