/- slices.Sort of uint32s, at most 12 that are all others: by insertion alone. By an AI agent. -/
import Derived.Test.YtmhbmjagnihopaaGreatDoorSo5
namespace Go.Proofs.YtmhbmjagnihopaaGreatDoor.Ss
open Go Go.RowKit Go.Proofs.YtmhbmjagnihopaaGreatDoor.Abs Go.Proofs.YtmhbmjagnihopaaGreatDoor.So
set_option linter.unusedVariables false
set_option linter.unusedSimpArgs false
set_option maxRecDepth 100000
abbrev SORT : FuncId := 144
abbrev PDQ : FuncId := 151
abbrev REV : FuncId := 158
abbrev PEQ : FuncId := 161
structure SmlPre (l zs : List Int) : Prop where
  win : zs.length = 3 ∧ within3 l zs
  ord : hi zs ≤ lo zs + 12
def smlM : Mut := { k := .u32, pre := SmlPre, Z := List Int, post := fun l zs m => m.length = l.length ∧ Sw (lo zs) (hi zs) l m ∧ Srt m (lo zs) (hi zs), row := fun _ m => m, res := fun _ => .tuple [] }
noncomputable def smlO (l : List Int) (a b : Nat) (L : Int) (t : TypeId) (τ : PT AVal) (st : St) : USpec :=
  { X := Unit, ok := fun _ => True, m := fun _ => 0, I := fun _ => ([(1, .sint .i64 (a : Int)), (2, .sint .i64 (b : Int)), (3, .sint .i64 L), (8, .bool true), (9, .bool true)], []), dc := [1],
    outs := [(.ret, { Z := List Int, post := fun m => m.length = l.length ∧ Sw a b l m ∧ Srt m a b, J := fun m => ([], [(1000, .sints .u32 m t)]) })] }
noncomputable def smHooks (RO : PT AObj) : FuncId → Option Hook := hkAdd REV (noH (.tuple [])) (hkAdd PEQ (noH (.sint .i64 0)) (soHooks RO))
noncomputable def stHooks (RO : PT AObj) : FuncId → Option Hook := hkAdd LEN (lenH RO) (soHooks RO)
--forms
def smlf (l : List Int) (a b c : Nat) (L : Int) (t : TypeId) : Prop :=
    (ExT Unit fun x => True ∧ True ∧ ((↑a : Int) = (↑a : Int) ∧ (↑b : Int) = (↑b : Int) ∧ L = L ∧ Bool.true = Bool.true ∧ Bool.true = Bool.true ∧ ((0 : Nat) = 0 ∧ List.length l = List.length l ∧ c = c) ∧ True) ∧ l = l ∧ True) ∧ (∀ (x : Unit), True →
    inR IntKind.i64 ((↑b : Int) - (↑a : Int)) ∧ ∀ (z' : Int), z' = (↑b : Int) - (↑a : Int) →
    Decidable.decide (z' ≤ (12 : Int)) = Bool.true ∧ ((0 : Nat) = 0 ∧ List.length l = List.length l ∧ 0 < List.length l ∧ InsPre l [(↑a : Int), (↑b : Int)]) ∧ ∀ (z : List Int), List.length z = List.length l ∧ Sw (lo [(↑a : Int), (↑b : Int)]) (hi [(↑a : Int), (↑b : Int)]) l z ∧ Srt z (lo [(↑a : Int), (↑b : Int)]) (hi [(↑a : Int), (↑b : Int)]) →
    ExT (List Int) fun z_1 => (List.length z_1 = List.length l ∧ Sw a b l z_1 ∧ Srt z_1 a b) ∧ True ∧ (((0 : Nat) = 0 ∧ List.length l = List.length l ∧ c = c) ∧ True) ∧ z_1 = z ∧ True) ∧ (∀ (z : List Int), List.length z = List.length l ∧ Sw a b l z ∧ Srt z a b →
    (kindEq IntKind.u32 IntKind.u32 = Bool.true ∧ t = t) ∧ AVal.tuple [] = AVal.tuple [] ∧ List.length z = List.length l ∧ Sw a b l z ∧ Srt z a b) ∧ True
theorem smlf_eq (l : List Int) (a b c : Nat) (L : Int) (t : TypeId) : nestF Tryz.prog .leaf (smHooks .leaf) (annR [(PDQ, 0, smlO l a b L t)] [(INS, relM insM)]) PDQ [.sslice (1000, 0) l.length c false 1, .sint .i64 (a : Int), .sint .i64 (b : Int), .sint .i64 L] (rowSt .u32 l t) [] (rowK .u32 (fun v m => v = .tuple [] ∧ m.length = l.length ∧ Sw a b l m ∧ Srt m a b) t) = smlf l a b c L t := by kernel_rfl
def smlfS (l : List Int) (a b c : Nat) (L : Int) (t : TypeId) : Prop :=
    (inR IntKind.i64 ((↑b : Int) - (↑a : Int)) ∧ ∀ (z' : Int), z' = (↑b : Int) - (↑a : Int) →
    Decidable.decide (z' ≤ (12 : Int)) = Bool.true ∧ (0 < List.length l ∧ InsPre l [(↑a : Int), (↑b : Int)]) ∧ ∀ (z : List Int), List.length z = List.length l ∧ Sw (lo [(↑a : Int), (↑b : Int)]) (hi [(↑a : Int), (↑b : Int)]) l z ∧ Srt z (lo [(↑a : Int), (↑b : Int)]) (hi [(↑a : Int), (↑b : Int)]) →
    ExT (List Int) fun z_1 => (List.length z_1 = List.length l ∧ Sw a b l z_1 ∧ Srt z_1 a b) ∧ z_1 = z) ∧ ∀ (z : List Int), List.length z = List.length l ∧ Sw a b l z ∧ Srt z a b →
    kindEq IntKind.u32 IntKind.u32 = Bool.true ∧ List.length z = List.length l ∧ Sw a b l z ∧ Srt z a b
theorem smlf_of (l : List Int) (a b c : Nat) (L : Int) (t : TypeId) (hS0 : smlfS l a b c L t) : smlf l a b c L t := by
  unfold smlfS at hS0
  unfold smlf
  exact ⟨⟨(), trivial, trivial, ⟨rfl, rfl, rfl, rfl, rfl, ⟨rfl, rfl, rfl⟩, trivial⟩, rfl, trivial⟩, (have a36 := hS0.1; have b37 := hS0.2; ⟨(fun _ => (fun _ => (have b25 := a36.2; ⟨a36.1, (fun x2 => have y23 := b25 x2; (fun k3 => have y22 := y23 k3; (have b21 := y22.2; ⟨y22.1, (have b19 := b21.2; ⟨⟨rfl, rfl, b21.1⟩, (fun x6 => have y17 := b19 x6; (fun k7 => have y16 := y17 k7; (Exists.elim y16 fun x8 k9 => ⟨x8, (have b15 := k9.2; ⟨k9.1, trivial, ⟨⟨rfl, rfl, rfl⟩, trivial⟩, b15, trivial⟩)⟩)))⟩)⟩)))⟩))), (fun x26 => have y35 := b37 x26; (fun k27 => have y34 := y35 k27; (have b33 := y34.2; ⟨⟨y34.1, rfl⟩, rfl, b33⟩))), trivial⟩)⟩
def sorf (l : List Int) (c : Nat) (t : TypeId) : Prop :=
    List.length l ≤ 9223372036854775807 ∧ ((0 : Int) ≤ Atom.zOf (Atom.z ((↑(List.length l) : Int) % (18446744073709551616 : Int))) ∧ Atom.zOf (Atom.z ((↑(List.length l) : Int) % (18446744073709551616 : Int))) ≤ (16 : Int)) ∧ ∀ (z' : Int), z' = lenI (Atom.zOf (Atom.z ((↑(List.length l) : Int) % (18446744073709551616 : Int)))) →
    ((0 : Nat) = 0 ∧ List.length l = List.length l ∧ 0 < List.length l ∧ SmlPre l [(0 : Int), (↑(List.length l) : Int), z']) ∧ ∀ (z : List Int), List.length z = List.length l ∧ Sw (lo [(0 : Int), (↑(List.length l) : Int), z']) (hi [(0 : Int), (↑(List.length l) : Int), z']) l z ∧ Srt z (lo [(0 : Int), (↑(List.length l) : Int), z']) (hi [(0 : Int), (↑(List.length l) : Int), z']) →
    (kindEq IntKind.u32 IntKind.u32 = Bool.true ∧ t = t) ∧ AVal.tuple [] = AVal.tuple [] ∧ List.length z = List.length l ∧ Sw 0 (List.length l) l z ∧ Srt z 0 (List.length l)
theorem sorf_eq (l : List Int) (c : Nat) (t : TypeId) : nestF Tryz.prog .leaf (stHooks .leaf) (annR [] [(PDQ, relM smlM)]) SORT [.sslice (1000, 0) l.length c false 1] (rowSt .u32 l t) [] (rowK .u32 (fun v m => v = .tuple [] ∧ m.length = l.length ∧ Sw 0 l.length l m ∧ Srt m 0 l.length) t) = sorf l c t := by kernel_rfl
def sorfS (l : List Int) (c : Nat) (t : TypeId) : Prop :=
    List.length l ≤ 9223372036854775807 ∧ ((0 : Int) ≤ (↑(List.length l) : Int) % (18446744073709551616 : Int) ∧ (↑(List.length l) : Int) % (18446744073709551616 : Int) ≤ (16 : Int)) ∧ ∀ (z' : Int), z' = lenI ((↑(List.length l) : Int) % (18446744073709551616 : Int)) →
    (0 < List.length l ∧ SmlPre l [(0 : Int), (↑(List.length l) : Int), z']) ∧ ∀ (z : List Int), List.length z = List.length l ∧ Sw (lo [(0 : Int), (↑(List.length l) : Int), z']) (hi [(0 : Int), (↑(List.length l) : Int), z']) l z ∧ Srt z (lo [(0 : Int), (↑(List.length l) : Int), z']) (hi [(0 : Int), (↑(List.length l) : Int), z']) →
    kindEq IntKind.u32 IntKind.u32 = Bool.true ∧ List.length z = List.length l ∧ Sw 0 (List.length l) l z ∧ Srt z 0 (List.length l)
theorem sorf_of (l : List Int) (c : Nat) (t : TypeId) (hS0 : sorfS l c t) : sorf l c t := by
  unfold sorfS at hS0
  unfold sorf
  exact (have b24 := hS0.2; ⟨hS0.1, (have b22 := b24.2; ⟨b24.1, (fun x3 => have y20 := b22 x3; (fun k4 => have y19 := y20 k4; (have b18 := y19.2; ⟨⟨rfl, rfl, y19.1⟩, (fun x7 => have y16 := b18 x7; (fun k8 => have y15 := y16 k8; (have b14 := y15.2; ⟨⟨y15.1, rfl⟩, rfl, b14⟩)))⟩)))⟩)⟩)

theorem rfl2 (x y : Int) : [x, y].length = 2 := rfl
theorem rfl3 (x y z : Int) : [x, y, z].length = 3 := rfl
theorem lo_c (x : Int) (r : List Int) : lo (x :: r) = x.toNat := by cases r <;> rfl
theorem hi_c (x y : Int) (r : List Int) : hi (x :: y :: r) = y.toNat := by cases r <;> rfl
theorem toNat_c (a : Nat) : Int.toNat (a : Int) = a := Int.toNat_natCast a
theorem getD2 (x y z : Int) : List.getD [x, y, z] 2 0 = z := by cases z <;> rfl
theorem smlf_ok {l : List Int} {a b c : Nat} {L : Int} {t : TypeId} (hab : a ≤ b) (hb : b ≤ l.length) (hl : l.length ≤ 65536) (h0 : 0 < l.length) (h12 : b ≤ a + 12) : smlf l a b c L t := by
  refine smlf_of _ _ _ _ _ _ ?_
  unfold smlfS
  simp only [lo_c, hi_c, toNat_c, List.length_cons, List.length_nil]
  repeat' (first
    | (with_reducible refine And.intro ?_ ?_)
    | (intro (h : false = true); cases h)
    | (intro (h : true = false); cases h)
    | (intro h; first | (replace h := of_decide_eq_true h) | (replace h := of_decide_eq_false h) | skip)
    | (with_reducible exact trivial)
    | (with_reducible rfl)
    | (with_reducible exact ⟨(), trivial, trivial, trivial, trivial⟩)
    | (show kindEq IntKind.u32 IntKind.u32 = true; rfl)
    | (with_reducible exact trivial)
    | (with_reducible refine InsPre.mk ?_ ?_)
    | (with_reducible refine SmlPre.mk ?_ ?_)
    | (with_reducible refine w3 ?_ ?_ ?_ ?_)
    | (with_reducible exact rfl2 _ _)
    | (with_reducible exact rfl3 _ _ _)
    | (simp only [lo_c, hi_c, toNat_c, getD2]; omega)
    | omega
    | (with_reducible refine decide_eq_true ?_; omega)
    | (with_reducible refine decide_eq_false ?_; omega)
    | (simp only [in_u8, in_u16, in_u32, in_u64, in_i64, Nat.le_eq]; omega)
    | (exfalso; omega))
  · exact ⟨_, h, rfl⟩
  · exact h.2.1
  · exact h.2.2
section
variable {w0 : World} {RO : PT AObj}
theorem sml_rel (args : List AVal) (st : St) (h : (relM smlM args st).pre) : CallT Tryz.prog w0 RO PDQ args st fun v s' => ∃ z, (relM smlM args st).post z ∧ v = (relM smlM args st).res z ∧ s' = (relM smlM args st).out z := by
  refine relM_ok ⟨_, rfl, rfl, by kernel_rfl⟩ (fun y φ ψ u h => noRes h) (fun l zs t c hl hr hz hpre φs w us hw hus => ?_) args st h
  obtain ⟨⟨hlen, hin⟩, hp⟩ := hpre
  match zs, hlen, hin, hp with
  | [x, y, q], _, ⟨h0, h1, h2, h3⟩, p1 =>
    obtain ⟨a, rfl⟩ := Int.eq_ofNat_of_zero_le h0
    obtain ⟨b, rfl⟩ := Int.eq_ofNat_of_zero_le (show 0 ≤ y by omega)
    have p1 : b ≤ a + 12 := p1
    have hr0 : RelsOk Tryz.prog w0 .leaf (annR [(PDQ, 0, smlO l a b q t)] [(INS, relM insM)]) := fun g S x y h => by
      simp only [annR, relsU] at h
      cases hb : Nat.beq INS g with
      | false => rw [hb] at h; cases h
      | true =>
        rw [hb] at h
        cases h
        obtain rfl := Nat.eq_of_beq_eq_true hb
        exact ins_rel x y
    have hp1 := smlf_ok (c := c) (L := q) (t := t) (show a ≤ b by omega) (show b ≤ l.length by omega) h3 hl p1
    rw [← smlf_eq] at hp1
    refine (nest_from (RO := .leaf) follows named (hkAdd_ok noH_ok (hkAdd_ok noH_ok soHooks_ok)) rolow_leaf hp1 hus hw rrel_leaf hr0).mono ?_
    rintro e w' ⟨u, v, st', rfl, hK, hs⟩
    exact ⟨u, v, st', rfl, rowK_mono hK fun v m hq => ⟨m, hq.2, fun ψ u hu => (by rw [hq.1] at hu; exact hu), rfl⟩, hs⟩
end
theorem sorf_ok {l : List Int} {c : Nat} {t : TypeId} (h0 : 0 < l.length) (h16 : l.length ≤ 12) (hd : l.Nodup) : sorf l c t := by
  refine sorf_of _ _ _ ?_
  unfold sorfS
  simp only [lo_c, hi_c, toNat_c, List.length_cons, List.length_nil]
  repeat' (first
    | (with_reducible refine And.intro ?_ ?_)
    | (intro (h : false = true); cases h)
    | (intro (h : true = false); cases h)
    | (intro h; first | (replace h := of_decide_eq_true h) | (replace h := of_decide_eq_false h) | skip)
    | (with_reducible exact trivial)
    | (with_reducible rfl)
    | (with_reducible exact ⟨(), trivial, trivial, trivial, trivial⟩)
    | (show kindEq IntKind.u32 IntKind.u32 = true; rfl)
    | (with_reducible exact trivial)
    | (with_reducible refine InsPre.mk ?_ ?_)
    | (with_reducible refine SmlPre.mk ?_ ?_)
    | (with_reducible refine w3 ?_ ?_ ?_ ?_)
    | (with_reducible exact rfl2 _ _)
    | (with_reducible exact rfl3 _ _ _)
    | (simp only [lo_c, hi_c, toNat_c, getD2]; omega)
    | omega
    | (with_reducible refine decide_eq_true ?_; omega)
    | (with_reducible refine decide_eq_false ?_; omega)
    | (simp only [in_u8, in_u16, in_u32, in_u64, in_i64, Nat.le_eq]; omega)
    | (exfalso; omega))
  all_goals first | exact h.2.1 | exact h.2.2
end Go.Proofs.YtmhbmjagnihopaaGreatDoor.Ss
