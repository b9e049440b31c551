/- slices.Sort of uint32s: its parts as contracts. By an AI agent. -/
import Derived.Test.YtbaofmhfcalomaaSo6
namespace Go.Proofs.Ytbaofmhfcalomaa.So
open Go Go.RowKit Go.Proofs.Ytbaofmhfcalomaa.Abs
set_option linter.unusedVariables false
set_option maxRecDepth 100000
set_option linter.unusedSimpArgs false
structure ParPre (l zs : List Int) : Prop where
  win : zs.length = 3 ∧ within3 l zs
  ord : lo zs < hi zs ∧ lo zs ≤ (zs.getD 2 0).toNat ∧ 0 ≤ zs.getD 2 0 ∧ (zs.getD 2 0).toNat < hi zs
structure ChoPre (l zs : List Int) : Prop where
  win : zs.length = 2 ∧ within3 l zs
  ord : lo zs < hi zs ∧ hi zs < lo zs + 50
structure BrkPre (l zs : List Int) : Prop where
  win : zs.length = 2 ∧ within3 l zs
  ord : lo zs + 13 ≤ hi zs ∧ hi zs ≤ lo zs + 16
def parM : Mut := { k := .u32, pre := ParPre, Z := List Int × Nat × Bool, post := fun l zs z => z.1.length = l.length ∧ Sw (lo zs) (hi zs) l z.1 ∧ Parted z.1 (lo zs) z.2.1 (hi zs) ∧ lo zs ≤ z.2.1 ∧ z.2.1 < hi zs, row := fun _ z => z.1, res := fun z => .tuple [.sint .i64 (z.2.1 : Int), .sbool z.2.2] }
def choM : Mut := { k := .u32, pre := ChoPre, Z := Nat × Int, post := fun l zs z => (lo zs ≤ z.1 ∧ z.1 < hi zs) ∧ (z.2 = 0 ∨ z.2 = 1), row := fun l _ => l, res := fun z => .tuple [.sint .i64 (z.1 : Int), .sint .i64 z.2] }
def prtM : Mut := { k := .u32, pre := ChoPre, Z := Bool, post := fun l zs z => z = true → Srt l (lo zs) (hi zs), row := fun l _ => l, res := fun z => .sbool z }
def brkM : Mut := { k := .u32, pre := BrkPre, Z := List Int, post := fun l zs m => m.length = l.length ∧ Sw (lo zs) (hi zs) l m, row := fun _ m => m, res := fun _ => .tuple [] }
section
variable {w0 : World} {RO : PT AObj}
theorem ins_rel (args : List AVal) (st : St) (h : (relM insM args st).pre) : CallT Try.prog w0 RO INS args st fun v s' => ∃ z, (relM insM args st).post z ∧ v = (relM insM args st).res z ∧ s' = (relM insM args st).out z := by
  refine relM_ok ⟨_, rfl, rfl, by kernel_rfl⟩ (fun y φ ψ u h => noRes h) (fun l zs t c hl hr hz hpre φs w us hw hus => ?_) args st h
  obtain ⟨hlen, hin⟩ := hpre
  match zs, hlen, hin with
  | [x, y], _, ⟨h0, h1, h2, h3⟩ =>
    obtain ⟨a, rfl⟩ := Int.eq_ofNat_of_zero_le h0
    obtain ⟨b, rfl⟩ := Int.eq_ofNat_of_zero_le (show 0 ≤ y by omega)
    refine (nest_from (RO := .leaf) follows named soHooks_ok rolow_leaf (Eq.mpr (insf_eq l a b c t) (insf_ok (by omega) (by omega) h3)) hus hw rrel_leaf).mono ?_
    rintro e w' ⟨u, v, st', rfl, hK, hs⟩
    exact ⟨u, v, st', rfl, rowK_mono hK fun v m hq => ⟨m, hq.2, fun ψ u hu => (by rw [hq.1] at hu; exact hu), rfl⟩, hs⟩
set_option maxRecDepth 100000 in
theorem par_rel (args : List AVal) (st : St) (h : (relM parM args st).pre) : CallT Try.prog w0 RO PART args st fun v s' => ∃ z, (relM parM args st).post z ∧ v = (relM parM args st).res z ∧ s' = (relM parM args st).out z := by
  refine relM_ok ⟨_, rfl, rfl, by kernel_rfl⟩ (fun y φ ψ u h => pair_free (fun u h => sint_free h) (fun u h => sbool_free h) h) (fun l zs t c hl hr hz hpre φs w us hw hus => ?_) args st h
  obtain ⟨⟨hlen, hin⟩, hp⟩ := hpre
  match zs, hlen, hin, hp with
  | [x, y, q], _, ⟨h0, h1, h2, h3⟩, ⟨p1, p2, p3, p4⟩ =>
    obtain ⟨a, rfl⟩ := Int.eq_ofNat_of_zero_le h0
    obtain ⟨b, rfl⟩ := Int.eq_ofNat_of_zero_le (show 0 ≤ y by omega)
    have p3 : 0 ≤ q := p3
    obtain ⟨p, rfl⟩ := Int.eq_ofNat_of_zero_le p3
    have p1 : a < b := p1
    have p2 : a ≤ p := p2
    have p4 : p < b := p4
    have hp0 := parf_ok (c := c) (t := t) p1 (show b ≤ l.length by omega) h3 ⟨p2, p4⟩
    have hp1 : nestF Try.prog .leaf (soHooks .leaf) (parAnn a b) PART [.sslice (1000, 0) l.length c false 1, .sint .i64 (a : Int), .sint .i64 (b : Int), .sint .i64 (p : Int)] (rowSt .u32 l t) [] (rowK .u32 (parK l a b) t) := by
      rw [parf_eq]
      exact hp0
    have hr0 : RelsOk Try.prog w0 .leaf (parAnn a b) := fun g S x y h => by simp [parAnn, annU] at h
    have hh0 : ∀ f h, hookG (soHooks .leaf) f = some h → Call1Ok Try.prog w0 .leaf f h := soHooks_ok
    have hl0 : ROlow .leaf 1000 := rolow_leaf
    have hq0 := @nest_from Try.prog w0 .leaf φs follows named (soHooks .leaf) hh0 hl0 (parAnn a b) PART [.sslice (1000, 0) l.length c false 1, .sint .i64 (a : Int), .sint .i64 (b : Int), .sint .i64 (p : Int)] (rowSt .u32 l t) (rowK .u32 (parK l a b) t) [] hp1
    have hq0 := fun us hus => hq0 (us := us) (w := w) hus hw rrel_leaf hr0
    refine (hq0 us hus).mono ?_
    rintro e w' ⟨u, v, st', rfl, hK, hs⟩
    refine ⟨u, v, st', rfl, rowK_mono hK fun v m hq => ?_, hs⟩
    unfold parK at hq
    split at hq
    · split at hq
      · rename_i z c1 e1 e2
        obtain ⟨q1, q2, q3, q4, q5⟩ := hq
        obtain ⟨m0, rfl⟩ := Int.eq_ofNat_of_zero_le (show 0 ≤ z by omega)
        exact ⟨(m, m0, c1), ⟨q1, q2, q3, show a ≤ m0 by omega, show m0 < b by omega⟩, fun ψ u hu => pair_rel (fun u h => z_rel e1 (by simp only [in_i64]; omega) h) (fun u h => b_rel e2 h) hu, rfl⟩
      · exact hq.elim
    · exact hq.elim
theorem cho_rel (args : List AVal) (st : St) (h : (relM choM args st).pre) : CallT Try.prog w0 RO CHOOSE args st fun v s' => ∃ z, (relM choM args st).post z ∧ v = (relM choM args st).res z ∧ s' = (relM choM args st).out z := by
  refine relM_ok ⟨_, rfl, rfl, by kernel_rfl⟩ (fun y φ ψ u h => pair_free (fun u h => sint_free h) (fun u h => sint_free h) h) (fun l zs t c hl hr hz hpre φs w us hw hus => ?_) args st h
  obtain ⟨⟨hlen, hin⟩, hp⟩ := hpre
  match zs, hlen, hin, hp with
  | [x, y], _, ⟨h0, h1, h2, h3⟩, ⟨p1, p2⟩ =>
    obtain ⟨a, rfl⟩ := Int.eq_ofNat_of_zero_le h0
    obtain ⟨b, rfl⟩ := Int.eq_ofNat_of_zero_le (show 0 ≤ y by omega)
    have p1 : a < b := p1
    have p2 : b < a + 50 := p2
    refine (nest_from (RO := .leaf) follows named (hkAdd_ok noH_ok soHooks_ok) rolow_leaf (Eq.mpr (chof_eq l a b c t) (chof_ok p1 (by omega) h3 p2)) hus hw rrel_leaf).mono ?_
    rintro e w' ⟨u, v, st', rfl, hK, hs⟩
    refine ⟨u, v, st', rfl, rowK_mono hK fun v m hq => ?_, hs⟩
    unfold choK at hq
    split at hq
    · split at hq
      · rename_i z h1 e1 e2
        obtain ⟨rfl, ⟨q4, q5⟩, q6⟩ := hq
        obtain ⟨m0, rfl⟩ := Int.eq_ofNat_of_zero_le (show 0 ≤ z by omega)
        exact ⟨(m0, h1), ⟨⟨show a ≤ m0 by omega, show m0 < b by omega⟩, q6⟩, fun ψ u hu => pair_rel (fun u h => z_rel e1 (by simp only [in_i64]; omega) h) (fun u h => z_rel e2 (by simp only [in_i64]; omega) h) hu, rfl⟩
      · exact hq.elim
    · exact hq.elim
theorem prt_rel (args : List AVal) (st : St) (h : (relM prtM args st).pre) : CallT Try.prog w0 RO PARTIAL args st fun v s' => ∃ z, (relM prtM args st).post z ∧ v = (relM prtM args st).res z ∧ s' = (relM prtM args st).out z := by
  refine relM_ok ⟨_, rfl, rfl, by kernel_rfl⟩ (fun y φ ψ u h => sbool_free h) (fun l zs t c hl hr hz hpre φs w us hw hus => ?_) args st h
  obtain ⟨⟨hlen, hin⟩, hp⟩ := hpre
  match zs, hlen, hin, hp with
  | [x, y], _, ⟨h0, h1, h2, h3⟩, ⟨p1, p2⟩ =>
    obtain ⟨a, rfl⟩ := Int.eq_ofNat_of_zero_le h0
    obtain ⟨b, rfl⟩ := Int.eq_ofNat_of_zero_le (show 0 ≤ y by omega)
    have p1 : a < b := p1
    have p2 : b < a + 50 := p2
    refine (nest_from (RO := .leaf) follows named soHooks_ok rolow_leaf (Eq.mpr (prtf_eq l a b c t) (prtf_ok p1 (by omega) h3 p2)) hus hw rrel_leaf).mono ?_
    rintro e w' ⟨u, v, st', rfl, hK, hs⟩
    refine ⟨u, v, st', rfl, rowK_mono hK fun v m hq => ?_, hs⟩
    unfold prtK at hq
    split at hq
    · rename_i c1 e1
      obtain ⟨rfl, q⟩ := hq
      exact ⟨c1, q, fun ψ u hu => b_rel e1 hu, rfl⟩
    · exact hq.elim
theorem brk_rel (args : List AVal) (st : St) (h : (relM brkM args st).pre) : CallT Try.prog w0 RO BREAK args st fun v s' => ∃ z, (relM brkM args st).post z ∧ v = (relM brkM args st).res z ∧ s' = (relM brkM args st).out z := by
  refine relM_ok ⟨_, rfl, rfl, by kernel_rfl⟩ (fun y φ ψ u h => noRes h) (fun l zs t c hl hr hz hpre φs w us hw hus => ?_) args st h
  obtain ⟨⟨hlen, hin⟩, hp⟩ := hpre
  match zs, hlen, hin, hp with
  | [x, y], _, ⟨h0, h1, h2, h3⟩, ⟨p1, p2⟩ =>
    obtain ⟨a, rfl⟩ := Int.eq_ofNat_of_zero_le h0
    obtain ⟨b, rfl⟩ := Int.eq_ofNat_of_zero_le (show 0 ≤ y by omega)
    have p1 : a + 13 ≤ b := p1
    have p2 : b ≤ a + 16 := p2
    refine (nest_from (RO := .leaf) follows named (hkAdd_ok lenH_ok soHooks_ok) rolow_leaf (Eq.mpr (brkf_eq l a b c t) (brkf_ok p1 p2 (by omega) h3)) hus hw rrel_leaf).mono ?_
    rintro e w' ⟨u, v, st', rfl, hK, hs⟩
    exact ⟨u, v, st', rfl, rowK_mono hK fun v m hq => ⟨m, hq.2, fun ψ u hu => (by rw [hq.1] at hu; exact hu), rfl⟩, hs⟩
end
end Go.Proofs.Ytbaofmhfcalomaa.So
