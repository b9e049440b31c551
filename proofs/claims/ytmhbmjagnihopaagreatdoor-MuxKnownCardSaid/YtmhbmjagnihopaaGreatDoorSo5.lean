/- slices.Sort of uint32s: bits.Len, patterns broken. By an AI agent. -/
import Derived.Test.YtmhbmjagnihopaaGreatDoorSo2
namespace Go.Proofs.YtmhbmjagnihopaaGreatDoor.So
open Go Go.RowKit Go.Proofs.YtmhbmjagnihopaaGreatDoor.Abs
set_option linter.unusedVariables false
set_option maxRecDepth 100000
set_option linter.unusedSimpArgs false
abbrev LEN : FuncId := 152
abbrev NEXTP : FuncId := 166
abbrev BREAK : FuncId := 156
def lenI (z : Int) : Int := if z ≤ 0 then 0 else if z ≤ 1 then 1 else if z ≤ 3 then 2 else if z ≤ 7 then 3 else if z ≤ 15 then 4 else 5
--forms
def lenf0  : Prop :=
    ((0 : Int) = (0 : Int) ∧ Go.Proofs.YtmhbmjagnihopaaGreatDoor.Abs.inR Go.IntKind.i64 (0 : Int)) ∧ True ∧ True ∧ True
theorem lenf0_eq  : nestW Tryz.prog (hp []) hkNone (annU []) LEN [.int .u64 0] [] (endK (.sint .i64 0) []) = lenf0  := by kernel_rfl
def lenf1  : Prop :=
    ((1 : Int) = (1 : Int) ∧ Go.Proofs.YtmhbmjagnihopaaGreatDoor.Abs.inR Go.IntKind.i64 (1 : Int)) ∧ True ∧ True ∧ True
theorem lenf1_eq  : nestW Tryz.prog (hp []) hkNone (annU []) LEN [.int .u64 1] [] (endK (.sint .i64 1) []) = lenf1  := by kernel_rfl
def lenf2  : Prop :=
    ((2 : Int) = (2 : Int) ∧ Go.Proofs.YtmhbmjagnihopaaGreatDoor.Abs.inR Go.IntKind.i64 (2 : Int)) ∧ True ∧ True ∧ True
theorem lenf2_eq  : nestW Tryz.prog (hp []) hkNone (annU []) LEN [.int .u64 2] [] (endK (.sint .i64 2) []) = lenf2  := by kernel_rfl
def lenf3  : Prop :=
    ((2 : Int) = (2 : Int) ∧ Go.Proofs.YtmhbmjagnihopaaGreatDoor.Abs.inR Go.IntKind.i64 (2 : Int)) ∧ True ∧ True ∧ True
theorem lenf3_eq  : nestW Tryz.prog (hp []) hkNone (annU []) LEN [.int .u64 3] [] (endK (.sint .i64 2) []) = lenf3  := by kernel_rfl
def lenf4  : Prop :=
    ((3 : Int) = (3 : Int) ∧ Go.Proofs.YtmhbmjagnihopaaGreatDoor.Abs.inR Go.IntKind.i64 (3 : Int)) ∧ True ∧ True ∧ True
theorem lenf4_eq  : nestW Tryz.prog (hp []) hkNone (annU []) LEN [.int .u64 4] [] (endK (.sint .i64 3) []) = lenf4  := by kernel_rfl
def lenf5  : Prop :=
    ((3 : Int) = (3 : Int) ∧ Go.Proofs.YtmhbmjagnihopaaGreatDoor.Abs.inR Go.IntKind.i64 (3 : Int)) ∧ True ∧ True ∧ True
theorem lenf5_eq  : nestW Tryz.prog (hp []) hkNone (annU []) LEN [.int .u64 5] [] (endK (.sint .i64 3) []) = lenf5  := by kernel_rfl
def lenf6  : Prop :=
    ((3 : Int) = (3 : Int) ∧ Go.Proofs.YtmhbmjagnihopaaGreatDoor.Abs.inR Go.IntKind.i64 (3 : Int)) ∧ True ∧ True ∧ True
theorem lenf6_eq  : nestW Tryz.prog (hp []) hkNone (annU []) LEN [.int .u64 6] [] (endK (.sint .i64 3) []) = lenf6  := by kernel_rfl
def lenf7  : Prop :=
    ((3 : Int) = (3 : Int) ∧ Go.Proofs.YtmhbmjagnihopaaGreatDoor.Abs.inR Go.IntKind.i64 (3 : Int)) ∧ True ∧ True ∧ True
theorem lenf7_eq  : nestW Tryz.prog (hp []) hkNone (annU []) LEN [.int .u64 7] [] (endK (.sint .i64 3) []) = lenf7  := by kernel_rfl
def lenf8  : Prop :=
    ((4 : Int) = (4 : Int) ∧ Go.Proofs.YtmhbmjagnihopaaGreatDoor.Abs.inR Go.IntKind.i64 (4 : Int)) ∧ True ∧ True ∧ True
theorem lenf8_eq  : nestW Tryz.prog (hp []) hkNone (annU []) LEN [.int .u64 8] [] (endK (.sint .i64 4) []) = lenf8  := by kernel_rfl
def lenf9  : Prop :=
    ((4 : Int) = (4 : Int) ∧ Go.Proofs.YtmhbmjagnihopaaGreatDoor.Abs.inR Go.IntKind.i64 (4 : Int)) ∧ True ∧ True ∧ True
theorem lenf9_eq  : nestW Tryz.prog (hp []) hkNone (annU []) LEN [.int .u64 9] [] (endK (.sint .i64 4) []) = lenf9  := by kernel_rfl
def lenf10  : Prop :=
    ((4 : Int) = (4 : Int) ∧ Go.Proofs.YtmhbmjagnihopaaGreatDoor.Abs.inR Go.IntKind.i64 (4 : Int)) ∧ True ∧ True ∧ True
theorem lenf10_eq  : nestW Tryz.prog (hp []) hkNone (annU []) LEN [.int .u64 10] [] (endK (.sint .i64 4) []) = lenf10  := by kernel_rfl
def lenf11  : Prop :=
    ((4 : Int) = (4 : Int) ∧ Go.Proofs.YtmhbmjagnihopaaGreatDoor.Abs.inR Go.IntKind.i64 (4 : Int)) ∧ True ∧ True ∧ True
theorem lenf11_eq  : nestW Tryz.prog (hp []) hkNone (annU []) LEN [.int .u64 11] [] (endK (.sint .i64 4) []) = lenf11  := by kernel_rfl
def lenf12  : Prop :=
    ((4 : Int) = (4 : Int) ∧ Go.Proofs.YtmhbmjagnihopaaGreatDoor.Abs.inR Go.IntKind.i64 (4 : Int)) ∧ True ∧ True ∧ True
theorem lenf12_eq  : nestW Tryz.prog (hp []) hkNone (annU []) LEN [.int .u64 12] [] (endK (.sint .i64 4) []) = lenf12  := by kernel_rfl
def lenf13  : Prop :=
    ((4 : Int) = (4 : Int) ∧ Go.Proofs.YtmhbmjagnihopaaGreatDoor.Abs.inR Go.IntKind.i64 (4 : Int)) ∧ True ∧ True ∧ True
theorem lenf13_eq  : nestW Tryz.prog (hp []) hkNone (annU []) LEN [.int .u64 13] [] (endK (.sint .i64 4) []) = lenf13  := by kernel_rfl
def lenf14  : Prop :=
    ((4 : Int) = (4 : Int) ∧ Go.Proofs.YtmhbmjagnihopaaGreatDoor.Abs.inR Go.IntKind.i64 (4 : Int)) ∧ True ∧ True ∧ True
theorem lenf14_eq  : nestW Tryz.prog (hp []) hkNone (annU []) LEN [.int .u64 14] [] (endK (.sint .i64 4) []) = lenf14  := by kernel_rfl
def lenf15  : Prop :=
    ((4 : Int) = (4 : Int) ∧ Go.Proofs.YtmhbmjagnihopaaGreatDoor.Abs.inR Go.IntKind.i64 (4 : Int)) ∧ True ∧ True ∧ True
theorem lenf15_eq  : nestW Tryz.prog (hp []) hkNone (annU []) LEN [.int .u64 15] [] (endK (.sint .i64 4) []) = lenf15  := by kernel_rfl
def lenf16  : Prop :=
    ((5 : Int) = (5 : Int) ∧ Go.Proofs.YtmhbmjagnihopaaGreatDoor.Abs.inR Go.IntKind.i64 (5 : Int)) ∧ True ∧ True ∧ True
theorem lenf16_eq  : nestW Tryz.prog (hp []) hkNone (annU []) LEN [.int .u64 16] [] (endK (.sint .i64 5) []) = lenf16  := by kernel_rfl
theorem lenf0_ok : lenf0 := by
  unfold lenf0
  exact ⟨⟨rfl, by simp [in_i64]⟩, trivial, trivial, trivial⟩
theorem lenf1_ok : lenf1 := by
  unfold lenf1
  exact ⟨⟨rfl, by simp [in_i64]⟩, trivial, trivial, trivial⟩
theorem lenf2_ok : lenf2 := by
  unfold lenf2
  exact ⟨⟨rfl, by simp [in_i64]⟩, trivial, trivial, trivial⟩
theorem lenf3_ok : lenf3 := by
  unfold lenf3
  exact ⟨⟨rfl, by simp [in_i64]⟩, trivial, trivial, trivial⟩
theorem lenf4_ok : lenf4 := by
  unfold lenf4
  exact ⟨⟨rfl, by simp [in_i64]⟩, trivial, trivial, trivial⟩
theorem lenf5_ok : lenf5 := by
  unfold lenf5
  exact ⟨⟨rfl, by simp [in_i64]⟩, trivial, trivial, trivial⟩
theorem lenf6_ok : lenf6 := by
  unfold lenf6
  exact ⟨⟨rfl, by simp [in_i64]⟩, trivial, trivial, trivial⟩
theorem lenf7_ok : lenf7 := by
  unfold lenf7
  exact ⟨⟨rfl, by simp [in_i64]⟩, trivial, trivial, trivial⟩
theorem lenf8_ok : lenf8 := by
  unfold lenf8
  exact ⟨⟨rfl, by simp [in_i64]⟩, trivial, trivial, trivial⟩
theorem lenf9_ok : lenf9 := by
  unfold lenf9
  exact ⟨⟨rfl, by simp [in_i64]⟩, trivial, trivial, trivial⟩
theorem lenf10_ok : lenf10 := by
  unfold lenf10
  exact ⟨⟨rfl, by simp [in_i64]⟩, trivial, trivial, trivial⟩
theorem lenf11_ok : lenf11 := by
  unfold lenf11
  exact ⟨⟨rfl, by simp [in_i64]⟩, trivial, trivial, trivial⟩
theorem lenf12_ok : lenf12 := by
  unfold lenf12
  exact ⟨⟨rfl, by simp [in_i64]⟩, trivial, trivial, trivial⟩
theorem lenf13_ok : lenf13 := by
  unfold lenf13
  exact ⟨⟨rfl, by simp [in_i64]⟩, trivial, trivial, trivial⟩
theorem lenf14_ok : lenf14 := by
  unfold lenf14
  exact ⟨⟨rfl, by simp [in_i64]⟩, trivial, trivial, trivial⟩
theorem lenf15_ok : lenf15 := by
  unfold lenf15
  exact ⟨⟨rfl, by simp [in_i64]⟩, trivial, trivial, trivial⟩
theorem lenf16_ok : lenf16 := by
  unfold lenf16
  exact ⟨⟨rfl, by simp [in_i64]⟩, trivial, trivial, trivial⟩
theorem len_run : ∀ z : Int, 0 ≤ z → z ≤ 16 → nestW Tryz.prog (hp []) hkNone (annU []) LEN [.int .u64 z] [] (endK (.sint .i64 (lenI z)) []) := by
  intro z h1 h2
  rcases (by omega : z = 0 ∨ z = 1 ∨ z = 2 ∨ z = 3 ∨ z = 4 ∨ z = 5 ∨ z = 6 ∨ z = 7 ∨ z = 8 ∨ z = 9 ∨ z = 10 ∨ z = 11 ∨ z = 12 ∨ z = 13 ∨ z = 14 ∨ z = 15 ∨ z = 16) with rfl | rfl | rfl | rfl | rfl | rfl | rfl | rfl | rfl | rfl | rfl | rfl | rfl | rfl | rfl | rfl | rfl
  · rw [show lenI 0 = 0 from by decide]; rw [lenf0_eq]; exact lenf0_ok
  · rw [show lenI 1 = 1 from by decide]; rw [lenf1_eq]; exact lenf1_ok
  · rw [show lenI 2 = 2 from by decide]; rw [lenf2_eq]; exact lenf2_ok
  · rw [show lenI 3 = 2 from by decide]; rw [lenf3_eq]; exact lenf3_ok
  · rw [show lenI 4 = 3 from by decide]; rw [lenf4_eq]; exact lenf4_ok
  · rw [show lenI 5 = 3 from by decide]; rw [lenf5_eq]; exact lenf5_ok
  · rw [show lenI 6 = 3 from by decide]; rw [lenf6_eq]; exact lenf6_ok
  · rw [show lenI 7 = 3 from by decide]; rw [lenf7_eq]; exact lenf7_ok
  · rw [show lenI 8 = 4 from by decide]; rw [lenf8_eq]; exact lenf8_ok
  · rw [show lenI 9 = 4 from by decide]; rw [lenf9_eq]; exact lenf9_ok
  · rw [show lenI 10 = 4 from by decide]; rw [lenf10_eq]; exact lenf10_ok
  · rw [show lenI 11 = 4 from by decide]; rw [lenf11_eq]; exact lenf11_ok
  · rw [show lenI 12 = 4 from by decide]; rw [lenf12_eq]; exact lenf12_ok
  · rw [show lenI 13 = 4 from by decide]; rw [lenf13_eq]; exact lenf13_ok
  · rw [show lenI 14 = 4 from by decide]; rw [lenf14_eq]; exact lenf14_ok
  · rw [show lenI 15 = 4 from by decide]; rw [lenf15_eq]; exact lenf15_ok
  · rw [show lenI 16 = 5 from by decide]; rw [lenf16_eq]; exact lenf16_ok
noncomputable def lenH (RO : PT AObj) : Hook := hookR [.one (.int .u64)] (fun xs => match xs with | [a] => 0 ≤ a.zOf ∧ a.zOf ≤ 16 | _ => False) (fun xs => match xs with | [a] => .sint .i64 (lenI a.zOf) | _ => .undef) (fun _ => []) RO
theorem lenH_ok {w0 : World} {RO : PT AObj} : Call1Ok Tryz.prog w0 RO LEN (fun args st => got (lenH RO args st)) := by
  refine hookR_ok U32 (by decide) ⟨_, rfl, rfl, by kernel_rfl⟩ (fun xs h _ => ?_) fun xs caps w φs us h hp hf hro hus => ?_
  · obtain ⟨x, _, rfl, _, h⟩ := atoms_int h
    obtain rfl := atoms_nil h
    exact ⟨rfl, rfl⟩
  · obtain ⟨x, _, rfl, _, h⟩ := atoms_int h
    obtain rfl := atoms_nil h
    refine nest_run follows named hkNone_ok (rolow_of rfl) (len_run x hp.1 hp.2) hf hro ?_
    cases hus with
    | cons _ u _ us h1 h2 =>
      cases h2
      cases h1
      exact .cons _ _ _ _ (.int _ _) .nil
end Go.Proofs.YtmhbmjagnihopaaGreatDoor.So
