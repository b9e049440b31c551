/- FrameBack returns true. By an AI agent. -/
import Derived.Test.YtlnfolgmjfcinaaFrB
namespace Go.Proofs.Ytlnfolgmjfcinaa.Fr
open Go Go.RowKit Go.Proofs.Ytlnfolgmjfcinaa.Abs Go.Proofs.Ytlnfolgmjfcinaa.M
set_option linter.unusedVariables false
def dBk : List AD := [.agg [.int .u8, .int .u32, .int .u32, .int .u32, .int .u32, .int .u32, .bytes], .one (.int .u64), .one (.int .u16), .one .bytes]
theorem backHooks_ok {w0 : World} {RO : PT AObj} : HooksOk Try.prog w0 RO (backHooks RO) := hkAdd_ok decH_ok (hkAdd_ok sameH_ok (hkAdd_ok seqH_ok lawHooks_ok))
theorem kind_or2 (k : Int) : (1 + k % 5) % 256 = 3 ∨ (1 + k % 5) % 256 = 4 ∨ ((1 + k % 5) % 256 ≠ 3 ∧ (1 + k % 5) % 256 ≠ 4) := by omega
theorem back_law (W : World) (v0 v1 v2 v3 : Value) (w0 : Open.InFrame W v0) (w1 : Open.InNat .u64 18446744073709551616 v1) (w2 : Open.InNat .u16 65536 v2) (w3 : Open.InBytes W v3) : Calls Try.prog BACK #[v0, v1, v2, v3] W fun e w' => e = .returned (.bool true) ∧ Below W.heap.size W w' := by
  obtain ⟨k, s, e, n, a, m, P, pv, rfl, hk, hs, he, hn, ha, hm, hP⟩ := w0
  obtain ⟨t, rfl, ht⟩ := w1
  obtain ⟨u, rfl, hu⟩ := w2
  obtain ⟨B, hB⟩ := w3
  have hPl : P.length ≤ 9223372036854775807 := by obtain ⟨A, n, c, _, h1, _, h2, _⟩ := hP; unfold maxLen at h2; omega
  have hBl : B.length ≤ 9223372036854775807 := by obtain ⟨A, n, c, _, h1, _, h2, _⟩ := hB; unfold maxLen at h2; omega
  have hin : InAs W 0 dBk [.z k, .z s, .z e, .z n, .z a, .z m, .l P, .z (t : Int), .z (u : Int), .l B] [.agg #[.int .u8 k, .int .u32 s, .int .u32 e, .int .u32 n, .int .u32 a, .int .u32 m, pv], .int .u64 (t : Int), .int .u16 (u : Int), v3] :=
    .agg 0 _ [.z k, .z s, .z e, .z n, .z a, .z m, .l P] _ _ [.z (t : Int), .z (u : Int), .l B] _ (inFrame hk hs he hn ha hm hP)
      (.one _ _ _ _ _ _ _ (inB_int (by rw [in_u64]; omega)) (.one _ _ _ _ _ _ _ (inB_int (by rw [in_u16]; omega)) (.one _ _ _ _ _ _ _ (inB_bytes hB hBl) (.nil _))))
  refine law_run (t := U8) (by decide) hin fun caps φs h hf hro hus => ?_
  have hc1 := cap_frame (v0 := .sint .u8 k) (vs := [.sint .u64 (t : Int), .sint .u16 (u : Int), .sslice (909, 0) B.length (caps 9) true 1]) hus
  have hc2 : B.length ≤ caps 9 := by
    have hus2 : VRels φs [argF (.sint .u8 k) s e n a m P (caps 6), .sint .u64 (t : Int), .sint .u16 (u : Int), .sslice (909, 0) B.length (caps 9) true 1] _ := hus
    cases hus2 with
    | cons _ _ _ _ _ e2 => cases e2 with
      | cons _ _ _ _ _ e3 => cases e3 with
        | cons _ _ _ _ _ e4 => cases e4 with
          | cons _ _ _ _ e5 _ => exact cap_ge e5
  have go : ∀ dc, backW k s e n a m P (caps 6) t u B (caps 9) dc (fun v _ => isTrue v) → _ := fun dc hw =>
    fn_way follows named backHooks_ok (g := BACK) (fn := Try.f5) (body := bodyOf Try.prog BACK) (by kernel_rfl) (by kernel_rfl) annOk_none (RO := roPB P B) (f := 100) (next := 1000) (args := [argF (.sint .u8 k) s e n a m P (caps 6), .sint .u64 (t : Int), .sint .u16 (u : Int), .sslice (909, 0) B.length (caps 9) true 1]) (K := fun v _ => isTrue v) dc (Eq.mp (by kernel_rfl) hw) hf hro hus
  have ht2 : 0 ≤ (t : Int) ∧ (t : Int) ≤ 18446744073709551615 := by omega
  have hu2 : 0 ≤ (u : Int) ∧ (u : Int) ≤ 65535 := by omega
  by_cases hd : dErr (B.take 400) = 0
  · rcases kind_or2 k with h1 | h1 | h1
    · exact go [1, 0, 0, 0, 0, 0, 0, 0, 0, 0, 0, 1, 1, 1] (by rw [backOD_eq]; exact backOD_ok hk hs he hn ha hm ht2 hu2 hPl hBl hc1 hc2 h1 hd)
    · exact go [0, 1, 0, 0, 0, 0, 0, 0, 0, 0, 0, 0, 1, 1, 1] (by rw [backOA_eq]; exact backOA_ok hk hs he hn ha hm ht2 hu2 hPl hBl hc1 hc2 h1 hd)
    · exact go [0, 0, 0, 0, 0, 0, 0, 0, 0, 0, 0, 0, 1, 1, 1] (by rw [backOO_eq]; exact backOO_ok hk hs he hn ha hm ht2 hu2 hPl hBl hc1 hc2 h1 hd)
  · rcases kind_or2 k with h1 | h1 | h1
    · exact go [1, 0, 0, 0, 0, 0, 0, 0, 0, 0, 1] (by rw [backED_eq]; exact backED_ok hk hs he hn ha hm ht2 hu2 hPl hBl hc1 hc2 h1 hd)
    · exact go [0, 1, 0, 0, 0, 0, 0, 0, 0, 0, 0, 1] (by rw [backEA_eq]; exact backEA_ok hk hs he hn ha hm ht2 hu2 hPl hBl hc1 hc2 h1 hd)
    · exact go [0, 0, 0, 0, 0, 0, 0, 0, 0, 0, 0, 1] (by rw [backEO_eq]; exact backEO_ok hk hs he hn ha hm ht2 hu2 hPl hBl hc1 hc2 h1 hd)
end Go.Proofs.Ytlnfolgmjfcinaa.Fr
