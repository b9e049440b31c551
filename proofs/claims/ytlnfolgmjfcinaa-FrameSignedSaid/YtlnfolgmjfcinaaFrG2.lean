/- FrameSigned returns true. By an AI agent. -/
import Derived.Test.YtlnfolgmjfcinaaFrG
namespace Go.Proofs.Ytlnfolgmjfcinaa.Fr
open Go Go.RowKit Go.Proofs.Ytlnfolgmjfcinaa.Abs Go.Proofs.Ytlnfolgmjfcinaa.M
set_option linter.unusedVariables false
def dF4 : List AD := [.agg [.int .u8, .int .u32, .int .u32, .int .u32, .int .u32, .int .u32, .bytes], .agg [.int .u8, .int .u32, .int .u32, .int .u32, .int .u32, .int .u32, .bytes], .one (.int .u64), .one (.int .u64)]
/-- a frame that comes in behind another -/
theorem sigHooks_ok {w0 : World} {RO : PT AObj} : HooksOk Try.prog w0 RO (sigHooks RO) := hkAdd_ok sameH_ok (hkAdd_ok seqH_ok lawHooks_ok)
theorem kind_or (k : Int) : (1 + k % 5) % 256 = 3 ∨ (1 + k % 5) % 256 = 4 ∨ ((1 + k % 5) % 256 ≠ 3 ∧ (1 + k % 5) % 256 ≠ 4) := by omega
theorem sig_law (W : World) (v0 v1 v2 v3 : Value) (w0 : Open.InFrame W v0) (w1 : Open.InFrame W v1) (w2 : Open.InNat .u64 18446744073709551616 v2) (w3 : Open.InNat .u64 18446744073709551616 v3) : Calls Try.prog SIG #[v0, v1, v2, v3] W fun e w' => e = .returned (.bool true) ∧ Below W.heap.size W w' := by
  obtain ⟨k, s, e, n, a, m, P, pv, rfl, hk, hs, he, hn, ha, hm, hP⟩ := w0
  obtain ⟨k', s', e', n', a', m', Q, qv, rfl, hk', hs', he', hn', ha', hm', hQ⟩ := w1
  obtain ⟨t, rfl, ht⟩ := w2
  obtain ⟨u, rfl, hu⟩ := w3
  have hin : InAs W 0 dF4 [.z k, .z s, .z e, .z n, .z a, .z m, .l P, .z k', .z s', .z e', .z n', .z a', .z m', .l Q, .z (t : Int), .z (u : Int)] [.agg #[.int .u8 k, .int .u32 s, .int .u32 e, .int .u32 n, .int .u32 a, .int .u32 m, pv], .agg #[.int .u8 k', .int .u32 s', .int .u32 e', .int .u32 n', .int .u32 a', .int .u32 m', qv], .int .u64 (t : Int), .int .u64 (u : Int)] :=
    .agg 0 _ [.z k, .z s, .z e, .z n, .z a, .z m, .l P] _ _ [.z k', .z s', .z e', .z n', .z a', .z m', .l Q, .z (t : Int), .z (u : Int)] _ (inFrame hk hs he hn ha hm hP)
      (.agg 7 _ [.z k', .z s', .z e', .z n', .z a', .z m', .l Q] _ _ [.z (t : Int), .z (u : Int)] _ (inFrame hk' hs' he' hn' ha' hm' hQ)
        (.one _ _ _ _ _ _ _ (inB_int (by rw [in_u64]; omega)) (.one _ _ _ _ _ _ _ (inB_int (by rw [in_u64]; omega)) (.nil _))))
  have hPl : P.length ≤ 9223372036854775807 := by obtain ⟨A, n, c, _, h1, _, h2, _⟩ := hP; unfold maxLen at h2; omega
  have hQl : Q.length ≤ 9223372036854775807 := by obtain ⟨A, n, c, _, h1, _, h2, _⟩ := hQ; unfold maxLen at h2; omega
  refine law_run (t := U8) (by decide) hin fun caps φs h hf hro hus => ?_
  have hc1 := cap_frame (v0 := .sint .u8 k) (vs := [argG (.sint .u8 k') s' e' n' a' m' Q (caps 13), .sint .u64 (t : Int), .sint .u64 (u : Int)]) hus
  have hc2 : Q.length ≤ caps 13 := by
    have hus2 : VRels φs [argF (.sint .u8 k) s e n a m P (caps 6), argG (.sint .u8 k') s' e' n' a' m' Q (caps 13), .sint .u64 (t : Int), .sint .u64 (u : Int)] _ := hus
    cases hus2 with
    | cons _ _ _ _ _ e2 => cases e2 with
      | cons _ _ _ _ e3 _ => cases e3 with
        | agg _ c hc =>
          obtain ⟨u, _, h6⟩ := hc.get (i := 6) rfl
          exact cap_ge h6
  have go : ∀ dc, sigW k s e n a m P (caps 6) k' s' e' n' a' m' Q (caps 13) t u dc (fun v _ => isTrue v) → _ := fun dc hw =>
    fn_way follows named sigHooks_ok (g := SIG) (fn := Try.f6) (body := bodyOf Try.prog SIG) (by kernel_rfl) (by kernel_rfl) annOk_none (RO := roPQ P Q) (f := 100) (next := 1000) (args := [argF (.sint .u8 k) s e n a m P (caps 6), argG (.sint .u8 k') s' e' n' a' m' Q (caps 13), .sint .u64 (t : Int), .sint .u64 (u : Int)]) (K := fun v _ => isTrue v) dc (Eq.mp (by kernel_rfl) hw) hf hro hus
  have ht2 : 0 ≤ (t : Int) ∧ (t : Int) ≤ 18446744073709551615 := by omega
  have hu2 : 0 ≤ (u : Int) ∧ (u : Int) ≤ 18446744073709551615 := by omega
  rcases kind_or k with h1 | h1 | h1 <;> rcases kind_or k' with h2 | h2 | h2
  · exact go [1, 1, 0, 0, 0, 0, 0, 0, 1] (by rw [sigDD_eq]; exact sigDD_ok hk hs he hn ha hm hk' hs' he' hn' ha' hm' ht2 hu2 hPl hQl hc1 hc2 h1 h2)
  · exact go [1, 0, 1, 0, 0, 0, 0, 0, 0, 1] (by rw [sigDA_eq]; exact sigDA_ok hk hs he hn ha hm hk' hs' he' hn' ha' hm' ht2 hu2 hPl hQl hc1 hc2 h1 h2)
  · exact go [1, 0, 0, 0, 0, 0, 0, 0, 0, 1] (by rw [sigDO_eq]; exact sigDO_ok hk hs he hn ha hm hk' hs' he' hn' ha' hm' ht2 hu2 hPl hQl hc1 hc2 h1 h2)
  · exact go [0, 1, 1, 0, 0, 0, 0, 0, 0, 1] (by rw [sigAD_eq]; exact sigAD_ok hk hs he hn ha hm hk' hs' he' hn' ha' hm' ht2 hu2 hPl hQl hc1 hc2 h1 h2)
  · exact go [0, 1, 0, 1, 0, 0, 0, 0, 0, 0, 1] (by rw [sigAA_eq]; exact sigAA_ok hk hs he hn ha hm hk' hs' he' hn' ha' hm' ht2 hu2 hPl hQl hc1 hc2 h1 h2)
  · exact go [0, 1, 0, 0, 0, 0, 0, 0, 0, 0, 1] (by rw [sigAO_eq]; exact sigAO_ok hk hs he hn ha hm hk' hs' he' hn' ha' hm' ht2 hu2 hPl hQl hc1 hc2 h1 h2)
  · exact go [0, 0, 1, 0, 0, 0, 0, 0, 0, 1] (by rw [sigOD_eq]; exact sigOD_ok hk hs he hn ha hm hk' hs' he' hn' ha' hm' ht2 hu2 hPl hQl hc1 hc2 h1 h2)
  · exact go [0, 0, 0, 1, 0, 0, 0, 0, 0, 0, 1] (by rw [sigOA_eq]; exact sigOA_ok hk hs he hn ha hm hk' hs' he' hn' ha' hm' ht2 hu2 hPl hQl hc1 hc2 h1 h2)
  · exact go [0, 0, 0, 0, 0, 0, 0, 0, 0, 0, 1] (by rw [sigOO_eq]; exact sigOO_ok hk hs he hn ha hm hk' hs' he' hn' ha' hm' ht2 hu2 hPl hQl hc1 hc2 h1 h2)
end Go.Proofs.Ytlnfolgmjfcinaa.Fr
