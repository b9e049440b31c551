/- Frames: May, Encode, Signed and the reference's as hooks. By an AI agent. -/
import Derived.Test.YtlnfolgmjfcinaaFrS
namespace Go.Proofs.Ytlnfolgmjfcinaa.Fr
open Go Go.RowKit Go.Proofs.Ytlnfolgmjfcinaa.Abs Go.Proofs.Ytlnfolgmjfcinaa.M
set_option linter.unusedVariables false
theorem shape7 {k0 : IntKind} {xs : List Atom} (h : atomsOk [.int k0, .int .u32, .int .u32, .int .u32, .int .u32, .int .u32, .bytes] xs) :
    ∃ k s e n a m P, xs = [.z k, .z s, .z e, .z n, .z a, .z m, .l P] ∧ inR k0 k ∧ inR .u32 s ∧ inR .u32 e ∧ inR .u32 n ∧ inR .u32 a ∧ inR .u32 m ∧ P.length ≤ 9223372036854775807 := by
  obtain ⟨k, _, rfl, h1, h⟩ := atoms_int h
  obtain ⟨s, _, rfl, h2, h⟩ := atoms_int h
  obtain ⟨e, _, rfl, h3, h⟩ := atoms_int h
  obtain ⟨n, _, rfl, h4, h⟩ := atoms_int h
  obtain ⟨a, _, rfl, h5, h⟩ := atoms_int h
  obtain ⟨m, _, rfl, h6, h⟩ := atoms_int h
  obtain ⟨P, _, rfl, h7, h⟩ := atoms_bytes h
  obtain rfl := atoms_nil h
  exact ⟨k, s, e, n, a, m, P, rfl, h1, h2, h3, h4, h5, h6, h7⟩
theorem shape8 {k0 : IntKind} {xs : List Atom} (h : atomsOk [.int k0, .int .u32, .int .u32, .int .u32, .int .u32, .int .u32, .bytes, .int .u64] xs) :
    ∃ k s e n a m P t, xs = [.z k, .z s, .z e, .z n, .z a, .z m, .l P, .z t] ∧ inR k0 k ∧ inR .u32 s ∧ inR .u32 e ∧ inR .u32 n ∧ inR .u32 a ∧ inR .u32 m ∧ P.length ≤ 9223372036854775807 ∧ inR .u64 t := by
  obtain ⟨k, _, rfl, h1, h⟩ := atoms_int h
  obtain ⟨s, _, rfl, h2, h⟩ := atoms_int h
  obtain ⟨e, _, rfl, h3, h⟩ := atoms_int h
  obtain ⟨n, _, rfl, h4, h⟩ := atoms_int h
  obtain ⟨a, _, rfl, h5, h⟩ := atoms_int h
  obtain ⟨m, _, rfl, h6, h⟩ := atoms_int h
  obtain ⟨P, _, rfl, h7, h⟩ := atoms_bytes h
  obtain ⟨t, _, rfl, h8, h⟩ := atoms_int h
  obtain rfl := atoms_nil h
  exact ⟨k, s, e, n, a, m, P, t, rfl, h1, h2, h3, h4, h5, h6, h7, h8⟩
theorem mayH_ok {w0 : World} {RO : PT AObj} : Call1Ok Try.prog w0 RO MAY (fun args st => got (mayH RO args st)) := by
  refine hookR_ok U8 (by decide) ⟨_, rfl, rfl, by kernel_rfl⟩ (fun xs h _ => ?_) fun xs caps w φs us h _ hf hro hus => ?_
  · obtain ⟨k, s, e, n, a, m, P, rfl, _⟩ := shape7 h
    exact ⟨rfl, rfl⟩
  · obtain ⟨k, s, e, n, a, m, P, rfl, hk, hs, he, hn, ha, hm, hP⟩ := shape7 h
    have hk := (in_u8 _).1 hk
    have go : ∀ (v : AVal) dc, VRels φs [argF v s e n a m P (caps 6)] us → mayW v s e n a m P (caps 6) k dc → Calls Try.prog MAY us.toArray w fun e' w' => ∃ u v st', e' = .returned u ∧ endK (mayR [.z k, .z s, .z e, .z n, .z a, .z m, .l P]) [] v st' ∧ StepOk w φs ⟨.leaf, 1000, []⟩ w v st' u w' := fun v dc hv hw =>
      fn_way follows named hkNone_ok (fn := Try.f11) (body := bodyOf Try.prog MAY) (by kernel_rfl) (by kernel_rfl) annOk_none (f := 100) (next := 1000) (args := [argF v s e n a m P (caps 6)]) (K := endK (mayR [.z k, .z s, .z e, .z n, .z a, .z m, .l P]) []) dc (Eq.mp (by kernel_rfl) hw) hf (ro_none w φs) hv
    rcases (by omega : k = 0 ∨ k = 1 ∨ k = 2 ∨ k = 3 ∨ k = 4 ∨ k = 5 ∨ 6 ≤ k) with rfl | rfl | rfl | rfl | rfl | rfl | hk6
    · exact go (.int .u8 0) [] (rel_lit1 hus) (by rw [may0_eq]; exact may0_ok s e n a m P _ hP)
    · exact go (.int .u8 1) [] (rel_lit1 hus) (by rw [may1_eq]; exact may1_ok s e n a m P _ hP)
    · exact go (.int .u8 2) [] (rel_lit1 hus) (by rw [may2_eq]; exact may2_ok s e n a m P _ hP)
    · exact go (.int .u8 3) [] (rel_lit1 hus) (by rw [may3_eq]; exact may3_ok s e n a m P _ hP)
    · exact go (.int .u8 4) [] (rel_lit1 hus) (by rw [may4_eq]; exact may4_ok s e n a m P _ hP)
    · exact go (.int .u8 5) [] (rel_lit1 hus) (by rw [may5_eq]; exact may5_ok s e n a m P _ hP)
    · exact go (.sint .u8 k) [2, 0] hus (by rw [may6_eq]; exact may6_ok k s e n a m P _ hP hk6)
theorem rmayH_ok {w0 : World} {RO : PT AObj} : Call1Ok Try.prog w0 RO RMAY (fun args st => got (rmayH RO args st)) := by
  refine hookR_ok U8 (by decide) ⟨_, rfl, rfl, by kernel_rfl⟩ (fun xs h _ => ?_) fun xs caps w φs us h _ hf hro hus => ?_
  · obtain ⟨k, s, e, n, a, m, P, rfl, _⟩ := shape7 h
    exact ⟨rfl, rfl⟩
  · obtain ⟨k, s, e, n, a, m, P, rfl, hk, hs, he, hn, ha, hm, hP⟩ := shape7 h
    exact fn_way follows named hkNone_ok (fn := Try.f12) (body := bodyOf Try.prog RMAY) (by kernel_rfl) (by kernel_rfl) annOk_none [] (args := [argF (.sint .i64 k) s e n a m P (caps 6)]) (by
      have := rmay_ok k s e n a m P (caps 6) hP
      rw [← rmay_eq] at this
      exact this) hf (ro_none w φs) hus
theorem mayHooks_ok {w0 : World} {RO : PT AObj} : HooksOk Try.prog w0 RO (mayHooks RO) := hkAdd_ok mayH_ok (hkAdd_ok rmayH_ok (crcHooks_ok hkNone_ok))
def sgnR' := sgnR true
noncomputable def sgnH (RO : PT AObj) : Hook := hookR dF (fun _ => True) (sgnR true) sgnO RO
def encR (ex : Bool) (xs : List Atom) : AVal := match xs with
  | [k, s, e, n, a, m, p, t] => outE ex (encT k.zOf s.zOf e.zOf n.zOf a.zOf m.zOf p.lOf t.zOf) (errT k.zOf n.zOf a.zOf m.zOf p.lOf)
  | _ => .undef
def encO (xs : List Atom) : List AObj := match xs with
  | [k, s, e, n, a, m, p, t] => [.sbytes (encT k.zOf s.zOf e.zOf n.zOf a.zOf m.zOf p.lOf t.zOf) U8]
  | _ => []
def dFT : List AD := [.agg [.int .u8, .int .u32, .int .u32, .int .u32, .int .u32, .int .u32, .bytes], .one (.int .u64)]
def dRT : List AD := [.agg [.int .i64, .int .u32, .int .u32, .int .u32, .int .u32, .int .u32, .bytes], .one (.int .u64)]
noncomputable def encH (RO : PT AObj) : Hook := hookR dFT (fun _ => True) (encR true) encO RO
noncomputable def rencH (RO : PT AObj) : Hook := hookR dRT (fun _ => True) (encR false) encO RO
theorem may_or (k n a m : Int) (P : List UInt8) : mayB k n a m P.length = false ∨ mayB k n a m P.length = true ∧ P.length ≤ 256 ∧ (P = [] ∨ 0 < P.length) := by
  cases h : mayB k n a m P.length with
  | false => exact .inl rfl
  | true => exact .inr ⟨rfl, (may_k h).2.2, by cases P with | nil => exact .inl rfl | cons b l => exact .inr (by simp)⟩
theorem encH_ok {w0 : World} {RO : PT AObj} : Call1Ok Try.prog w0 RO ENC (fun args st => got (encH RO args st)) := by
  refine hookR_ok U8 (by decide) ⟨_, rfl, rfl, by kernel_rfl⟩ (fun xs h _ => ?_) fun xs caps w φs us h _ hf hro hus => ?_
  · obtain ⟨k, s, e, n, a, m, P, t, rfl, _⟩ := shape8 h
    exact ⟨rfl, rfl⟩
  · obtain ⟨k, s, e, n, a, m, P, t, rfl, hk, hs, he, hn, ha, hm, hP, ht⟩ := shape8 h
    have go : ∀ dc, encW k s e n a m P (caps 6) t dc → Calls Try.prog ENC us.toArray w fun e' w' => ∃ u v st', e' = .returned u ∧ endK (encR true [.z k, .z s, .z e, .z n, .z a, .z m, .l P, .z t]) (encO [.z k, .z s, .z e, .z n, .z a, .z m, .l P, .z t]) v st' ∧ StepOk w φs ⟨.leaf, 1000, []⟩ w v st' u w' := fun dc hw =>
      fn_way follows named mayHooks_ok (fn := Try.f9) (body := bodyOf Try.prog ENC) (by kernel_rfl) (by kernel_rfl) annOk_none (RO := roP P) (f := 100) (next := 1000) (args := [argF (.sint .u8 k) s e n a m P (caps 6), .sint .u64 t]) (K := endK (encR true [.z k, .z s, .z e, .z n, .z a, .z m, .l P, .z t]) (encO [.z k, .z s, .z e, .z n, .z a, .z m, .l P, .z t])) dc (Eq.mp (by kernel_rfl) hw) hf hro hus
    rcases may_or k n a m P with hmm | ⟨hmm, h1, rfl | h2⟩
    · exact go [1] (by rw [encC_eq]; exact encC_ok _ hP hmm)
    · exact go [0, 1, 1] (by rw [encB_eq]; exact encB_ok _ hk hs he hn ha hm ht rfl hmm)
    · exact go [0, 1, 0] (by rw [encA_eq]; exact encA_ok _ hk hs he hn ha hm ht h1 h2 hmm)
theorem sgnH_ok {w0 : World} {RO : PT AObj} : Call1Ok Try.prog w0 RO SGN (fun args st => got (sgnH RO args st)) := by
  refine hookR_ok U8 (by decide) ⟨_, rfl, rfl, by kernel_rfl⟩ (fun xs h _ => ?_) fun xs caps w φs us h _ hf hro hus => ?_
  · obtain ⟨k, s, e, n, a, m, P, rfl, _⟩ := shape7 h
    exact ⟨rfl, rfl⟩
  · obtain ⟨k, s, e, n, a, m, P, rfl, hk, hs, he, hn, ha, hm, hP⟩ := shape7 h
    have go : ∀ dc, sgnW k s e n a m P (caps 6) dc → Calls Try.prog SGN us.toArray w fun e' w' => ∃ u v st', e' = .returned u ∧ endK (sgnR true [.z k, .z s, .z e, .z n, .z a, .z m, .l P]) (sgnO [.z k, .z s, .z e, .z n, .z a, .z m, .l P]) v st' ∧ StepOk w φs ⟨.leaf, 1000, []⟩ w v st' u w' := fun dc hw =>
      fn_way follows named mayHooks_ok (fn := Try.f13) (body := bodyOf Try.prog SGN) (by kernel_rfl) (by kernel_rfl) annOk_none (RO := roP P) (f := 100) (next := 1000) (args := [argF (.sint .u8 k) s e n a m P (caps 6)]) (K := endK (sgnR true [.z k, .z s, .z e, .z n, .z a, .z m, .l P]) (sgnO [.z k, .z s, .z e, .z n, .z a, .z m, .l P])) dc (Eq.mp (by kernel_rfl) hw) hf hro hus
    rcases may_or k n a m P with hmm | ⟨hmm, h1, rfl | h2⟩
    · exact go [1] (by rw [sgnC_eq]; exact sgnC_ok _ hP hmm)
    · exact go [0, 1, 1] (by rw [sgnB_eq]; exact sgnB_ok _ hs he hn ha hm rfl hmm)
    · exact go [0, 1, 0] (by rw [sgnA_eq]; exact sgnA_ok _ hs he hn ha hm h2 hmm)
theorem rsgnH_ok {w0 : World} {RO : PT AObj} : Call1Ok Try.prog w0 RO RSGN (fun args st => got (rsgnH RO args st)) := by
  refine hookR_ok U8 (by decide) ⟨_, rfl, rfl, by kernel_rfl⟩ (fun xs h _ => ?_) fun xs caps w φs us h _ hf hro hus => ?_
  · obtain ⟨k, s, e, n, a, m, P, rfl, _⟩ := shape7 h
    exact ⟨rfl, rfl⟩
  · obtain ⟨k, s, e, n, a, m, P, rfl, hk, hs, he, hn, ha, hm, hP⟩ := shape7 h
    have go : ∀ dc, rsgnW k s e n a m P (caps 6) dc → Calls Try.prog RSGN us.toArray w fun e' w' => ∃ u v st', e' = .returned u ∧ endK (sgnR false [.z k, .z s, .z e, .z n, .z a, .z m, .l P]) (sgnO [.z k, .z s, .z e, .z n, .z a, .z m, .l P]) v st' ∧ StepOk w φs ⟨.leaf, 1000, []⟩ w v st' u w' := fun dc hw =>
      fn_way follows named mayHooks_ok (fn := Try.f14) (body := bodyOf Try.prog RSGN) (by kernel_rfl) (by kernel_rfl) annOk_none (RO := roP P) (f := 100) (next := 1000) (args := [argF (.sint .i64 k) s e n a m P (caps 6)]) (K := endK (sgnR false [.z k, .z s, .z e, .z n, .z a, .z m, .l P]) (sgnO [.z k, .z s, .z e, .z n, .z a, .z m, .l P])) dc (Eq.mp (by kernel_rfl) hw) hf hro hus
    rcases may_or k n a m P with hmm | ⟨hmm, h1, _⟩
    · exact go [1] (by rw [rsgnC_eq]; exact rsgnC_ok _ hP hmm)
    · exact go [0] (by rw [rsgnA_eq]; exact rsgnA_ok _ hs he hn ha hm hmm)
theorem rsgnHooks_ok {w0 : World} {RO : PT AObj} : HooksOk Try.prog w0 RO (rsgnHooks RO) := hkAdd_ok rsgnH_ok mayHooks_ok
theorem rencH_ok {w0 : World} {RO : PT AObj} : Call1Ok Try.prog w0 RO RENC (fun args st => got (rencH RO args st)) := by
  refine hookR_ok U8 (by decide) ⟨_, rfl, rfl, by kernel_rfl⟩ (fun xs h _ => ?_) fun xs caps w φs us h _ hf hro hus => ?_
  · obtain ⟨k, s, e, n, a, m, P, t, rfl, _⟩ := shape8 h
    exact ⟨rfl, rfl⟩
  · obtain ⟨k, s, e, n, a, m, P, t, rfl, hk, hs, he, hn, ha, hm, hP, ht⟩ := shape8 h
    have go : ∀ dc, rencW k s e n a m P (caps 6) t dc → Calls Try.prog RENC us.toArray w fun e' w' => ∃ u v st', e' = .returned u ∧ endK (encR false [.z k, .z s, .z e, .z n, .z a, .z m, .l P, .z t]) (encO [.z k, .z s, .z e, .z n, .z a, .z m, .l P, .z t]) v st' ∧ StepOk w φs ⟨.leaf, 1000, []⟩ w v st' u w' := fun dc hw =>
      fn_way follows named rsgnHooks_ok (fn := Try.f10) (body := bodyOf Try.prog RENC) (by kernel_rfl) (by kernel_rfl) annOk_none (RO := roP P) (f := 100) (next := 1000) (args := [argF (.sint .i64 k) s e n a m P (caps 6), .sint .u64 t]) (K := endK (encR false [.z k, .z s, .z e, .z n, .z a, .z m, .l P, .z t]) (encO [.z k, .z s, .z e, .z n, .z a, .z m, .l P, .z t])) dc (Eq.mp (by kernel_rfl) hw) hf hro hus
    rcases may_or k n a m P with hmm | ⟨hmm, h1, _⟩
    · exact go [1] (by rw [rencC_eq]; exact rencC_ok _ hP hmm)
    · exact go [0] (by rw [rencA_eq]; exact rencA_ok _ ht hmm)
/-- all of them -/
noncomputable def frHooks (RO : PT AObj) (r : FuncId → Option Hook) : FuncId → Option Hook := hkAdd MAY (mayH RO) (hkAdd RMAY (rmayH RO) (hkAdd ENC (encH RO) (hkAdd RENC (rencH RO) (hkAdd SGN (sgnH RO) (hkAdd RSGN (rsgnH RO) (crcHooks RO r))))))
theorem frHooks_ok {w0 : World} {RO : PT AObj} {r : FuncId → Option Hook} (h : HooksOk Try.prog w0 RO r) : HooksOk Try.prog w0 RO (frHooks RO r) :=
  hkAdd_ok mayH_ok (hkAdd_ok rmayH_ok (hkAdd_ok encH_ok (hkAdd_ok rencH_ok (hkAdd_ok sgnH_ok (hkAdd_ok rsgnH_ok (crcHooks_ok h))))))
end Go.Proofs.Ytlnfolgmjfcinaa.Fr
