/- Closed functions run by an interpreter: a region that draws its order, one operation more. By an AI agent. -/
import Derived.Test.YtlnfolgmjfcinaaAbsD4
namespace Go.Proofs.Ytlnfolgmjfcinaa.Abs
open Go Go.RowKit
set_option linter.unusedVariables false
section
variable {P : Program} {RO : PT AObj} {call : Who → List AVal → St → Option (AVal × St)} {w0 : World} {ops : Array Oper} {ms σ : List Nat} {base nt : Nat} {A : Nat → Option AObj} {V : Nat → AVal} {d0 dE : DSt}
variable {φ0 : Phi} {H0 : PT AObj} {wS : World} {ds : List Deferred} {lst lst' : Nat → Bool} {p q : List Nat} {d : DSt} {φ ψ : Phi} {a : Act} {w w' : World}
theorem putA_any {τ τ1 τ2 : PT AVal} {dd : Option Tmp} {v v' : AVal} (h : putA nt τ dd v = some τ1) : putA nt τ2 dd v' = some (setT τ2 v' dd) := by
  unfold putA at h ⊢
  cases dd with
  | none => rfl
  | some d =>
    simp only at h ⊢
    cases hb : Nat.blt d nt with
    | false => rw [hb] at h; cases h
    | true => rfl
theorem overH_lst {A : Nat → Option AObj} {base : Nat} {lst lst' : Nat → Bool} : ∀ {q : List Nat} (H : PT AObj), (∀ j ∈ q, lst' j = lst j) → overH A base lst' q H = overH A base lst q H
  | [], H, _ => rfl
  | j :: q, H, h => by simp only [overH]; rw [h j List.mem_cons_self, overH_lst H fun k hk => h k (List.mem_cons_of_mem _ hk)]
theorem overT_lst {V : Nat → AVal} {lst lst' : Nat → Bool} : ∀ {q : List Nat} (τ : PT AVal), (∀ j ∈ q, lst' j = lst j) → overT V ops lst' q τ = overT V ops lst q τ
  | [], τ, _ => rfl
  | j :: q, τ, h => by simp only [overT]; rw [h j List.mem_cons_self, overT_lst τ fun k hk => h k (List.mem_cons_of_mem _ hk)]
theorem overH_add {A : Nat → Option AObj} {base : Nat} {lst lst' : Nat → Bool} {q : List Nat} {i : Nat} (hi : i ∈ q) (h1 : lst' i = true) (h2 : ∀ j, j ≠ i → lst' j = lst j) (h3 : lst i = false) (H : PT AObj) (x : Nat) :
    (overH A base lst' q H).get x = if x = base + i then (match A i with | some o => some o | none => (overH A base lst q H).get x) else (overH A base lst q H).get x := by
  rcases overH_cases A base lst' x q with ⟨k, ok, k1, k2, k3, k4, k5⟩ | ⟨k1, k2⟩
  · rw [k5]
    by_cases hk : k = i
    · subst hk; rw [if_pos k3, k4]
    · rw [if_neg (by omega)]
      rcases overH_cases A base lst x q with ⟨m, om, m1, m2, m3, m4, m5⟩ | ⟨m1, m2⟩
      · have : m = k := by omega
        subst this
        rw [m5, ← m4, ← k4]
      · rw [m1 k k1 (by rw [← h2 k hk]; exact k2) k3] at k4; cases k4
  · rw [k2]
    rcases overH_cases A base lst x q with ⟨m, om, m1, m2, m3, m4, m5⟩ | ⟨m1, m2⟩
    · have hm : m ≠ i := fun he => by subst he; rw [h3] at m2; cases m2
      rw [k1 m m1 (by rw [h2 m hm]; exact m2) m3] at m4; cases m4
    · by_cases hx : x = base + i
      · rw [if_pos hx, k1 i hi h1 hx, m2]
      · rw [if_neg hx, m2]
theorem Cx.overT_add (C : Cx P RO call w0 ops ms σ base nt A V d0 dE) {i : Nat} {o : Oper} (ho : ops[i]? = some o) (hq : ∀ j ∈ q, j ∈ σ) (hi : i ∈ q) (h1 : lst' i = true) (h2 : ∀ j, j ≠ i → lst' j = lst j) (h3 : lst i = false) (τ : PT AVal) (t : Nat) :
    (overT V ops lst' q τ).get t = (setT (overT V ops lst q τ) (V i) o.dst).get t := by
  rw [setT_get]
  rcases overT_cases V (ops := ops) lst' t q with ⟨k, k1, k2, k3, k4⟩ | ⟨k1, k2⟩
  · rw [k4]
    obtain ⟨ok, hok⟩ := C.isop (hq k k1)
    rw [dstAt_some hok] at k3
    by_cases hk : k = i
    · subst hk
      obtain rfl : o = ok := Option.some.inj (ho.symm.trans hok)
      rw [if_pos k3]
    · rw [if_neg (C.dst_ne ho hok k3 (Ne.symm hk))]
      rcases overT_cases V (ops := ops) lst t q with ⟨m, m1, m2, m3, m4⟩ | ⟨m1, m2⟩
      · rw [m4]
        obtain ⟨om, hom⟩ := C.isop (hq m m1)
        rw [dstAt_some hom] at m3
        by_cases hmk : m = k
        · rw [hmk]
        · exact absurd m3 (C.dst_ne hom hok k3 hmk)
      · exact absurd (by rw [dstAt_some hok]; exact k3) (m1 k k1 (by rw [← h2 k hk]; exact k2))
  · rw [k2]
    rcases overT_cases V (ops := ops) lst t q with ⟨m, m1, m2, m3, m4⟩ | ⟨m1, m2⟩
    · have hm : m ≠ i := fun he => by subst he; rw [h3] at m2; cases m2
      exact absurd m3 (k1 m m1 (by rw [h2 m hm]; exact m2))
    · rw [if_neg (by rw [← dstAt_some ho]; exact k1 i hi h1), m2]
theorem WRel.sub {H H' : PT AObj} {nx : Nat} (h : ∀ x o, H'.get x = some o → H.get x = some o) (k : WRel w0 φ H nx w) : WRel w0 φ H' nx w :=
  ⟨k.below, k.fresh, fun x o hx => k.obj x o (h x o hx), fun x y o o' g b b' n n' h1 h2 => k.inj x y o o' g b b' n n' (h _ _ h1) (h _ _ h2), fun x o hx => k.lt x o (h x o hx)⟩
/-- what lies beside stays -/
theorem extras_ok {A : Nat → Option AObj} {base : Nat} {lst : Nat → Bool} {q : List Nat} {H H1 : PT AObj} {nx nx1 : Nat} (hw : WRel w0 φ (overH A base lst q H) nx w) {N : Nat} (hm : φ (base + N) ≠ none) (hq : ∀ j ∈ q, j < N) (hle' : nx ≤ nx1) (hn : ∀ j ∈ q, lst j = true → H.get (base + j) = none) (hw' : WRel w0 ψ H1 nx1 w') (hs : Step φ H w ψ H1 w') :
    WRel w0 ψ (overH A base lst q H1) nx1 w' ∧ Step φ (overH A base lst q H) w ψ (overH A base lst q H1) w' := by
  have inO : ∀ y o, H.get y = some o → ∃ o', (overH A base lst q H).get y = some o' := fun y o hy => by
    rcases overH_cases A base lst y q with ⟨k, ok, k1, k2, k3, k4, k5⟩ | ⟨k1, k2⟩
    · exact ⟨ok, k5 H⟩
    · exact ⟨o, by rw [k2]; exact hy⟩
  have apart : ∀ x j o g b n, j ∈ q → lst j = true → x = base + j → (overH A base lst q H).get x = some o → φ x = some (g, b, n) → ∀ y o' b' n', H.get y = some o' → φ y ≠ some (g, b', n') := fun x j o g b n hj hl hx ho hφ y o' b' n' hy hφ' => by
    obtain ⟨o2, ho2⟩ := inO y o' hy
    have := hw.inj x y o o2 g b b' n n' ho ho2 hφ hφ'
    subst this
    rw [hx, hn j hj hl] at hy; cases hy
  have objX : ∀ x j o g b n, j ∈ q → lst j = true → x = base + j → (overH A base lst q H).get x = some o → φ x = some (g, b, n) → ∃ u, w0.heap.size ≤ g ∧ g < w.heap.size ∧ w'.heap[g]? = some u ∧ ORel φ o b n u := fun x j o g b n hj hl hx ho hφ => by
    obtain ⟨g', b', n', u, e1, e2, e3, e4⟩ := hw.obj_of ho hφ
    obtain ⟨rfl, rfl, rfl⟩ : g = g' ∧ b = b' ∧ n = n' := by rw [hφ] at e1; simpa using e1
    have hlt : g < w.heap.size := (Array.getElem?_eq_some_iff.1 e3).1
    exact ⟨u, e2, hlt, (hs.frame g hlt fun y o' b' n' hy => apart x j o g b n hj hl hx ho hφ y o' b' n' hy).trans e3, e4⟩
  have psiX : ∀ x j, j ∈ q → lst j = true → x = base + j → ψ x = φ x := fun x j hj hl hx => by
    cases hφ : φ x with
    | some t => exact hs.le x t hφ
    | none =>
      cases hψ : ψ x with
      | none => rfl
      | some t =>
        have := hs.only x (by rw [hψ]; exact Option.some_ne_none _) hφ _ hm
        have := hq j hj
        omega
  have cross : ∀ x y j o o' g b b' n n', j ∈ q → lst j = true → x = base + j → (overH A base lst q H).get x = some o → H1.get y = some o' → ψ x = some (g, b, n) → ψ y = some (g, b', n') → False := fun x y j o o' g b b' n n' hj hl hx ho hy h4 h5 => by
    rw [psiX x j hj hl hx] at h4
    obtain ⟨u, e2, e3, e4, e5⟩ := objX x j o g b n hj hl hx ho h4
    rcases hs.orig y o' g b' n' hy h5 with h6 | ⟨z, oz, bz, nz, h6, h7⟩
    · omega
    · exact apart x j o g b n hj hl hx ho h4 z oz bz nz h6 h7
  refine ⟨⟨hw'.below, hw'.fresh, fun x o hx => ?_, fun x y o o' g b b' n n' hx hy h4 h5 => ?_, fun x o hx => ?_⟩, ⟨hs.le, hs.size, fun x o g b n hx h4 => ?_, fun g hg h4 => hs.frame g hg fun x o b n hx h5 => ?_, hs.only⟩⟩
  · rcases overH_cases A base lst x q with ⟨k, ok, k1, k2, k3, k4, k5⟩ | ⟨k1, k2⟩
    · rw [k5] at hx
      cases hx
      rcases hw.obj x _ (k5 H) with ⟨e1, e2⟩ | ⟨g, b, n, u, e1, _⟩
      · exact .inl ⟨(psiX x k k1 k2 k3).trans e1, e2⟩
      · obtain ⟨u, e2, e3, e4, e5⟩ := objX x k _ g b n k1 k2 k3 (k5 H) e1
        exact .inr ⟨g, b, n, u, hs.le _ _ e1, e2, e4, e5.mono hs.le⟩
    · rw [k2] at hx
      exact hw'.obj x o hx
  · rcases overH_cases A base lst x q with ⟨k, ok, k1, k2, k3, k4, k5⟩ | ⟨k1, k2⟩ <;> rcases overH_cases A base lst y q with ⟨m, om, m1, m2, m3, m4, m5⟩ | ⟨m1, m2⟩
    · rw [psiX x k k1 k2 k3] at h4
      rw [psiX y m m1 m2 m3] at h5
      exact hw.inj x y _ _ g b b' n n' (k5 H) (m5 H) h4 h5
    · rw [m2] at hy
      exact (cross x y k ok o' g b b' n n' k1 k2 k3 (k5 H) hy h4 h5).elim
    · rw [k2] at hx
      exact (cross y x m om o g b' b n' n m1 m2 m3 (m5 H) hx h5 h4).elim
    · rw [k2] at hx
      rw [m2] at hy
      exact hw'.inj x y o o' g b b' n n' hx hy h4 h5
  · rcases overH_cases A base lst x q with ⟨k, ok, k1, k2, k3, k4, k5⟩ | ⟨k1, k2⟩
    · have := hw.lt x _ (k5 H); omega
    · rw [k2] at hx
      exact hw'.lt x o hx
  · rcases overH_cases A base lst x q with ⟨k, ok, k1, k2, k3, k4, k5⟩ | ⟨k1, k2⟩
    · rw [psiX x k k1 k2 k3] at h4
      exact .inr ⟨x, ok, b, n, k5 H, h4⟩
    · rw [k2] at hx
      rcases hs.orig x o g b n hx h4 with h6 | ⟨z, oz, bz, nz, h6, h7⟩
      · exact .inl h6
      · obtain ⟨oz', hz'⟩ := inO z oz h6
        exact .inr ⟨z, oz', bz, nz, hz', h7⟩
  · obtain ⟨o', ho'⟩ := inO x o hx
    exact h4 x o' b n ho' h5
theorem free_of {j : Nat} {H H1 : PT AObj} (hs : Step φ H w ψ H1 w') (hm : φ (base + ops.size) ≠ none) (hj : j < ops.size) (hf : φ (base + j) = none) : ψ (base + j) = none := by
  cases hq : ψ (base + j) with
  | none => rfl
  | some t =>
    have := hs.only (base + j) (by rw [hq]; exact Option.some_ne_none _) hf _ hm
    omega
theorem mark_of {H H1 : PT AObj} {x : Nat} (hs : Step φ H w ψ H1 w') (hm : φ x ≠ none) : ψ x ≠ none := fun he => by
  cases hq : φ x with
  | none => exact hm hq
  | some t => rw [hs.le x t hq] at he; cases he
/-- a light operation -/
theorem JB.lightOp (C : Cx P RO call w0 ops ms σ base nt A V d0 dE) (hro : RRel w0 φ0 RO) (hbase : ∀ y, φ0 y ≠ none → y < base) (hJ : JB w0 ops ms base nt A V φ0 H0 wS ds lst p q d φ a w) (hd : drawGo P RO call ops.toList ms base ops.size nt p d0 = some d) (hσ : σ = p ++ q)
    {i : Nat} {o : Oper} (hi : i ∈ q) (hni : lst i = false) (ho : ops[i]? = some o) (hl : isHeavy o.op = false) (hr : ∀ k, bit (maskAt ms i) k = true → lst k = true) (h1 : lst' i = true) (h2 : ∀ j, j ≠ i → lst' j = lst j)
    {rg : Option Nat} {kk : Nat} {K : Act → World → Prop} {Q : Exit → Act → World → Prop} (hK : ∀ φ' a' w', JB w0 ops ms base nt A V φ0 H0 wS ds lst' p q d φ' a' w' → K a' w') : wpOpIn (FR rg) kk P ops Q i K a w := by
  obtain ⟨q1, q2, hq⟩ := List.append_of_mem hi
  obtain ⟨di, m1, m2, mt, mt2, m5⟩ := C.mid (p := p) (q1 := q1) (q2 := i :: q2) (by rw [hσ, hq]) hd
  have has := C.can (p ++ q1) i q2 di o (by simp [hσ, hq]) m2 ho hl
  obtain ⟨d', s1, _, _⟩ := C.one (p := p ++ q1) (j := i) (q := q2) (by simp [hσ, hq]) m2
  obtain ⟨hput, _, _⟩ := C.lightStep (p := p ++ q1) (j := i) (q := q2) (by simp [hσ, hq]) m2 ho hl s1
  have hag := hJ.agree C hd hq hσ ho hni hr m1
  have hlt : i < ops.size := (Array.getElem?_eq_some_iff.1 ho).1
  have hqσ : ∀ j ∈ q, j ∈ σ := fun j hj => by rw [hσ]; exact List.mem_append_right _ hj
  have hro' := hro.mono hJ.step.le
  -- what is the same for each result
  have add : ∀ (ψ : Phi) (u : Value) (w' : World), VRel ψ (V i) u → φ.le ψ → WRel w0 ψ (overH A base lst' q d.st.heap) d.st.next w' → Step φ0 H0 wS ψ (overH A base lst' q d.st.heap) w' → (∀ j, j < ops.size → lst' j = false → ψ (base + j) = none) → ψ (base + ops.size) ≠ none →
      JB w0 ops ms base nt A V φ0 H0 wS ds lst' p q d ψ (a.put o.dst u) w' := fun ψ u w' hv hle hrel hstep hfree hmark => by
    refine ⟨fun j hj => ?_, fun j hj hlj => ?_, fun j k hj hk => ?_, hrel, ?_, ?_, hfree, hmark, hstep⟩
    · have := hJ.pre j hj
      by_cases he : j = i
      · rw [he]; exact h1
      · rw [h2 j he]; exact this
    · by_cases he : j = i
      · subst he
        exact fun o' ho' => by rw [ho] at ho'; cases ho'; exact hl
      · exact hJ.lite j hj (by rw [← h2 j he]; exact hlj)
    · have hk' : lst k = true := by
        by_cases he : j = i
        · subst he; exact hr k hk
        · exact hJ.clos j k (by rw [← h2 j he]; exact hj) hk
      by_cases he : k = i
      · rw [he]; exact h1
      · rw [h2 k he]; exact hk'
    · have h3 := (hJ.tmp.mono hle).put (d := o.dst) (putA_any (τ2 := overT V ops lst q d.τ) (v' := V i) hput) hv
      exact h3.congr (C.overT_add ho hqσ hi h1 h2 hni d.τ)
    · rw [← hJ.defs]; unfold Act.put; split <;> rfl
  have plain : ∀ (ψ : Phi) (u : Value) (w' : World), A i = none → VRel ψ (V i) u → WRel w0 ψ (overH A base lst q d.st.heap) d.st.next w' → Step φ (overH A base lst q d.st.heap) w ψ (overH A base lst q d.st.heap) w' →
      JB w0 ops ms base nt A V φ0 H0 wS ds lst' p q d ψ (a.put o.dst u) w' := fun ψ u w' hA hv hrel hstep => by
    have hH : ∀ x, (overH A base lst' q d.st.heap).get x = (overH A base lst q d.st.heap).get x := fun x => by
      rw [overH_add hi h1 h2 hni, hA]
      split <;> rfl
    refine add ψ u w' hv hstep.le (hrel.congr hH) ((hJ.step.trans hstep).congr hH) (fun j hj hlj => ?_) (mark_of hstep hJ.mark)
    have hji : j ≠ i := fun he => by subst he; rw [h1] at hlj; cases hlj
    exact free_of hstep hJ.mark hj (hJ.free j hj (by rw [← h2 j hji]; exact hlj))
  unfold wpOpIn
  simp only [ho]
  have hwn : wantedA ops.toList (overT V ops lst q d.τ) o = wantedA ops.toList di.τ o := wantedA_agree hag
  unfold effA at has
  split at has
  · rename_i hwt
    rw [wanted_some (hwn.trans hwt) hJ.tmp, if_pos rfl]
    split at has
    · rename_i r hlr
      have hlr' : light P (evA RO (overT V ops lst q d.τ)) o.op = some r := (light_congr o.op (evA_agree hag)).trans hlr
      have hs := light_ok (P := P) (ev_some hro' hJ.tmp) o r hlr'
      have fin : A i = none → doLight RO ⟨overH A base lst q d.st.heap, d.st.next, []⟩ r = some (V i, ⟨overH A base lst q d.st.heap, d.st.next, []⟩) → o.wpIn (FR rg) kk P a w K Q := fun hA hdl => by
        obtain ⟨u, w', e1, ψ, e2, e3, e4⟩ := doLight_ok hdl hs hJ.rel hro'
        have e1' : (execOp a.eval o).run P w = .ok (.value u) w' := e1
        refine wpIn_of (fun c hc => by rw [hc] at hlr; exact Option.some_ne_none _ (hlr.symm.trans (light_defer _ _))) ?_
        rw [e1']
        exact hK _ _ _ (plain ψ u w' hA e2 e3 e4)
      cases r with
      | pure v =>
        simp only [effL] at has
        obtain ⟨hv, hA⟩ : v = V i ∧ none = A i := by simpa using has
        exact fin hA.symm (by simp [doLight, hv])
      | read b k =>
        simp only [effL] at has
        cases hcnd : (stableH (maskAt ms i) b di.hl && ownB (maskAt ms i) base ops.size b) with
        | false => rw [hcnd] at has; cases has
        | true =>
          rw [hcnd] at has
          simp only [cond_true] at has
          simp only [Bool.and_eq_true] at hcnd
          have hst := hJ.stay C hd hq hσ ho hni hr m1 hcnd.1 hcnd.2
          split at has
          · rename_i ob hob
            split at has
            · rename_i v hv
              obtain ⟨hv2, hA⟩ : v = V i ∧ none = A i := by simpa using has
              refine fin hA.symm ?_
              have hrd : rd RO ⟨overH A base lst q d.st.heap, d.st.next, []⟩ b = some ob := by
                unfold rd at hob ⊢
                simp only [hst]
                exact hob
              simp only [doLight, hrd, hv, hv2]
            · cases has
          · cases has
      | touch b v =>
        simp only [effL] at has
        cases hcnd : (stableH (maskAt ms i) b di.hl && ownB (maskAt ms i) base ops.size b) with
        | false => rw [hcnd] at has; cases has
        | true =>
          rw [hcnd] at has
          simp only [cond_true] at has
          simp only [Bool.and_eq_true] at hcnd
          have hst := hJ.stay C hd hq hσ ho hni hr m1 hcnd.1 hcnd.2
          split at has
          · rename_i l t hob
            obtain ⟨hv2, hA⟩ : v = V i ∧ none = A i := by simpa using has
            refine fin hA.symm ?_
            simp only [doLight, hst, hob, hv2]
          · cases has
      | new ob k =>
        simp only [effL] at has
        split at has
        · rename_i hnone
          obtain ⟨hv, hA⟩ : k (Nat.add base i) = V i ∧ some ob = A i := by simpa using has
          obtain ⟨x, n, u, w', e1, e2, e3, e4, e5, e6, e7⟩ := hs w
          have hf := hJ.free i hlt hni
          have hH : ∀ y, (overH A base lst' q d.st.heap).get y = if y = base + i then some ob else (overH A base lst q d.st.heap).get y := fun y => by
            rw [overH_add hi h1 h2 hni, ← hA]
          have hle : φ.le (φ.ext (base + i) (w.heap.size, 0, n)) := Phi.ext_le _ hf
          obtain ⟨f1, f2⟩ := new_at (x0 := base + i) hJ.rel hf (by have := mt.nx; omega) hH e2 e3 e4 e5 (e6.mono hle) hJ.step (fun y hy => by have := hbase y hy; omega)
          have e1' : (execOp a.eval o).run P w = .ok (.value u) w' := e1
          refine wpIn_of (fun c hc => by rw [hc] at hlr; exact Option.some_ne_none _ (hlr.symm.trans (light_defer _ _))) ?_
          rw [e1']
          refine hK _ _ _ (add _ u w' (by rw [← hv]; exact e7 _ _ hle (Phi.ext_at _ _ _)) hle f1 f2 (fun j hj hlj => ?_) (by rw [Phi.ext_ne _ _ (by omega)]; exact hJ.mark))
          have hji : j ≠ i := fun he => by subst he; rw [h1] at hlj; cases hlj
          rw [Phi.ext_ne _ _ (by omega)]
          exact hJ.free j hj (by rw [← h2 j hji]; exact hlj)
        · cases has
    · cases has
  · rename_i hwt
    rw [wanted_some (hwn.trans hwt) hJ.tmp, if_neg (by simp)]
    obtain ⟨hv, hA⟩ : AVal.undef = V i ∧ none = A i := by simpa using has
    exact ⟨fun _ _ => trivial, hK _ _ _ (plain φ undef w hA.symm (by rw [← hv]; exact VRel.undef) hJ.rel (Step.refl _ _ _))⟩
  · cases has
end
end Go.Proofs.Ytlnfolgmjfcinaa.Abs
