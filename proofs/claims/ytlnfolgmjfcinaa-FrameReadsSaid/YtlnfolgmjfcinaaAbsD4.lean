/- Closed functions run by an interpreter: a region that draws its order, what stays true in each order. By an AI agent. -/
import Derived.Test.YtlnfolgmjfcinaaAbsD3
namespace Go.Proofs.Ytlnfolgmjfcinaa.Abs
open Go Go.RowKit
set_option linter.unusedVariables false
structure Cx (P : Program) (RO : PT AObj) (call : Who → List AVal → St → Option (AVal × St)) (w0 : World) (ops : Array Oper) (ms σ : List Nat) (base nt : Nat) (A : Nat → Option AObj) (V : Nat → AVal) (d0 dE : DSt) : Prop where
  hg : Reg ops ms σ
  hc : CallOk P w0 RO call
  full : drawGo P RO call ops.toList ms base ops.size nt σ d0 = some dE
  tr0 : Tr ops ms base ops.size [] d0
  can : ∀ p i q d o, σ = p ++ i :: q → drawGo P RO call ops.toList ms base ops.size nt p d0 = some d → ops[i]? = some o → isHeavy o.op = false → effA P RO ops.toList (maskAt ms i) base ops.size i o d = some (V i, A i)
structure JB (w0 : World) (ops : Array Oper) (ms : List Nat) (base nt : Nat) (A : Nat → Option AObj) (V : Nat → AVal) (φ0 : Phi) (H0 : PT AObj) (wS : World) (ds : List Deferred)
    (lst : Nat → Bool) (p q : List Nat) (d : DSt) (φ : Phi) (a : Act) (w : World) : Prop where
  pre : ∀ j ∈ p, lst j = true
  lite : ∀ j ∈ q, lst j = true → lite ops j
  clos : ∀ j k, lst j = true → bit (maskAt ms j) k = true → lst k = true
  rel : WRel w0 φ (overH A base lst q d.st.heap) d.st.next w
  tmp : TRel φ nt (overT V ops lst q d.τ) a.tmps
  defs : a.defers = ds
  free : ∀ j, j < ops.size → lst j = false → φ (base + j) = none
  mark : φ (base + ops.size) ≠ none
  step : Step φ0 H0 wS φ (overH A base lst q d.st.heap) w
section
variable {P : Program} {RO : PT AObj} {call : Who → List AVal → St → Option (AVal × St)} {w0 : World} {ops : Array Oper} {ms σ : List Nat} {base nt : Nat} {A : Nat → Option AObj} {V : Nat → AVal} {d0 dE : DSt}
theorem Cx.notin (C : Cx P RO call w0 ops ms σ base nt A V d0 dE) {p q : List Nat} (h : σ = p ++ q) {j : Nat} (hj : j ∈ q) : j ∉ p := by
  obtain ⟨r, s, rfl⟩ := List.append_of_mem hj
  have := (C.hg.at_ (p ++ r) j s (by simp [h])).1
  exact fun hp => this (by simp [hp])
theorem Cx.isop (C : Cx P RO call w0 ops ms σ base nt A V d0 dE) {j : Nat} (hj : j ∈ σ) : ∃ o, ops[j]? = some o := by
  obtain ⟨r, s, he⟩ := List.append_of_mem hj
  exact (C.hg.at_ r j s he).2.1
theorem Cx.mid (C : Cx P RO call w0 ops ms σ base nt A V d0 dE) {p q1 q2 : List Nat} {d : DSt} (h : σ = p ++ (q1 ++ q2)) (hd : drawGo P RO call ops.toList ms base ops.size nt p d0 = some d) :
    ∃ d1, drawGo P RO call ops.toList ms base ops.size nt q1 d = some d1 ∧ drawGo P RO call ops.toList ms base ops.size nt (p ++ q1) d0 = some d1 ∧ Tr ops ms base ops.size p d ∧ Tr ops ms base ops.size (p ++ q1) d1 ∧ Path ops base q1 d d1 := by
  have hf := C.full
  have hin : ∀ j ∈ p ++ (q1 ++ q2), ∃ o, ops[j]? = some o := fun j hj => C.isop (h ▸ hj)
  rw [h, ← List.append_assoc] at hf
  obtain ⟨m, h1, h2⟩ := drawGo_append hf
  obtain ⟨m', h3, h4⟩ := drawGo_append h1
  obtain rfl : m' = d := Option.some.inj (h3.symm.trans hd)
  obtain ⟨t1, _⟩ := path_some C.hc (p := []) (fun j hj => hin j (by simp [hj])) h3 C.tr0
  obtain ⟨t2, t3⟩ := path_some C.hc (p := p) (fun j hj => hin j (by simp [hj])) h4 (by simpa using t1)
  exact ⟨m, h4, h1, by simpa using t1, t2, t3⟩
theorem Cx.one (C : Cx P RO call w0 ops ms σ base nt A V d0 dE) {p q : List Nat} {j : Nat} {d : DSt} (h : σ = p ++ j :: q) (hd : drawGo P RO call ops.toList ms base ops.size nt p d0 = some d) :
    ∃ d1, draw1 P RO call ops.toList ms base ops.size nt j d = some d1 ∧ drawGo P RO call ops.toList ms base ops.size nt (p ++ [j]) d0 = some d1 ∧ Path ops base [j] d d1 := by
  obtain ⟨d1, h1, h2, _, _, h3⟩ := C.mid (q1 := [j]) (q2 := q) (by simpa using h) hd
  obtain ⟨m, k1, k2⟩ := drawGo_one h1
  cases k2
  exact ⟨_, k1, h2, h3⟩
theorem Cx.lightStep (C : Cx P RO call w0 ops ms σ base nt A V d0 dE) {p q : List Nat} {j : Nat} {o : Oper} {d d' : DSt} (h : σ = p ++ j :: q) (hd : drawGo P RO call ops.toList ms base ops.size nt p d0 = some d) (ho : ops[j]? = some o) (hl : isHeavy o.op = false)
    (h1 : draw1 P RO call ops.toList ms base ops.size nt j d = some d') : putA nt d.τ o.dst (V j) = some d'.τ ∧ d'.st.heap = setO d.st.heap (base + j) (A j) ∧ d'.st.next = d.st.next := by
  obtain ⟨v, oo, e1, e2, e3, e4, _, _⟩ := draw1_light ho hl h1
  have := C.can p j q d o h hd ho hl
  rw [e1] at this
  obtain ⟨rfl, rfl⟩ : v = V j ∧ oo = A j := by simpa using this
  exact ⟨e2, e3, e4⟩
theorem dstAt_some {j : Nat} {o : Oper} (ho : ops[j]? = some o) : dstAt ops j = o.dst := by unfold dstAt; rw [ho]
theorem Cx.dst_ne (C : Cx P RO call w0 ops ms σ base nt A V d0 dE) {i j : Nat} {o oj : Oper} {t : Tmp} (ho : ops[i]? = some o) (hj : ops[j]? = some oj) (hd : oj.dst = some t) (hne : i ≠ j) : o.dst ≠ some t := (C.hg.reads i j o oj t ho hj hd).2 hne
section
variable {φ0 : Phi} {H0 : PT AObj} {wS : World} {ds : List Deferred} {lst : Nat → Bool} {p q : List Nat} {d : DSt} {φ : Phi} {a : Act} {w : World}
/-- where what an operation looks at comes from -/
theorem JB.agree (C : Cx P RO call w0 ops ms σ base nt A V d0 dE) (hJ : JB w0 ops ms base nt A V φ0 H0 wS ds lst p q d φ a w) (hd : drawGo P RO call ops.toList ms base ops.size nt p d0 = some d)
    {q1 q2 : List Nat} {i : Nat} {o : Oper} {di : DSt} (hq : q = q1 ++ i :: q2) (hσ : σ = p ++ q) (ho : ops[i]? = some o) (hni : lst i = false) (hr : ∀ k, bit (maskAt ms i) k = true → lst k = true) (hdi : drawGo P RO call ops.toList ms base ops.size nt q1 d = some di) :
    ∀ t ∈ looks ops.toList o, (overT V ops lst q d.τ).get t = di.τ.get t := by
  intro t ht
  subst hq
  obtain ⟨di', m1, _, _, _, m5⟩ := C.mid (q2 := i :: q2) hσ hd
  obtain rfl : di' = di := Option.some.inj (m1.symm.trans hdi)
  have hbefore : ∀ k, bit (maskAt ms i) k = true → k ∈ q1 ++ i :: q2 → k ∈ q1 := fun k hk hkq => by
    have h1 := (C.hg.at_ (p ++ q1) i q2 (by simp [hσ])).2.2.1 k hk
    rcases List.mem_append.1 h1 with h2 | h2
    · exact absurd h2 (C.notin hσ hkq)
    · exact h2
  rcases overT_cases V lst t (q1 ++ i :: q2) with ⟨j, h1, h2, h3, h4⟩ | ⟨h1, h2⟩
  · rw [h4]
    obtain ⟨oj, hoj⟩ := C.isop (j := j) (by rw [hσ]; simp only [List.mem_append] at h1 ⊢; exact .inr h1)
    rw [dstAt_some hoj] at h3
    have hb : bit (maskAt ms i) j = true := ((C.hg.reads i j o oj t ho hoj h3).1 ht).resolve_right fun hji => by
      have := hJ.clos j i h2 hji
      rw [hni] at this; cases this
    obtain ⟨r1, r2, rfl⟩ := List.append_of_mem (hbefore j hb h1)
    have hlite := hJ.lite j h1 h2 oj hoj
    obtain ⟨mA, a1, a2, _⟩ := C.mid (p := p) (q1 := r1) (q2 := j :: r2 ++ i :: q2) (by simp [hσ]) hd
    obtain ⟨mB, b1, b2, _⟩ := C.one (p := p ++ r1) (j := j) (q := r2 ++ i :: q2) (by simp [hσ]) a2
    obtain ⟨e1, _, _⟩ := C.lightStep (p := p ++ r1) (j := j) (q := r2 ++ i :: q2) (by simp [hσ]) a2 hoj hlite b1
    obtain ⟨mC, c1, c2, _, _, c3⟩ := C.mid (p := p ++ r1 ++ [j]) (q1 := r2) (q2 := i :: q2) (by simp [hσ]) b2
    have hmC : mC = di' := by
      have : drawGo P RO call ops.toList ms base ops.size nt (r1 ++ j :: r2) d = some mC := by
        rw [drawGo_join a1]
        simp only [drawGo, b1]
        exact c1
      exact Option.some.inj (this.symm.trans hdi)
    subst hmC
    rw [c3.tmp t fun k hk ok hok => ?_, putA_get e1, if_pos h3]
    refine C.dst_ne hok hoj h3 fun hkj => ?_
    subst hkj
    exact C.notin (p := p ++ r1 ++ [k]) (q := r2 ++ i :: q2) (by simp [hσ]) (List.mem_append_left _ hk) (by simp)
  · rw [h2, m5.tmp t fun k hk ok hok hdk => ?_]
    have hkq : k ∈ q1 ++ i :: q2 := List.mem_append_left _ hk
    have hb : bit (maskAt ms i) k = true := ((C.hg.reads i k o ok t ho hok hdk).1 ht).resolve_right fun hki => by
      obtain ⟨r1, r2, hr12⟩ := List.append_of_mem hk
      have h5 := (C.hg.at_ (p ++ r1) k (r2 ++ i :: q2) (by rw [hσ, hr12]; simp)).2.2.1 i hki
      exact C.notin (p := p ++ r1) (q := k :: r2 ++ i :: q2) (by rw [hσ, hr12]; simp) (j := i) (by simp) h5
    exact h1 k hkq (hr k hb) (by rw [dstAt_some hok]; exact hdk)
theorem JB.stay (C : Cx P RO call w0 ops ms σ base nt A V d0 dE) (hJ : JB w0 ops ms base nt A V φ0 H0 wS ds lst p q d φ a w) (hd : drawGo P RO call ops.toList ms base ops.size nt p d0 = some d)
    {q1 q2 : List Nat} {i b : Nat} {o : Oper} {di : DSt} (hq : q = q1 ++ i :: q2) (hσ : σ = p ++ q) (ho : ops[i]? = some o) (hni : lst i = false) (hr : ∀ k, bit (maskAt ms i) k = true → lst k = true) (hdi : drawGo P RO call ops.toList ms base ops.size nt q1 d = some di)
    (hst : stableH (maskAt ms i) b di.hl = true) (how : ownB (maskAt ms i) base ops.size b = true) : (overH A base lst q d.st.heap).get b = di.st.heap.get b := by
  subst hq
  obtain ⟨di', m1, _, mt, mt2, m5⟩ := C.mid (q2 := i :: q2) hσ hd
  obtain rfl : di' = di := Option.some.inj (m1.symm.trans hdi)
  have hlt : ∀ k, k ∈ q1 ++ i :: q2 → k < ops.size := fun k hk => by
    obtain ⟨ok, hok⟩ := C.isop (j := k) (by rw [hσ]; simp only [List.mem_append] at hk ⊢; exact .inr hk)
    exact (Array.getElem?_eq_some_iff.1 hok).1
  have hbefore : ∀ k, bit (maskAt ms i) k = true → k ∈ q1 ++ i :: q2 → k ∈ q1 := fun k hk hkq => by
    have h1 := (C.hg.at_ (p ++ q1) i q2 (by simp [hσ])).2.2.1 k hk
    rcases List.mem_append.1 h1 with h2 | h2
    · exact absurd h2 (C.notin hσ hkq)
    · exact h2
  have heavies : ∀ h nx L, (h, nx, L) ∈ di'.hl → h ∈ q1 → b < nx ∧ b ∉ L := fun h nx L hm hq => by
    rcases stableH_some hst h nx L hm with h1 | h1
    · exact absurd (hJ.lite h (List.mem_append_left _ hq) (hr h h1)) (mt2.hl h nx L hm).2.2.2
    · exact h1
  by_cases hex : ∃ k, k ∈ q1 ++ i :: q2 ∧ b = base + k
  · obtain ⟨j, hjq, hbj⟩ := hex
    have hbit : bit (maskAt ms i) j = true := ownB_some (hlt j hjq) (by rw [← hbj]; exact how)
    have hlj := hr j hbit
    obtain ⟨oj, hoj⟩ := C.isop (j := j) (by rw [hσ]; simp only [List.mem_append] at hjq ⊢; exact .inr hjq)
    have hlite := hJ.lite j hjq hlj oj hoj
    obtain ⟨r1, r2, rfl⟩ := List.append_of_mem (hbefore j hbit hjq)
    obtain ⟨mA, a1, a2, _, _, a3⟩ := C.mid (p := p) (q1 := r1) (q2 := j :: r2 ++ i :: q2) (by simp [hσ]) hd
    obtain ⟨mB, b1, b2, b3⟩ := C.one (p := p ++ r1) (j := j) (q := r2 ++ i :: q2) (by simp [hσ]) a2
    obtain ⟨_, e1, _⟩ := C.lightStep (p := p ++ r1) (j := j) (q := r2 ++ i :: q2) (by simp [hσ]) a2 hoj hlite b1
    obtain ⟨mC, c1, c2, _, _, c3⟩ := C.mid (p := p ++ r1 ++ [j]) (q1 := r2) (q2 := i :: q2) (by simp [hσ]) b2
    have hmC : mC = di' := by
      have : drawGo P RO call ops.toList ms base ops.size nt (r1 ++ j :: r2) d = some mC := by
        rw [drawGo_join a1]
        simp only [drawGo, b1]
        exact c1
      exact Option.some.inj (this.symm.trans hdi)
    subst hmC
    have g2 : mC.st.heap.get b = mB.st.heap.get b := c3.get b (fun k hk _ he => by
      have hkj : k = j := by omega
      subst hkj
      exact C.notin (p := p ++ r1 ++ [k]) (q := r2 ++ i :: q2) (by simp [hσ]) (List.mem_append_left _ hk) (by simp)) fun h nx L hm hq => heavies h nx L hm (by simp [hq])
    have g1 : mA.st.heap.get b = d.st.heap.get b := a3.get b (fun k hk _ he => by
      have hkj : k = j := by omega
      subst hkj
      exact C.notin (p := p ++ r1) (q := k :: r2 ++ i :: q2) (by simp [hσ]) List.mem_cons_self (List.mem_append_right _ hk)) fun h nx L hm hq => heavies h nx L (c3.hl _ (b3.hl _ hm)) (by simp [hq])
    rw [g2, e1, setO_get, if_pos hbj, g1]
    rcases overH_cases A base lst b (r1 ++ j :: r2 ++ i :: q2) with ⟨k, ok, k1, k2, k3, k4, k5⟩ | ⟨k1, k2⟩
    · have hkj : k = j := by omega
      subst hkj
      rw [k5, k4]
    · rw [k2, k1 j hjq hlj hbj]
  · have g : di'.st.heap.get b = d.st.heap.get b := m5.get b (fun k hk _ he => hex ⟨k, List.mem_append_left _ hk, he⟩) heavies
    rw [g]
    rcases overH_cases A base lst b (q1 ++ i :: q2) with ⟨k, ok, k1, k2, k3, k4, k5⟩ | ⟨k1, k2⟩
    · exact absurd ⟨k, k1, k3⟩ hex
    · exact k2 _
theorem JB.absorb (C : Cx P RO call w0 ops ms σ base nt A V d0 dE) {j : Nat} (hJ : JB w0 ops ms base nt A V φ0 H0 wS ds lst p (j :: q) d φ a w) (hd : drawGo P RO call ops.toList ms base ops.size nt p d0 = some d)
    (hσ : σ = p ++ j :: q) (hj : lst j = true) : ∃ d', drawGo P RO call ops.toList ms base ops.size nt (p ++ [j]) d0 = some d' ∧ JB w0 ops ms base nt A V φ0 H0 wS ds lst (p ++ [j]) q d' φ a w := by
  obtain ⟨d', h1, h2, h3⟩ := C.one hσ hd
  obtain ⟨o, ho⟩ := C.isop (j := j) (by rw [hσ]; simp)
  obtain ⟨e1, e2, e3⟩ := C.lightStep hσ hd ho (hJ.lite j List.mem_cons_self hj o ho) h1
  have hH : ∀ x, (overH A base lst q d'.st.heap).get x = (overH A base lst (j :: q) d.st.heap).get x := fun x => by
    simp only [overH, hj, cond_true]
    rw [e2]
    rcases overH_cases A base lst x q with ⟨k, ok, k1, k2, k3, k4, k5⟩ | ⟨k1, k2⟩
    · have hne : x ≠ base + j := fun he => by
        have : k = j := by omega
        subst this
        exact C.notin (p := p ++ [k]) (q := q) (by simp [hσ]) k1 (by simp)
      rw [k5, setO_ne hne, k5]
    · rw [k2, setO_get, setO_get, k2]
  have hT : ∀ t, (overT V ops lst q d'.τ).get t = (overT V ops lst (j :: q) d.τ).get t := fun t => by
    simp only [overT, hj, cond_true]
    rw [setT_get, dstAt_some ho]
    rcases overT_cases V (ops := ops) lst t q with ⟨k, k1, k2, k3, k4⟩ | ⟨k1, k2⟩
    · obtain ⟨ok, hok⟩ := C.isop (j := k) (by rw [hσ]; simp [k1])
      rw [dstAt_some hok] at k3
      have hne : j ≠ k := fun he => by
        subst he
        exact C.notin (p := p ++ [j]) (q := q) (by simp [hσ]) k1 (by simp)
      rw [k4, if_neg (C.dst_ne ho hok k3 hne), k4]
    · rw [k2, k2, putA_get e1]
  refine ⟨d', h2, ⟨fun k hk => ?_, fun k hk => hJ.lite k (List.mem_cons_of_mem _ hk), hJ.clos, ?_, hJ.tmp.congr hT, hJ.defs, hJ.free, hJ.mark, hJ.step.congr hH⟩⟩
  · rcases List.mem_append.1 hk with hk | hk
    · exact hJ.pre k hk
    · rw [List.mem_singleton.1 hk]; exact hj
  · rw [e3]; exact hJ.rel.congr hH
end
theorem JB.absorbs (C : Cx P RO call w0 ops ms σ base nt A V d0 dE) {φ0 : Phi} {H0 : PT AObj} {wS : World} {ds : List Deferred} {lst : Nat → Bool} {φ : Phi} {a : Act} {w : World} : ∀ {q1 p q : List Nat} {d : DSt}, JB w0 ops ms base nt A V φ0 H0 wS ds lst p (q1 ++ q) d φ a w → drawGo P RO call ops.toList ms base ops.size nt p d0 = some d → σ = p ++ (q1 ++ q) → (∀ j ∈ q1, lst j = true) →
    ∃ d', drawGo P RO call ops.toList ms base ops.size nt (p ++ q1) d0 = some d' ∧ JB w0 ops ms base nt A V φ0 H0 wS ds lst (p ++ q1) q d' φ a w
  | [], p, q, d, hJ, hd, _, _ => ⟨d, by simpa using hd, by simpa using hJ⟩
  | j :: q1, p, q, d, hJ, hd, hσ, hl => by
    obtain ⟨d1, h1, h2⟩ := hJ.absorb C hd hσ (hl j List.mem_cons_self)
    obtain ⟨d2, k1, k2⟩ := JB.absorbs C h2 h1 (by simp [hσ]) fun k hk => hl k (List.mem_cons_of_mem _ hk)
    exact ⟨d2, by simpa using k1, by simpa using k2⟩
end
end Go.Proofs.Ytlnfolgmjfcinaa.Abs
