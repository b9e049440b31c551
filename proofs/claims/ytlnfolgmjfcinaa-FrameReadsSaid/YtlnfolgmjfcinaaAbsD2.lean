/- Closed functions run by an interpreter: the trace of a region that draws its order. By an AI agent. -/
import Derived.Test.YtlnfolgmjfcinaaAbsD
namespace Go.Proofs.Ytlnfolgmjfcinaa.Abs
open Go Go.RowKit
set_option linter.unusedVariables false
section
variable {P : Program} {RO : PT AObj} {call : Who → List AVal → St → Option (AVal × St)} {w0 : World} {ops : Array Oper} {ms σ : List Nat} {base n nt : Nat}
theorem drawGo_append {all : List Oper} : ∀ {p q : List Nat} {d e : DSt}, drawGo P RO call all ms base n nt (p ++ q) d = some e → ∃ m, drawGo P RO call all ms base n nt p d = some m ∧ drawGo P RO call all ms base n nt q m = some e
  | [], q, d, e, h => ⟨d, rfl, h⟩
  | i :: p, q, d, e, h => by
    simp only [List.cons_append, drawGo] at h ⊢
    split at h
    · exact drawGo_append h
    · cases h
theorem drawGo_join {all : List Oper} : ∀ {p q : List Nat} {d m : DSt}, drawGo P RO call all ms base n nt p d = some m → drawGo P RO call all ms base n nt (p ++ q) d = drawGo P RO call all ms base n nt q m
  | [], q, d, m, h => by cases h; rfl
  | i :: p, q, d, m, h => by
    simp only [List.cons_append, drawGo] at h ⊢
    split at h
    · exact drawGo_join h
    · cases h
theorem drawGo_one {all : List Oper} {i : Nat} {q : List Nat} {d e : DSt} (h : drawGo P RO call all ms base n nt (i :: q) d = some e) : ∃ m, draw1 P RO call all ms base n nt i d = some m ∧ drawGo P RO call all ms base n nt q m = some e := by
  simp only [drawGo] at h
  split at h
  · exact ⟨_, ‹_›, h⟩
  · cases h
theorem draw1_light {i : Nat} {o : Oper} {d d' : DSt} (ho : ops[i]? = some o) (hl : isHeavy o.op = false) (h : draw1 P RO call ops.toList ms base n nt i d = some d') :
    ∃ v oo, effA P RO ops.toList (maskAt ms i) base n i o d = some (v, oo) ∧ putA nt d.τ o.dst v = some d'.τ ∧ d'.st.heap = setO d.st.heap (base + i) oo ∧ d'.st.next = d.st.next ∧ d'.st.log = d.st.log ∧ d'.hl = d.hl := by
  unfold draw1 at h
  rw [nth_eq, Array.getElem?_toList, ho] at h
  simp only [hl, cond_false] at h
  cases he : effA P RO ops.toList (maskAt ms i) base n i o d with
  | none => rw [he] at h; cases h
  | some e =>
    obtain ⟨v, oo⟩ := e
    rw [he] at h
    simp only [drawL] at h
    split at h
    · rename_i τ' hτ
      cases h
      exact ⟨v, oo, rfl, hτ, rfl, rfl, rfl, rfl⟩
    · cases h
theorem draw1_heavy {i : Nat} {o : Oper} {d d' : DSt} (ho : ops[i]? = some o) (hl : isHeavy o.op = true) (h : draw1 P RO call ops.toList ms base n nt i d = some d') :
    (wantedA ops.toList d.τ o = some false ∧ putA nt d.τ o.dst .undef = some d'.τ ∧ d'.st = d.st ∧ d'.hl = d.hl) ∨
    ∃ hv v st', wantedA ops.toList d.τ o = some true ∧ heavy P (evA RO d.τ) o.op = some hv ∧ doHeavy P RO call ⟨d.st.heap, d.st.next, []⟩ hv = some (v, st') ∧ ownL (maskAt ms i) base n st'.log = true ∧ putA nt d.τ o.dst v = some d'.τ ∧
      d'.st = ⟨st'.heap, st'.next, st'.log ++ d.st.log⟩ ∧ d'.hl = (i, d.st.next, st'.log) :: d.hl := by
  unfold draw1 at h
  rw [nth_eq, Array.getElem?_toList, ho] at h
  simp only [hl, cond_true] at h
  unfold drawH at h
  split at h
  · rename_i hwn
    split at h
    · rename_i hv hhv
      right
      cases hd : doHeavy P RO call ⟨d.st.heap, d.st.next, []⟩ hv with
      | none => rw [hd] at h; cases h
      | some e =>
        obtain ⟨v, st'⟩ := e
        rw [hd] at h
        simp only [drawHGo] at h
        cases hown : ownL (maskAt ms i) base n st'.log with
        | false => rw [hown] at h; cases h
        | true =>
          rw [hown] at h
          simp only [cond_true] at h
          split at h
          · rename_i τ' hτ
            cases h
            exact ⟨hv, v, st', hwn, hhv, hd, hown, hτ, rfl, rfl⟩
          · cases h
    · cases h
  · rename_i hwn
    left
    split at h
    · rename_i τ' hτ
      cases h
      exact ⟨hwn, hτ, rfl, rfl⟩
    · cases h
  · cases h
theorem setO_get (H : PT AObj) (x : Nat) (oo : Option AObj) (y : Nat) : (setO H x oo).get y = if y = x then (match oo with | some o => some o | none => H.get y) else H.get y := by
  cases oo with
  | none => simp [setO]
  | some o =>
    show (H.set x (some o)).get y = _
    rw [PT.get_set]
theorem setO_ne {H : PT AObj} {x : Nat} {oo : Option AObj} {y : Nat} (h : y ≠ x) : (setO H x oo).get y = H.get y := by rw [setO_get, if_neg h]
theorem ownL_some {m : Nat} : ∀ {l : List Nat}, ownL m base n l = true → ∀ b ∈ l, ownB m base n b = true
  | [], _, b, hb => by cases hb
  | x :: xs, h, b, hb => by
    simp only [ownL, Bool.and_eq_true] at h
    rcases List.mem_cons.1 hb with rfl | hb
    · exact h.1
    · exact ownL_some h.2 b hb
theorem ownB_some {m j : Nat} (hj : j < n) (h : ownB m base n (base + j) = true) : bit m j = true := by
  unfold ownB at h
  simp only [Bool.or_eq_true] at h
  rcases h with (h | h) | h
  · rw [Nat.blt_eq] at h; omega
  · have := Nat.le_of_ble_eq_true h
    have : base + n ≤ base + j := this
    omega
  · rwa [show Nat.sub (base + j) base = j by show base + j - base = j; omega] at h
theorem stableH_some {m b : Nat} : ∀ {l : List (Nat × Nat × List Nat)}, stableH m b l = true → ∀ h nx L, (h, nx, L) ∈ l → bit m h = true ∨ (b < nx ∧ b ∉ L)
  | [], _, _, _, _, hm => by cases hm
  | (x, y, z) :: xs, hs, h, nx, L, hm => by
    simp only [stableH, Bool.and_eq_true] at hs
    rcases List.mem_cons.1 hm with he | hm
    · cases he
      rcases (Bool.or_eq_true _ _).mp hs.1 with h1 | h1
      · exact .inl h1
      · simp only [Bool.and_eq_true, Bool.not_eq_true'] at h1
        refine .inr ⟨by simpa [Nat.blt_eq] using h1.1, fun hb => ?_⟩
        rw [(memN_iff b z).2 hb] at h1
        cases h1.2
    · exact stableH_some hs.2 h nx L hm
def lite (ops : Array Oper) (j : Nat) : Prop := ∀ o, ops[j]? = some o → isHeavy o.op = false
structure Tr (ops : Array Oper) (ms : List Nat) (base n : Nat) (p : List Nat) (d : DSt) : Prop where
  nx : base + n < d.st.next
  hl : ∀ h nx L, (h, nx, L) ∈ d.hl → h ∈ p ∧ base + n < nx ∧ (∀ b ∈ L, ownB (maskAt ms h) base n b = true) ∧ ¬ lite ops h
structure Path (ops : Array Oper) (base : Nat) (q : List Nat) (d d1 : DSt) : Prop where
  log : ∃ L, d1.st.log = L ++ d.st.log ∧ ∀ x, x < base → x ∉ L → d1.st.heap.get x = d.st.heap.get x
  next : d.st.next ≤ d1.st.next
  hl : ∀ e ∈ d.hl, e ∈ d1.hl
  get : ∀ x, (∀ j ∈ q, lite ops j → x ≠ base + j) → (∀ h nx L, (h, nx, L) ∈ d1.hl → h ∈ q → x < nx ∧ x ∉ L) → d1.st.heap.get x = d.st.heap.get x
  tmp : ∀ t, (∀ j ∈ q, ∀ o, ops[j]? = some o → o.dst ≠ some t) → d1.τ.get t = d.τ.get t
theorem putA_get {τ τ' : PT AVal} {dd : Option Tmp} {v : AVal} (h : putA nt τ dd v = some τ') (t : Nat) : τ'.get t = if dd = some t then some v else τ.get t := by
  unfold putA at h
  cases dd with
  | none => cases h; simp
  | some d =>
    simp only at h
    cases hb : Nat.blt d nt with
    | false => rw [hb] at h; cases h
    | true =>
      rw [hb] at h
      cases h
      rw [PT.get_set]
      by_cases he : t = d
      · subst he; simp
      · rw [if_neg he, if_neg (fun e => he (Option.some.inj e).symm)]
theorem path_one (hc : CallOk P w0 RO call) {p : List Nat} {i : Nat} {d d1 : DSt} (hi : ∃ o, ops[i]? = some o) (h : draw1 P RO call ops.toList ms base n nt i d = some d1) (ht : Tr ops ms base n p d) :
    Tr ops ms base n (p ++ [i]) d1 ∧ Path ops base [i] d d1 := by
  obtain ⟨o, ho⟩ := hi
  cases hl : isHeavy o.op with
  | false =>
    obtain ⟨v, oo, e1, e2, e3, e4, e5, e6⟩ := draw1_light ho hl h
    have hlt : lite ops i := fun o' ho' => by rw [ho] at ho'; cases ho'; exact hl
    refine ⟨⟨by rw [e4]; exact ht.nx, fun a b c hm => ?_⟩, ⟨⟨[], e5, fun x hx _ => by rw [e3, setO_ne (by omega)]⟩, by omega, fun e he => by rw [e6]; exact he, fun x hx _ => by rw [e3, setO_ne (hx i (by simp) hlt)], fun t hn => ?_⟩⟩
    · rw [e6] at hm
      obtain ⟨k1, k2, k3⟩ := ht.hl a b c hm
      exact ⟨by simp [k1], k2, k3⟩
    · rw [putA_get e2, if_neg (hn i (by simp) o ho)]
  | true =>
    rcases draw1_heavy ho hl h with ⟨e1, e2, e3, e4⟩ | ⟨hv, v, st', e1, e2, e3, e4, e5, e6, e7⟩
    · refine ⟨⟨by rw [e3]; exact ht.nx, fun a b c hm => ?_⟩, ⟨⟨[], by rw [e3]; rfl, fun x hx _ => by rw [e3]⟩, by rw [e3]; exact Nat.le_refl _, fun e he => by rw [e4]; exact he, fun x hx _ => by rw [e3], fun t hn => ?_⟩⟩
      · rw [e4] at hm
        obtain ⟨k1, k2, k3⟩ := ht.hl a b c hm
        exact ⟨by simp [k1], k2, k3⟩
      · rw [putA_get e2, if_neg (hn i (by simp) o ho)]
    · obtain ⟨L, f1, f2, f3⟩ := heavy_logs hc e3
      have f1' : st'.log = L := by rw [f1]; simp
      subst f1'
      have hnx : d1.st.next = st'.next := by rw [e6]
      refine ⟨⟨by rw [hnx]; have := ht.nx; have f2' : d.st.next ≤ st'.next := f2; omega, fun a b c hm => ?_⟩, ⟨⟨st'.log, by rw [e6], fun x hx hn => ?_⟩, by rw [hnx]; exact f2, fun e he => by rw [e7]; exact List.mem_cons_of_mem _ he, fun x _ hx => ?_, fun t hn => ?_⟩⟩
      · rw [e7] at hm
        rcases List.mem_cons.1 hm with he | hm
        · cases he
          exact ⟨by simp, ht.nx, ownL_some e4, fun hlt => by rw [hlt o ho] at hl; cases hl⟩
        · obtain ⟨k1, k2, k3⟩ := ht.hl a b c hm
          exact ⟨by simp [k1], k2, k3⟩
      · rw [e6]
        have := ht.nx
        exact f3 x (show x < d.st.next by omega) hn
      · rw [e6]
        obtain ⟨k1, k2⟩ := hx i d.st.next st'.log (by rw [e7]; exact List.mem_cons_self) (by simp)
        exact f3 x k1 k2
      · rw [putA_get e5, if_neg (hn i (by simp) o ho)]
theorem Path.refl (d : DSt) : Path ops base [] d d := ⟨⟨[], rfl, fun _ _ _ => rfl⟩, Nat.le_refl _, fun _ h => h, fun _ _ _ => rfl, fun _ _ => rfl⟩
theorem Path.cons {i : Nat} {q : List Nat} {d m e : DSt} (h : Path ops base [i] d m) (k : Path ops base q m e) : Path ops base (i :: q) d e := by
  obtain ⟨⟨L, l1, l2⟩, h2, h3, h4, h5⟩ := h
  obtain ⟨⟨M, m1, m2⟩, k2, k3, k4, k5⟩ := k
  refine ⟨⟨M ++ L, by rw [m1, l1, List.append_assoc], fun x hx hn => ?_⟩, by omega, fun x hx => k3 x (h3 x hx), fun x hx hy => ?_, fun t hn => ?_⟩
  · simp only [List.mem_append, not_or] at hn
    rw [m2 x hx hn.1, l2 x hx hn.2]
  · rw [k4 x (fun j hj => hx j (List.mem_cons_of_mem _ hj)) (fun a b c hm hq => hy a b c hm (List.mem_cons_of_mem _ hq)),
      h4 x (fun j hj => hx j (by rw [List.mem_singleton.1 hj]; exact List.mem_cons_self)) (fun a b c hm hq => hy a b c (k3 _ hm) (by rw [List.mem_singleton.1 hq]; exact List.mem_cons_self))]
  · rw [k5 t (fun j hj => hn j (List.mem_cons_of_mem _ hj)), h5 t (fun j hj => hn j (by rw [List.mem_singleton.1 hj]; exact List.mem_cons_self))]
theorem path_some (hc : CallOk P w0 RO call) : ∀ {q p : List Nat} {d d1 : DSt}, (∀ i ∈ q, ∃ o, ops[i]? = some o) → drawGo P RO call ops.toList ms base n nt q d = some d1 → Tr ops ms base n p d → Tr ops ms base n (p ++ q) d1 ∧ Path ops base q d d1
  | [], p, d, d1, _, h, ht => by cases h; exact ⟨by simpa using ht, Path.refl d⟩
  | i :: q, p, d, d1, hi, h, ht => by
    obtain ⟨m, h1, h2⟩ := drawGo_one h
    obtain ⟨a1, a2⟩ := path_one hc (hi i List.mem_cons_self) h1 ht
    obtain ⟨b1, b2⟩ := path_some hc (fun j hj => hi j (List.mem_cons_of_mem _ hj)) h2 a1
    exact ⟨by simpa using b1, a2.cons b2⟩
/-- what light operations that stand further back have left -/
noncomputable def overH (A : Nat → Option AObj) (base : Nat) (lst : Nat → Bool) : List Nat → PT AObj → PT AObj
  | [], H => H
  | j :: q, H => bif lst j then setO (overH A base lst q H) (base + j) (A j) else overH A base lst q H
theorem overH_cases (A : Nat → Option AObj) (base : Nat) (lst : Nat → Bool) (x : Nat) : ∀ q : List Nat,
    (∃ j o, j ∈ q ∧ lst j = true ∧ x = base + j ∧ A j = some o ∧ ∀ H, (overH A base lst q H).get x = some o) ∨ ((∀ j ∈ q, lst j = true → x = base + j → A j = none) ∧ ∀ H, (overH A base lst q H).get x = H.get x)
  | [] => .inr ⟨fun j hj => (by cases hj), fun _ => rfl⟩
  | j :: q => by
    cases hl : lst j with
    | false =>
      simp only [overH, hl, cond_false]
      rcases overH_cases A base lst x q with ⟨j', o, h1, h2⟩ | ⟨h1, h2⟩
      · exact .inl ⟨j', o, List.mem_cons_of_mem _ h1, h2⟩
      · refine .inr ⟨fun j' hj' hl' => ?_, h2⟩
        rcases List.mem_cons.1 hj' with rfl | hj'
        · rw [hl] at hl'; cases hl'
        · exact h1 j' hj' hl'
    | true =>
      simp only [overH, hl, cond_true]
      by_cases hx : x = base + j
      · cases hA : A j with
        | some o => exact .inl ⟨j, o, List.mem_cons_self, hl, hx, hA, fun H => by rw [setO_get, if_pos hx]⟩
        | none =>
          rcases overH_cases A base lst x q with ⟨j', o, h1, h2, h3, h4, h5⟩ | ⟨h1, h2⟩
          · exact .inl ⟨j', o, List.mem_cons_of_mem _ h1, h2, h3, h4, fun H => by rw [setO_get, if_pos hx]; exact h5 H⟩
          · refine .inr ⟨fun j' hj' hl' he => ?_, fun H => by rw [setO_get, if_pos hx]; exact h2 H⟩
            rcases List.mem_cons.1 hj' with rfl | hj'
            · exact hA
            · exact h1 j' hj' hl' he
      · rcases overH_cases A base lst x q with ⟨j', o, h1, h2, h3, h4, h5⟩ | ⟨h1, h2⟩
        · exact .inl ⟨j', o, List.mem_cons_of_mem _ h1, h2, h3, h4, fun H => by rw [setO_ne hx]; exact h5 H⟩
        · refine .inr ⟨fun j' hj' hl' he => ?_, fun H => by rw [setO_ne hx]; exact h2 H⟩
          rcases List.mem_cons.1 hj' with rfl | hj'
          · exact absurd he hx
          · exact h1 j' hj' hl' he
noncomputable def setT (τ : PT AVal) (v : AVal) : Option Tmp → PT AVal
  | some d => τ.set d (some v)
  | none => τ
theorem setT_get (τ : PT AVal) (v : AVal) (dd : Option Tmp) (t : Nat) : (setT τ v dd).get t = if dd = some t then some v else τ.get t := by
  cases dd with
  | none => simp [setT]
  | some d =>
    show (τ.set d (some v)).get t = _
    rw [PT.get_set]
    by_cases he : t = d
    · subst he; simp
    · rw [if_neg he, if_neg (fun e => he (Option.some.inj e).symm)]
def dstAt (ops : Array Oper) (j : Nat) : Option Tmp := match ops[j]? with | some o => o.dst | none => none
noncomputable def overT (V : Nat → AVal) (ops : Array Oper) (lst : Nat → Bool) : List Nat → PT AVal → PT AVal
  | [], τ => τ
  | j :: q, τ => bif lst j then setT (overT V ops lst q τ) (V j) (dstAt ops j) else overT V ops lst q τ
theorem overT_cases (V : Nat → AVal) (lst : Nat → Bool) (t : Nat) : ∀ q : List Nat,
    (∃ j, j ∈ q ∧ lst j = true ∧ dstAt ops j = some t ∧ ∀ τ, (overT V ops lst q τ).get t = some (V j)) ∨ ((∀ j ∈ q, lst j = true → dstAt ops j ≠ some t) ∧ ∀ τ, (overT V ops lst q τ).get t = τ.get t)
  | [] => .inr ⟨fun j hj => (by cases hj), fun _ => rfl⟩
  | j :: q => by
    cases hl : lst j with
    | false =>
      simp only [overT, hl, cond_false]
      rcases overT_cases V lst t q with ⟨j', h1, h2⟩ | ⟨h1, h2⟩
      · exact .inl ⟨j', List.mem_cons_of_mem _ h1, h2⟩
      · refine .inr ⟨fun j' hj' hl' => ?_, h2⟩
        rcases List.mem_cons.1 hj' with rfl | hj'
        · rw [hl] at hl'; cases hl'
        · exact h1 j' hj' hl'
    | true =>
      simp only [overT, hl, cond_true]
      by_cases hx : dstAt ops j = some t
      · exact .inl ⟨j, List.mem_cons_self, hl, hx, fun τ => by rw [setT_get, if_pos hx]⟩
      · rcases overT_cases V lst t q with ⟨j', h1, h2, h3, h4⟩ | ⟨h1, h2⟩
        · exact .inl ⟨j', List.mem_cons_of_mem _ h1, h2, h3, fun τ => by rw [setT_get, if_neg hx]; exact h4 τ⟩
        · refine .inr ⟨fun j' hj' hl' => ?_, fun τ => by rw [setT_get, if_neg hx]; exact h2 τ⟩
          rcases List.mem_cons.1 hj' with rfl | hj'
          · exact hx
          · exact h1 j' hj' hl'
end
end Go.Proofs.Ytlnfolgmjfcinaa.Abs
