/- Closed functions run by an interpreter: a region that draws its order, the whole. By an AI agent. -/
import Derived.Test.YtlnfolgmjfcinaaAbsD5
namespace Go.Proofs.Ytlnfolgmjfcinaa.Abs
open Go Go.RowKit
set_option linter.unusedVariables false
section
variable {P : Program} {ops : Array Oper} {Q : Exit → Act → World → Prop} {md : Region.Mode} {F : Fence} {kk : Nat}
theorem wpAnyIn_inv (J : Array Bool → Act → World → Prop)
    (step : ∀ listed a w i, J listed a w → listed.size = ops.size → i ∈ Region.ready md ops listed → wpOpIn F kk P ops Q i (fun a' w' => J (listed.setIfInBounds i true) a' w') a w)
    (done : ∀ listed a w, J listed a w → listed.size = ops.size → Region.ready md ops listed = [] → Q .normal a w) :
    ∀ (fuel : Nat) (listed : Array Bool) (a : Act) (w : World), J listed a w → listed.size = ops.size → listed.toList.count false ≤ fuel → wpAnyIn F kk P md ops Q fuel listed a w
  | 0, listed, a, w, hj, hs, hc => by
    have hr : Region.ready md ops listed = [] := by
      refine List.eq_nil_iff_forall_not_mem.2 fun i hi => ?_
      rw [mem_ready] at hi
      have h0 := List.count_eq_zero.1 (Nat.le_zero.1 hc)
      obtain ⟨h1, o, ho, _⟩ := hi
      have hl : i < listed.size := by have := (Array.getElem?_eq_some_iff.1 ho).1; omega
      simp [hl] at h1
      exact h0 (by rw [← h1]; simp)
    exact ⟨hr, done listed a w hj hs hr⟩
  | fuel + 1, listed, a, w, hj, hs, hc => by
    refine ⟨fun h => done listed a w hj hs h, fun i hi => ?_⟩
    refine wpOpIn_mono (fun a' w' hJ => wpAnyIn_inv J step done fuel _ a' w' hJ (by simpa using hs) ?_) (step listed a w i hj hs hi)
    rw [mem_ready] at hi
    obtain ⟨h1, o, ho, _⟩ := hi
    have hl : i < listed.size := by have := (Array.getElem?_eq_some_iff.1 ho).1; omega
    simp [hl] at h1
    have : (listed.setIfInBounds i true).toList.count false + 1 = listed.toList.count false := by
      rw [Array.toList_setIfInBounds]
      have hl' : i < listed.toList.length := by simpa using hl
      rw [List.count_set hl']
      have hx : listed.toList[i] = false := by simpa using h1
      have hp : 0 < listed.toList.count false := List.count_pos_iff.2 (by rw [← hx]; exact List.getElem_mem _)
      rw [hx]
      simp only [beq_self_eq_true, if_true, show (true == false) = false from rfl, Bool.false_eq_true, if_false]
      omega
    omega
end
/-- where a piece of code leaves things -/
def Post (w0 : World) (φ : Phi) (st : St) (w : World) (n : Nat) (τ' : PT AVal) (st' : St) (ds : List Deferred) (a' : Act) (w' : World) : Prop :=
  ∃ ψ, TRel ψ n τ' a'.tmps ∧ a'.defers = ds ∧ WRel w0 ψ st'.heap st'.next w' ∧ Step φ st.heap w ψ st'.heap w'
section
variable {P : Program} {RO : PT AObj} {call : Who → List AVal → St → Option (AVal × St)} {w0 : World} {ops : Array Oper} {ms σ : List Nat} {base nt : Nat} {A : Nat → Option AObj} {V : Nat → AVal} {d0 dE : DSt}
variable {φ0 : Phi} {H0 : PT AObj} {wS : World} {ds : List Deferred} {lst lst' : Nat → Bool} {p q : List Nat} {d : DSt} {φ ψ : Phi} {a : Act} {w w' : World}
theorem Cx.empty (C : Cx P RO call w0 ops ms σ base nt A V d0 dE) (z0 : ∀ j, j < ops.size → d0.st.heap.get (base + j) = none) (hd : drawGo P RO call ops.toList ms base ops.size nt p d0 = some d) (hσ : σ = p ++ q) {j : Nat} (hj : j < ops.size) (hjp : j ∉ p) : d.st.heap.get (base + j) = none := by
  obtain ⟨d1, m1, m2, _, mt, m5⟩ := C.mid (p := []) (q1 := p) (q2 := q) (d := d0) (by simpa using hσ) rfl
  obtain rfl : d1 = d := Option.some.inj (m1.symm.trans hd)
  rw [m5.get (base + j) (fun k hk _ he => hjp (by rw [show j = k by omega]; exact hk)) fun h nx L hm hp => ?_]
  · exact z0 j hj
  · have ht := mt.hl h nx L hm
    refine ⟨by omega, fun hb => hjp ?_⟩
    have hbit := ownB_some hj (ht.2.2.1 _ hb)
    obtain ⟨r, s, hp2⟩ := List.append_of_mem hp
    have := (C.hg.at_ r h (s ++ q) (by rw [hσ, hp2]; simp)).2.2.1 j hbit
    rw [hp2]
    exact List.mem_append_left _ this
/-- an operation that writes or calls -/
theorem JB.heavyOp (C : Cx P RO call w0 ops ms σ base nt A V d0 dE) (z0 : ∀ j, j < ops.size → d0.st.heap.get (base + j) = none) (hro : RRel w0 φ0 RO) (hJ : JB w0 ops ms base nt A V φ0 H0 wS ds lst p q d φ a w) (hd : drawGo P RO call ops.toList ms base ops.size nt p d0 = some d) (hσ : σ = p ++ q)
    {i : Nat} {o : Oper} (hi : i ∈ q) (hni : lst i = false) (ho : ops[i]? = some o) (hl : isHeavy o.op = true) (hr : ∀ k, bit (maskAt ms i) k = true → lst k = true) (h1 : lst' i = true) (h2 : ∀ j, j ≠ i → lst' j = lst j)
    {rg : Option Nat} {kk : Nat} {K : Act → World → Prop} {Q : Exit → Act → World → Prop} (hK : ∀ p' q' d' φ' a' w', σ = p' ++ q' → drawGo P RO call ops.toList ms base ops.size nt p' d0 = some d' → JB w0 ops ms base nt A V φ0 H0 wS ds lst' p' q' d' φ' a' w' → K a' w') : wpOpIn (FR rg) kk P ops Q i K a w := by
  obtain ⟨q1, q2, hq⟩ := List.append_of_mem hi
  subst hq
  have hall := (C.hg.at_ (p ++ q1) i q2 (by simp [hσ])).2.2.2 o ho hl
  obtain ⟨d', k1, hJ'⟩ := hJ.absorbs C hd hσ fun j hj => hr j (hall j (List.mem_append_right _ hj))
  clear hJ hd
  have hσ' : σ = (p ++ q1) ++ i :: q2 := by simp [hσ]
  generalize hp' : p ++ q1 = p' at k1 hJ' hσ' hall
  clear hp' hσ hi
  obtain ⟨d2, s1, s2, s3⟩ := C.one hσ' k1
  have hag := hJ'.agree C k1 (q1 := []) (q2 := q2) rfl hσ' ho hni hr rfl
  have hro' := hro.mono hJ'.step.le
  have hiq : i ∉ q2 := fun hm => C.notin (p := p' ++ [i]) (q := q2) (by simp [hσ']) hm (by simp)
  have hne : ∀ j ∈ q2, j ≠ i := fun j hj he => hiq (he ▸ hj)
  have eH : ∀ H, overH A base lst (i :: q2) H = overH A base lst q2 H := fun H => by simp only [overH, hni, cond_false]
  have eT : ∀ τ, overT V ops lst (i :: q2) τ = overT V ops lst q2 τ := fun τ => by simp only [overT, hni, cond_false]
  have eH' : ∀ H, overH A base lst' q2 H = overH A base lst q2 H := fun H => overH_lst H fun j hj => h2 j (hne j hj)
  have eT' : ∀ τ, overT V ops lst' q2 τ = overT V ops lst q2 τ := fun τ => overT_lst τ fun j hj => h2 j (hne j hj)
  have hrel := hJ'.rel
  have htmp := hJ'.tmp
  have hstep := hJ'.step
  rw [eH] at hrel hstep
  rw [eT] at htmp hag
  have hltq : ∀ j ∈ q2, j < ops.size := fun j hj => by
    obtain ⟨oj, hoj⟩ := C.isop (j := j) (by rw [hσ']; simp [hj])
    exact (Array.getElem?_eq_some_iff.1 hoj).1
  have hempty : ∀ j ∈ q2, lst j = true → d'.st.heap.get (base + j) = none := fun j hj _ => C.empty z0 k1 hσ' (hltq j hj) (C.notin hσ' (List.mem_cons_of_mem _ hj))
  have finish : ∀ (ψ : Phi) (v : AVal) (u : Value) (w' : World) (H1 : PT AObj), d2.st.heap = H1 → putA nt d'.τ o.dst v = some d2.τ → VRel ψ v u → WRel w0 ψ H1 d2.st.next w' → Step φ d'.st.heap w ψ H1 w' → K (a.put o.dst u) w' := fun ψ v u w' H1 hh hput hv hw' hs => by
    obtain ⟨x1, x2⟩ := extras_ok hrel hJ'.mark hltq s3.next hempty hw' hs
    refine hK (p' ++ [i]) q2 d2 ψ _ w' (by simp [hσ']) s2 ⟨fun j hj => ?_, fun j hj hlj => ?_, fun j k hj hk => ?_, ?_, ?_, ?_, fun j hj hlj => ?_, mark_of hs hJ'.mark, ?_⟩
    · rcases List.mem_append.1 hj with hj | hj
      · by_cases he : j = i
        · rw [he]; exact h1
        · rw [h2 j he]; exact hJ'.pre j hj
      · rw [List.mem_singleton.1 hj]; exact h1
    · exact hJ'.lite j (List.mem_cons_of_mem _ hj) (by rw [← h2 j (hne j hj)]; exact hlj)
    · have hk' : lst k = true := by
        by_cases he : j = i
        · subst he; exact hr k hk
        · exact hJ'.clos j k (by rw [← h2 j he]; exact hj) hk
      by_cases he : k = i
      · rw [he]; exact h1
      · rw [h2 k he]; exact hk'
    · rw [eH', hh]; exact x1
    · rw [eT']
      have h3 := (htmp.mono hs.le).put (d := o.dst) (putA_any (τ2 := overT V ops lst q2 d'.τ) (v' := v) hput) hv
      refine h3.congr fun t => ?_
      rw [setT_get]
      rcases overT_cases V (ops := ops) lst t q2 with ⟨k, c1, c2, c3, c4⟩ | ⟨c1, c2⟩
      · obtain ⟨ok, hok⟩ := C.isop (j := k) (by rw [hσ']; simp [c1])
        rw [dstAt_some hok] at c3
        rw [c4, if_neg (C.dst_ne ho hok c3 (Ne.symm (hne k c1))), c4]
      · rw [c2, c2, putA_get hput]
    · rw [← hJ'.defs]; unfold Act.put; split <;> rfl
    · have hji : j ≠ i := fun he => by subst he; rw [h1] at hlj; cases hlj
      exact free_of hs hJ'.mark hj (hJ'.free j hj (by rw [← h2 j hji]; exact hlj))
    · rw [eH', hh]; exact hstep.trans x2
  unfold wpOpIn
  simp only [ho]
  have hwn : wantedA ops.toList (overT V ops lst q2 d'.τ) o = wantedA ops.toList d'.τ o := wantedA_agree hag
  have hsub : WRel w0 φ d'.st.heap d'.st.next w := hrel.sub fun x ox hx => by
    rcases overH_cases A base lst x q2 with ⟨k, ok, c1, c2, c3, c4, c5⟩ | ⟨c1, c2⟩
    · rw [c3, hempty k c1 c2] at hx; cases hx
    · rw [c2]; exact hx
  rcases draw1_heavy ho hl s1 with ⟨e1, e2, e3, e4⟩ | ⟨hv, v, st', e1, e2, e3, e4, e5, e6, e7⟩
  · rw [wanted_some (hwn.trans e1) htmp, if_neg (by simp)]
    exact ⟨fun _ _ => trivial, finish φ .undef undef w d'.st.heap (by rw [e3]) e2 VRel.undef (by rw [e3]; exact hsub) (Step.refl _ _ _)⟩
  · rw [wanted_some (hwn.trans e1) htmp, if_pos rfl]
    have hh : heavy P (evA RO (overT V ops lst q2 d'.τ)) o.op = some hv := (heavy_congr o.op (evA_agree hag)).trans e2
    refine heavy_wp C.hc (φ := φ) (st := ⟨d'.st.heap, d'.st.next, []⟩) (ev_some hro' htmp) hh e3 hsub hro' fun u w' hs => ?_
    obtain ⟨ψ, f1, f2, f3⟩ := hs
    exact finish ψ v u w' st'.heap (by rw [e6]) e5 f1 (by rw [e6]; exact f2) f3
end
theorem runDraw_ok {P : Program} {RO : PT AObj} {call : Who → List AVal → St → Option (AVal × St)} {w0 : World} (hm : P.follows .mixedOrders = true) (hc : CallOk P w0 RO call) {id nt : Nat} {ops : Array Oper} {τ τ' : PT AVal} {st st' : St} (h : runDraw P RO call ops.toList nt τ st = some (τ', st')) :
    Logs st st' ∧ ∀ φ a w, TRel φ nt τ a.tmps → WRel w0 φ st.heap st.next w → RRel w0 φ RO → ∀ rg kk, (Code.region id ops true).wpIn (FR rg) kk P (fun e a' w' => e = .normal ∧ Post w0 φ st w nt τ' st' a.defers a' w') a w := by
  unfold runDraw at h
  split at h
  · rename_i σ ms hplan
    have hg := plan_some hplan
    rw [lenL0, Array.length_toList] at h
    split at h
    · rename_i dE hfull
      cases h
      have tr0 : Tr ops ms st.next ops.size [] ⟨τ, ⟨st.heap, Nat.succ (Nat.add st.next ops.size), st.log⟩, []⟩ := ⟨Nat.lt_succ_self _, fun h nx L hm => by cases hm⟩
      have hop : ∀ j ∈ σ, ∃ o, ops[j]? = some o := fun j hj => by
        obtain ⟨r, s, he⟩ := List.append_of_mem hj
        exact (hg.at_ r j s he).2.1
      refine ⟨?_, fun φ a w ht hw hro rg kk => ?_⟩
      · obtain ⟨_, pth⟩ := path_some hc hop hfull tr0
        obtain ⟨L, l1, l2⟩ := pth.log
        exact ⟨L, l1, Nat.le_trans (by show st.next ≤ Nat.succ (st.next + ops.size); omega) pth.next, fun b hb hn => l2 b hb hn⟩
      · -- the canonical values
        have hex : ∀ i : Nat, ∃ e : AVal × Option AObj, ∀ p q d o, σ = p ++ i :: q → drawGo P RO call ops.toList ms st.next ops.size nt p ⟨τ, ⟨st.heap, Nat.succ (Nat.add st.next ops.size), st.log⟩, []⟩ = some d → ops[i]? = some o → isHeavy o.op = false → effA P RO ops.toList (maskAt ms i) st.next ops.size i o d = some e := fun i => by
          by_cases hi : ∃ p q d o, σ = p ++ i :: q ∧ drawGo P RO call ops.toList ms st.next ops.size nt p ⟨τ, ⟨st.heap, Nat.succ (Nat.add st.next ops.size), st.log⟩, []⟩ = some d ∧ ops[i]? = some o ∧ isHeavy o.op = false
          · obtain ⟨p, q, d, o, e1, e2, e3, e4⟩ := hi
            have hf := hfull
            rw [e1] at hf
            obtain ⟨m, f1, f2⟩ := drawGo_append hf
            obtain rfl : m = d := Option.some.inj (f1.symm.trans e2)
            obtain ⟨m', g1, g2⟩ := drawGo_one f2
            obtain ⟨v, oo, k1, _⟩ := draw1_light e3 e4 g1
            refine ⟨(v, oo), fun p' q' d' o' a1 a2 a3 a4 => ?_⟩
            obtain ⟨rfl, rfl⟩ := split_one e1 a1 (hg.at_ p i q e1).1 (hg.at_ p' i q' a1).1
            obtain rfl : m = d' := Option.some.inj (e2.symm.trans a2)
            obtain rfl : o = o' := Option.some.inj (e3.symm.trans a3)
            exact k1
          · exact ⟨default, fun p q d o a1 a2 a3 a4 => absurd ⟨p, q, d, o, a1, a2, a3, a4⟩ hi⟩
        obtain ⟨VA, hVA⟩ := Classical.axiomOfChoice hex
        have C : Cx P RO call w0 ops ms σ st.next nt (fun i => (VA i).2) (fun i => (VA i).1) ⟨τ, ⟨st.heap, Nat.succ (Nat.add st.next ops.size), st.log⟩, []⟩ dE := ⟨hg, hc, hfull, tr0, fun p i q d o a1 a2 a3 a4 => hVA i p q d o a1 a2 a3 a4⟩
        have z0 : ∀ j, j < ops.size → st.heap.get (st.next + j) = none := fun j _ => by
          cases hq : st.heap.get (st.next + j) with
          | none => rfl
          | some o =>
            have := hw.lt _ o hq
            omega
        have hbase : ∀ y, φ y ≠ none → y < st.next := fun y hy => Nat.lt_of_not_le fun hle => hy (hw.fresh y hle)
        have hf1 : φ (st.next + ops.size) = none := hw.fresh _ (Nat.le_add_right _ _)
        have hle1 : φ.le (φ.ext (st.next + ops.size) (0, 0, 0)) := Phi.ext_le _ hf1
        have overN : ∀ (A : Nat → Option AObj) (H : PT AObj) x, (overH A st.next (fun _ => false) σ H).get x = H.get x := fun A H x => by
          rcases overH_cases A st.next (fun _ => false) x σ with ⟨k, ok, c1, c2, _⟩ | ⟨c1, c2⟩
          · cases c2
          · exact c2 H
        have overM : ∀ (V : Nat → AVal) (τ : PT AVal) t, (overT V ops (fun _ => false) σ τ).get t = τ.get t := fun V τ t => by
          rcases overT_cases V (ops := ops) (fun _ => false) t σ with ⟨k, c1, c2, _⟩ | ⟨c1, c2⟩
          · cases c2
          · exact c2 τ
        have hobj : WRel w0 (φ.ext (st.next + ops.size) (0, 0, 0)) st.heap (Nat.succ (Nat.add st.next ops.size)) { w with drawn := w.drawn + 1 } := by
          refine ⟨hw.drew.below, fun x hx => ?_, fun x o hx => ?_, fun x y o o' g b b' n n' hx hy h4 h5 => ?_, fun x o hx => ?_⟩
          · have hx' : st.next + ops.size + 1 ≤ x := hx
            rw [Phi.ext_ne _ _ (by omega)]
            exact hw.fresh x (by omega)
          · rcases hw.obj x o hx with ⟨e1, e2⟩ | ⟨g, b, n, u, e1, e2, e3, e4⟩
            · exact .inl ⟨by have := hw.lt x o hx; rw [Phi.ext_ne _ _ (by omega)]; exact e1, e2⟩
            · exact .inr ⟨g, b, n, u, hle1 _ _ e1, e2, e3, e4.mono hle1⟩
          · have := hw.lt x o hx
            have := hw.lt y o' hy
            rw [Phi.ext_ne _ _ (by omega)] at h4 h5
            exact hw.inj x y o o' g b b' n n' hx hy h4 h5
          · have h9 := hw.lt x o hx
            show x < Nat.succ (st.next + ops.size)
            omega
        have hstp : Step φ st.heap w (φ.ext (st.next + ops.size) (0, 0, 0)) st.heap { w with drawn := w.drawn + 1 } := by
          refine ⟨hle1, Nat.le_refl _, fun x o g b n hx h4 => ?_, fun _ _ _ => rfl, Phi.only_ext _ fun y hy => hw.fresh y (by omega)⟩
          have := hw.lt x o hx
          rw [Phi.ext_ne _ _ (by omega)] at h4
          exact .inr ⟨x, o, b, n, hx, h4⟩
        refine wpIn_region_any hm ?_
        refine wpAnyIn_inv (fun listed a' w' => ∃ p q d φ', σ = p ++ q ∧ drawGo P RO call ops.toList ms st.next ops.size nt p ⟨τ, ⟨st.heap, Nat.succ (Nat.add st.next ops.size), st.log⟩, []⟩ = some d ∧
          JB w0 ops ms st.next nt (fun i => (VA i).2) (fun i => (VA i).1) φ st.heap w a.defers (fun j => listed.getD j false) p q d φ' a' w') ?_ ?_ _ _ _ _ ?_ (by simp) ?_
        · rintro listed a1 w1 i ⟨p, q, d, φ', hσ, hd, hJ⟩ hsz hi
          rw [mem_ready] at hi
          obtain ⟨hi1, o, ho, hedge⟩ := hi
          have hlt : i < ops.size := (Array.getElem?_eq_some_iff.1 ho).1
          have hl : i < listed.size := by omega
          have hni : listed.getD i false = false := by simp [hl] at hi1 ⊢; exact hi1
          have hr : ∀ k, bit (maskAt ms i) k = true → listed.getD k false = true := fun k hk => by
            obtain ⟨e, he, hb, hor⟩ := hg.mask i o k ho hk
            have hon := hedge e he hb
            rcases hor with rfl | hor
            · exact hon
            · exact hJ.clos e.on k hon hor
          have hiq : i ∈ q := by
            have := hg.all_ i hlt
            rw [hσ] at this
            rcases List.mem_append.1 this with h3 | h3
            · have := hJ.pre i h3
              rw [hni] at this; cases this
            · exact h3
          have s1 : (listed.setIfInBounds i true).getD i false = true := by
            rw [Array.getD_eq_getD_getElem?, Array.getElem?_setIfInBounds_self]
            simp [hl]
          have s2 : ∀ j, j ≠ i → (listed.setIfInBounds i true).getD j false = listed.getD j false := fun j hj => by
            rw [Array.getD_eq_getD_getElem?, Array.getElem?_setIfInBounds_ne (Ne.symm hj), ← Array.getD_eq_getD_getElem?]
          cases hh : isHeavy o.op with
          | false => exact hJ.lightOp C hro hbase hd hσ hiq hni ho hh hr (lst' := fun j => (listed.setIfInBounds i true).getD j false) s1 s2 fun φ2 a2 w2 hJ2 => ⟨p, q, d, φ2, hσ, hd, hJ2⟩
          | true => exact hJ.heavyOp C z0 hro hd hσ hiq hni ho hh hr (lst' := fun j => (listed.setIfInBounds i true).getD j false) s1 s2 fun p2 q2 d2 φ2 a2 w2 hσ2 hd2 hJ2 => ⟨p2, q2, d2, φ2, hσ2, hd2, hJ2⟩
        · rintro listed a1 w1 ⟨p, q, d, φ', hσ, hd, hJ⟩ hsz hready
          have hall := hg.listed listed hsz hready
          obtain ⟨d1, k1, hJ'⟩ := JB.absorbs (q := []) C (by simpa using hJ) hd (by simpa using hσ) fun j hj => by
            obtain ⟨oj, hoj⟩ := hop j (by rw [hσ]; exact List.mem_append_right _ hj)
            have := hall j (Array.getElem?_eq_some_iff.1 hoj).1
            rw [Array.getD_eq_getD_getElem?] at this
            exact this
          rw [← hσ] at k1 hJ'
          obtain rfl : d1 = dE := Option.some.inj (k1.symm.trans hfull)
          exact ⟨rfl, φ', hJ'.tmp, hJ'.defs, hJ'.rel, hJ'.step⟩
        · refine ⟨[], σ, _, φ.ext (st.next + ops.size) (0, 0, 0), rfl, rfl, ⟨fun j hj => (by cases hj), fun j _ hl => ?_, fun j k hl _ => ?_, ?_, ?_, rfl, fun j hj _ => ?_, ?_, ?_⟩⟩
          · exfalso
            by_cases hj : j < ops.size <;> simp [hj] at hl
          · exfalso
            by_cases hj : j < ops.size <;> simp [hj] at hl
          · rw [overH_lst (lst := fun _ => false) _ fun j _ => by by_cases hj : j < ops.size <;> simp [hj]]
            exact hobj.congr (overN _ _)
          · rw [overT_lst (lst := fun _ => false) _ fun j _ => by by_cases hj : j < ops.size <;> simp [hj]]
            exact (ht.mono hle1).congr (overM _ _)
          · rw [Phi.ext_ne _ _ (by omega)]; exact hw.fresh _ (Nat.le_add_right _ _)
          · rw [Phi.ext_at]; exact Option.some_ne_none _
          · rw [overH_lst (lst := fun _ => false) _ fun j _ => by by_cases hj : j < ops.size <;> simp [hj]]
            exact hstp.congr (overN _ _)
        · simp []
    · cases h
  · cases h
end Go.Proofs.Ytlnfolgmjfcinaa.Abs
