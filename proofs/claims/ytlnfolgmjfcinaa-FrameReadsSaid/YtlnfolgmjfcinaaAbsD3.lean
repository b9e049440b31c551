/- Closed functions run by an interpreter: a region that draws its order, whatever the order. By an AI agent. -/
import Derived.Test.YtlnfolgmjfcinaaAbsD2
namespace Go.Proofs.Ytlnfolgmjfcinaa.Abs
open Go Go.RowKit
set_option linter.unusedVariables false
section
variable {P : Program} {ev ev' : Operand → Option AVal}
theorem evs_congr : ∀ {xs : List Operand}, (∀ x ∈ xs, ev x = ev' x) → evs ev xs = evs ev' xs
  | [], _ => rfl
  | x :: xs, h => by simp only [evs]; rw [h x List.mem_cons_self, evs_congr fun y hy => h y (List.mem_cons_of_mem _ hy)]
theorem evps_congr : ∀ {xs : List (Nat × Operand)}, (∀ x ∈ xs, ev x.2 = ev' x.2) → evps ev xs = evps ev' xs
  | [], _ => rfl
  | (i, x) :: xs, h => by
    simp only [evps]
    have h1 : ev x = ev' x := h (i, x) List.mem_cons_self
    rw [h1, evps_congr fun y hy => h y (List.mem_cons_of_mem _ hy)]
theorem sym_congr (op : Op) (h : ∀ x ∈ op.operands, ev x = ev' x) : sym P ev op = sym P ev' op := by
  cases op <;> (try simp only [Op.operands] at h) <;> (try rfl) <;> simp only [sym]
  case pick c a b => simp only [sPick, h c (by simp), h a (by simp), h b (by simp)]
  case binOp op t x y t2 => simp only [sBin, h x (by simp), h y (by simp)]
  case unOp op t x => simp only [sUn, h x (by simp)]
  case convert s d x => simp only [sConv, h x (by simp)]
  case makeSlice t l c => simp only [sMake, h l (by simp), h c (by simp)]
  case slice t x lo hi mx =>
    have h1 : evo ev lo = evo ev' lo := by cases lo <;> simp_all [evo]
    have h2 : evo ev hi = evo ev' hi := by cases hi <;> simp_all [evo]
    have h3 : evo ev mx = evo ev' mx := by cases mx <;> simp_all [evo]
    simp only [sSlice, h x (by simp), h1, h2, h3]
  case indexAddr t x i => simp only [sIndexAddr, h x (by simp), h i (by simp)]
  case index t x i => simp only [sIndex, h x (by simp), h i (by simp)]
  case call c =>
    simp only [Call.operands] at h
    have h1 : evs ev c.args.toList = evs ev' c.args.toList := evs_congr fun y hy => h y (by simp [show y ∈ c.args by simpa using hy])
    have h2 : ∀ x, c.args[0]? = some x → ev x = ev' x := fun x hx => h x (by
      have : x ∈ c.args := Array.mem_of_getElem? hx
      simp [this])
    simp only [sCall, h1]
    cases hx : c.args[0]? with
    | none =>
      cases c.callee with
      | value f => rfl
      | invoke r m => rfl
      | builtin b => cases b <;> (first | rfl | (cases c.argTypes[0]? <;> rfl))
    | some x => cases c.argTypes[0]? with
      | none => rfl
      | some t => simp only [h2 x hx]
theorem light0_congr (op : Op) (h : ∀ x ∈ op.operands, ev x = ev' x) : light0 P ev op = light0 P ev' op := by
  cases op <;> simp only [Op.operands] at h <;> simp only [light0]
  case move x => simp only [lMove, h x (by simp)]
  case assign x => simp only [lMove, h x (by simp)]
  case pick c a b => simp only [lPick, h c (by simp), h a (by simp), h b (by simp)]
  case alloc => rfl
  case box t x => simp only [lBox, h x (by simp)]
  case build t ps =>
    have h1 : evps ev ps.toList = evps ev' ps.toList := evps_congr fun y hy => h y.2 (by simp; exact ⟨y.1, by simpa using hy⟩)
    simp only [lBuild, h1]
  case buildSlice t n ps =>
    have h1 : evps ev ps.toList = evps ev' ps.toList := evps_congr fun y hy => h y.2 (by simp; exact ⟨y.1, by simpa using hy⟩)
    simp only [lBuildSlice, h1]
  case load t x => simp only [lLoad, h x (by simp)]
  case nilCheck x => simp only [lNilCheck, h x (by simp)]
  case binOp op t x y t2 => simp only [lBinOp, h x (by simp), h y (by simp)]
  case unOp op t x => simp only [lUnOp, h x (by simp)]
  case convert s d x => simp only [lConvert, h x (by simp)]
  case sliceToArrayPointer t x => simp only [lSliceToArrayPointer, h x (by simp)]
  case makeFunc fn first captured =>
    cases fn <;> simp only [lMakeFunc]
    rw [evs_congr (xs := first.toList) fun y hy => h y (by simp [show y ∈ first by simpa using hy]), evs_congr (xs := captured.toList) fun y hy => h y (by simp [show y ∈ captured by simpa using hy])]
  case makeMap t r =>
    have h1 : evo ev r = evo ev' r := by cases r <;> simp_all [evo]
    simp only [lMakeMap, h1]
  case makeSlice t l c => simp only [lMakeSlice, h l (by simp), h c (by simp)]
  case slice t x lo hi mx =>
    have h1 : evo ev lo = evo ev' lo := by cases lo <;> simp_all [evo]
    have h2 : evo ev hi = evo ev' hi := by cases hi <;> simp_all [evo]
    have h3 : evo ev mx = evo ev' mx := by cases mx <;> simp_all [evo]
    simp only [lSlice, h x (by simp), h1, h2, h3]
  case fieldAddr t x f => simp only [lFieldAddr, h x (by simp)]
  case field t x f => simp only [lField, h x (by simp)]
  case indexAddr t x i => simp only [lIndexAddr, h x (by simp), h i (by simp)]
  case index t x i => simp only [lIndex, h x (by simp), h i (by simp)]
  case extract x i => simp only [lExtract, h x (by simp)]
  case call c =>
    simp only [Call.operands] at h
    have h1 : evs ev c.args.toList = evs ev' c.args.toList := evs_congr fun y hy => h y (by simp [show y ∈ c.args by simpa using hy])
    have h2 : ∀ x, c.args[0]? = some x → ev x = ev' x := fun x hx => h x (by
      have : x ∈ c.args := Array.mem_of_getElem? hx
      simp [this])
    simp only [lCall, h1]
    cases hx : c.args[0]? with
    | none =>
      cases c.callee with
      | value f => rfl
      | invoke r m => rfl
      | builtin b => cases b <;> (first | rfl | (cases c.argTypes[0]? <;> rfl))
    | some x => cases c.argTypes[0]? with
      | none => rfl
      | some t => simp only [h2 x hx]
theorem light_congr (op : Op) (h : ∀ x ∈ op.operands, ev x = ev' x) : light P ev op = light P ev' op := by
  unfold light lightP
  rw [light0_congr op h, sym_congr op h]
theorem heavy_congr (op : Op) (h : ∀ x ∈ op.operands, ev x = ev' x) : heavy P ev op = heavy P ev' op := by
  cases op <;> (try simp only [Op.operands] at h) <;> (try rfl) <;> simp only [heavy]
  case store t x y => simp only [h x (by simp), h y (by simp)]
  case call c =>
    simp only [Call.operands] at h
    have h1 : evs ev c.args.toList = evs ev' c.args.toList := evs_congr fun y hy => h y (by simp [show y ∈ c.args by simpa using hy])
    cases hc : c.callee with
    | value f => simp only [h1, h f (by simp [hc])]
    | invoke r m => rfl
    | builtin b => cases b <;> (first | rfl | simp only [h1])
theorem mem_tmpsOf {t : Tmp} : ∀ {l : List Operand}, .tmp t ∈ l → t ∈ tmpsOf l
  | [], h => by cases h
  | .tmp x :: l, h => by
    rcases List.mem_cons.1 h with he | h
    · cases he; exact List.mem_cons_self
    · exact List.mem_cons_of_mem _ (mem_tmpsOf h)
  | .const _ :: l, h => by
    rcases List.mem_cons.1 h with he | h
    · cases he
    · exact mem_tmpsOf (l := l) h
  | .global _ :: l, h => by
    rcases List.mem_cons.1 h with he | h
    · cases he
    · exact mem_tmpsOf (l := l) h
  | .func _ :: l, h => by
    rcases List.mem_cons.1 h with he | h
    · cases he
    · exact mem_tmpsOf (l := l) h
theorem evA_agree {RO : PT AObj} {all : List Oper} {o : Oper} {τ τ' : PT AVal} (h : ∀ t ∈ looks all o, τ.get t = τ'.get t) : ∀ x ∈ o.op.operands, evA RO τ x = evA RO τ' x := fun x hx => by
  cases x with
  | tmp t => simp only [evA, h t (List.mem_append_right _ (mem_tmpsOf (by simpa using hx)))]
  | const v => rfl
  | global g => rfl
  | func f => rfl
theorem wantedA_agree {all : List Oper} {o : Oper} {τ τ' : PT AVal} (h : ∀ t ∈ looks all o, τ.get t = τ'.get t) : wantedA all τ o = wantedA all τ' o := by
  unfold wantedA
  cases hg : o.guard with
  | none => rfl
  | some gw =>
    obtain ⟨g, want⟩ := gw
    cases ho : nth all g with
    | none => simp only [ho]
    | some og =>
      cases hd : og.dst with
      | none => simp only [ho, hd]
      | some d =>
        have := h d (List.mem_append_left _ (by simp [hg, ho, hd, dstL]))
        simp only [ho, hd, this]
theorem wanted_some {ops : Array Oper} {o : Oper} {φ : Phi} {n : Nat} {τ : PT AVal} {tmps : Array Value} {b : Bool} (h : wantedA ops.toList τ o = some b) (ht : TRel φ n τ tmps) : Region.wanted o (yielded ops tmps) = b := by
  unfold wantedA at h
  unfold Region.wanted
  split at h
  · cases h
    rename_i hg
    simp [hg]
  · rename_i j want hg
    split at h
    · rename_i oj hoj
      rw [nth_eq, Array.getElem?_toList] at hoj
      split at h
      · rename_i d hd
        simp only [hg]
        have hun : tmps.getD d undef = undef → (yielded ops tmps j == some want) = false := fun he => by
          unfold yielded
          simp only [hoj, Option.bind_some, hd]
          rw [Array.getD_eq_getD_getElem?] at he
          cases hq : tmps[d]? with
          | none => rfl
          | some q =>
            rw [hq] at he
            simp only [Option.getD_some] at he
            rw [he]; rfl
        split at h
        · rename_i b' hb
          cases h
          have hat := ht.at_ d _ hb
          generalize hv : tmps.getD d undef = u at hat
          cases hat with
          | bool =>
          unfold yielded
          simp only [hoj, Option.bind_some, hd]
          rw [Array.getD_eq_getD_getElem?] at hv
          cases hq : tmps[d]? with
          | none => rw [hq] at hv; cases hv
          | some q =>
            rw [hq] at hv
            simp only [Option.getD_some] at hv
            rw [hv]
            cases b' <;> cases want <;> rfl
        · rename_i b' hb
          cases h
          have hat := ht.at_ d _ hb
          generalize hv : tmps.getD d undef = u at hat
          cases hat with
          | sbool =>
          unfold yielded
          simp only [hoj, Option.bind_some, hd]
          rw [Array.getD_eq_getD_getElem?] at hv
          cases hq : tmps[d]? with
          | none => rw [hq] at hv; cases hv
          | some q =>
            rw [hq] at hv
            simp only [Option.getD_some] at hv
            rw [hv]
            cases b' <;> cases want <;> rfl
        · rename_i hb
          cases h
          have hat := ht.at_ d _ hb
          refine hun ?_
          generalize tmps.getD d undef = u at hat
          cases hat with
          | tuple _ c hc => 
            have := hc.length
            obtain rfl : c = #[] := Array.eq_empty_of_size_eq_zero (by simpa using this)
            rfl
        · cases h
      · cases h
    · cases h
end
section
variable {w0 wS w : World} {φ0 φ : Phi} {H0 H H' : PT AObj} {nx : Nat}
theorem WRel.congr (h : ∀ x, H'.get x = H.get x) (k : WRel w0 φ H nx w) : WRel w0 φ H' nx w :=
  ⟨k.below, k.fresh, fun x o hx => k.obj x o (by rw [← h]; exact hx), fun x y o o' g b b' n n' h1 h2 => k.inj x y o o' g b b' n n' (by rw [← h]; exact h1) (by rw [← h]; exact h2), fun x o hx => k.lt x o (by rw [← h]; exact hx)⟩
theorem Step.congr (h : ∀ x, H'.get x = H.get x) (k : Step φ0 H0 wS φ H w) : Step φ0 H0 wS φ H' w :=
  ⟨k.le, k.size, fun x o g b n hx => k.orig x o g b n (by rw [← h]; exact hx), k.frame, k.only⟩
theorem TRel.congr {n : Nat} {τ τ' : PT AVal} {tmps : Array Value} (h : ∀ t, τ'.get t = τ.get t) (k : TRel φ n τ tmps) : TRel φ n τ' tmps := ⟨k.size, fun t v hv => k.at_ t v (by rw [← h]; exact hv)⟩
theorem new_at {w' : World} {x0 : Nat} (hw : WRel w0 φ H nx w) (hx : φ x0 = none) (hlt : x0 < nx) {x : Obj} {n : Nat} {o : AObj} (hH : ∀ y, H'.get y = if y = x0 then some o else H.get y) (hh : w'.heap = w.heap.push x) (h1 : w'.os = w.os) (h2 : w'.tape = w.tape) (h3 : w'.output = w.output)
    (ho : ORel (φ.ext x0 (w.heap.size, 0, n)) o 0 n x) (hs : Step φ0 H0 wS φ H w) (hb : ∀ y, φ0 y ≠ none → y < x0) :
    WRel w0 (φ.ext x0 (w.heap.size, 0, n)) H' nx w' ∧ Step φ0 H0 wS (φ.ext x0 (w.heap.size, 0, n)) H' w' := by
  have hle : φ.le (φ.ext x0 (w.heap.size, 0, n)) := Phi.ext_le _ hx
  have hold : ∀ k, k < w.heap.size → w'.heap[k]? = w.heap[k]? := fun k hk => by rw [hh, Array.getElem?_push_lt hk, Array.getElem?_eq_getElem hk]
  have hdom : ∀ y o' g b m, H.get y = some o' → φ y = some (g, b, m) → g < w.heap.size := fun y o' g b m hy hφ => by
    obtain ⟨g', b', m', u, e1, _, e3, _⟩ := hw.obj_of hy hφ
    rw [hφ] at e1
    obtain ⟨rfl, _⟩ : g = g' ∧ _ := by simpa using e1
    exact (Array.getElem?_eq_some_iff.1 e3).1
  refine ⟨⟨?_, fun y hy => ?_, fun y o' hy => ?_, fun y z o1 o2 g b b' m m' hy hz h4 h5 => ?_, fun y o' hy => by
    rw [hH] at hy
    split at hy
    · omega
    · exact hw.lt y o' hy⟩, ⟨hs.le.trans hle, by have := hs.size; rw [hh]; simp; omega, fun y o' g b m hy hφ => ?_, fun g hg hn => (hold g (Nat.lt_of_lt_of_le hg hs.size)).trans (hs.frame g hg hn), fun y h4 h5 z hz => ?_⟩⟩
  · exact ⟨h1.trans hw.below.os, h2.trans hw.below.tape, h3.trans hw.below.output, by rw [hh]; simp; have := hw.below.size; omega, fun k hk => (hold k (Nat.lt_of_lt_of_le hk hw.below.size)).trans (hw.below.block k hk)⟩
  · rw [Phi.ext_ne _ _ (by omega)]; exact hw.fresh _ hy
  · rw [hH] at hy
    by_cases he : y = x0
    · subst he
      rw [if_pos rfl] at hy
      cases hy
      exact .inr ⟨w.heap.size, 0, n, x, Phi.ext_at _ _ _, hw.below.size, by rw [hh]; simp, ho⟩
    · rw [if_neg he] at hy
      rcases hw.obj y o' hy with ⟨e1, e2⟩ | ⟨g, b, m, u, e1, e2, e3, e4⟩
      · exact .inl ⟨by rw [Phi.ext_ne _ _ he]; exact e1, e2⟩
      · exact .inr ⟨g, b, m, u, hle _ _ e1, e2, (hold g (Array.getElem?_eq_some_iff.1 e3).1).trans e3, e4.mono hle⟩
  · rw [hH] at hy hz
    by_cases he : y = x0 <;> by_cases he2 : z = x0
    · rw [he, he2]
    · rw [if_neg he2] at hz
      subst he
      rw [Phi.ext_at] at h4
      rw [Phi.ext_ne _ _ he2] at h5
      have := hdom z o2 g b' m' hz h5
      have : w.heap.size = g := by simpa using (Prod.mk.inj (Option.some.inj h4)).1
      omega
    · rw [if_neg he] at hy
      subst he2
      rw [Phi.ext_at] at h5
      rw [Phi.ext_ne _ _ he] at h4
      have := hdom y o1 g b m hy h4
      have : w.heap.size = g := by simpa using (Prod.mk.inj (Option.some.inj h5)).1
      omega
    · rw [if_neg he] at hy
      rw [if_neg he2] at hz
      rw [Phi.ext_ne _ _ he] at h4
      rw [Phi.ext_ne _ _ he2] at h5
      exact hw.inj y z o1 o2 g b b' m m' hy hz h4 h5
  · rw [hH] at hy
    by_cases he : y = x0
    · subst he
      rw [Phi.ext_at] at hφ
      have hg : w.heap.size = g := by simpa using (Prod.mk.inj (Option.some.inj hφ)).1
      exact .inl (by rw [← hg]; exact hs.size)
    · rw [if_neg he] at hy
      rw [Phi.ext_ne _ _ he] at hφ
      exact hs.orig y o' g b m hy hφ
  · by_cases he : y = x0
    · subst he; exact hb z hz
    · rw [Phi.ext_ne _ _ he] at h4; exact hs.only y h4 h5 z hz
end
end Go.Proofs.Ytlnfolgmjfcinaa.Abs
