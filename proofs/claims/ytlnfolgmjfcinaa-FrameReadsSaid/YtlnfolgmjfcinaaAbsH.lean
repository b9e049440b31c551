/- Closed functions run by an interpreter: its state, step by step. By an AI agent. -/
import Derived.Test.YtlnfolgmjfcinaaAbsV3
namespace Go.Proofs.Ytlnfolgmjfcinaa.Abs
open Go Go.RowKit
set_option linter.unusedVariables false
/-- from one state to another -/
structure Step (φ : Phi) (H : PT AObj) (w : World) (ψ : Phi) (H' : PT AObj) (w' : World) : Prop where
  le : φ.le ψ
  size : w.heap.size ≤ w'.heap.size
  orig : ∀ x o g b n, H'.get x = some o → ψ x = some (g, b, n) → w.heap.size ≤ g ∨ ∃ y o' b' n', H.get y = some o' ∧ φ y = some (g, b', n')
  frame : ∀ g, g < w.heap.size → (∀ x o b n, H.get x = some o → φ x ≠ some (g, b, n)) → w'.heap[g]? = w.heap[g]?
  only : ∀ x, ψ x ≠ none → φ x = none → ∀ y, φ y ≠ none → y < x
theorem Step.refl (φ : Phi) (H : PT AObj) (w : World) : Step φ H w φ H w := ⟨φ.le_refl, Nat.le_refl _, fun x o g b n h1 h2 => .inr ⟨x, o, b, n, h1, h2⟩, fun _ _ _ => rfl, fun _ h k => absurd k h⟩
theorem Step.trans {φ ψ χ : Phi} {H H' H'' : PT AObj} {w w' w'' : World} (h : Step φ H w ψ H' w') (k : Step ψ H' w' χ H'' w'') : Step φ H w χ H'' w'' := by
  refine ⟨h.le.trans k.le, Nat.le_trans h.size k.size, fun x o g b n h1 h2 => ?_, fun g hg hn => ?_, fun x h1 h2 y hy => ?_⟩
  · rcases k.orig x o g b n h1 h2 with h3 | ⟨y, o', b', n', h3, h4⟩
    · exact .inl (Nat.le_trans h.size h3)
    · exact h.orig y o' g b' n' h3 h4
  · rw [k.frame g (Nat.lt_of_lt_of_le hg h.size) fun x o b n h1 h2 => ?_, h.frame g hg hn]
    rcases h.orig x o g b n h1 h2 with h3 | ⟨y, o', b', n', h3, h4⟩
    · omega
    · exact hn y o' b' n' h3 h4
  · by_cases hx : ψ x = none
    · refine k.only x h1 hx y fun e => ?_
      cases hq : φ y with
      | none => exact hy hq
      | some t => rw [h.le y t hq] at e; cases e
    · exact h.only x hx h2 y hy
section
variable {w0 : World} {φ : Phi} {P : Program} {RO : PT AObj}
theorem RRel.mono {ψ : Phi} (hle : φ.le ψ) (h : RRel w0 φ RO) : RRel w0 ψ RO := fun x o hx => (h x o hx).imp id fun ⟨g, b, n, u, h1, h2, h3, h4, h5⟩ => ⟨g, b, n, u, hle _ _ h1, h2, h3, h4, h5.mono hle⟩
theorem rd_some' {st : St} {w : World} {b : Nat} {o : AObj} (h : rd RO st b = some o) (hw : WRel w0 φ st.heap st.next w) (hr : RRel w0 φ RO) : o.nul = true ∨ ∃ g b0 n u, φ b = some (g, b0, n) ∧ w.heap[g]? = some u ∧ ORel φ o b0 n (thaw u) := by
  unfold rd at h
  split at h
  · rename_i o' ho
    cases h
    rcases hw.obj _ _ ho with h1 | ⟨g, b0, n, u, h1, _, h3, h4⟩
    · exact .inl h1.2
    · exact .inr ⟨g, b0, n, u, h1, h3, h4.thaw⟩
  · rcases hr _ _ h with ⟨h2, _⟩ | ⟨g, b0, n, u, h1, _, h2, h3, h4⟩
    · exact .inl h2
    · exact .inr ⟨g, b0, n, u, h1, (hw.below.block g h2).trans h3, h4⟩
theorem rd_some {st : St} {w : World} {b : Nat} {o : AObj} (h : rd RO st b = some o) (hw : WRel w0 φ st.heap st.next w) (hr : RRel w0 φ RO) (hn : o.nul = false) : ∃ g b0 n u, φ b = some (g, b0, n) ∧ w.heap[g]? = some u ∧ ORel φ o b0 n (thaw u) := by
  rcases rd_some' h hw hr with h1 | h1
  · rw [hn] at h1; cases h1
  · exact h1
def Phi.ext (φ : Phi) (x : Nat) (t : Nat × Nat × Nat) : Phi := fun y => if y = x then some t else φ y
theorem Phi.ext_at (φ : Phi) (x : Nat) (t : Nat × Nat × Nat) : φ.ext x t x = some t := by simp [Phi.ext]
theorem Phi.ext_ne (φ : Phi) {x y : Nat} (t : Nat × Nat × Nat) (h : y ≠ x) : φ.ext x t y = φ y := by simp [Phi.ext, h]
theorem Phi.ext_le {φ : Phi} {x : Nat} (t : Nat × Nat × Nat) (h : φ x = none) : φ.le (φ.ext x t) := fun y s hy => by
  unfold Phi.ext
  split
  · rename_i he; subst he; rw [h] at hy; cases hy
  · exact hy
theorem Phi.only_ext {φ : Phi} {x : Nat} (t : Nat × Nat × Nat) (hf : ∀ y, x ≤ y → φ y = none) : ∀ y, φ.ext x t y ≠ none → φ y = none → ∀ z, φ z ≠ none → z < y := fun y h1 h2 z hz => by
  by_cases he : y = x
  · subst he; exact Nat.lt_of_not_le fun hle => hz (hf z hle)
  · exact absurd ((Phi.ext_ne _ _ he).trans h2) h1
/-- a new block -/
theorem new_ok {H : PT AObj} {next : Nat} {w w' : World} (hw : WRel w0 φ H next w) {x : Obj} {n : Nat} {o : AObj} (hh : w'.heap = w.heap.push x) (h1 : w'.os = w.os) (h2 : w'.tape = w.tape) (h3 : w'.output = w.output) (ho : ORel (φ.ext next (w.heap.size, 0, n)) o 0 n x) :
    WRel w0 (φ.ext next (w.heap.size, 0, n)) (H.set next (some o)) (next + 1) w' ∧ Step φ H w (φ.ext next (w.heap.size, 0, n)) (H.set next (some o)) w' := by
  have hle : φ.le (φ.ext next (w.heap.size, 0, n)) := Phi.ext_le _ (hw.fresh _ (Nat.le_refl _))
  have hold : ∀ k, k < w.heap.size → w'.heap[k]? = w.heap[k]? := fun k hk => by rw [hh, Array.getElem?_push_lt hk, Array.getElem?_eq_getElem hk]
  have hdom : ∀ y o' g b m, H.get y = some o' → φ y = some (g, b, m) → g < w.heap.size := fun y o' g b m hy hφ => by
    obtain ⟨g', b', m', u, e1, _, e3, _⟩ := hw.obj_of hy hφ
    rw [hφ] at e1
    obtain ⟨rfl, _⟩ : g = g' ∧ _ := by simpa using e1
    exact (Array.getElem?_eq_some_iff.1 e3).1
  refine ⟨⟨?_, fun y hy => ?_, fun y o' hy => ?_, fun y z o1 o2 g b b' m m' hy hz h4 h5 => ?_, fun y o' hy => by
    rw [PT.get_set] at hy
    split at hy
    · omega
    · have := hw.lt y o' hy; omega⟩, ⟨hle, by rw [hh]; simp, fun y o' g b m hy hφ => ?_, fun g hg _ => hold g hg, Phi.only_ext _ hw.fresh⟩⟩
  · exact ⟨h1.trans hw.below.os, h2.trans hw.below.tape, h3.trans hw.below.output, by rw [hh]; simp; have := hw.below.size; omega, fun k hk => (hold k (Nat.lt_of_lt_of_le hk hw.below.size)).trans (hw.below.block k hk)⟩
  · rw [Phi.ext_ne _ _ (by omega)]; exact hw.fresh _ (by omega)
  · rw [PT.get_set] at hy
    by_cases he : y = next
    · subst he
      rw [if_pos rfl] at hy
      cases hy
      exact .inr ⟨w.heap.size, 0, n, x, Phi.ext_at _ _ _, hw.below.size, by rw [hh]; simp, ho⟩
    · rw [if_neg he] at hy
      rcases hw.obj y o' hy with ⟨e1, e2⟩ | ⟨g, b, m, u, e1, e2, e3, e4⟩
      · exact .inl ⟨by rw [Phi.ext_ne _ _ he]; exact e1, e2⟩
      · exact .inr ⟨g, b, m, u, hle _ _ e1, e2, (hold g (Array.getElem?_eq_some_iff.1 e3).1).trans e3, e4.mono hle⟩
  · rw [PT.get_set] at hy hz
    by_cases he : y = next <;> by_cases he2 : z = next
    · rw [he, he2]
    · rw [if_neg he2] at hz
      subst he
      rw [Phi.ext_at] at h4
      rw [Phi.ext_ne _ _ he2] at h5
      have := hdom z o2 g b' m' hz h5
      have : w.heap.size = g := by simpa using (Prod.mk.inj (Option.some.inj h4)).1
      omega
    · rw [if_neg he] at hy
      subst he2
      rw [Phi.ext_at] at h5
      rw [Phi.ext_ne _ _ he] at h4
      have := hdom y o1 g b m hy h4
      have : w.heap.size = g := by simpa using (Prod.mk.inj (Option.some.inj h5)).1
      omega
    · rw [if_neg he] at hy
      rw [if_neg he2] at hz
      rw [Phi.ext_ne _ _ he] at h4
      rw [Phi.ext_ne _ _ he2] at h5
      exact hw.inj y z o1 o2 g b b' m m' hy hz h4 h5
  · rw [PT.get_set] at hy
    by_cases he : y = next
    · subst he
      rw [Phi.ext_at] at hφ
      have : w.heap.size = g := by simpa using (Prod.mk.inj (Option.some.inj hφ)).1
      exact .inl (by omega)
    · rw [if_neg he] at hy
      rw [Phi.ext_ne _ _ he] at hφ
      exact .inr ⟨y, o', b, m, hy, hφ⟩
/-- one block's object is another -/
theorem turn_ok {H : PT AObj} {next : Nat} {w w' : World} (hw : WRel w0 φ H next w) {b g b0 n : Nat} {o o' : AObj} {x' : Obj} (hb : H.get b = some o) (hφ : φ b = some (g, b0, n)) (hs : w'.heap.size = w.heap.size) (hg : w'.heap[g]? = some x') (hk : ∀ k, k ≠ g → w'.heap[k]? = w.heap[k]?)
    (h1 : w'.os = w.os) (h2 : w'.tape = w.tape) (h3 : w'.output = w.output) (ho : ORel φ o' b0 n x') : WRel w0 φ (H.set b (some o')) next w' ∧ Step φ H w φ (H.set b (some o')) w' := by
  obtain ⟨g', b', n', u, e1, e2, e3, e4⟩ := hw.obj_of hb hφ
  obtain ⟨rfl, rfl, rfl⟩ : g = g' ∧ b0 = b' ∧ n = n' := by rw [hφ] at e1; simpa using e1
  have hget : ∀ y o1, (H.set b (some o')).get y = some o1 → ∃ o2, H.get y = some o2 := fun y o1 hy => by
    rw [PT.get_set] at hy
    by_cases he : y = b
    · subst he; exact ⟨o, hb⟩
    · rw [if_neg he] at hy; exact ⟨o1, hy⟩
  refine ⟨⟨⟨h1.trans hw.below.os, h2.trans hw.below.tape, h3.trans hw.below.output, by rw [hs]; exact hw.below.size, fun k hk' => (hk k (by omega)).trans (hw.below.block k hk')⟩, hw.fresh, fun y o1 hy => ?_, fun y z o1 o2 g b b' m m' hy hz h4 h5 => ?_, fun y o1 hy => by
    obtain ⟨o2, h2⟩ := hget y o1 hy
    exact hw.lt y o2 h2⟩, ⟨φ.le_refl, by omega, fun y o1 g1 b1 n1 hy h4 => ?_, fun g1 hg1 hn => ?_, fun _ h k => absurd k h⟩⟩
  · rw [PT.get_set] at hy
    by_cases he : y = b
    · subst he
      rw [if_pos rfl] at hy
      cases hy
      exact .inr ⟨g, b0, n, x', hφ, e2, hg, ho⟩
    · rw [if_neg he] at hy
      rcases hw.obj y o1 hy with e | ⟨g1, b1, n1, u1, f1, f2, f3, f4⟩
      · exact .inl e
      refine .inr ⟨g1, b1, n1, u1, f1, f2, ?_, f4⟩
      rw [hk g1 (fun hgg => he (by subst hgg; exact hw.inj y b o1 o g1 b1 b0 n1 n hy hb f1 hφ)), f3]
  · obtain ⟨o1', hy'⟩ := hget y o1 hy
    obtain ⟨o2', hz'⟩ := hget z o2 hz
    exact hw.inj y z o1' o2' g b b' m m' hy' hz' h4 h5
  · obtain ⟨o1', hy'⟩ := hget y o1 hy
    exact .inr ⟨y, o1', b1, n1, hy', h4⟩
  · exact hk g1 fun hgg => hn b o b0 n hb (hgg ▸ hφ)
/-- what a state's step is -/
def StepOk (w0 : World) (φ : Phi) (st : St) (w : World) (v : AVal) (st' : St) (u : Value) (w' : World) : Prop :=
  ∃ ψ, VRel ψ v u ∧ WRel w0 ψ st'.heap st'.next w' ∧ Step φ st.heap w ψ st'.heap w'
theorem doLight_ok {st st' : St} {w : World} {v : AVal} {r : LRes} {run : World → Result Next} (h : doLight RO st r = some (v, st')) (hs : LSpec φ run r) (hw : WRel w0 φ st.heap st.next w) (hr : RRel w0 φ RO) :
    ∃ u w', run w = .ok (.value u) w' ∧ StepOk w0 φ st w v st' u w' := by
  unfold doLight at h
  split at h
  · cases h
    obtain ⟨u, h1, h2⟩ := hs
    exact ⟨u, w, h2 w, φ, h1, hw, Step.refl _ _ _⟩
  · split at h
    · rename_i b k o ho
      split at h
      · rename_i v' hv
        cases h
        rcases rd_some' ho hw hr with e | ⟨g, b0, n, x, e1, e2, e3⟩
        · obtain ⟨u, h1, h2⟩ := hs.2 o v hv e
          exact ⟨u, w, h2 w, φ, h1, hw, Step.refl _ _ _⟩
        · obtain ⟨u, h1, h2⟩ := hs.1 o v hv g b0 n x e1 e3
          exact ⟨u, w, h2 w e2, φ, h1, hw, Step.refl _ _ _⟩
      · cases h
    · cases h
  · rename_i o k
    cases h
    obtain ⟨x, n, u, w', e1, e2, e3, e4, e5, e6, e7⟩ := hs w
    have hle : φ.le (φ.ext st.next (w.heap.size, 0, n)) := Phi.ext_le _ (hw.fresh _ (Nat.le_refl _))
    obtain ⟨f1, f2⟩ := new_ok hw e2 e3 e4 e5 (e6.mono hle)
    exact ⟨u, w', e1, _, e7 _ _ hle (Phi.ext_at _ _ _), f1, f2⟩
  · split at h
    · rename_i b v' _ l t hb
      cases h
      obtain ⟨g, b0, n, x, e1, e2, e3, e4⟩ := hw.obj_at hb rfl
      obtain ⟨u, h1, h2⟩ := hs l t g b0 n x e1 e4
      obtain ⟨x', w', f1, f2, f3, f4, f5, f6, f7, f8⟩ := h2 w e3
      obtain ⟨i1, i2⟩ := turn_ok (o' := .cells l t) hw hb e1 f3 f4 f5 f6 f7 f8 (f1 _ _ e4)
      have hsame : ∀ y, (st.heap.set b (some (.cells l t))).get y = st.heap.get y := fun y => by
        rw [PT.get_set]; split
        · rename_i he; subst he; exact hb.symm
        · rfl
      refine ⟨u, w', f2, φ, h1, ⟨i1.below, i1.fresh, fun y o hy => i1.obj y o (by rw [hsame]; exact hy), fun y z o1 o2 g b b' m m' hy hz => i1.inj y z o1 o2 g b b' m m' (by rw [hsame]; exact hy) (by rw [hsame]; exact hz), fun y o hy => i1.lt y o (by rw [hsame]; exact hy)⟩, ⟨i2.le, i2.size, fun y o g b n hy => i2.orig y o g b n (by rw [hsame]; exact hy), i2.frame, i2.only⟩⟩
    · cases h
theorem oneA_some : ∀ {vs : List AVal} {us : List Value}, oneA vs = true → VRels φ vs us → ∀ u ∈ us, u.oneCell' = true
  | [], _, _, h, u, hu => by cases h; cases hu
  | v :: vs, _, h, hr, u, hu => by
    cases hr with
    | cons _ u' _ us h1 h2 =>
    have hv : u'.oneCell' = true ∧ oneA vs = true := by cases h1 <;> first | (simp [oneA] at h; done) | exact ⟨rfl, h⟩
    rcases List.mem_cons.1 hu with rfl | hu
    · exact hv.1
    · exact oneA_some hv.2 h2 u hu
theorem run_storeRow (g o : Nat) (t : TypeId) (fz : Nat × Nat) : ∀ (vs : List Value) (i : Nat) (cur : Array Value) (w : World), w.heap[g]? = some (.cells cur t fz) → (fz.1 = fz.2 ∨ cur.size ≤ fz.1) → o + i + vs.length ≤ cur.size → (∀ v ∈ vs, v.oneCell' = true) →
    (storeCells ⟨g, o, none⟩ vs i).run P w = .ok () (w.setRow g (cur.toList.take (o + i) ++ vs ++ cur.toList.drop (o + i + vs.length)).toArray)
  | [], i, cur, w, hg, _, _, _ => by
    simp only [storeCells, List.append_nil, List.length_nil, Nat.add_zero, List.take_append_drop, Array.toArray_toList]
    rw [setRow_self w g cur t fz hg]
    rfl
  | v :: rest, i, cur, w, hg, hf, hl, h1 => by
    have hi : o + i < cur.size := by simp at hl; omega
    have hcell : w.cell? ⟨g, o + i, none⟩ = some cur[o + i] := by simp [World.cell?, hg, hi]
    have hfro : w.frozen? ⟨g, o + i, none⟩ = false := by
      obtain ⟨lo, hi'⟩ := fz
      simp only [World.frozen?, hg]
      simp only at hf
      rw [Bool.and_eq_false_iff]
      rcases hf with rfl | hf
      · by_cases hlo : lo ≤ o + i
        · right; simp; omega
        · left; simpa using hlo
      · left; simp; omega
    have hst : (store ((⟨g, o, none⟩ : Addr).add i) v).run P w = .ok () (w.setRow g (cur.setIfInBounds (o + i) v)) := by
      rw [add_lit, run_store P w _ v _ (h1 v (by simp)), hcell]
      simp [hfro, setCell_eq_setRow w g (o + i) cur t fz v hg]
    have ih := run_storeRow g o t fz rest (i + 1) (cur.setIfInBounds (o + i) v) (w.setRow g (cur.setIfInBounds (o + i) v)) (setRow_heap w g cur _ t _ hg) (by simpa using hf) (by simp at hl ⊢; omega) (fun x hx => h1 x (by simp [hx]))
    simp only [storeCells, Sem.run_bind, hst, Result.andThen_ok, ih, setRow_setRow]
    congr 3
    have e := list_seg_step cur.toList (o + i) v rest (by simp at hl ⊢; omega)
    simpa [Array.toList_setIfInBounds, Nat.add_assoc] using e
theorem setRow_other (w : World) (g : Nat) (cs : Array Value) (k : Nat) (h : k ≠ g) : (w.setRow g cs).heap[k]? = w.heap[k]? := by
  unfold World.setRow
  simp only [Array.getElem?_modify]
  rw [if_neg (Ne.symm h)]
theorem setRow_size (w : World) (g : Nat) (cs : Array Value) : (w.setRow g cs).heap.size = w.heap.size := by unfold World.setRow; simp
/-- a row written over -/
theorem row_put {l vs : List AVal} {c : Array Value} {us : List Value} {b0 o : Nat} (h : VRels φ l ((c.toList.drop b0).take l.length)) (hb : b0 + l.length ≤ c.size) (h' : VRels φ vs us) (hle : o + vs.length ≤ l.length) :
    VRels φ (l.take o ++ vs ++ l.drop (o + vs.length)) (((c.toList.take (b0 + o) ++ us ++ c.toList.drop (b0 + o + us.length)).toArray.toList.drop b0).take (l.take o ++ vs ++ l.drop (o + vs.length)).length) := by
  have hp := put_rel (o := o) h h'
  have hul := h'.length
  refine VRels.of_get ?_ fun i v hi => ?_
  · simp; omega
  · obtain ⟨u, h1, h2⟩ := hp.get hi
    refine ⟨u, ?_, h2⟩
    have hlen : (l.take o ++ vs ++ l.drop (o + vs.length)).length = l.length := by simp; omega
    have hil : i < l.length := by rw [← hlen]; exact (List.getElem?_eq_some_iff.1 hi).1
    rw [hlen, List.getElem?_take_of_lt hil, List.getElem?_drop]
    have hm : min o (min l.length (c.size - b0)) = o := by omega
    have hm2 : min (b0 + o) c.size = b0 + o := by omega
    simp only [List.getElem?_append, List.length_append, List.length_take, List.length_drop, Array.length_toList, hm, hm2, List.getElem?_take, List.getElem?_drop] at h1 ⊢
    by_cases c1 : i < o + us.length
    · have c1' : b0 + i < b0 + o + us.length := by omega
      simp only [c1, if_true] at h1
      simp only [c1', if_true]
      by_cases c2 : i < o
      · have c2' : b0 + i < b0 + o := by omega
        simp only [c2, if_true, hil] at h1
        simp only [c2', if_true]
        exact h1
      · have c2' : ¬ b0 + i < b0 + o := by omega
        simp only [c2, if_false] at h1
        simp only [c2', if_false]
        rw [show b0 + i - (b0 + o) = i - o by omega]
        exact h1
    · have c1' : ¬ b0 + i < b0 + o + us.length := by omega
      simp only [c1, if_false] at h1
      simp only [c1', if_false]
      have e1 : o + us.length + (i - (o + us.length)) = i := by omega
      have e2 : b0 + o + us.length + (b0 + i - (b0 + o + us.length)) = b0 + i := by omega
      rw [e1] at h1
      rw [e2]
      simp only [hil, if_true] at h1
      exact h1
/-- cells of an object are written over -/
theorem store_gen {st : St} {w : World} {b o : Nat} {vs : List AVal} {us : List Value} {ob ob' : AObj} {l : List AVal} {t : TypeId} (hb : st.heap.get b = some ob) (hn : ob.nul = false) (hcells : ∀ b0 n x, ORel φ ob b0 n x → ORel φ (.cells l t) b0 n x) (hback : ∀ b0 n x, ORel φ (.cells (l.take o ++ vs ++ l.drop (o + vs.length)) t) b0 n x → ORel φ ob' b0 n x)
    (h1 : oneA vs = true) (hle : o + vs.length ≤ l.length) (hw : WRel w0 φ st.heap st.next w) (hv : VRels φ vs us) :
    ∃ g b0 n w', φ b = some (g, b0, n) ∧ (storeCells ⟨g, b0 + o, none⟩ us).run P w = .ok () w' ∧ WRel w0 φ (st.heap.set b (some ob')) st.next w' ∧ Step φ st.heap w φ (st.heap.set b (some ob')) w' := by
  obtain ⟨g, b0, n, x, e1, e2, e3, e4⟩ := hw.obj_at hb hn
  have e5 := hcells _ _ _ e4
  cases e5 with
  | cells _ _ t' _ _ c fz hn hbl hr hf =>
  subst hn
  have hlen := hv.length
  have hst := run_storeRow (P := P) g (b0 + o) t' fz us 0 c w e3 hf (by omega) (oneA_some h1 hv)
  simp only [Nat.add_zero] at hst
  have hsz : (c.toList.take (b0 + o) ++ us ++ c.toList.drop (b0 + o + us.length)).toArray.size = c.size := by simp; omega
  have hrow := row_put hr hbl hv hle
  have hor : ORel φ (.cells (l.take o ++ vs ++ l.drop (o + vs.length)) t) b0 c.size (.cells (c.toList.take (b0 + o) ++ us ++ c.toList.drop (b0 + o + us.length)).toArray t' fz) :=
    .cells _ _ _ _ _ _ _ hsz (by simp; omega) hrow hf
  obtain ⟨i1, i2⟩ := turn_ok hw hb e1 (setRow_size w g _) (setRow_heap w g c _ t' fz e3) (fun k hk => setRow_other w g _ k hk) rfl rfl rfl (hback _ _ _ hor)
  exact ⟨g, b0, c.size, _, e1, hst, i1, i2⟩
theorem put_one {α : Type} (l : List α) (o : Nat) (v : α) (h : o < l.length) : l.take o ++ [v] ++ l.drop (o + 1) = l.set o v := by
  rw [List.set_eq_take_append_cons_drop, if_pos h]; simp
theorem nul_of_lt {l : List UInt8} {o : Nat} (h : o < l.length) (t : TypeId) : (AObj.sbytes l t).nul = false := by cases l with | nil => simp at h | cons _ _ => rfl
theorem nul_of_lt' {l : List Int} {o : Nat} (k : IntKind) (h : o < l.length) (t : TypeId) : (AObj.sints k l t).nul = false := by cases l with | nil => simp at h | cons _ _ => rfl
theorem u8_back {z : Int} (h : inR .u8 z) : ((UInt8.ofNat z.toNat).toNat : Int) = z := by
  obtain ⟨h1, h2⟩ := h
  simp only [loI, hiI] at h1 h2
  rw [UInt8.toNat_ofNat', Nat.mod_eq_of_lt (by omega)]; omega
theorem storeA_ok {st st' : St} {w : World} {b o : Nat} {vs : List AVal} {us : List Value} (h : storeA st b o vs = some st') (hw : WRel w0 φ st.heap st.next w) (hv : VRels φ vs us) :
    ∃ g b0 n w', φ b = some (g, b0, n) ∧ (storeCells ⟨g, b0 + o, none⟩ us).run P w = .ok () w' ∧ WRel w0 φ st'.heap st'.next w' ∧ Step φ st.heap w φ st'.heap w' := by
  obtain ⟨op, h, hop⟩ := got_some h
  unfold storeP at h
  split at h
  · rename_i st2 h0
    cases h
    unfold storeA0 at h0
    split at h0
    · rename_i l t hb
      cases h1 : oneA vs with
      | false => rw [h1] at h0; cases h0
      | true =>
        rw [h1] at h0
        simp only [cond_true] at h0
        split at h0
        · rename_i l' hl'
          cases h0
          obtain ⟨rfl, hle⟩ := putAt_some hl'
          exact store_gen hb rfl (fun _ _ _ h => h) (fun _ _ _ h => h) h1 hle hw hv
        · cases h0
    · cases h0
  · unfold storeS at h
    split at h
    · rename_i l t v hb _ _
      split at h
      · rename_i z hz
        cases h
        have hop : o < l.length := hop
        cases hv with
        | cons _ u _ us hu hus =>
        cases hus
        obtain ⟨rfl, hin⟩ := asR_rel hz hu
        refine store_gen (vs := [AVal.int .u8 z]) (us := [Value.int .u8 z]) (ob' := .sbytes (l.set o (UInt8.ofNat z.toNat)) t) hb (nul_of_lt hop t) (fun b0 n x hx => by cases hx; assumption) (fun b0 n x hx => ?_) rfl (by simp; omega) hw (.cons _ _ _ _ (.int _ _) .nil)
        refine .sbytes _ _ _ _ _ ?_
        rw [List.length_singleton, put_one _ _ _ (by simpa using hop)] at hx
        rw [List.map_set, u8_back hin]
        exact hx
      · cases h
    · rename_i k l t v hb _ _
      split at h
      · rename_i j z hz
        cases hk : kindEq j k with
        | false => rw [hk] at h; cases h
        | true =>
        rw [hk] at h
        obtain rfl := kindEq_eq _ _ hk
        cases h
        have hop : o < l.length := hop
        cases hv with
        | cons _ u _ us hu hus =>
        cases hus
        obtain ⟨rfl, hin⟩ := asR_rel hz hu
        obtain ⟨g, b0, n, x, e1, e2, e3, e4⟩ := hw.obj_at hb (nul_of_lt' j hop t)
        have hall : ∀ z ∈ l, inR j z := by cases e4; assumption
        refine store_gen (vs := [AVal.int j z]) (us := [Value.int j z]) (ob' := .sints j (l.set o z) t) hb (nul_of_lt' j hop t) (fun b0 n x hx => by cases hx; assumption) (fun b0 n x hx => ?_) rfl (by simp; omega) hw (.cons _ _ _ _ (.int _ _) .nil)
        refine .sints _ _ _ _ _ _ (fun y hy => ?_) ?_
        · rcases List.mem_or_eq_of_mem_set hy with h | rfl
          · exact hall y h
          · exact hin
        rw [List.length_singleton, put_one _ _ _ (by simpa using hop)] at hx
        rw [List.map_set]
        exact hx
      · cases h
    · cases h
/-- one block's object is another's: the one is no longer spoken of -/
theorem graft_ok {H : PT AObj} {next : Nat} {w w' : World} (hw : WRel w0 φ H next w) {b g b0 b1 n : Nat} {o o' : AObj} {x' : Obj} (hb : H.get b = some o) (hφ : φ b = some (g, b0, n)) (hs : w'.heap.size = w.heap.size) (hg : w'.heap[g]? = some x') (hk : ∀ k, k ≠ g → w'.heap[k]? = w.heap[k]?)
    (h1 : w'.os = w.os) (h2 : w'.tape = w.tape) (h3 : w'.output = w.output) (ho : ORel (φ.ext next (g, b1, n)) o' b1 n x') : WRel w0 (φ.ext next (g, b1, n)) ((H.set b none).set next (some o')) (next + 1) w' ∧ Step φ H w (φ.ext next (g, b1, n)) ((H.set b none).set next (some o')) w' := by
  have hle : φ.le (φ.ext next (g, b1, n)) := Phi.ext_le _ (hw.fresh _ (Nat.le_refl _))
  obtain ⟨g', b', n', u, e1, e2, e3, e4⟩ := hw.obj_of hb hφ
  obtain ⟨rfl, rfl, rfl⟩ : g = g' ∧ b0 = b' ∧ n = n' := by rw [hφ] at e1; simpa using e1
  have hget : ∀ y o1, y ≠ next → ((H.set b none).set next (some o')).get y = some o1 → H.get y = some o1 ∧ y ≠ b := fun y o1 hn hy => by
    rw [PT.get_set, if_neg hn, PT.get_set] at hy
    split at hy
    · cases hy
    · exact ⟨hy, ‹_›⟩
  have hng : ∀ y o1 g1 b2 n1, H.get y = some o1 → y ≠ b → φ y = some (g1, b2, n1) → g1 ≠ g := fun y o1 g1 b2 n1 hy hyb h4 hgg => hyb (by subst hgg; exact hw.inj y b o1 o g1 b2 b0 n1 n hy hb h4 hφ)
  refine ⟨⟨⟨h1.trans hw.below.os, h2.trans hw.below.tape, h3.trans hw.below.output, by rw [hs]; exact hw.below.size, fun k hk' => (hk k (by omega)).trans (hw.below.block k hk')⟩, fun y hy => ?_, fun y o1 hy => ?_, fun y z o1 o2 g1 b2 b3 m m' hy hz h4 h5 => ?_, fun y o1 hy => by
    by_cases he : y = next
    · omega
    · have := hw.lt y o1 (hget y o1 he hy).1; omega⟩, ⟨hle, by omega, fun y o1 g1 b2 n1 hy h4 => ?_, fun g1 hg1 hn => hk g1 fun hgg => hn b o b0 n hb (hgg ▸ hφ), Phi.only_ext _ hw.fresh⟩⟩
  · rw [Phi.ext_ne _ _ (by omega)]; exact hw.fresh _ (by omega)
  · by_cases he : y = next
    · subst he
      rw [PT.get_set, if_pos rfl] at hy
      cases hy
      exact .inr ⟨g, b1, n, x', Phi.ext_at _ _ _, e2, hg, ho⟩
    · obtain ⟨hy, hyb⟩ := hget y o1 he hy
      rcases hw.obj y o1 hy with ⟨e5, e6⟩ | ⟨g1, b2, n1, u1, f1, f2, f3, f4⟩
      · exact .inl ⟨by rw [Phi.ext_ne _ _ he]; exact e5, e6⟩
      · exact .inr ⟨g1, b2, n1, u1, hle _ _ f1, f2, (hk g1 (hng y o1 g1 b2 n1 hy hyb f1)).trans f3, f4.mono hle⟩
  · by_cases he : y = next <;> by_cases he2 : z = next
    · rw [he, he2]
    · obtain ⟨hz2, hzb⟩ := hget z o2 he2 hz
      subst he
      rw [Phi.ext_at] at h4
      rw [Phi.ext_ne _ _ he2] at h5
      exact absurd (by simpa using (Prod.mk.inj (Option.some.inj h4)).1.symm) (hng z o2 g1 b3 m' hz2 hzb h5)
    · obtain ⟨hy2, hyb⟩ := hget y o1 he hy
      subst he2
      rw [Phi.ext_at] at h5
      rw [Phi.ext_ne _ _ he] at h4
      exact absurd (by simpa using (Prod.mk.inj (Option.some.inj h5)).1.symm) (hng y o1 g1 b2 m hy2 hyb h4)
    · rw [Phi.ext_ne _ _ he] at h4
      rw [Phi.ext_ne _ _ he2] at h5
      exact hw.inj y z o1 o2 g1 b2 b3 m m' (hget y o1 he hy).1 (hget z o2 he2 hz).1 h4 h5
  · by_cases he : y = next
    · subst he
      rw [Phi.ext_at] at h4
      have hgg : g = g1 := by simpa using (Prod.mk.inj (Option.some.inj h4)).1
      subst hgg
      exact .inr ⟨b, o, b0, n, hb, hφ⟩
    · rw [Phi.ext_ne _ _ he] at h4
      exact .inr ⟨y, o1, b2, n1, (hget y o1 he hy).1, h4⟩
end
end Go.Proofs.Ytlnfolgmjfcinaa.Abs
