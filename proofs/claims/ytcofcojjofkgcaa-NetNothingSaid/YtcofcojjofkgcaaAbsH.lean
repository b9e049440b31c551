/- Closed functions run by an interpreter: its state, step by step. By an AI agent. -/
import Derived.Test.YtcofcojjofkgcaaAbsV
import Derived.MapKept
namespace Go.Proofs.Ytcofcojjofkgcaa.Abs
open Go Go.RowKit
set_option linter.unusedVariables false
/-- from one state to another -/
structure Step0 (φ : Phi) (H : PT AObj) (w : World) (ψ : Phi) (H' : PT AObj) (w' : World) : Prop where
  le : φ.le ψ
  size : w.heap.size ≤ w'.heap.size
  orig : ∀ x o g b n, H'.get x = some o → ψ x = some (g, b, n) → w.heap.size ≤ g ∨ ∃ y o' b' n', H.get y = some o' ∧ φ y = some (g, b', n')
  frame : ∀ g, g < w.heap.size → (∀ x o b n, H.get x = some o → φ x ≠ some (g, b, n)) → w'.heap[g]? = w.heap[g]?
  only : ∀ x : Nat, ψ x ≠ none → φ x = none → ∀ y : Nat, φ y ≠ none → y < x
/-- and what nobody changes any more was so before, or is new, or was one's own -/
structure Step (φ : Phi) (H : PT AObj) (w : World) (ψ : Phi) (H' : PT AObj) (w' : World) : Prop extends Step0 φ H w ψ H' w' where
  pl : ∀ k b L t, ψ (.pool k b L) = some t → φ (.pool k b L) = some t ∨ w.heap.size ≤ k ∨ ∃ y o b' n', H.get y = some o ∧ φ y = some (k, b', n')
theorem Step.refl (φ : Phi) (H : PT AObj) (w : World) : Step φ H w φ H w := ⟨⟨φ.le_refl, Nat.le_refl _, fun x o g b n h1 h2 => .inr ⟨x, o, b, n, h1, h2⟩, fun _ _ _ => rfl, fun _ h k => absurd k h⟩, fun _ _ _ _ h => .inl h⟩
theorem Step.trans {φ ψ χ : Phi} {H H' H'' : PT AObj} {w w' w'' : World} (h : Step φ H w ψ H' w') (k : Step ψ H' w' χ H'' w'') : Step φ H w χ H'' w'' := by
  refine ⟨⟨h.le.trans k.le, Nat.le_trans h.size k.size, fun x o g b n h1 h2 => ?_, fun g hg hn => ?_, fun x h1 h2 y hy => ?_⟩, fun q b L t ht => ?_⟩
  · rcases k.orig x o g b n h1 h2 with h3 | ⟨y, o', b', n', h3, h4⟩
    · exact .inl (Nat.le_trans h.size h3)
    · exact h.orig y o' g b' n' h3 h4
  · rw [k.frame g (Nat.lt_of_lt_of_le hg h.size) fun x o b n h1 h2 => ?_, h.frame g hg hn]
    rcases h.orig x o g b n h1 h2 with h3 | ⟨y, o', b', n', h3, h4⟩
    · omega
    · exact hn y o' b' n' h3 h4
  · by_cases hx : ψ x = none
    · refine k.only x h1 hx y fun e => ?_
      cases hq : φ y with
      | none => exact hy hq
      | some t => rw [h.le y t hq] at e; cases e
    · exact h.only x hx h2 y hy
  · rcases k.pl q b L t ht with h1 | h1 | ⟨y, o, b', n', h1, h2⟩
    · exact h.pl q b L t h1
    · exact .inr (.inl (Nat.le_trans h.size h1))
    · rcases h.orig y o q b' n' h1 h2 with h3 | ⟨y', o', b2, n2, h3, h4⟩
      · exact .inr (.inl h3)
      · exact .inr (.inr ⟨y', o', b2, n2, h3, h4⟩)
section
variable {w0 : World} {φ : Phi} {P : Program} {RO : PT AObj}
theorem RRel.mono {ψ : Phi} (hle : φ.le ψ) (h : RRel w0 φ RO) : RRel w0 ψ RO := fun x o hx => (h x o hx).imp id fun ⟨g, b, n, u, h1, h2, h3, h4, h5⟩ => ⟨g, b, n, u, hle _ _ h1, h2, h3, h4, h5.mono hle⟩
theorem rd_some' {st : St} {w : World} {b : Nat} {o : AObj} (h : rd RO st b = some o) (hw : WRel w0 φ st.heap st.next w) (hr : RRel w0 φ RO) : o.nul = true ∨ ∃ g b0 n u, φ b = some (g, b0, n) ∧ w.heap[g]? = some u ∧ ORel φ o b0 n (thaw u) := by
  unfold rd at h
  split at h
  · rename_i o' ho
    cases h
    rcases hw.obj _ _ ho with h1 | ⟨g, b0, n, u, h1, _, h3, h4⟩
    · exact .inl h1.2
    · exact .inr ⟨g, b0, n, u, h1, h3, h4.thaw⟩
  · rcases hr _ _ h with ⟨h2, _⟩ | ⟨g, b0, n, u, h1, _, h2, h3, h4⟩
    · exact .inl h2
    · exact .inr ⟨g, b0, n, u, h1, (hw.below.block g h2).trans h3, h4⟩
theorem rd_some {st : St} {w : World} {b : Nat} {o : AObj} (h : rd RO st b = some o) (hw : WRel w0 φ st.heap st.next w) (hr : RRel w0 φ RO) (hn : o.nul = false) : ∃ g b0 n u, φ b = some (g, b0, n) ∧ w.heap[g]? = some u ∧ ORel φ o b0 n (thaw u) := by
  rcases rd_some' h hw hr with h1 | h1
  · rw [hn] at h1; cases h1
  · exact h1
def Phi.ext (φ : Phi) (x : Nat) (t : Nat × Nat × Nat) : Phi := fun y => if y = .blk x then some t else φ y
theorem Phi.ext_at (φ : Phi) (x : Nat) (t : Nat × Nat × Nat) : φ.ext x t x = some t := by simp [Phi.ext]
theorem Phi.ext_ne (φ : Phi) {x y : Nat} (t : Nat × Nat × Nat) (h : y ≠ x) : φ.ext x t y = φ y := by simp [Phi.ext, h]
theorem Phi.ext_le {φ : Phi} {x : Nat} (t : Nat × Nat × Nat) (h : φ x = none) : φ.le (φ.ext x t) := fun y s hy => by
  unfold Phi.ext
  split
  · rename_i he; subst he; rw [h] at hy; cases hy
  · exact hy
theorem Phi.only_ext {φ : Phi} {x : Nat} (t : Nat × Nat × Nat) (hf : ∀ y : Nat, x ≤ y → φ y = none) : ∀ y : Nat, φ.ext x t y ≠ none → φ y = none → ∀ z : Nat, φ z ≠ none → z < y := fun y h1 h2 z hz => by
  by_cases he : y = x
  · subst he; exact Nat.lt_of_not_le fun hle => hz (hf z hle)
  · exact absurd ((Phi.ext_ne _ _ he).trans h2) h1
theorem Pool.mono {ψ : Phi} {w : World} (hle : φ.le ψ) (hp : ∀ k b L, ψ (.pool k b L) = φ (.pool k b L)) (h : Pool φ w) : Pool ψ w := fun k b L t ht => by
  obtain ⟨n, x, e1, e2, e3⟩ := h k b L t (by rw [← hp]; exact ht)
  exact ⟨n, x, e1, e2, e3.mono hle⟩
/-- what nobody changes any more stays -/
theorem pool_keep {ψ : Phi} {H H' : PT AObj} {next : Nat} {w w' : World} (hw : WRel w0 φ H next w) (hp : ∀ k b L, ψ (.pool k b L) = φ (.pool k b L)) (hs : Step0 φ H w ψ H' w') :
    Pool ψ w' ∧ ∀ k b L t x o b' n, ψ (.pool k b L) = some t → H'.get x = some o → ψ x ≠ some (k, b', n) := by
  refine ⟨fun k b L t ht => ?_, fun k b L t x o b' n ht hx hφ => ?_⟩
  · obtain ⟨n, x, e1, e2, e3⟩ := hw.pool k b L t (by rw [← hp]; exact ht)
    refine ⟨n, x, e1, ?_, e3.mono hs.le⟩
    rw [hs.frame k (Array.getElem?_eq_some_iff.1 e2).1 fun y o b' n' hy => hw.apart k b L t y o b' n' (by rw [← hp]; exact ht) hy]
    exact e2
  · obtain ⟨n', x', e1, e2, e3⟩ := hw.pool k b L t (by rw [← hp]; exact ht)
    have hlt := (Array.getElem?_eq_some_iff.1 e2).1
    rcases hs.orig x o k b' n hx hφ with h1 | ⟨y, o', b2, n2, h1, h2⟩
    · omega
    · exact hw.apart k b L t y o' b2 n2 (by rw [← hp]; exact ht) h1 h2
theorem with_pool {ψ : Phi} {H H' : PT AObj} {next next' : Nat} {w w' : World} (hw : WRel w0 φ H next w) (hp : ∀ k b L, ψ (.pool k b L) = φ (.pool k b L)) (h : WRel0 w0 ψ H' next' w' ∧ Step0 φ H w ψ H' w') : WRel w0 ψ H' next' w' ∧ Step φ H w ψ H' w' :=
  ⟨⟨h.1, (pool_keep hw hp h.2).1, (pool_keep hw hp h.2).2⟩, ⟨h.2, fun k b L t ht => .inl (by rw [← hp]; exact ht)⟩⟩
/-- a new block -/
theorem new_ok {H : PT AObj} {next : Nat} {w w' : World} (hw : WRel w0 φ H next w) {x : Obj} {n : Nat} {o : AObj} (hh : w'.heap = w.heap.push x) (h1 : w'.os = w.os) (h2 : w'.tape = w.tape) (h3 : w'.output = w.output) (ho : ORel (φ.ext next (w.heap.size, 0, n)) o 0 n x) :
    WRel w0 (φ.ext next (w.heap.size, 0, n)) (H.set next (some o)) (next + 1) w' ∧ Step φ H w (φ.ext next (w.heap.size, 0, n)) (H.set next (some o)) w' := by
  have hle : φ.le (φ.ext next (w.heap.size, 0, n)) := Phi.ext_le _ (hw.fresh _ (Nat.le_refl _))
  have hold : ∀ k, k < w.heap.size → w'.heap[k]? = w.heap[k]? := fun k hk => by rw [hh, Array.getElem?_push_lt hk, Array.getElem?_eq_getElem hk]
  have hdom : ∀ y o' g b m, H.get y = some o' → φ y = some (g, b, m) → g < w.heap.size := fun y o' g b m hy hφ => by
    obtain ⟨g', b', m', u, e1, _, e3, _⟩ := hw.obj_of hy hφ
    rw [hφ] at e1
    obtain ⟨rfl, _⟩ : g = g' ∧ _ := by simpa using e1
    exact (Array.getElem?_eq_some_iff.1 e3).1
  refine with_pool hw (fun _ _ _ => rfl) ?_
  refine ⟨⟨?_, fun y hy => ?_, fun y o' hy => ?_, fun y z o1 o2 g b b' m m' hy hz h4 h5 => ?_, fun y o' hy => by
    rw [PT.get_set] at hy
    split at hy
    · omega
    · have := hw.lt y o' hy; omega⟩, ⟨hle, by rw [hh]; simp, fun y o' g b m hy hφ => ?_, fun g hg _ => hold g hg, Phi.only_ext _ hw.fresh⟩⟩
  · exact ⟨h1.trans hw.below.os, h2.trans hw.below.tape, h3.trans hw.below.output, by rw [hh]; simp; have := hw.below.size; omega, fun k hk => (hold k (Nat.lt_of_lt_of_le hk hw.below.size)).trans (hw.below.block k hk)⟩
  · rw [Phi.ext_ne _ _ (by omega)]; exact hw.fresh _ (by omega)
  · rw [PT.get_set] at hy
    by_cases he : y = next
    · subst he
      rw [if_pos rfl] at hy
      cases hy
      exact .inr ⟨w.heap.size, 0, n, x, Phi.ext_at _ _ _, hw.below.size, by rw [hh]; simp, ho⟩
    · rw [if_neg he] at hy
      rcases hw.obj y o' hy with ⟨e1, e2⟩ | ⟨g, b, m, u, e1, e2, e3, e4⟩
      · exact .inl ⟨by rw [Phi.ext_ne _ _ he]; exact e1, e2⟩
      · exact .inr ⟨g, b, m, u, hle _ _ e1, e2, (hold g (Array.getElem?_eq_some_iff.1 e3).1).trans e3, e4.mono hle⟩
  · rw [PT.get_set] at hy hz
    by_cases he : y = next <;> by_cases he2 : z = next
    · rw [he, he2]
    · rw [if_neg he2] at hz
      subst he
      rw [Phi.ext_at] at h4
      rw [Phi.ext_ne _ _ he2] at h5
      have := hdom z o2 g b' m' hz h5
      have : w.heap.size = g := by simpa using (Prod.mk.inj (Option.some.inj h4)).1
      omega
    · rw [if_neg he] at hy
      subst he2
      rw [Phi.ext_at] at h5
      rw [Phi.ext_ne _ _ he] at h4
      have := hdom y o1 g b m hy h4
      have : w.heap.size = g := by simpa using (Prod.mk.inj (Option.some.inj h5)).1
      omega
    · rw [if_neg he] at hy
      rw [if_neg he2] at hz
      rw [Phi.ext_ne _ _ he] at h4
      rw [Phi.ext_ne _ _ he2] at h5
      exact hw.inj y z o1 o2 g b b' m m' hy hz h4 h5
  · rw [PT.get_set] at hy
    by_cases he : y = next
    · subst he
      rw [Phi.ext_at] at hφ
      have : w.heap.size = g := by simpa using (Prod.mk.inj (Option.some.inj hφ)).1
      exact .inl (by omega)
    · rw [if_neg he] at hy
      rw [Phi.ext_ne _ _ he] at hφ
      exact .inr ⟨y, o', b, m, hy, hφ⟩
/-- one block's object is another -/
theorem turn_ok {H : PT AObj} {next : Nat} {w w' : World} (hw : WRel w0 φ H next w) {b g b0 n : Nat} {o o' : AObj} {x' : Obj} (hb : H.get b = some o) (hφ : φ b = some (g, b0, n)) (hs : w'.heap.size = w.heap.size) (hg : w'.heap[g]? = some x') (hk : ∀ k, k ≠ g → w'.heap[k]? = w.heap[k]?)
    (h1 : w'.os = w.os) (h2 : w'.tape = w.tape) (h3 : w'.output = w.output) (ho : ORel φ o' b0 n x') : WRel w0 φ (H.set b (some o')) next w' ∧ Step φ H w φ (H.set b (some o')) w' := by
  obtain ⟨g', b', n', u, e1, e2, e3, e4⟩ := hw.obj_of hb hφ
  obtain ⟨rfl, rfl, rfl⟩ : g = g' ∧ b0 = b' ∧ n = n' := by rw [hφ] at e1; simpa using e1
  have hget : ∀ y o1, (H.set b (some o')).get y = some o1 → ∃ o2, H.get y = some o2 := fun y o1 hy => by
    rw [PT.get_set] at hy
    by_cases he : y = b
    · subst he; exact ⟨o, hb⟩
    · rw [if_neg he] at hy; exact ⟨o1, hy⟩
  refine with_pool hw (fun _ _ _ => rfl) ?_
  refine ⟨⟨⟨h1.trans hw.below.os, h2.trans hw.below.tape, h3.trans hw.below.output, by rw [hs]; exact hw.below.size, fun k hk' => (hk k (by omega)).trans (hw.below.block k hk')⟩, hw.fresh, fun y o1 hy => ?_, fun y z o1 o2 g b b' m m' hy hz h4 h5 => ?_, fun y o1 hy => by
    obtain ⟨o2, h2⟩ := hget y o1 hy
    exact hw.lt y o2 h2⟩, ⟨φ.le_refl, by omega, fun y o1 g1 b1 n1 hy h4 => ?_, fun g1 hg1 hn => ?_, fun _ h k => absurd k h⟩⟩
  · rw [PT.get_set] at hy
    by_cases he : y = b
    · subst he
      rw [if_pos rfl] at hy
      cases hy
      exact .inr ⟨g, b0, n, x', hφ, e2, hg, ho⟩
    · rw [if_neg he] at hy
      rcases hw.obj y o1 hy with e | ⟨g1, b1, n1, u1, f1, f2, f3, f4⟩
      · exact .inl e
      refine .inr ⟨g1, b1, n1, u1, f1, f2, ?_, f4⟩
      rw [hk g1 (fun hgg => he (by subst hgg; exact hw.inj y b o1 o g1 b1 b0 n1 n hy hb f1 hφ)), f3]
  · obtain ⟨o1', hy'⟩ := hget y o1 hy
    obtain ⟨o2', hz'⟩ := hget z o2 hz
    exact hw.inj y z o1' o2' g b b' m m' hy' hz' h4 h5
  · obtain ⟨o1', hy'⟩ := hget y o1 hy
    exact .inr ⟨y, o1', b1, n1, hy', h4⟩
  · exact hk g1 fun hgg => hn b o b0 n hb (hgg ▸ hφ)
/-- what a state's step is -/
def StepOk (w0 : World) (φ : Phi) (st : St) (w : World) (v : AVal) (st' : St) (u : Value) (w' : World) : Prop :=
  ∃ ψ, VRel ψ v u ∧ WRel w0 ψ st'.heap st'.next w' ∧ Step φ st.heap w ψ st'.heap w'
theorem doLight_ok {st st' : St} {w : World} {v : AVal} {r : LRes} {run : World → Result Next} (h : doLight RO st r = some (v, st')) (hs : LSpec φ run r) (hw : WRel w0 φ st.heap st.next w) (hr : RRel w0 φ RO) :
    ∃ u w', run w = .ok (.value u) w' ∧ StepOk w0 φ st w v st' u w' := by
  unfold doLight at h
  split at h
  · cases h
    obtain ⟨u, h1, h2⟩ := hs
    exact ⟨u, w, h2 w, φ, h1, hw, Step.refl _ _ _⟩
  · cases h
    obtain ⟨u, h1, h2⟩ := hs
    exact ⟨u, w, h2 w hw.pool, φ, h1, hw, Step.refl _ _ _⟩
  · split at h
    · rename_i b k o ho
      split at h
      · rename_i v' hv
        cases h
        rcases rd_some' ho hw hr with e | ⟨g, b0, n, x, e1, e2, e3⟩
        · obtain ⟨u, h1, h2⟩ := hs.2 o v hv e
          exact ⟨u, w, h2 w, φ, h1, hw, Step.refl _ _ _⟩
        · obtain ⟨u, h1, h2⟩ := hs.1 o v hv g b0 n x e1 e3
          exact ⟨u, w, h2 w e2, φ, h1, hw, Step.refl _ _ _⟩
      · cases h
    · cases h
  · rename_i o k
    cases h
    obtain ⟨x, n, u, w', e1, e2, e3, e4, e5, e6, e7⟩ := hs w
    have hle : φ.le (φ.ext st.next (w.heap.size, 0, n)) := Phi.ext_le _ (hw.fresh _ (Nat.le_refl _))
    obtain ⟨f1, f2⟩ := new_ok hw e2 e3 e4 e5 (e6.mono hle)
    exact ⟨u, w', e1, _, e7 _ _ hle (Phi.ext_at _ _ _), f1, f2⟩
  · split at h
    · rename_i b v' _ l t hb
      cases h
      obtain ⟨g, b0, n, x, e1, e2, e3, e4⟩ := hw.obj_at hb rfl
      obtain ⟨u, h1, h2⟩ := hs l t g b0 n x e1 e4
      obtain ⟨x', w', f1, f2, f3, f4, f5, f6, f7, f8⟩ := h2 w e3
      obtain ⟨i1, i2⟩ := turn_ok (o' := .cells l t) hw hb e1 f3 f4 f5 f6 f7 f8 (f1 _ _ e4)
      have hsame : ∀ y, (st.heap.set b (some (.cells l t))).get y = st.heap.get y := fun y => by
        rw [PT.get_set]; split
        · rename_i he; subst he; exact hb.symm
        · rfl
      refine ⟨u, w', f2, φ, h1, ⟨⟨i1.below, i1.fresh, fun y o hy => i1.obj y o (by rw [hsame]; exact hy), fun y z o1 o2 g b b' m m' hy hz => i1.inj y z o1 o2 g b b' m m' (by rw [hsame]; exact hy) (by rw [hsame]; exact hz), fun y o hy => i1.lt y o (by rw [hsame]; exact hy)⟩, i1.pool, fun k b L t x o b' n ht hx => i1.apart k b L t x o b' n ht (by rw [hsame]; exact hx)⟩, ⟨⟨i2.le, i2.size, fun y o g b n hy => i2.orig y o g b n (by rw [hsame]; exact hy), i2.frame, i2.only⟩, i2.pl⟩⟩
    · cases h
theorem oneA_some : ∀ {vs : List AVal} {us : List Value}, oneA vs = true → VRels φ vs us → ∀ u ∈ us, u.oneCell' = true
  | [], _, _, h, u, hu => by cases h; cases hu
  | v :: vs, _, h, hr, u, hu => by
    cases hr with
    | cons _ u' _ us h1 h2 =>
    have hv : u'.oneCell' = true ∧ oneA vs = true := by
      cases h1 with
      | tslice _ _ _ _ _ _ _ h1 => cases h1 <;> exact ⟨rfl, h⟩
      | _ => first | (simp [oneA] at h; done) | exact ⟨rfl, h⟩
    rcases List.mem_cons.1 hu with rfl | hu
    · exact hv.1
    · exact oneA_some hv.2 h2 u hu
theorem run_storeRow (g o : Nat) (t : TypeId) (fz : Nat × Nat) : ∀ (vs : List Value) (i : Nat) (cur : Array Value) (w : World), w.heap[g]? = some (.cells cur t fz) → (fz.1 = fz.2 ∨ cur.size ≤ fz.1) → o + i + vs.length ≤ cur.size → (∀ v ∈ vs, v.oneCell' = true) →
    (storeCells ⟨g, o, none⟩ vs i).run P w = .ok () (w.setRow g (cur.toList.take (o + i) ++ vs ++ cur.toList.drop (o + i + vs.length)).toArray)
  | [], i, cur, w, hg, _, _, _ => by
    simp only [storeCells, List.append_nil, List.length_nil, Nat.add_zero, List.take_append_drop, Array.toArray_toList]
    rw [setRow_self w g cur t fz hg]
    rfl
  | v :: rest, i, cur, w, hg, hf, hl, h1 => by
    have hi : o + i < cur.size := by simp at hl; omega
    have hcell : w.cell? ⟨g, o + i, none⟩ = some cur[o + i] := by simp [World.cell?, hg, hi]
    have hfro : w.frozen? ⟨g, o + i, none⟩ = false := by
      obtain ⟨lo, hi'⟩ := fz
      simp only [World.frozen?, hg]
      simp only at hf
      rw [Bool.and_eq_false_iff]
      rcases hf with rfl | hf
      · by_cases hlo : lo ≤ o + i
        · right; simp; omega
        · left; simpa using hlo
      · left; simp; omega
    have hst : (store ((⟨g, o, none⟩ : Addr).add i) v).run P w = .ok () (w.setRow g (cur.setIfInBounds (o + i) v)) := by
      rw [add_lit, run_store P w _ v _ (h1 v (by simp)), hcell]
      simp [hfro, setCell_eq_setRow w g (o + i) cur t fz v hg]
    have ih := run_storeRow g o t fz rest (i + 1) (cur.setIfInBounds (o + i) v) (w.setRow g (cur.setIfInBounds (o + i) v)) (setRow_heap w g cur _ t _ hg) (by simpa using hf) (by simp at hl ⊢; omega) (fun x hx => h1 x (by simp [hx]))
    simp only [storeCells, Sem.run_bind, hst, Result.andThen_ok, ih, setRow_setRow]
    congr 3
    have e := list_seg_step cur.toList (o + i) v rest (by simp at hl ⊢; omega)
    simpa [Array.toList_setIfInBounds, Nat.add_assoc] using e
theorem setRow_other (w : World) (g : Nat) (cs : Array Value) (k : Nat) (h : k ≠ g) : (w.setRow g cs).heap[k]? = w.heap[k]? := by
  unfold World.setRow
  simp only [Array.getElem?_modify]
  rw [if_neg (Ne.symm h)]
theorem setRow_size (w : World) (g : Nat) (cs : Array Value) : (w.setRow g cs).heap.size = w.heap.size := by unfold World.setRow; simp
/-- a row written over -/
theorem row_put {l vs : List AVal} {c : Array Value} {us : List Value} {b0 o : Nat} (h : VRels φ l ((c.toList.drop b0).take l.length)) (hb : b0 + l.length ≤ c.size) (h' : VRels φ vs us) (hle : o + vs.length ≤ l.length) :
    VRels φ (l.take o ++ vs ++ l.drop (o + vs.length)) (((c.toList.take (b0 + o) ++ us ++ c.toList.drop (b0 + o + us.length)).toArray.toList.drop b0).take (l.take o ++ vs ++ l.drop (o + vs.length)).length) := by
  have hp := put_rel (o := o) h h'
  have hul := h'.length
  refine VRels.of_get ?_ fun i v hi => ?_
  · simp; omega
  · obtain ⟨u, h1, h2⟩ := hp.get hi
    refine ⟨u, ?_, h2⟩
    have hlen : (l.take o ++ vs ++ l.drop (o + vs.length)).length = l.length := by simp; omega
    have hil : i < l.length := by rw [← hlen]; exact (List.getElem?_eq_some_iff.1 hi).1
    rw [hlen, List.getElem?_take_of_lt hil, List.getElem?_drop]
    have hm : min o (min l.length (c.size - b0)) = o := by omega
    have hm2 : min (b0 + o) c.size = b0 + o := by omega
    simp only [List.getElem?_append, List.length_append, List.length_take, List.length_drop, Array.length_toList, hm, hm2, List.getElem?_take, List.getElem?_drop] at h1 ⊢
    by_cases c1 : i < o + us.length
    · have c1' : b0 + i < b0 + o + us.length := by omega
      simp only [c1, if_true] at h1
      simp only [c1', if_true]
      by_cases c2 : i < o
      · have c2' : b0 + i < b0 + o := by omega
        simp only [c2, if_true, hil] at h1
        simp only [c2', if_true]
        exact h1
      · have c2' : ¬ b0 + i < b0 + o := by omega
        simp only [c2, if_false] at h1
        simp only [c2', if_false]
        rw [show b0 + i - (b0 + o) = i - o by omega]
        exact h1
    · have c1' : ¬ b0 + i < b0 + o + us.length := by omega
      simp only [c1, if_false] at h1
      simp only [c1', if_false]
      have e1 : o + us.length + (i - (o + us.length)) = i := by omega
      have e2 : b0 + o + us.length + (b0 + i - (b0 + o + us.length)) = b0 + i := by omega
      rw [e1] at h1
      rw [e2]
      simp only [hil, if_true] at h1
      exact h1
/-- cells of an object are written over -/
theorem store_gen {st : St} {w : World} {b o : Nat} {vs : List AVal} {us : List Value} {ob ob' : AObj} {l : List AVal} {t : TypeId} (hb : st.heap.get b = some ob) (hn : ob.nul = false) (hcells : ∀ b0 n x, ORel φ ob b0 n x → ORel φ (.cells l t) b0 n x) (hback : ∀ b0 n x, ORel φ (.cells (l.take o ++ vs ++ l.drop (o + vs.length)) t) b0 n x → ORel φ ob' b0 n x)
    (h1 : oneA vs = true) (hle : o + vs.length ≤ l.length) (hw : WRel w0 φ st.heap st.next w) (hv : VRels φ vs us) :
    ∃ g b0 n w', φ b = some (g, b0, n) ∧ (storeCells ⟨g, b0 + o, none⟩ us).run P w = .ok () w' ∧ WRel w0 φ (st.heap.set b (some ob')) st.next w' ∧ Step φ st.heap w φ (st.heap.set b (some ob')) w' := by
  obtain ⟨g, b0, n, x, e1, e2, e3, e4⟩ := hw.obj_at hb hn
  have e5 := hcells _ _ _ e4
  cases e5 with
  | cells _ _ t' _ _ c fz hn hbl hr hf =>
  subst hn
  have hlen := hv.length
  have hst := run_storeRow (P := P) g (b0 + o) t' fz us 0 c w e3 hf (by omega) (oneA_some h1 hv)
  simp only [Nat.add_zero] at hst
  have hsz : (c.toList.take (b0 + o) ++ us ++ c.toList.drop (b0 + o + us.length)).toArray.size = c.size := by simp; omega
  have hrow := row_put hr hbl hv hle
  have hor : ORel φ (.cells (l.take o ++ vs ++ l.drop (o + vs.length)) t) b0 c.size (.cells (c.toList.take (b0 + o) ++ us ++ c.toList.drop (b0 + o + us.length)).toArray t' fz) :=
    .cells _ _ _ _ _ _ _ hsz (by simp; omega) hrow hf
  obtain ⟨i1, i2⟩ := turn_ok hw hb e1 (setRow_size w g _) (setRow_heap w g c _ t' fz e3) (fun k hk => setRow_other w g _ k hk) rfl rfl rfl (hback _ _ _ hor)
  exact ⟨g, b0, c.size, _, e1, hst, i1, i2⟩
theorem put_one {α : Type} (l : List α) (o : Nat) (v : α) (h : o < l.length) : l.take o ++ [v] ++ l.drop (o + 1) = l.set o v := by
  rw [List.set_eq_take_append_cons_drop, if_pos h]; simp
theorem nul_of_lt {l : List UInt8} {o : Nat} (h : o < l.length) (t : TypeId) : (AObj.sbytes l t).nul = false := by cases l with | nil => simp at h | cons _ _ => rfl
theorem nul_of_lt' {l : List Int} {o : Nat} (k : IntKind) (h : o < l.length) (t : TypeId) : (AObj.sints k l t).nul = false := by cases l with | nil => simp at h | cons _ _ => rfl
theorem u8_back {z : Int} (h : inR .u8 z) : ((UInt8.ofNat z.toNat).toNat : Int) = z := by
  obtain ⟨h1, h2⟩ := h
  simp only [loI, hiI] at h1 h2
  rw [UInt8.toNat_ofNat', Nat.mod_eq_of_lt (by omega)]; omega
theorem storeA_ok {st st' : St} {w : World} {b o : Nat} {vs : List AVal} {us : List Value} (h : storeA st b o vs = some st') (hw : WRel w0 φ st.heap st.next w) (hv : VRels φ vs us) :
    ∃ g b0 n w', φ b = some (g, b0, n) ∧ (storeCells ⟨g, b0 + o, none⟩ us).run P w = .ok () w' ∧ WRel w0 φ st'.heap st'.next w' ∧ Step φ st.heap w φ st'.heap w' := by
  obtain ⟨op, h, hop⟩ := got_some h
  unfold storeP at h
  split at h
  · rename_i st2 h0
    cases h
    unfold storeA0 at h0
    split at h0
    · rename_i l t hb
      cases h1 : oneA vs with
      | false => rw [h1] at h0; cases h0
      | true =>
        rw [h1] at h0
        simp only [cond_true] at h0
        split at h0
        · rename_i l' hl'
          cases h0
          obtain ⟨rfl, hle⟩ := putAt_some hl'
          exact store_gen hb rfl (fun _ _ _ h => h) (fun _ _ _ h => h) h1 hle hw hv
        · cases h0
    · cases h0
  · unfold storeS at h
    split at h
    · rename_i l t v hb _ _
      split at h
      · rename_i z hz
        cases h
        have hop : o < l.length := hop
        cases hv with
        | cons _ u _ us hu hus =>
        cases hus
        obtain ⟨rfl, hin⟩ := asR_rel hz hu
        refine store_gen (vs := [AVal.int .u8 z]) (us := [Value.int .u8 z]) (ob' := .sbytes (l.set o (UInt8.ofNat z.toNat)) t) hb (nul_of_lt hop t) (fun b0 n x hx => by cases hx; assumption) (fun b0 n x hx => ?_) rfl (by simp; omega) hw (.cons _ _ _ _ (.int _ _) .nil)
        refine .sbytes _ _ _ _ _ ?_
        rw [List.length_singleton, put_one _ _ _ (by simpa using hop)] at hx
        rw [List.map_set, u8_back hin]
        exact hx
      · cases h
    · rename_i k l t v hb _ _
      split at h
      · rename_i j z hz
        cases hk : kindEq j k with
        | false => rw [hk] at h; cases h
        | true =>
        rw [hk] at h
        obtain rfl := kindEq_eq _ _ hk
        cases h
        have hop : o < l.length := hop
        cases hv with
        | cons _ u _ us hu hus =>
        cases hus
        obtain ⟨rfl, hin⟩ := asR_rel hz hu
        obtain ⟨g, b0, n, x, e1, e2, e3, e4⟩ := hw.obj_at hb (nul_of_lt' j hop t)
        have hall : ∀ z ∈ l, inR j z := by cases e4; assumption
        refine store_gen (vs := [AVal.int j z]) (us := [Value.int j z]) (ob' := .sints j (l.set o z) t) hb (nul_of_lt' j hop t) (fun b0 n x hx => by cases hx; assumption) (fun b0 n x hx => ?_) rfl (by simp; omega) hw (.cons _ _ _ _ (.int _ _) .nil)
        refine .sints _ _ _ _ _ _ (fun y hy => ?_) ?_
        · rcases List.mem_or_eq_of_mem_set hy with h | rfl
          · exact hall y h
          · exact hin
        rw [List.length_singleton, put_one _ _ _ (by simpa using hop)] at hx
        rw [List.map_set]
        exact hx
      · cases h
    · cases h
/-- one block's object is another's: the one is no longer spoken of -/
theorem graft_ok {H : PT AObj} {next : Nat} {w w' : World} (hw : WRel w0 φ H next w) {b g b0 b1 n : Nat} {o o' : AObj} {x' : Obj} (hb : H.get b = some o) (hφ : φ b = some (g, b0, n)) (hs : w'.heap.size = w.heap.size) (hg : w'.heap[g]? = some x') (hk : ∀ k, k ≠ g → w'.heap[k]? = w.heap[k]?)
    (h1 : w'.os = w.os) (h2 : w'.tape = w.tape) (h3 : w'.output = w.output) (ho : ORel (φ.ext next (g, b1, n)) o' b1 n x') : WRel w0 (φ.ext next (g, b1, n)) ((H.set b none).set next (some o')) (next + 1) w' ∧ Step φ H w (φ.ext next (g, b1, n)) ((H.set b none).set next (some o')) w' := by
  have hle : φ.le (φ.ext next (g, b1, n)) := Phi.ext_le _ (hw.fresh _ (Nat.le_refl _))
  obtain ⟨g', b', n', u, e1, e2, e3, e4⟩ := hw.obj_of hb hφ
  obtain ⟨rfl, rfl, rfl⟩ : g = g' ∧ b0 = b' ∧ n = n' := by rw [hφ] at e1; simpa using e1
  have hget : ∀ y o1, y ≠ next → ((H.set b none).set next (some o')).get y = some o1 → H.get y = some o1 ∧ y ≠ b := fun y o1 hn hy => by
    rw [PT.get_set, if_neg hn, PT.get_set] at hy
    split at hy
    · cases hy
    · exact ⟨hy, ‹_›⟩
  have hng : ∀ y o1 g1 b2 n1, H.get y = some o1 → y ≠ b → φ y = some (g1, b2, n1) → g1 ≠ g := fun y o1 g1 b2 n1 hy hyb h4 hgg => hyb (by subst hgg; exact hw.inj y b o1 o g1 b2 b0 n1 n hy hb h4 hφ)
  refine with_pool hw (fun _ _ _ => rfl) ?_
  refine ⟨⟨⟨h1.trans hw.below.os, h2.trans hw.below.tape, h3.trans hw.below.output, by rw [hs]; exact hw.below.size, fun k hk' => (hk k (by omega)).trans (hw.below.block k hk')⟩, fun y hy => ?_, fun y o1 hy => ?_, fun y z o1 o2 g1 b2 b3 m m' hy hz h4 h5 => ?_, fun y o1 hy => by
    by_cases he : y = next
    · omega
    · have := hw.lt y o1 (hget y o1 he hy).1; omega⟩, ⟨hle, by omega, fun y o1 g1 b2 n1 hy h4 => ?_, fun g1 hg1 hn => hk g1 fun hgg => hn b o b0 n hb (hgg ▸ hφ), Phi.only_ext _ hw.fresh⟩⟩
  · rw [Phi.ext_ne _ _ (by omega)]; exact hw.fresh _ (by omega)
  · by_cases he : y = next
    · subst he
      rw [PT.get_set, if_pos rfl] at hy
      cases hy
      exact .inr ⟨g, b1, n, x', Phi.ext_at _ _ _, e2, hg, ho⟩
    · obtain ⟨hy, hyb⟩ := hget y o1 he hy
      rcases hw.obj y o1 hy with ⟨e5, e6⟩ | ⟨g1, b2, n1, u1, f1, f2, f3, f4⟩
      · exact .inl ⟨by rw [Phi.ext_ne _ _ he]; exact e5, e6⟩
      · exact .inr ⟨g1, b2, n1, u1, hle _ _ f1, f2, (hk g1 (hng y o1 g1 b2 n1 hy hyb f1)).trans f3, f4.mono hle⟩
  · by_cases he : y = next <;> by_cases he2 : z = next
    · rw [he, he2]
    · obtain ⟨hz2, hzb⟩ := hget z o2 he2 hz
      subst he
      rw [Phi.ext_at] at h4
      rw [Phi.ext_ne _ _ he2] at h5
      exact absurd (by simpa using (Prod.mk.inj (Option.some.inj h4)).1.symm) (hng z o2 g1 b3 m' hz2 hzb h5)
    · obtain ⟨hy2, hyb⟩ := hget y o1 he hy
      subst he2
      rw [Phi.ext_at] at h5
      rw [Phi.ext_ne _ _ he] at h4
      exact absurd (by simpa using (Prod.mk.inj (Option.some.inj h5)).1.symm) (hng y o1 g1 b2 m hy2 hyb h4)
    · rw [Phi.ext_ne _ _ he] at h4
      rw [Phi.ext_ne _ _ he2] at h5
      exact hw.inj y z o1 o2 g1 b2 b3 m m' (hget y o1 he hy).1 (hget z o2 he2 hz).1 h4 h5
  · by_cases he : y = next
    · subst he
      rw [Phi.ext_at] at h4
      have hgg : g = g1 := by simpa using (Prod.mk.inj (Option.some.inj h4)).1
      subst hgg
      exact .inr ⟨b, o, b0, n, hb, hφ⟩
    · rw [Phi.ext_ne _ _ he] at h4
      exact .inr ⟨y, o1, b2, n1, (hget y o1 he hy).1, h4⟩
end
end Go.Proofs.Ytcofcojjofkgcaa.Abs
namespace Go.Proofs.Ytcofcojjofkgcaa.Abs
open Go Go.RowKit
set_option linter.unusedVariables false
section
variable {w0 : World} {φ : Phi} {P : Program} {RO : PT AObj}
theorem setAt_get {α : Type} : ∀ (l : List α) (i j : Nat) (y : α), (setAt l i y)[j]? = if j = i ∧ i < l.length then some y else l[j]?
  | [], i, j, y => by simp [setAt]
  | x :: xs, 0, 0, y => by simp [setAt]
  | x :: xs, 0, j + 1, y => by simp [setAt]
  | x :: xs, i + 1, 0, y => by simp [setAt]
  | x :: xs, i + 1, j + 1, y => by
    simp only [setAt, List.getElem?_cons_succ, List.length_cons]
    rw [setAt_get xs i j y]
    simp
theorem setAt_len {α : Type} : ∀ (l : List α) (i : Nat) (y : α), (setAt l i y).length = l.length
  | [], i, y => rfl
  | x :: xs, 0, y => rfl
  | x :: xs, i + 1, y => by simp [setAt, setAt_len xs i y]
theorem delAt_eq {α : Type} : ∀ (l : List α) (i : Nat), delAt l i = l.eraseIdx i
  | [], i => by simp [delAt]
  | x :: xs, 0 => by simp [delAt]
  | x :: xs, i + 1 => by simp [delAt, delAt_eq xs i]
theorem run_setMap {w : World} {g : Nat} {ms : Array MapEntry} {cl : Nat} (hg : w.heap[g]? = some (.map ms cl)) (o' : Obj) : ∃ w', (setObj g o').run P w = .ok () w' ∧ w'.heap.size = w.heap.size ∧ w'.heap[g]? = some o' ∧ (∀ k, k ≠ g → w'.heap[k]? = w.heap[k]?) ∧ w'.os = w.os ∧ w'.tape = w.tape ∧ w'.output = w.output := by
  have hlt := (Array.getElem?_eq_some_iff.1 hg).1
  refine ⟨{ w with heap := w.heap.setIfInBounds g o' }, ?_, by simp, by simp [hlt], fun k hk => ?_, rfl, rfl, rfl⟩
  · simp [setObj, Sem.run, hg]
  · exact Array.getElem?_setIfInBounds_ne (Ne.symm hk)
theorem map_turn {H : PT AObj} {next : Nat} {w : World} (hw : WRel w0 φ H next w) {r g b n : Nat} {es es' : List (AVal × AVal)} {ms0 ms' : Array MapEntry} {cl0 clock' : Nat} (hH : H.get r = some (.map es)) (hφ : φ r = some (g, b, n)) (hg : w.heap[g]? = some (.map ms0 cl0))
    (ho : ORel φ (.map es') b n (.map ms' clock')) : ∃ w', (setObj g (.map ms' clock')).run P w = .ok () w' ∧ WRel w0 φ (H.set r (some (.map es'))) next w' ∧ Step φ H w φ (H.set r (some (.map es'))) w' := by
  obtain ⟨w', h1, h2, h3, h4, h5, h6, h7⟩ := run_setMap (P := P) hg (.map ms' clock')
  obtain ⟨k1, k2⟩ := turn_ok hw hH hφ h2 h3 h4 h5 h6 h7 ho
  exact ⟨w', h1, k1, k2⟩
theorem sameBits_of {t : TypeId} {k : AVal} {u : Value} (h : keyOk P t k = true) (hk : VRel φ k u) : Instr.sameBits 10000 u u = true := by
  rw [show (10000 : Nat) = 9999 + 1 from rfl]
  generalize 9999 = n
  obtain ⟨d, hd, h⟩ := keyOk_kind h
  rcases h with ⟨j, a, rfl, rfl⟩ | ⟨l, rfl, rfl⟩ <;> cases hk
  · simp [Instr.sameBits]
  · simp only [Instr.sameBits]
    exact (MapKept.bytes_beq _ _).2 rfl
theorem mapPutA_ok {st st' : St} {w : World} {t : TypeId} {r g b n : Nat} {k v x : AVal} {uk uv : Value} (h : mapPutA P st t r k v = some (x, st')) (hw : WRel w0 φ st.heap st.next w) (hk : VRel φ k uk) (hv : VRel φ v uv) (hφ : φ r = some (g, b, n)) :
    ∃ w', (Instr.mapUpdate t (.map (some g)) uk uv).run P w = .ok () w' ∧ x = .undef ∧ WRel w0 φ st'.heap st'.next w' ∧ Step φ st.heap w φ st'.heap w' := by
  unfold mapPutA at h
  split at h
  · rename_i kt et es ht hH
    cases hko : keyOk P kt k with
    | false => rw [hko] at h; cases h
    | true =>
    rw [hko] at h
    simp only [cond_true] at h
    obtain ⟨g', b', n', x0, e1, e2, e3, e4⟩ := hw.obj_at hH rfl
    obtain ⟨rfl, rfl, rfl⟩ : g = g' ∧ b = b' ∧ n = n' := by rw [hφ] at e1; simpa using e1
    obtain ⟨ms, clock, rfl, f1, f2, f3, f4⟩ := map_entries e4
    obtain ⟨d, hd, hkd⟩ := keyOk_kind hko
    have hgo : (getObj g).run P w = .ok (.map ms clock) w := by simp [getObj, Sem.run, e3]
    split at h
    · rename_i i v1 hf
      cases h
      rcases findM_ok hk hkd hf f1 f4 with ⟨h1, _⟩ | ⟨i2, v2, m1, h1, h2, h3, _, h5, h6, _⟩
      · cases h1
      · rw [Nat.zero_add] at h1 h2
        cases h1
        have hi : i < es.length := by
          rcases Nat.lt_or_ge i es.length with hlt | hge
          · exact hlt
          · rw [List.getElem?_eq_none hge] at h3; cases h3
        have hms : ms[i]? = some m1 := by simpa using h5
        obtain ⟨w', q1, q2, q3⟩ := map_turn (P := P) hw hH hφ e3 (es' := setAt es i (k, v)) (ms' := ms.modify i fun e => { e with key := uk, val := uv }) (clock' := clock) (by
          refine .map _ _ _ _ _ (by simp [setAt_len]; simpa using f1) ?_ ?_ fun j e he => ?_
          · rw [Array.toList_modify]
            have : (ms.toList.modify i fun e => { e with key := uk, val := uv }).map (·.born) = ms.toList.map (·.born) := by
              refine List.ext_getElem? fun j => ?_
              rw [List.getElem?_map, List.getElem?_map, List.getElem?_modify]
              by_cases hji : i = j
              · subst hji
                simp
                cases ms[i]? <;> rfl
              · simp [hji]
            rw [this]; exact f2
          · rw [Array.toList_modify]
            intro m hm
            obtain ⟨j, hj, rfl⟩ := List.mem_iff_getElem.1 hm
            rw [List.getElem_modify]
            have hj' : j < ms.toList.length := by simpa using hj
            split
            · exact f3 (ms.toList[j]'hj') (List.getElem_mem hj')
            · exact f3 _ (List.getElem_mem hj')
          · rw [setAt_get] at he
            rw [Array.getElem?_modify]
            by_cases hji : j = i
            · subst hji
              rw [if_pos ⟨rfl, hi⟩] at he
              cases he
              exact ⟨_, by rw [if_pos rfl, hms]; rfl, hk, hv⟩
            · rw [if_neg (fun hh => hji hh.1)] at he
              obtain ⟨m2, c1, c2⟩ := f4 j e he
              exact ⟨m2, by rw [if_neg (fun hh => hji hh.symm)]; simpa using c1, c2⟩)
        refine ⟨w', ?_, rfl, q2, q3⟩
        have hkey : ((ms[i]?).map (·.key)).getD uk = uk := by rw [hms]; simpa using h6
        have hst : (Instr.keyThatStays (((ms[i]?).map (·.key)).getD uk) uk).run P w = .ok uk w := by
          rw [hkey]
          simp [Instr.keyThatStays, sameBits_of hko hk]
        simp only [Instr.mapUpdate, Sem.run_bind, run_und ht, Result.andThen_ok, hgo, run_checkKey_of hko hk, run_findKey_of hd h2, hst, q1]
    · rename_i hf
      cases h
      rcases findM_ok hk hkd hf f1 f4 with ⟨_, h2⟩ | ⟨i2, v2, m1, h1, _⟩
      · obtain ⟨w', q1, q2, q3⟩ := map_turn (P := P) hw hH hφ e3 (es' := es ++ [(k, v)]) (ms' := ms.push { key := uk, val := uv, born := clock }) (clock' := clock + 1) (by
          refine .map _ _ _ _ _ (by simp; simpa using f1) ?_ ?_ fun j e he => ?_
          · simp only [Array.toList_push, List.map_append, List.map_cons, List.map_nil]
            refine List.nodup_append.2 ⟨f2, by simp, fun a ha c hc => ?_⟩
            obtain ⟨m, hm, rfl⟩ := List.mem_map.1 ha
            simp at hc
            have := f3 m hm
            omega
          · intro m hm
            simp only [Array.toList_push] at hm
            rcases List.mem_append.1 hm with hm | hm
            · have := f3 m hm; omega
            · simp at hm; subst hm; simp
          · have hlen : ms.size = es.length := by simpa using f1
            rw [Array.getElem?_push]
            by_cases hj : j < es.length
            · rw [List.getElem?_append_left hj] at he
              obtain ⟨m2, c1, c2⟩ := f4 j e he
              exact ⟨m2, by rw [if_neg (by omega)]; simpa using c1, c2⟩
            · have hj2 : j = es.length := by
                have := (List.getElem?_eq_some_iff.1 he).1
                simp at this; omega
              subst hj2
              rw [List.getElem?_append_right (Nat.le_refl _), Nat.sub_self] at he
              cases he
              exact ⟨_, by rw [if_pos hlen.symm], hk, hv⟩)
        refine ⟨w', ?_, rfl, q2, q3⟩
        simp only [Instr.mapUpdate, Sem.run_bind, run_und ht, Result.andThen_ok, hgo, run_checkKey_of hko hk, run_findKey_of hd h2, q1]
      · cases h1
    · cases h
  · cases h
theorem mapDelA_ok {st st' : St} {w : World} {t : TypeId} {r g b n : Nat} {k x : AVal} {uk : Value} (h : mapDelA P st t r k = some (x, st')) (hw : WRel w0 φ st.heap st.next w) (hk : VRel φ k uk) (hφ : φ r = some (g, b, n)) {A : Array TypeId} (hA : A[0]? = some t) (ty : TypeId) :
    ∃ w', (Builtin.delete_ A ty #[.map (some g), uk]).run P w = .ok (.tuple #[]) w' ∧ x = .tuple [] ∧ WRel w0 φ st'.heap st'.next w' ∧ Step φ st.heap w φ st'.heap w' := by
  unfold mapDelA at h
  split at h
  · rename_i kt et es ht hH
    cases hko : keyOk P kt k with
    | false => rw [hko] at h; cases h
    | true =>
    rw [hko] at h
    simp only [cond_true] at h
    obtain ⟨g', b', n', x0, e1, e2, e3, e4⟩ := hw.obj_at hH rfl
    obtain ⟨rfl, rfl, rfl⟩ : g = g' ∧ b = b' ∧ n = n' := by rw [hφ] at e1; simpa using e1
    obtain ⟨ms, clock, rfl, f1, f2, f3, f4⟩ := map_entries e4
    obtain ⟨d, hd, hkd⟩ := keyOk_kind hko
    have hgo : (getObj g).run P w = .ok (.map ms clock) w := by simp [getObj, Sem.run, e3]
    split at h
    · rename_i i v1 hf
      cases h
      rcases findM_ok hk hkd hf f1 f4 with ⟨h1, _⟩ | ⟨i2, v2, m1, h1, h2, h3, _, h5, h6, _⟩
      · cases h1
      · rw [Nat.zero_add] at h1 h2
        cases h1
        have hsub : (ms.eraseIdxIfInBounds i).toList = ms.toList.eraseIdx i := by
          rw [Array.eraseIdxIfInBounds]
          split
          · simp
          · rename_i hge
            rw [List.eraseIdx_of_length_le (by simpa using hge)]
        obtain ⟨w', q1, q2, q3⟩ := map_turn (P := P) hw hH hφ e3 (es' := delAt es i) (ms' := ms.eraseIdxIfInBounds i) (clock' := clock) (by
          refine .map _ _ _ _ _ ?_ ?_ ?_ fun j e he => ?_
          · rw [← Array.length_toList, hsub, delAt_eq, List.length_eraseIdx, List.length_eraseIdx, f1]
          · rw [hsub]; exact ((List.eraseIdx_sublist _ _).map _).nodup f2
          · rw [hsub]; exact fun m hm => f3 m ((List.eraseIdx_sublist _ _).subset hm)
          · rw [delAt_eq, List.getElem?_eraseIdx] at he
            rw [← Array.getElem?_toList, hsub, List.getElem?_eraseIdx]
            split at he
            · rename_i hj; rw [if_pos hj]; exact f4 j e he
            · rename_i hj; rw [if_neg hj]; exact f4 (j + 1) e he)
        refine ⟨w', ?_, rfl, q2, q3⟩
        simp only [Builtin.delete_, hA, List.getElem?_toArray, List.getElem?_cons_zero, List.getElem?_cons_succ, Sem.run_bind, run_und ht, Result.andThen_ok, hgo, run_checkKey_of hko hk, run_findKey_of hd h2, q1]
        rfl
    · rename_i hf
      cases h
      rcases findM_ok hk hkd hf f1 f4 with ⟨_, h2⟩ | ⟨i2, v2, m1, h1, _⟩
      · obtain ⟨w', q1, q2, q3⟩ := map_turn (P := P) hw hH hφ e3 e4
        refine ⟨w', ?_, rfl, q2, q3⟩
        simp only [Builtin.delete_, hA, List.getElem?_toArray, List.getElem?_cons_zero, List.getElem?_cons_succ, Sem.run_bind, run_und ht, Result.andThen_ok, hgo, run_checkKey_of hko hk, run_findKey_of hd h2, q1]
        rfl
      · cases h1
    · cases h
  · cases h
theorem WRel.drew {H : PT AObj} {next : Nat} {w : World} (h : WRel w0 φ H next w) : WRel w0 φ H next w.drew := ⟨⟨h.below.drew, h.fresh, h.obj, h.inj, h.lt⟩, h.pool, h.apart⟩
theorem Step.drew (H : PT AObj) (w : World) : Step φ H w φ H w.drew := ⟨⟨φ.le_refl, Nat.le_refl _, fun x o g b n h1 h2 => .inr ⟨x, o, b, n, h1, h2⟩, fun _ _ _ => rfl, fun _ h k => absurd k h⟩, fun _ _ _ _ h => .inl h⟩
theorem lenSrc_ok {x : AVal} {n : Nat} {u : Value} (h : lenSrc x = some n) (hx : VRel φ x u) : ∀ w, (Builtin.lenOf u).run P w = .ok n w := by
  unfold lenSrc at h
  split at h
  · cases h; intro w; cases hx <;> rfl
  · cases h; intro w; cases hx with | str s => rw [lenL0, List.length_map, Array.length_toList]; rfl
  · cases h
theorem src_ok {st : St} {w : World} {size n m : Nat} {x : AVal} {u : Value} {new : List AVal} (h : cellsOfSrc RO st size n x = some new) (hl : lenSrc x = some m) (hnm : n ≤ m) (hx : VRel φ x u) (hw : WRel w0 φ st.heap st.next w) (hr : RRel w0 φ RO) :
    ∃ news : Array Value, VRels φ new news.toList ∧ (Builtin.firstCells size n u).run P w = .ok news w := by
  unfold cellsOfSrc at h
  split at h
  · cases hb : Nat.beq n 0 with
    | false => rw [hb] at h; cases h
    | true =>
      rw [hb] at h; cases h
      cases hx
      exact ⟨#[], .nil, rfl⟩
  · rename_i b o len cap ex z
    have hm : len = m := by simpa [lenSrc] using hl
    split at h
    · rename_i l t hrd
      obtain ⟨rfl, hle⟩ := slicedL_some h
      obtain ⟨g, b0, nb, x', e1, e2, e3⟩ := rd_some hrd hw hr rfl
      obtain ⟨us, f1, f2, f3⟩ := orel_row e3 hle
      cases hx with
      | slice _ _ _ _ _ g2 b2 nb2 cap' _ a hφ hl' hc hex hz ha =>
      obtain ⟨rfl, rfl, rfl⟩ : g = g2 ∧ b0 = b2 ∧ nb = nb2 := by rw [e1] at hφ; simpa using hφ
      refine ⟨us.toArray, by simpa using f2, ?_⟩
      rcases ha with ⟨rfl, _⟩ | rfl
      · have hn0 : n = 0 := by omega
        subst hn0
        have : us = [] := List.eq_nil_of_length_eq_zero (by simpa using f1)
        subst this
        simp [Builtin.firstCells, loadCells, loadCellsFrom]
      · have := run_loadCells_list (P := P) w ⟨g, b0 + o, none⟩ us (f3 w g e2)
        rw [f1] at this
        simpa [Builtin.firstCells] using this
    · cases h
  · rename_i l
    cases hb1 : Nat.beq size 1 with
    | false => rw [hb1] at h; cases h
    | true =>
    rw [hb1] at h
    cases h
    cases hx with
    | str s =>
    refine ⟨(s.extract 0 n).data.map fun b => .int .u8 b.toNat, VRels.of_get ?_ fun i v hi => ?_, rfl⟩
    · have : s.data.size = s.size := rfl
      simp [this]
    · rw [List.getElem?_map, List.getElem?_take] at hi
      by_cases hin : i < n
      · rw [if_pos hin, List.getElem?_map] at hi
        cases hq : s.data.toList[i]? with
        | none => rw [hq] at hi; cases hi
        | some b =>
          rw [hq] at hi
          cases hi
          refine ⟨.int .u8 b.toNat, ?_, .int _ _⟩
          rw [Array.getElem?_toList] at hq ⊢
          rw [Array.getElem?_map, ByteArray.data_extract, Array.getElem?_extract]
          obtain ⟨hlt, _⟩ := Array.getElem?_eq_some_iff.1 hq
          have h2 : i < min n s.size := by have : s.data.size = s.size := rfl; omega
          simp [h2, hq]
      · rw [if_neg hin] at hi; cases hi
  · cases h
theorem cells_len {st : St} {size n m : Nat} {x : AVal} {new : List AVal} (h : cellsOfSrc RO st size n x = some new) (hl : lenSrc x = some m) (hnm : n ≤ m) : new.length = n * size := by
  unfold cellsOfSrc at h
  split at h
  · cases hb : Nat.beq n 0 with
    | false => rw [hb] at h; cases h
    | true => rw [hb] at h; cases h; have := Nat.eq_of_beq_eq_true hb; subst this; simp
  · split at h
    · obtain ⟨rfl, hh⟩ := slicedL_some h
      simp; omega
    · cases h
  · rename_i l
    cases hb1 : Nat.beq size 1 with
    | false => rw [hb1] at h; cases h
    | true =>
      rw [hb1] at h; cases h
      have := Nat.eq_of_beq_eq_true hb1
      subst this
      have hlm : lenL l 0 = m := by simpa [lenSrc] using hl
      rw [lenL0] at hlm
      simp; omega
  · cases h
theorem run_append_in {A : Array TypeId} {t t2 ty e : TypeId} {d : TypeDesc} {size : Nat} (h0 : A[0]? = some t) (h1 : A[1]? = some t2) (ht : P.underlying t = some (.slice e)) (ht2 : P.underlying t2 = some d) (hd : d = .string ∨ ∃ k, d = .slice k) (hs : sizeA P e = some size)
    {base : Option Addr} {sLen sCap n : Nat} {x : Value} {w w' : World} {news : Array Value} (hl : (Builtin.lenOf x).run P w = .ok n w) (hn : (Builtin.firstCells size n x).run P w = .ok news w) (hle : sLen + n ≤ sCap)
    (hst : match base with | some a => (storeCells (a.add (sLen * size)) news.toList).run P w = .ok () w' | none => w' = w) :
    (Builtin.append_ A ty #[.slice base sLen sCap, x]).run P w = .ok (.slice base (sLen + n) sCap) w' := by
  rcases hd with rfl | ⟨k, rfl⟩ <;> cases base with
  | none => simp only at hst; subst hst; simp [Builtin.append_, h0, h1, run_und ht, run_und ht2, run_size hs, hl, hle, hn]
  | some a => simp only at hst; simp [Builtin.append_, h0, h1, run_und ht, run_und ht2, run_size hs, hl, hle, hn, hst]
theorem run_append_up {A : Array TypeId} {t t2 ty e : TypeId} {d : TypeDesc} {size : Nat} {i : TypeInfo} {z : Value} (h0 : A[0]? = some t) (h1 : A[1]? = some t2) (ht : P.underlying t = some (.slice e)) (ht2 : P.underlying t2 = some d) (hd : d = .string ∨ ∃ k, d = .slice k) (hs : sizeA P e = some size) (hi : P.info? e = some i) (hz : i.zero = some z)
    {base : Option Addr} {sLen sCap n : Nat} {x : Value} {w : World} {olds news : Array Value} (hl : (Builtin.lenOf x).run P w = .ok n w) (ho : (Builtin.firstCells size sLen (.slice base sLen sCap)).run P w.drew = .ok olds w.drew) (hn : (Builtin.firstCells size n x).run P w.drew = .ok news w.drew)
    (hle : ¬ sLen + n ≤ sCap) (hsm : sLen + n ≤ 65536) (hby : i.bytes ≤ 1048576) :
    (Builtin.append_ A ty #[.slice base sLen sCap, x]).run P w = .ok (.slice (some ⟨w.heap.size, 0, none⟩) (sLen + n) (grownCap w (sLen + n) sCap e))
      (w.drew.alloc (.cells (olds ++ news ++ Builtin.zeroCells z.cells (grownCap w (sLen + n) sCap e - (sLen + n))) e)) := by
  have h63 : ¬ (((sLen + n : Nat) : Int) > IntKind.i64.max ∧ (false = true ∨ i.bytes = 0)) := by simp [IntKind.max, IntKind.bits, IntKind.signed]; omega
  have h48 : ¬ Builtin.nextslicecap (sLen + n) sCap * i.bytes > 2 ^ 48 := by
    have h1 : (sLen + n) * i.bytes ≤ 65536 * 1048576 := Nat.mul_le_mul hsm hby
    have := growslice_fits (bytes := i.bytes) (show sCap < sLen + n by omega) (by omega)
    omega
  have hzv : ∀ w, (zeroValue e).run P w = .ok z w := fun w => by simp [zeroValue, typeInfo, hi, hz]
  have hti : ∀ w, (typeInfo e).run P w = .ok i w := fun w => by simp [typeInfo, hi]
  have hdr : ({ w with drawn := w.drawn + 1 } : World) = w.drew := rfl
  have h63' : ¬ (9223372036854775807 < ((sLen : Int) + (n : Int))) := by omega
  have h48' : ¬ (281474976710656 < Builtin.nextslicecap (sLen + n) sCap * i.bytes) := by omega
  rcases hd with rfl | ⟨k, rfl⟩ <;> (simp [Builtin.append_, h0, h1, run_und ht, run_und ht2, run_size hs, hl, hle, hti, hzv, h63', h48', Question.forced, ho, hn, newRow, grownCap])
/-- the outcome of an operation -/
def Out (w0 : World) (φ : Phi) (st : St) (w : World) (v : AVal) (st' : St) (r : Result Value) : Prop := ∃ u w', r = .ok u w' ∧ StepOk w0 φ st w v st' u w'
theorem grown_cells {l : List AVal} {c : Array Value} {m : Nat} {zs : Array Value} (t : TypeId) (h : VRels φ l c.toList) : ORel φ (.cells l t) 0 (c ++ zs).size (.cells (c ++ zs) t (0, 0)) := by
  have hl := h.length
  refine .cells _ _ _ _ _ _ _ rfl (by simp at hl ⊢; omega) ?_ (.inl rfl)
  rw [List.drop_zero, Array.toList_append, List.take_append_of_le_length (by omega), List.take_of_length_le (by omega)]
  exact h
theorem kill_ok {H : PT AObj} {next : Nat} {w : World} (hw : WRel w0 φ H next w) (b : Nat) : WRel w0 φ (H.set b none) next w ∧ Step φ H w φ (H.set b none) w := by
  have hget : ∀ y o1, (H.set b none).get y = some o1 → H.get y = some o1 := fun y o1 hy => by
    rw [PT.get_set] at hy
    split at hy
    · cases hy
    · exact hy
  refine with_pool hw (fun _ _ _ => rfl) ?_
  exact ⟨⟨hw.below, hw.fresh, fun y o hy => hw.obj y o (hget y o hy), fun y z o1 o2 g b1 b2 m m' hy hz => hw.inj y z o1 o2 g b1 b2 m m' (hget _ _ hy) (hget _ _ hz), fun y o hy => hw.lt y o (hget _ _ hy)⟩, ⟨φ.le_refl, Nat.le_refl _, fun x o g b1 n h1 h2 => .inr ⟨x, o, b1, n, hget _ _ h1, h2⟩, fun _ _ _ => rfl, fun _ h k => absurd k h⟩⟩
theorem appendA_ok {st st' : St} {w : World} {A : Array TypeId} {t t2 ty e : TypeId} {d : TypeDesc} {s x v : AVal} {us ux : Value} (hA0 : A[0]? = some t) (hA1 : A[1]? = some t2) (ht : P.underlying t = some (.slice e)) (ht2 : P.underlying t2 = some d) (hd : d = .string ∨ ∃ k, d = .slice k)
    (h : appendA P RO st e s x = some (v, st')) (hs : VRel φ s us) (hx : VRel φ x ux) (hw : WRel w0 φ st.heap st.next w) (hr : RRel w0 φ RO) :
    Out w0 φ st w v st' ((Builtin.append_ A ty #[us, ux]).run P w) := by
  unfold appendA at h
  split at h
  · rename_i size zero base len cap exact z n hsz hze hlx
    cases hc : (Nat.blt 65536 (len + n) || Nat.beq size 0 || Nat.blt 1048576 (P.bytesOf e) || !(exact || Nat.beq z size) || !(Nat.beq (lenL zero.cells 0) size)) with
    | true => rw [hc] at h; cases h
    | false =>
    rw [hc] at h
    simp only [cond_false] at h
    simp only [Bool.or_eq_false_iff, Bool.not_eq_false'] at hc
    obtain ⟨⟨⟨⟨c1, c2⟩, c3⟩, c4⟩, c5⟩ := hc
    have c1 : len + n ≤ 65536 := by
      rcases Nat.lt_or_ge 65536 (len + n) with hlt | hge
      · have : Nat.blt 65536 (len + n) = true := by simpa [Nat.blt_eq] using hlt
        rw [this] at c1; cases c1
      · exact hge
    have c2 : 0 < size := by
      rcases Nat.eq_zero_or_pos size with h0 | h0
      · subst h0; simp at c2
      · exact h0
    have c3 : P.bytesOf e ≤ 1048576 := by
      rcases Nat.lt_or_ge 1048576 (P.bytesOf e) with hlt | hge
      · have : Nat.blt 1048576 (P.bytesOf e) = true := by simpa [Nat.blt_eq] using hlt
        rw [this] at c3; cases c3
      · exact hge
    have c4 : exact = false → z = size := fun he => by rw [he] at c4; exact Nat.eq_of_beq_eq_true (by simpa using c4)
    have c5 := Nat.eq_of_beq_eq_true c5
    rw [lenL0] at c5
    obtain ⟨ie, zv, hie, hiz, hzr, _⟩ := zero_some (φ := φ) hze
    have hby : ie.bytes ≤ 1048576 := by unfold Program.bytesOf at c3; rw [hie] at c3; exact c3
    have hlen := lenSrc_ok (P := P) hlx hx w
    split at h
    · cases h
    · rename_i new hnew
      cases hone : oneA new with
      | false => rw [hone] at h; cases h
      | true =>
      rw [hone] at h
      simp only [Bool.not_true, cond_false] at h
      cases hfit : Nat.ble (len + n) cap with
      | true =>
        rw [hfit] at h
        simp only [cond_true] at h
        have hfit := Nat.le_of_ble_eq_true hfit
        obtain ⟨news, n1, n2⟩ := src_ok (P := P) hnew hlx (Nat.le_refl _) hx hw hr
        unfold putInA at h
        split at h
        · cases hb : Nat.beq (len + n) 0 with
          | false => rw [hb] at h; cases h
          | true =>
            rw [hb] at h
            cases h
            have h0 := Nat.eq_of_beq_eq_true hb
            cases hs with
            | slice0 =>
            have hn0 : n = 0 := by omega
            subst hn0
            exact ⟨_, w, run_append_in (ty := ty) (w' := w) hA0 hA1 ht ht2 hd hsz hlen n2 (Nat.le_refl _) rfl, φ, .slice0 _ _, hw, Step.refl _ _ _⟩
        · rename_i b o
          split at h
          · rename_i st1 hst1
            cases h
            cases hs with
            | slice _ _ _ _ _ g b0 nb cap' _ a hφ hl hcc hex hz ha =>
            obtain ⟨g2, b2, nb2, w', e1, e2, e3, e4⟩ := storeA_ok (P := P) hst1 hw n1
            obtain ⟨rfl, rfl, rfl⟩ : g = g2 ∧ b0 = b2 ∧ nb = nb2 := by rw [hφ] at e1; simpa using e1
            have hrel : VRel φ (.slice (some (b, o)) (len + n) cap exact size) (.slice (some a) (len + n) cap') := .slice _ _ _ _ _ g b0 nb _ _ _ hφ hfit hcc hex (fun he => by have := hz he; rw [c4 he] at this; exact this) ha
            rcases ha with ⟨rfl, hab⟩ | rfl
            · have h0 : len + n = 0 := by omega
              have hl0 : len = 0 := by omega
              have hn0 : n = 0 := by omega
              subst hl0 hn0
              have hlx2 : news.toList = [] := by
                have hnl := cells_len hnew hlx (Nat.le_refl _)
                have := n1.length
                exact List.eq_nil_of_length_eq_zero (by omega)
              have hw' : w' = w := by
                rw [hlx2] at e2
                have : (Result.ok () w : Result Unit) = .ok () w' := e2
                cases this; rfl
              subst hw'
              refine ⟨_, _, run_append_in (ty := ty) (w' := w') hA0 hA1 ht ht2 hd hsz hlen n2 (by omega) ?_, φ, hrel, e3, e4⟩
              rw [hlx2]; rfl
            · refine ⟨_, w', run_append_in (ty := ty) hA0 hA1 ht ht2 hd hsz hlen n2 (by omega) ?_, φ, hrel, e3, e4⟩
              show (storeCells ((⟨g, b0 + o, none⟩ : Addr).add (len * size)) news.toList).run P w = _
              rw [add_lit, Nat.add_assoc]; exact e2
          · cases h
      | false =>
        rw [hfit] at h
        simp only [cond_false] at h
        have hfit : ¬ len + n ≤ cap := fun hle => by rw [Nat.ble_eq_true_of_le hle] at hfit; cases hfit
        split at h
        · cases h
        · rename_i old hold
          have hwd := hw.drew
          obtain ⟨news, n1, n2⟩ := src_ok (P := P) hnew hlx (Nat.le_refl _) hx hwd hr
          obtain ⟨olds, o1, o2⟩ := src_ok (P := P) hold (m := len) rfl (Nat.le_refl _) hs hwd hr
          have hall : VRels φ (old ++ new) (olds ++ news).toList := by rw [Array.toList_append]; exact o1.append n1
          have grow : ∀ (base' : Option Addr) (sCap : Nat) (H : PT AObj), us = .slice base' len sCap → ¬ len + n ≤ sCap → WRel w0 φ H st.next w → Step φ st.heap w φ H w →
              Out w0 φ st w (.slice (some (st.next, 0)) (len + n) (len + n) false size) { heap := H.set st.next (some (.cells (old ++ new) e)), next := st.next + 1, log := st'.log } ((Builtin.append_ A ty #[us, ux]).run P w) := by
            intro base' sCap H hus hno hwH hstep
            subst hus
            have hr1 := run_append_up (ty := ty) hA0 hA1 ht ht2 hd hsz hie hiz hlen o2 n2 hno c1 hby
            have hge := grownCap_ge w (len + n) sCap e
            have hor := grown_cells (m := 0) (zs := Builtin.zeroCells zv.cells (grownCap w (len + n) sCap e - (len + n))) e hall
            have hor2 : ORel (φ.ext st.next (w.drew.heap.size, 0, (olds ++ news ++ Builtin.zeroCells zv.cells (grownCap w (len + n) sCap e - (len + n))).size)) (.cells (old ++ new) e) 0 _ _ := hor.mono (Phi.ext_le _ (hwH.fresh _ (Nat.le_refl _)))
            obtain ⟨i1, i2⟩ := new_ok (w := w.drew) (w' := w.drew.alloc (.cells (olds ++ news ++ Builtin.zeroCells zv.cells (grownCap w (len + n) sCap e - (len + n))) e)) hwH.drew rfl rfl rfl rfl hor2
            refine ⟨_, _, hr1, _, .slice _ _ _ _ _ w.heap.size 0 _ _ _ _ (Phi.ext_at _ _ _) (Nat.le_refl _) hge (by simp) (fun _ => ?_) (.inr rfl), i1, hstep.trans ((Step.drew H w).trans i2)⟩
            have hzc : zv.cells.size = size := by have := (cells_rel hzr).length; simp at this; omega
            have hos : olds.size = len * size := by have h1 := o1.length; rw [cells_len hold (m := len) rfl (Nat.le_refl _)] at h1; simpa using h1
            have hns : news.size = n * size := by have h1 := n1.length; rw [cells_len hnew hlx (Nat.le_refl _)] at h1; simpa using h1
            simp only [Array.size_append, size_zeroCells, hzc, hos, hns, ← Nat.add_mul]
            rw [show len + n + (grownCap w (len + n) sCap e - (len + n)) = grownCap w (len + n) sCap e by omega]
            omega
          rcases base with _ | ⟨b, o⟩
          · have h' : some (AVal.slice (some (st.next, 0)) (len + n) (len + n) false size, ({ heap := st.heap.set st.next (some (.cells (old ++ new) e)), next := Nat.succ st.next, log := st.log } : St)) = some (v, st') := by cases exact <;> exact h
            cases h'
            cases hs with
            | slice0 => exact grow none 0 st.heap rfl hfit hw (Step.refl _ _ _)
          · cases hexa : exact with
            | true =>
              subst hexa
              have h' : some (AVal.slice (some (st.next, 0)) (len + n) (len + n) false size, ({ heap := st.heap.set st.next (some (.cells (old ++ new) e)), next := Nat.succ st.next, log := st.log } : St)) = some (v, st') := h
              cases h'
              cases hs with
              | slice _ _ _ _ _ g b0 nb cap' _ a hφ hl hcc hex hz ha =>
              have := hex rfl
              exact grow (some a) cap' st.heap rfl (by omega) hw (Step.refl _ _ _)
            | false =>
            subst hexa
            unfold growA at h
            simp only at h
            split at h
            · rename_i l t hb
              cases h
              cases hs with
              | slice _ _ _ _ _ g b0 nb cap' _ a hφ hl hcc hex hz ha =>
              by_cases hin : len + n ≤ cap'
              · rcases ha with ⟨rfl, _⟩ | rfl
                · omega
                have hzz := c4 rfl
                subst hzz
                have hbd := hz rfl
                obtain ⟨g2, b2, nb2, x1, e1, e2, e3, e4⟩ := hw.obj_at hb rfl
                obtain ⟨rfl, rfl, rfl⟩ : g = g2 ∧ b0 = b2 ∧ nb = nb2 := by rw [hφ] at e1; simpa using e1
                cases e4 with
                | cells _ _ t' _ _ c fz hn hbl hrow hf =>
                subst hn
                obtain ⟨news', m1, m2⟩ := src_ok (P := P) hnew hlx (Nat.le_refl _) hx hw hr
                have hnn : news'.toList.length = n * z := by rw [m1.length]; exact cells_len hnew hlx (Nat.le_refl _)
                have hon : old.length = len * z := cells_len hold (m := len) rfl (Nat.le_refl _)
                have hbig : (len + n) * z ≤ cap' * z := Nat.mul_le_mul_right _ hin
                rw [Nat.add_mul] at hbig
                have hst := run_storeRow (P := P) g (b0 + (o + len * z)) t' fz news'.toList 0 c w e3 hf (by omega) (oneA_some hone m1)
                simp only [Nat.add_zero] at hst
                have hslice : slicedL l o (len * z) = some old := by
                  unfold cellsOfSrc at hold
                  simp only [rd, hb] at hold
                  exact hold
                obtain ⟨hold2, hle2⟩ := slicedL_some hslice
                have hor : ORel φ (.cells (old ++ new) e) (b0 + o) c.size (.cells (c.toList.take (b0 + (o + len * z)) ++ news'.toList ++ c.toList.drop (b0 + (o + len * z) + news'.toList.length)).toArray t' fz) := by
                  refine .cells _ _ _ _ _ _ _ (by simp at hnn ⊢; omega) (by rw [List.length_append, hon, cells_len hnew hlx (Nat.le_refl _)]; omega) ?_ hf
                  have hol : VRels φ old ((c.toList.drop (b0 + o)).take (len * z)) := by
                    rw [hold2]
                    have := (hrow.drop o).take (len * z)
                    refine VRels.of_get (by simp; omega) fun i v hi => ?_
                    obtain ⟨u, f1, f2⟩ := this.get hi
                    refine ⟨u, ?_, f2⟩
                    have hil : i < len * z := by
                      have := (List.getElem?_eq_some_iff.1 hi).1
                      simp at this; omega
                    rw [List.getElem?_take_of_lt hil, List.getElem?_drop] at f1 ⊢
                    rw [List.getElem?_take_of_lt (by omega), List.getElem?_drop] at f1
                    rw [Nat.add_assoc]; exact f1
                  have hall2 := hol.append m1
                  have heq : (c.toList.drop (b0 + o)).take (len * z) ++ news'.toList = (((c.toList.take (b0 + (o + len * z)) ++ news'.toList ++ c.toList.drop (b0 + (o + len * z) + news'.toList.length)).toArray.toList.drop (b0 + o)).take (old ++ new).length) := by
                    have eX : ((c.toList.drop (b0 + o)).take (len * z)).length = len * z := by simp; omega
                    have e1 : (c.toList.take (b0 + (o + len * z))).drop (b0 + o) = (c.toList.drop (b0 + o)).take (len * z) := by rw [List.drop_take]; congr 1; omega
                    have e2 : (old ++ new).length = ((c.toList.drop (b0 + o)).take (len * z)).length + news'.toList.length := by rw [eX, hnn, List.length_append, hon, cells_len hnew hlx (Nat.le_refl _)]
                    rw [List.toList_toArray, List.append_assoc, List.drop_append_of_le_length (by simp; omega), e1, e2, List.take_length_add_append, List.take_left]
                  rw [← heq]
                  exact hall2
                obtain ⟨i1, i2⟩ := graft_ok (b1 := b0 + o) hw hb hφ (setRow_size w g _) (setRow_heap w g c _ t' fz e3) (fun k hk => setRow_other w g _ k hk) rfl rfl rfl (hor.mono (Phi.ext_le _ (hw.fresh _ (Nat.le_refl _))))
                refine ⟨_, _, run_append_in (ty := ty) (w' := w.setRow g (c.toList.take (b0 + (o + len * z)) ++ news'.toList ++ c.toList.drop (b0 + (o + len * z) + news'.toList.length)).toArray) hA0 hA1 ht ht2 hd hsz hlen m2 hin ?_, _, .slice _ _ _ _ _ g (b0 + o) c.size _ _ _ (Phi.ext_at _ _ _) (Nat.le_refl _) hin (by simp) (fun _ => by omega) (.inr rfl), i1, i2⟩
                show (storeCells ((⟨g, b0 + o, none⟩ : Addr).add (len * z)) news'.toList).run P w = _
                rw [add_lit, Nat.add_assoc]; exact hst
              · obtain ⟨k1, k2⟩ := kill_ok hw b
                exact grow (some a) cap' _ rfl hin k1 k2
            · cases h
  · cases h
theorem copyA_ok {st st' : St} {w : World} {t t2 ty e : TypeId} {dv x v : AVal} {ud ux : Value} (ht : P.underlying t = some (.slice e))
    (h : copyA P RO st e dv x = some (v, st')) (hs : VRel φ dv ud) (hx : VRel φ x ux) (hw : WRel w0 φ st.heap st.next w) (hr : RRel w0 φ RO) (args : Array TypeId) (ha : args[0]? = some t) :
    Out w0 φ st w v st' ((Builtin.copy_ args ty #[ud, ux]).run P w) := by
  unfold copyA at h
  split at h
  · rename_i size base len cap ex z m hsz hlx
    have hlen := lenSrc_ok (P := P) hlx hx w
    have hmin : (bif Nat.ble m len then m else len) = Nat.min m len := by
      cases hb : Nat.ble m len with
      | true => have := Nat.le_of_ble_eq_true hb; show m = min m len; omega
      | false =>
        have : ¬ m ≤ len := fun hle => by rw [Nat.ble_eq_true_of_le hle] at hb; cases hb
        show len = min m len; omega
    rw [hmin] at h
    dsimp only at h
    have hnm : Nat.min m len ≤ m := Nat.min_le_left _ _
    split at h
    · cases h
    · rename_i cs hcs
      obtain ⟨news, n1, n2⟩ := src_ok (P := P) hcs hlx hnm hx hw hr
      split at h
      · cases h
        cases hs with
        | slice0 =>
        have n3 : (Builtin.firstCells size 0 ux).run P w = .ok news w := by have := n2; rwa [show m.min 0 = 0 from Nat.min_zero m] at this
        exact ⟨_, w, by simp [Builtin.copy_, ha, run_und ht, run_size hsz, hlen, n3, goInt], φ, .int _ _, hw, Step.refl _ _ _⟩
      · split at h
        · rename_i st1 hst1
          cases h
          cases hs with
          | slice b o _ _ _ g b0 nb cap' _ a hφ hl hcc hex hz haa =>
          obtain ⟨g2, b2, nb2, w', e1, e2, e3, e4⟩ := storeA_ok (P := P) hst1 hw n1
          obtain ⟨rfl, rfl, rfl⟩ : g = g2 ∧ b0 = b2 ∧ nb = nb2 := by rw [hφ] at e1; simpa using e1
          rcases haa with ⟨rfl, hab⟩ | rfl
          · have hl0 : len = 0 := by omega
            subst hl0
            have hnl := cells_len hcs hlx hnm
            have hnews : news.toList = [] := by
              have := n1.length
              have h0 : Nat.min m 0 = 0 := Nat.min_zero _
              rw [h0] at hnl
              exact List.eq_nil_of_length_eq_zero (by omega)
            have hw' : w' = w := by
              rw [hnews] at e2
              have : (Result.ok () w : Result Unit) = .ok () w' := e2
              cases this; rfl
            subst hw'
            have e5 : (storeCells a news.toList).run P w' = .ok () w' := by rw [hnews]; rfl
            have n3 : (Builtin.firstCells size 0 ux).run P w' = .ok news w' := by have := n2; rwa [show m.min 0 = 0 from Nat.min_zero m] at this
            exact ⟨_, w', by simp [Builtin.copy_, ha, run_und ht, run_size hsz, hlen, n3, goInt, e5], φ, .int _ _, e3, e4⟩
          · exact ⟨_, w', by simp [Builtin.copy_, ha, run_und ht, run_size hsz, hlen, n2, goInt, e2], φ, .int _ _, e3, e4⟩
        · cases h
  · cases h
end
end Go.Proofs.Ytcofcojjofkgcaa.Abs
namespace Go.Proofs.Ytcofcojjofkgcaa.Abs
open Go Go.RowKit
set_option linter.unusedVariables false
def vals (l : List UInt8) : List Value := l.map fun c => Value.int .u8 (c.toNat : Int)
theorem vals_length (l : List UInt8) : (vals l).length = l.length := by simp [vals]
theorem andP_ok {ob : OP} {q : Prop} (h : (andP ob q).ok) : ob.ok ∧ q := by
  cases ob with
  | none => exact ⟨trivial, h⟩
  | some p => exact h
section
variable {w0 : World} {φ : Phi} {P : Program} {RO : PT AObj}
theorem bytesS_rel : ∀ {l : List AVal} {q : List UInt8} {us : List Value}, bytesS l = some q → VRels φ l us → us = vals q
  | [], q, us, h, hr => by cases h; cases hr; rfl
  | v :: l, q, us, h, hr => by
    cases hr with
    | cons _ u _ us h1 h2 =>
    unfold bytesS at h
    split at h
    · rename_i z r hz hr'
      cases h
      obtain ⟨rfl, hin⟩ := asR_rel hz h1
      rw [bytesS_rel hr' h2]
      show _ = Value.int .u8 _ :: _
      rw [u8_back hin]; rfl
    · cases h
theorem vals_rel (l : List UInt8) : VRels φ (l.map fun c => AVal.int .u8 (c.toNat : Int)) (vals l) := by
  induction l with
  | nil => exact .nil
  | cons c l ih => exact .cons _ _ _ _ (.int _ _) ih
theorem rel_vals {l : List UInt8} {us : List Value} (h : VRels φ (l.map fun c => AVal.int .u8 (c.toNat : Int)) us) : us = vals l := by
  induction l generalizing us with
  | nil => cases h; rfl
  | cons c l ih => cases h with | cons _ u _ us hu hs => cases hu; rw [ih hs]; rfl
/-- an object of bytes: its cells in the block -/
theorem objB_cells {ob : AObj} {o n b0 nb : Nat} {x : Obj} {op : OP} {l : List UInt8} (h : objB o n (some ob) = some (op, l)) (hop : op.ok) (hx : ORel φ ob b0 nb x) :
    l.length = n ∧ ∃ (L : List UInt8) (c : Array Value) (t' : TypeId) (fz : Nat × Nat), x = .cells c t' fz ∧ c.size = nb ∧ b0 + L.length ≤ nb ∧ (c.toList.drop b0).take L.length = vals L ∧ (fz.1 = fz.2 ∨ nb ≤ fz.1) ∧ o + n ≤ L.length ∧ l = (L.drop o).take n ∧ objN ob = L.length := by
  unfold objB at h
  split at h
  · rename_i L t he
    cases h
    have hop : o + n ≤ L.length := hop
    cases he
    cases hx with
    | sbytes _ _ _ _ _ hx =>
    cases hx with
    | cells _ _ t' _ _ c fz hn hb hr hf =>
    rw [List.length_map] at hb hr
    refine ⟨by simp; omega, L, c, t', fz, rfl, hn, hb, rel_vals hr, hf, hop, rfl, rfl⟩
  · rename_i cs t he
    split at h
    · rename_i L hL
      cases h
      have hop : o + n ≤ L.length := hop
      cases he
      cases hx with
      | cells _ _ t' _ _ c fz hn hb hr hf =>
      have hv := bytesS_rel hL hr
      have hlen : cs.length = L.length := by have := hr.length; rw [hv, vals_length] at this; exact this.symm
      rw [hlen] at hb hv
      exact ⟨by simp; omega, L, c, t', fz, rfl, hn, hb, hv, hf, hop, rfl, by show lenL cs 0 = _; rw [lenL0, hlen]⟩
    · cases h
  · cases h
theorem objB_read {ob : AObj} {o n b0 nb : Nat} {x : Obj} {op : OP} {l : List UInt8} (h : objB o n (some ob) = some (op, l)) (hop : op.ok) (hx : ORel φ ob b0 nb (thaw x)) :
    l.length = n ∧ ∃ (L : List UInt8) (c : Array Value) (t' : TypeId) (fz : Nat × Nat), x = .cells c t' fz ∧ c.size = nb ∧ b0 + L.length ≤ nb ∧ (c.toList.drop b0).take L.length = vals L ∧ o + n ≤ L.length ∧ l = (L.drop o).take n := by
  obtain ⟨h1, L, c, t', fz, h2, h3, h4, h5, h6, h7, h8, h9⟩ := objB_cells h hop hx
  cases x with
  | cells c2 t2 fz2 => cases h2; exact ⟨h1, L, _, _, _, rfl, h3, h4, h5, h7, h8⟩
  | _ => cases h2
theorem objB_nul {ob : AObj} {o n : Nat} {op : OP} {l : List UInt8} (h : objB o n (some ob) = some (op, l)) (hop : op.ok) (hn : ob.nul = true) : n = 0 ∧ l = [] := by
  unfold objB at h
  split at h
  · rename_i L t he
    cases h
    have hop : o + n ≤ L.length := hop
    cases he
    cases L with
    | nil => simp at hop; exact ⟨by omega, by simp⟩
    | cons _ _ => cases hn
  · rename_i cs t he
    cases he; cases hn
  · cases h
theorem cells_at {c : Array Value} {b0 o n j : Nat} {L : List UInt8} (h : (c.toList.drop b0).take L.length = vals L) (hon : o + n ≤ L.length) : (c.toList.drop (b0 + o)).take n = vals ((L.drop o).take n) := by
  have h2 := congrArg (fun q => (q.drop o).take n) h
  simp only [vals, ← List.map_drop, ← List.map_take] at h2 ⊢
  rw [← h2, List.drop_take, List.take_take, List.drop_drop, Nat.min_eq_left (by omega)]
/-- the bytes of a source -/
theorem srcB_ok {st : St} {w : World} {x : AVal} {u : Value} {op : OP} {l : List UInt8} (h : srcB RO st x = some (op, l)) (hop : op.ok) (hx : VRel φ x u) (hw : WRel w0 φ st.heap st.next w) (hr : RRel w0 φ RO) :
    l.length = lenB x ∧ (∀ w', (Builtin.lenOf u).run P w' = .ok l.length w') ∧ ∀ k, k ≤ l.length → (Builtin.firstCells 1 k u).run P w = .ok ((vals l).take k).toArray w := by
  have core : ∀ (o n cap : Nat) (a : Addr) (g b0 nb : Nat) (ob : AObj) (op' : OP) (x' : Obj), u = .slice (some a) n cap → n ≤ cap → ((cap = 0 ∧ a.block = g) ∨ a = ⟨g, b0 + o, none⟩) → objB o n (some ob) = some (op', l) → op'.ok → w.heap[g]? = some x' → ORel φ ob b0 nb (thaw x') →
      l.length = n ∧ (∀ w', (Builtin.lenOf u).run P w' = .ok l.length w') ∧ ∀ k, k ≤ l.length → (Builtin.firstCells 1 k u).run P w = .ok ((vals l).take k).toArray w := fun o n cap a g b0 nb ob op' x' hu hcap ha ho hop e2 e3 => by
    subst hu
    obtain ⟨h1, L, c, t', fz, rfl, h3, h4, h5, h7, h8⟩ := objB_read ho hop e3
    refine ⟨h1, fun w' => by rw [h1]; rfl, fun k hk => ?_⟩
    rcases ha with ⟨rfl, _⟩ | rfl
    · have : k = 0 := by omega
      subst this
      simp [Builtin.firstCells, loadCells, loadCellsFrom]
    · have hat : ∀ j u, ((vals l).take k)[j]? = some u → w.cell? ((⟨g, b0 + o, none⟩ : Addr).add j) = some u := fun j u hj => by
        rw [add_lit]
        have hjk : j < k := by have := (List.getElem?_eq_some_iff.1 hj).1; simp at this; omega
        have h9 := cells_at (j := 0) h5 h7
        rw [← h8] at h9
        rw [List.getElem?_take_of_lt hjk, ← h9, List.getElem?_take_of_lt (by omega), List.getElem?_drop] at hj
        unfold World.cell?
        simp only [e2]
        simp only [Option.isSome_none, Bool.false_eq_true, if_false]
        rw [← Array.getElem?_toList]
        exact hj
      have := run_loadCells_list (P := P) w ⟨g, b0 + o, none⟩ _ hat
      rw [List.length_take, vals_length, Nat.min_eq_left hk] at this
      simpa [Builtin.firstCells] using this
  have real : ∀ (b o n len cap : Nat) (a : Addr) (g b0 nb : Nat), lenB x = n → u = .slice (some a) n cap → n ≤ cap → φ b = some (g, b0, nb) → ((cap = 0 ∧ a.block = g) ∨ a = ⟨g, b0 + o, none⟩) → objB o n (rd RO st b) = some (op, l) →
      l.length = lenB x ∧ (∀ w', (Builtin.lenOf u).run P w' = .ok l.length w') ∧ ∀ k, k ≤ l.length → (Builtin.firstCells 1 k u).run P w = .ok ((vals l).take k).toArray w := fun b o n len cap a g b0 nb hlen hu hcap hφ ha ho => by
    cases hrd : rd RO st b with
    | none => rw [hrd] at ho; cases ho
    | some ob =>
    rw [hrd] at ho
    rcases rd_some' hrd hw hr with hn | ⟨g', b0', nb', x', e1, e2, e3⟩
    · subst hu
      obtain ⟨rfl, rfl⟩ := objB_nul ho hop hn
      refine ⟨by rw [hlen]; rfl, fun w' => rfl, fun k hk => ?_⟩
      have : k = 0 := by simpa using hk
      subst this
      simp [Builtin.firstCells, loadCells, loadCellsFrom]
    · obtain ⟨rfl, rfl, rfl⟩ : g = g' ∧ b0 = b0' ∧ nb = nb' := by rw [hφ] at e1; simpa using e1
      rw [hlen]
      exact core o n cap a g b0 nb ob op x' hu hcap ha ho hop e2 e3
  have text : ∀ s : ByteArray, u = .string s → s.data.toList = l → (∀ w', (Builtin.lenOf u).run P w' = .ok l.length w') ∧ ∀ k, k ≤ l.length → (Builtin.firstCells 1 k u).run P w = .ok ((vals l).take k).toArray w := fun s hu hl => by
    subst hu
    subst hl
    refine ⟨fun w' => by rw [Array.length_toList]; rfl, fun k hk => ?_⟩
    show Result.ok ((s.extract 0 k).data.map fun b => Value.int .u8 b.toNat) w = _
    congr 1
    apply Array.toList_inj.1
    rw [Array.toList_map, ByteArray.data_extract, Array.toList_extract, List.extract_eq_take_drop]
    simp [vals, List.map_take]
  unfold srcB at h
  split at h
  · cases h
    cases hx
    exact ⟨rfl, fun w' => rfl, fun k hk => by simp at hk; subst hk; simp [Builtin.firstCells]⟩
  · rename_i b o n c ex z
    cases hx with
    | slice _ _ _ _ _ g b0 nb cap _ a hφ hl hc hex hz ha => exact real b o n n cap a g b0 nb rfl rfl (by omega) hφ ha h
  · rename_i b o n c ex z
    cases hx with
    | sslice _ _ _ _ _ g b0 nb cap _ a hφ hl hc hex hz ha => exact real b o n n cap a g b0 nb rfl rfl (by omega) hφ ha h
    | semp _ A c' _ =>
      have hl : l = [] := by
        cases hrd : rd RO st b with
        | none => rw [hrd] at h; cases h
        | some ob =>
          rw [hrd] at h
          unfold objB at h
          split at h
          · cases h; simp
          · split at h
            · cases h; simp
            · cases h
          · cases h
      subst hl
      refine ⟨rfl, fun w' => rfl, fun k hk => ?_⟩
      have : k = 0 := by simpa using hk
      subst this
      cases A <;> simp [Builtin.firstCells, loadCells, loadCellsFrom]
    | snil =>
      have hl : l = [] := by
        cases hrd : rd RO st b with
        | none => rw [hrd] at h; cases h
        | some ob =>
          rw [hrd] at h
          unfold objB at h
          split at h
          · cases h; simp
          · split at h
            · cases h; simp
            · cases h
          · cases h
      subst hl
      exact ⟨rfl, fun w' => rfl, fun k hk => by simp at hk; subst hk; simp [Builtin.firstCells]⟩
  · rename_i l'
    cases h
    cases hx with
    | str s => exact ⟨by simp [lenB], text s rfl (toNat_ofNat_map _).symm⟩
  · cases h
    cases hx with
    | sstr s => exact ⟨rfl, text s rfl rfl⟩
  · rename_i l'
    cases h
    cases hx with
    | pemp A c =>
      refine ⟨rfl, fun w' => rfl, fun k hk => ?_⟩
      have : k = 0 := by simpa using hk
      subst this
      cases A <;> simp [Builtin.firstCells, loadCells, loadCellsFrom]
    | pbytes _ L oo g b n c hφ hl hlo hc =>
      obtain ⟨n', x', e1, e2, e3⟩ := hw.pool g b L _ hφ
      have hob : objB oo l.length (some (.sbytes L 0)) = some (some (oo + l.length ≤ L.length), l) := by
        show some (_, _) = _
        rw [← hl]
      exact core oo l.length c _ g b n' _ _ x' rfl hc (.inr rfl) hob hlo e2 e3
  · cases h
/-- a row of none comes in, that stands nowhere -/
theorem nul_ok {H : PT AObj} {next : Nat} {w : World} (hw : WRel w0 φ H next w) {o : AObj} (ho : o.nul = true) : WRel w0 φ (H.set next (some o)) (next + 1) w ∧ Step φ H w φ (H.set next (some o)) w := by
  have hf := hw.fresh _ (Nat.le_refl _)
  refine with_pool hw (fun _ _ _ => rfl) ?_
  refine ⟨⟨hw.below, fun x hx => hw.fresh x (by omega), fun x ob hx => ?_, fun x y ob ob' g b b' n n' hx hy h1 h2 => ?_, fun x ob hx => ?_⟩, ⟨φ.le_refl, Nat.le_refl _, fun x ob g b n hx h1 => ?_, fun _ _ _ => rfl, fun _ h k => absurd k h⟩⟩
  · rw [PT.get_set] at hx
    split at hx
    · cases hx; rename_i h; subst h; exact .inl ⟨hf, ho⟩
    · exact hw.obj x ob hx
  · rw [PT.get_set] at hx hy
    split at hx
    · rename_i h; subst h; rw [hf] at h1; cases h1
    · split at hy
      · rename_i h; subst h; rw [hf] at h2; cases h2
      · exact hw.inj x y ob ob' g b b' n n' hx hy h1 h2
  · rw [PT.get_set] at hx
    split at hx
    · omega
    · have := hw.lt x ob hx; omega
  · rw [PT.get_set] at hx
    split at hx
    · rename_i h; subst h; rw [hf] at h1; cases h1
    · exact .inr ⟨x, ob, b, n, hx, h1⟩
theorem sbytes_cells {l : List UInt8} {t t' : TypeId} {b n : Nat} {c : Array Value} {fz : Nat × Nat} (hn : c.size = n) (hb : b + l.length ≤ n) (h : (c.toList.drop b).take l.length = vals l) (hf : fz.1 = fz.2 ∨ n ≤ fz.1) : ORel φ (.sbytes l t) b n (.cells c t' fz) := by
  refine .sbytes _ _ _ _ _ (.cells _ _ _ _ _ _ _ hn (by rwa [List.length_map]) ?_ hf)
  rw [List.length_map, h]
  exact vals_rel l
theorem room_ok {ex : Bool} {cap : Nat} {ob : OP} (h : (room ex cap ob).ok) : ob.ok := by
  cases ex with
  | true => exact (andP_ok h).1
  | false => exact h
theorem room_cap {ex : Bool} {cap : Nat} {ob : OP} (h : (room ex cap ob).ok) (he : ex = true) : 0 < cap := by
  subst he; exact (andP_ok h).2
theorem byteT_some {e : TypeId} (h : byteT P e = true) : P.underlying e = some (.int .u8) ∧ sizeA P e = some 1 ∧ ∃ i, P.info? e = some i ∧ i.zero = some (.int .u8 0) ∧ i.bytes ≤ 1048576 := by
  unfold byteT at h
  rw [Bool.and_eq_true, Bool.and_eq_true] at h
  obtain ⟨⟨h1, h2⟩, h3⟩ := h
  split at h3
  · rename_i z hz hs
    obtain ⟨i, z', hi, hiz, hzr, _⟩ := zero_some (φ := fun _ => none) hz
    have hby : P.bytesOf e = i.bytes := by unfold Program.bytesOf; rw [hi]; rfl
    have hib := Nat.le_of_ble_eq_true h2
    rw [hby] at hib
    refine ⟨u8_some h1, hs, i, hi, ?_, hib⟩
    unfold zeroIs at h3
    split at h3
    · rename_i k z2
      cases hzr
      rw [Bool.and_eq_true, intBeq_eq] at h3
      obtain rfl := kindEq_eq _ _ h3.1
      have : z2 = 0 := by simpa using h3.2
      rw [hiz, this]
    · cases h3
  · cases h3
theorem vals_one (l : List UInt8) : ∀ v ∈ vals l, v.oneCell' = true := fun v hv => by
  simp [vals] at hv
  obtain ⟨c, _, rfl⟩ := hv
  rfl
theorem vals_append (l m : List UInt8) : vals (l ++ m) = vals l ++ vals m := by simp [vals]
theorem appendB_ok {st st' : St} {w : World} {A : Array TypeId} {t t2 ty e : TypeId} {d : TypeDesc} {s x v : AVal} {us ux : Value} {op : OP} (hA0 : A[0]? = some t) (hA1 : A[1]? = some t2) (ht : P.underlying t = some (.slice e)) (ht2 : P.underlying t2 = some d) (hd : d = .string ∨ ∃ k, d = .slice k)
    (h : appendB P RO st e s x = some (op, v, st')) (hop : op.ok) (hs : VRel φ s us) (hx : VRel φ x ux) (hw : WRel w0 φ st.heap st.next w) (hr : RRel w0 φ RO) :
    Out w0 φ st w v st' ((Builtin.append_ A ty #[us, ux]).run P w) := by
  unfold appendB at h
  cases hc : byteT P e with
  | false => rw [hc] at h; cases h
  | true =>
  rw [hc] at h
  simp only [cond_true] at h
  obtain ⟨hu8, hsz, ie, hie, hiz, hby⟩ := byteT_some hc
  cases hsrc : srcB RO st x with
  | none => rw [hsrc] at h; cases h
  | some q =>
  obtain ⟨ob, new⟩ := q
  rw [hsrc] at h
  dsimp only at h
  have up : ∀ (base' : Option Addr) (len sCap : Nat) (old : List UInt8) (H : PT AObj) (lg : List Nat), ob.ok → old.length = len → len + lenB x ≤ 65536 → us = .slice base' len sCap → ¬ len + lenB x ≤ sCap → (Builtin.firstCells 1 len us).run P w.drew = .ok (vals old).toArray w.drew → WRel w0 φ H st.next w → Step φ st.heap w φ H w →
      Out w0 φ st w (.sslice (st.next, 0) (len + lenB x) (len + lenB x) false 1) { heap := H.set st.next (some (.sbytes (old ++ new) e)), next := st.next + 1, log := lg } ((Builtin.append_ A ty #[us, ux]).run P w) := by
    intro base' len sCap old H lg hob hol hsm hus hno hof hwH hstep
    obtain ⟨n1, n2, n3⟩ := srcB_ok (P := P) hsrc hob hx hw hr
    obtain ⟨_, _, n4⟩ := srcB_ok (P := P) hsrc hob hx hw.drew hr
    have n4 := n4 _ (Nat.le_refl _)
    rw [List.take_of_length_le (by rw [vals_length]; exact Nat.le_refl _), n1] at n4
    have n2 := n2 w
    rw [n1] at n2
    subst hus
    have hr1 := run_append_up (ty := ty) hA0 hA1 ht ht2 hd hsz hie hiz n2 hof n4 hno hsm hby
    have hge := grownCap_ge w (len + lenB x) sCap e
    have hnx := hwH.fresh _ (Nat.le_refl st.next)
    have hcs : ((vals old).toArray ++ (vals new).toArray ++ Builtin.zeroCells (Value.int .u8 0).cells (grownCap w (len + lenB x) sCap e - (len + lenB x))).size = grownCap w (len + lenB x) sCap e := by
      have hzc : (Value.int .u8 0).cells.size = 1 := rfl
      simp only [Array.size_append, size_zeroCells, hzc, List.size_toArray, vals_length, hol, n1]
      omega
    have hor : ORel (φ.ext st.next (w.drew.heap.size, 0, ((vals old).toArray ++ (vals new).toArray ++ Builtin.zeroCells (Value.int .u8 0).cells (grownCap w (len + lenB x) sCap e - (len + lenB x))).size)) (.sbytes (old ++ new) e) 0 ((vals old).toArray ++ (vals new).toArray ++ Builtin.zeroCells (Value.int .u8 0).cells (grownCap w (len + lenB x) sCap e - (len + lenB x))).size (.cells ((vals old).toArray ++ (vals new).toArray ++ Builtin.zeroCells (Value.int .u8 0).cells (grownCap w (len + lenB x) sCap e - (len + lenB x))) e (0, 0)) := by
      refine sbytes_cells rfl (by rw [hcs, List.length_append, hol, n1]; omega) ?_ (.inl rfl)
      rw [List.drop_zero, Array.toList_append, Array.toList_append, List.toList_toArray, List.toList_toArray, ← vals_append, List.take_append_of_le_length (by rw [vals_length]; exact Nat.le_refl _), List.take_of_length_le (by rw [vals_length]; exact Nat.le_refl _)]
    obtain ⟨i1, i2⟩ := new_ok (w := w.drew) (w' := w.drew.alloc (.cells ((vals old).toArray ++ (vals new).toArray ++ Builtin.zeroCells (Value.int .u8 0).cells (grownCap w (len + lenB x) sCap e - (len + lenB x))) e)) hwH.drew rfl rfl rfl rfl hor
    refine ⟨_, _, hr1, _, VRel.sslice st.next 0 (len + lenB x) (len + lenB x) 1 w.drew.heap.size 0 ((vals old).toArray ++ (vals new).toArray ++ Builtin.zeroCells (Value.int .u8 0).cells (grownCap w (len + lenB x) sCap e - (len + lenB x))).size (grownCap w (len + lenB x) sCap e) false ⟨w.heap.size, 0, none⟩ (Phi.ext_at _ _ _) (Nat.le_refl _) hge (by simp) (fun _ => ?_) (.inr rfl), i1, hstep.trans ((Step.drew H w).trans i2)⟩
    rw [hcs]; omega
  have nil : ∀ (H : PT AObj) (lg : List Nat), ob.ok → lenB x ≤ 65536 → us = .slice none 0 0 → WRel w0 φ H st.next w → Step φ st.heap w φ H w → Out w0 φ st w (.sslice (st.next, 0) (0 + lenB x) (0 + lenB x) false 1) { heap := H.set st.next (some (.sbytes ([] ++ new) e)), next := st.next + 1, log := lg } ((Builtin.append_ A ty #[us, ux]).run P w) := by
    intro H lg hob hsm hus hwH hstep
    by_cases h0 : lenB x = 0
    · obtain ⟨n1, n2, n3⟩ := srcB_ok (P := P) hsrc hob hx hw hr
      have hnew : new = [] := List.eq_nil_of_length_eq_zero (by omega)
      subst hnew
      have n3 := n3 0 (Nat.le_refl _)
      have n2 := n2 w
      rw [h0]
      subst hus
      obtain ⟨i1, i2⟩ := nul_ok hwH (o := .sbytes [] e) rfl
      exact ⟨_, w, run_append_in (ty := ty) (w' := w) hA0 hA1 ht ht2 hd hsz n2 n3 (Nat.le_refl _) rfl, φ, .snil _ _ _, i1, hstep.trans i2⟩
    · refine up none 0 0 [] H lg hob rfl (by omega) hus (by omega) ?_ hwH hstep
      subst hus
      simp [Builtin.firstCells, vals]
  have go : ∀ (ob' : OP) (b o len cap z : Nat) (ex : Bool), (ob'.ok → ob.ok) → (s = .slice (some (b, o)) len cap ex z ∨ (s = .sslice (b, o) len cap ex z ∧ (ob'.ok → ex = true → 0 < cap))) → appendG st e (lenB x) ob' new b o len cap ex z = some (op, v, st') → Out w0 φ st w v st' ((Builtin.append_ A ty #[us, ux]).run P w) := by
    intro ob' b o len cap z ex hob'' hsv h
    unfold appendG at h
    split at h
    · cases h
    · rename_i obj hb
      split at h
      · cases h
      · rename_i ob2 old hold
        cases hz1 : Nat.beq z 1 with
        | false => rw [hz1] at h; cases h
        | true =>
        obtain rfl := Nat.eq_of_beq_eq_true hz1
        rw [hz1] at h
        cases h
        obtain ⟨hob', hob2, hsm, hexc⟩ := andP_ok hop
        have hob := hob'' hob'
        obtain ⟨k1, k2⟩ := kill_ok hw b
        have hsS : srcB RO st s = some (ob2, old) := by rcases hsv with rfl | ⟨rfl, _⟩ <;> (show objB o len (rd RO st b) = _; unfold rd; rw [hb]; exact hold)
        have hlS : lenB s = len := by rcases hsv with rfl | ⟨rfl, _⟩ <;> rfl
        obtain ⟨s1, s2, s3⟩ := srcB_ok (P := P) hsS hob2 hs hw.drew hr
        rw [hlS] at s1
        have s3 := s3 _ (Nat.le_refl _)
        rw [List.take_of_length_le (by rw [vals_length]; exact Nat.le_refl _), s1] at s3
        have real : ∀ (g b0 nb cap' : Nat) (a : Addr), us = .slice (some a) len cap' → φ b = some (g, b0, nb) → len ≤ cap → cap ≤ cap' → (ex = true → cap' = cap) → (ex = false → b0 + o + cap' * 1 ≤ nb) → ((cap' = 0 ∧ a.block = g) ∨ a = ⟨g, b0 + o, none⟩) →
            Out w0 φ st w (.sslice (st.next, 0) (len + lenB x) (len + lenB x) false 1) { heap := (st.heap.set b none).set st.next (some (.sbytes (old ++ new) e)), next := Nat.succ st.next, log := b :: st.log } ((Builtin.append_ A ty #[us, ux]).run P w) := by
          intro g b0 nb cap' a hus hφ hlc hcc hex hzb ha
          by_cases hin : len + lenB x ≤ cap'
          · obtain ⟨n1, q2, q3⟩ := srcB_ok (P := P) hsrc hob hx hw hr
            have n3 := q3 _ (Nat.le_refl _)
            rw [List.take_of_length_le (by rw [vals_length]; exact Nat.le_refl _), n1] at n3
            have n2 := q2 w
            rw [n1] at n2
            clear q2 q3
            obtain ⟨g', b0', nb', x', e1, e2, e3, e4⟩ := hw.obj_of hb hφ
            obtain ⟨rfl, rfl, rfl⟩ : g = g' ∧ b0 = b0' ∧ nb = nb' := by rw [hφ] at e1; simpa using e1
            obtain ⟨h1, L, c, t', fz, rfl, h3, h4, h5, h6, h7, h8, h9⟩ := objB_cells hold hob2 e4
            have hbd : b0 + o + cap' ≤ nb := by
              cases hexb : ex with
              | true => have := hex hexb; have := hexc hexb; omega
              | false => have := hzb hexb; omega
            have hst := run_storeRow (P := P) g (b0 + (o + len)) t' fz (vals new) 0 c w e3 (by rw [h3]; exact h6) (by rw [vals_length]; omega) (vals_one new)
            simp only [Nat.add_zero] at hst
            have hcell := cells_at (j := 0) h5 h7
            rw [← h8] at hcell
            have hor : ORel (φ.ext st.next (g, b0 + o, nb)) (.sbytes (old ++ new) e) (b0 + o) nb (.cells (c.toList.take (b0 + (o + len)) ++ vals new ++ c.toList.drop (b0 + (o + len) + (vals new).length)).toArray t' fz) := by
              refine sbytes_cells (by simp [vals_length]; omega) (by rw [List.length_append]; omega) ?_ h6
              have eX : ((c.toList.drop (b0 + o)).take len).length = len := by rw [hcell, vals_length]; exact s1
              have e1 : (c.toList.take (b0 + (o + len))).drop (b0 + o) = (c.toList.drop (b0 + o)).take len := by rw [List.drop_take]; congr 1; omega
              have e2 : (old ++ new).length = ((c.toList.drop (b0 + o)).take len).length + (vals new).length := by rw [eX, vals_length, List.length_append, s1]
              rw [List.toList_toArray, List.append_assoc, List.drop_append_of_le_length (by simp; omega), e1, e2, List.take_length_add_append, List.take_left, hcell, vals_append]
            subst hus
            rcases ha with ⟨rfl, hab⟩ | rfl
            · have hl0 : len = 0 := by omega
              have hx0 : lenB x = 0 := by omega
              have hnew : new = [] := List.eq_nil_of_length_eq_zero (by omega)
              have hold0 : old = [] := List.eq_nil_of_length_eq_zero (by omega)
              subst hnew hold0 hl0
              have hor0 : ORel (φ.ext st.next (g, b0 + o, nb)) (.sbytes ([] ++ []) e) (b0 + o) nb (.cells c t' fz) := sbytes_cells h3 (by simp; omega) (by simp [vals]) h6
              obtain ⟨i1, i2⟩ := graft_ok (b1 := b0 + o) hw hb hφ rfl e3 (fun k hk => rfl) rfl rfl rfl hor0
              simp only [hx0] at n2 n3 ⊢
              exact ⟨_, w, run_append_in (ty := ty) (w' := w) hA0 hA1 ht ht2 hd hsz n2 n3 (Nat.le_refl _) rfl, _, .sslice _ _ _ _ _ g (b0 + o) nb 0 _ _ (Phi.ext_at _ _ _) (Nat.le_refl _) (Nat.le_refl _) (by simp) (fun _ => by omega) (.inl ⟨rfl, hab⟩), i1, i2⟩
            · obtain ⟨i1, i2⟩ := graft_ok (b1 := b0 + o) hw hb hφ (setRow_size w g _) (setRow_heap w g c _ t' fz e3) (fun k hk => setRow_other w g _ k hk) rfl rfl rfl hor
              refine ⟨_, _, run_append_in (ty := ty) (w' := w.setRow g (c.toList.take (b0 + (o + len)) ++ vals new ++ c.toList.drop (b0 + (o + len) + (vals new).length)).toArray) hA0 hA1 ht ht2 hd hsz n2 n3 hin ?_, _, .sslice _ _ _ _ _ g (b0 + o) nb _ _ _ (Phi.ext_at _ _ _) (Nat.le_refl _) hin (by simp) (fun _ => by omega) (.inr rfl), i1, i2⟩
              show (storeCells ((⟨g, b0 + o, none⟩ : Addr).add (len * 1)) (vals new)).run P w = _
              rw [add_lit, Nat.mul_one, Nat.add_assoc]; exact hst
          · exact up (some a) len cap' old _ _ hob s1 hsm hus hin s3 k1 k2
        rcases hsv with rfl | ⟨rfl, hcp⟩
        · cases hs with
          | slice _ _ _ _ _ g b0 nb cap' _ a hφ hl hcc hex hz ha => exact real g b0 nb cap' a rfl hφ hl hcc hex hz ha
        · cases hs with
          | sslice _ _ _ _ _ g b0 nb cap' _ a hφ hl hcc hex hz ha => exact real g b0 nb cap' a rfl hφ hl hcc hex hz ha
          | semp => exact absurd (hcp hob' rfl) (Nat.lt_irrefl _)
          | snil =>
            have hold0 : old = [] := List.eq_nil_of_length_eq_zero (by omega)
            subst hold0
            exact nil _ _ hob (by omega) rfl k1 k2
  split at h
  · cases h
    obtain ⟨hob, hsm⟩ := andP_ok hop
    cases hs with
    | slice0 =>
      have := nil st.heap st.log hob hsm rfl hw (Step.refl _ _ _)
      rw [Nat.zero_add, List.nil_append] at this
      exact this
  · exact go ob _ _ _ _ _ _ id (.inl rfl) h
  · exact go _ _ _ _ _ _ _ room_ok (.inr ⟨rfl, room_cap⟩) h
  · cases h
/-- an object is looked at otherwise -/
theorem view_ok {H : PT AObj} {next : Nat} {w : World} (hw : WRel w0 φ H next w) {b : Nat} {ob ob' : AObj} (hb : H.get b = some ob) (h1 : ob.nul = true → ob'.nul = true) (h2 : ∀ b0 n x, ORel φ ob b0 n x → ORel φ ob' b0 n x) : WRel w0 φ (H.set b (some ob')) next w ∧ Step φ H w φ (H.set b (some ob')) w := by
  have hget : ∀ x o, (H.set b (some ob')).get x = some o → (x = b ∧ o = ob') ∨ H.get x = some o := fun x o hx => by
    rw [PT.get_set] at hx
    split at hx
    · cases hx; exact .inl ⟨‹_›, rfl⟩
    · exact .inr hx
  have hsome : ∀ x o, (H.set b (some ob')).get x = some o → ∃ o', H.get x = some o' := fun x o hx => by
    rcases hget x o hx with ⟨rfl, _⟩ | h
    · exact ⟨_, hb⟩
    · exact ⟨_, h⟩
  refine with_pool hw (fun _ _ _ => rfl) ?_
  refine ⟨⟨hw.below, hw.fresh, fun x o hx => ?_, fun x y o o' g b1 b2 n n' hx hy e1 e2 => ?_, fun x o hx => ?_⟩, ⟨φ.le_refl, Nat.le_refl _, fun x o g b1 n hx e1 => ?_, fun _ _ _ => rfl, fun _ h k => absurd k h⟩⟩
  · rcases hget x o hx with ⟨rfl, rfl⟩ | h
    · rcases hw.obj _ _ hb with ⟨e1, e2⟩ | ⟨g, b0, n, u, e1, e2, e3, e4⟩
      · exact .inl ⟨e1, h1 e2⟩
      · exact .inr ⟨g, b0, n, u, e1, e2, e3, h2 _ _ _ e4⟩
    · exact hw.obj x o h
  · obtain ⟨o1, h3⟩ := hsome x o hx
    obtain ⟨o2, h4⟩ := hsome y o' hy
    exact hw.inj x y o1 o2 g b1 b2 n n' h3 h4 e1 e2
  · obtain ⟨o1, h3⟩ := hsome x o hx
    exact hw.lt x o1 h3
  · obtain ⟨o1, h3⟩ := hsome x o hx
    exact .inr ⟨x, o1, b1, n, h3, e1⟩
theorem objL_view {ob : AObj} {l : List UInt8} {t : TypeId} (h : objL ob = some (l, t)) : (ob.nul = true → (AObj.sbytes l t).nul = true) ∧ ∀ b0 n x, ORel φ ob b0 n x → ORel φ (.sbytes l t) b0 n x := by
  unfold objL at h
  split at h
  · cases h; exact ⟨id, fun _ _ _ h => h⟩
  · rename_i q t'
    split at h
    · rename_i q' hq
      cases h
      refine ⟨fun h => (by cases h), fun b0 n x hx => ?_⟩
      cases hx with
      | cells _ _ t2 _ _ c fz hn hb hr hf =>
      have hv := bytesS_rel hq hr
      have hl : q.length = l.length := by have := hr.length; rw [hv, vals_length] at this; exact this.symm
      exact sbytes_cells hn (by omega) (by rw [← hl]; exact hv) hf
    · cases h
  · cases h
theorem copyB_ok {st st' : St} {w : World} {t t2 ty e : TypeId} {dv x v : AVal} {ud ux : Value} {op : OP} (ht : P.underlying t = some (.slice e))
    (h : copyB P RO st e dv x = some (op, v, st')) (hop : op.ok) (hs : VRel φ dv ud) (hx : VRel φ x ux) (hw : WRel w0 φ st.heap st.next w) (hr : RRel w0 φ RO) (args : Array TypeId) (ha : args[0]? = some t) :
    Out w0 φ st w v st' ((Builtin.copy_ args ty #[ud, ux]).run P w) := by
  unfold copyB at h
  cases hc : byteT P e with
  | false => rw [hc] at h; cases h
  | true =>
  rw [hc] at h
  simp only [cond_true] at h
  obtain ⟨hu8, hsz, _⟩ := byteT_some hc
  cases hsrc : srcB RO st x with
  | none => rw [hsrc] at h; cases h
  | some q =>
  obtain ⟨ob, new⟩ := q
  rw [hsrc] at h
  dsimp only at h
  have go : ∀ (b o len : Nat), (∃ c ex z, dv = .slice (some (b, o)) len c ex z ∨ dv = .sslice (b, o) len c ex z) → copyG st (lenB x) ob new b o len = some (op, v, st') → Out w0 φ st w v st' ((Builtin.copy_ args ty #[ud, ux]).run P w) := by
    rintro b o len ⟨c0, ex, z, hdv⟩ h
    unfold copyG cpyL at h
    split at h
    · cases h
    · rename_i obj hb
      split at h
      · rename_i ob2 old l tt hold hL
        cases h
        obtain ⟨hob, hob2, hmx⟩ := andP_ok hop
        obtain ⟨n1, n2, n3⟩ := srcB_ok (P := P) hsrc hob hx hw hr
        have n2 := n2 w
        rw [n1] at n2
        have hmn : min (lenB x) len ≤ lenB x := Nat.min_le_left _ _
        have n3 := n3 (min (lenB x) len) (by omega)
        have hvt : (vals new).take (min (lenB x) len) = vals (new.take (min (lenB x) len)) := by simp [vals, List.map_take]
        rw [hvt] at n3
        have real : ∀ (g b0 nb cap' : Nat) (a : Addr), ud = .slice (some a) len cap' → φ b = some (g, b0, nb) → len ≤ cap' → ((cap' = 0 ∧ a.block = g) ∨ a = ⟨g, b0 + o, none⟩) → Out w0 φ st w (.sint .i64 ((min (lenB x) len : Nat) : Int)) (putObj st b (.sbytes (l.take o ++ new.take (min (lenB x) len) ++ l.drop (o + min (lenB x) len)) tt)) ((Builtin.copy_ args ty #[ud, ux]).run P w) := by
          intro g b0 nb cap' a hud hφ hlc haa
          obtain ⟨g', b0', nb', x', e1, e2, e3, e4⟩ := hw.obj_of hb hφ
          obtain ⟨rfl, rfl, rfl⟩ : g = g' ∧ b0 = b0' ∧ nb = nb' := by rw [hφ] at e1; simpa using e1
          obtain ⟨h1, L, c, t', fz, rfl, h3, h4, h5, h6, h7, h8, h9⟩ := objB_cells hold hob2 e4
          have hLl : L = l := by
            unfold objB at hold
            unfold objL at hL
            have inj : ∀ a b : List UInt8, vals a = vals b → a = b := fun a b h => by
              have h' := congrArg (List.map fun v => match v with | .int _ z => UInt8.ofNat z.toNat | _ => 0) h
              unfold vals at h'
              rw [List.map_map, List.map_map] at h'
              have e : ((fun v => match v with | .int _ z => UInt8.ofNat z.toNat | _ => 0) ∘ fun c : UInt8 => Value.int .u8 (c.toNat : Int)) = id := by funext c; simp
              rw [e, List.map_id, List.map_id] at h'
              exact h'
            cases obj with
            | sbytes q _ =>
              cases hL
              cases e4 with
              | sbytes _ _ _ _ _ e4 => cases e4 with
                | cells _ _ _ _ _ _ _ _ _ hr _ =>
                have hv := rel_vals hr
                rw [List.length_map] at hv
                refine inj _ _ ?_
                rw [← h5, ← hv]
                have : L.length = l.length := by have := h9; exact this.symm
                rw [this]
            | cells q _ =>
              simp only at hL
              split at hL
              · rename_i q' hq'
                cases hL
                cases e4 with
                | cells _ _ _ _ _ _ _ _ _ hr _ =>
                have hv := bytesS_rel hq' hr
                refine inj _ _ ?_
                rw [← h5, ← hv]
                have : L.length = q.length := by have h9' : lenL q 0 = L.length := h9; rw [lenL0] at h9'; exact h9'.symm
                rw [this]
              · cases hL
            | _ => cases hL
          subst hLl
          have hk : min (lenB x) len ≤ len := Nat.min_le_right _ _
          have hnk : (new.take (min (lenB x) len)).length = min (lenB x) len := by rw [List.length_take]; omega
          have hin : inR .i64 ((min (lenB x) len : Nat) : Int) := ⟨by show (-9223372036854775808 : Int) ≤ _; omega, by show _ ≤ (9223372036854775807 : Int); omega⟩
          have hst := run_storeRow (P := P) g (b0 + o) t' fz (vals (new.take (min (lenB x) len))) 0 c w e3 (by rw [h3]; exact h6) (by rw [vals_length, hnk]; omega) (vals_one _)
          simp only [Nat.add_zero] at hst
          have hrow : ((c.toList.take (b0 + o) ++ vals (new.take (min (lenB x) len)) ++ c.toList.drop (b0 + o + (vals (new.take (min (lenB x) len))).length)).drop b0).take L.length = vals (L.take o ++ new.take (min (lenB x) len) ++ L.drop (o + min (lenB x) len)) := by
            have hr0 : VRels φ (L.map fun c => AVal.int .u8 (c.toNat : Int)) ((c.toList.drop b0).take (L.map fun c => AVal.int .u8 (c.toNat : Int)).length) := by rw [List.length_map, h5]; exact vals_rel L
            have := row_put (o := o) hr0 (by rw [List.length_map]; omega) (vals_rel (φ := φ) (new.take (min (lenB x) len))) (by rw [List.length_map, List.length_map, hnk]; omega)
            rw [← List.map_take, ← List.map_drop, ← List.map_append, ← List.map_append, List.length_map, List.length_map] at this
            have h10 := rel_vals this
            rw [List.toList_toArray, hnk] at h10
            have hlen : (L.take o ++ new.take (min (lenB x) len) ++ L.drop (o + min (lenB x) len)).length = L.length := by simp; omega
            rw [hlen] at h10
            rw [vals_length, hnk]
            rw [vals_length, hnk] at h10
            exact h10
          have hor : ORel φ (.sbytes (L.take o ++ new.take (min (lenB x) len) ++ L.drop (o + min (lenB x) len)) tt) b0 nb (.cells (c.toList.take (b0 + o) ++ vals (new.take (min (lenB x) len)) ++ c.toList.drop (b0 + o + (vals (new.take (min (lenB x) len))).length)).toArray t' fz) := by
            have hlen : (L.take o ++ new.take (min (lenB x) len) ++ L.drop (o + min (lenB x) len)).length = L.length := by simp; omega
            refine sbytes_cells (by simp [vals_length]; omega) (by rw [hlen]; omega) ?_ h6
            rw [hlen]; exact hrow
          obtain ⟨i1, i2⟩ := turn_ok hw hb hφ (setRow_size w g _) (setRow_heap w g c _ t' fz e3) (fun k hk => setRow_other w g _ k hk) rfl rfl rfl hor
          subst hud
          rcases haa with ⟨rfl, hab⟩ | rfl
          · have hl0 : len = 0 := by omega
            subst hl0
            have hm0 : min (lenB x) 0 = 0 := Nat.min_zero _
            have hwe : w.setRow g (c.toList.take (b0 + o) ++ vals (new.take (min (lenB x) 0)) ++ c.toList.drop (b0 + o + (vals (new.take (min (lenB x) 0))).length)).toArray = w := by
              rw [hm0]
              simp [vals]
              exact setRow_self w g c t' fz e3
            rw [hwe] at i1 i2
            rw [hm0] at n3
            refine ⟨_, w, ?_, φ, .sint _ _ hin, i1, i2⟩
            simp [Builtin.copy_, ha, run_und ht, run_size hsz, n2, n3, goInt, vals, storeCells]
          · refine ⟨_, w.setRow g (c.toList.take (b0 + o) ++ vals (new.take (min (lenB x) len)) ++ c.toList.drop (b0 + o + (vals (new.take (min (lenB x) len))).length)).toArray, ?_, φ, .sint _ _ hin, i1, i2⟩
            have n3' : (Builtin.firstCells 1 ((lenB x).min len) ux).run P w = .ok (vals (new.take (min (lenB x) len))).toArray w := n3
            simp [Builtin.copy_, ha, run_und ht, run_size hsz, n2, n3', goInt, hst]
        rcases hdv with rfl | rfl
        · cases hs with
          | slice _ _ _ _ _ g b0 nb cap' _ a hφ hl hcc hex hz haa => exact real g b0 nb cap' a rfl hφ (by omega) haa
        · cases hs with
          | sslice _ _ _ _ _ g b0 nb cap' _ a hφ hl hcc hex hz haa => exact real g b0 nb cap' a rfl hφ (by omega) haa
          | semp _ A c' _ =>
            have hm0 : min (lenB x) 0 = 0 := Nat.min_zero _
            obtain ⟨v1, v2⟩ := objL_view (φ := φ) hL
            have hll : l.take o ++ new.take (min (lenB x) 0) ++ l.drop (o + min (lenB x) 0) = l := by rw [hm0]; simp
            obtain ⟨i1, i2⟩ := view_ok hw hb v1 v2
            rw [hm0] at n3
            unfold putObj
            rw [hll]
            refine ⟨_, w, ?_, φ, .sint _ _ ⟨by show (-9223372036854775808 : Int) ≤ _; omega, by show _ ≤ (9223372036854775807 : Int); omega⟩, i1, i2⟩
            have n3'' : (Builtin.firstCells 1 0 ux).run P w = .ok #[] w := by rw [n3]; simp [vals]
            cases A <;> simp [Builtin.copy_, ha, run_und ht, run_size hsz, n2, n3'', goInt, hm0, storeCells]
          | snil =>
            have hm0 : min (lenB x) 0 = 0 := Nat.min_zero _
            obtain ⟨v1, v2⟩ := objL_view (φ := φ) hL
            have hll : l.take o ++ new.take (min (lenB x) 0) ++ l.drop (o + min (lenB x) 0) = l := by rw [hm0]; simp
            obtain ⟨i1, i2⟩ := view_ok hw hb v1 v2
            rw [hm0] at n3
            unfold putObj
            rw [hll]
            refine ⟨_, w, ?_, φ, .sint _ _ ⟨by show (-9223372036854775808 : Int) ≤ _; omega, by show _ ≤ (9223372036854775807 : Int); omega⟩, i1, i2⟩
            have n3'' : (Builtin.firstCells 1 0 ux).run P w = .ok #[] w := by rw [n3]; simp [vals]
            simp [Builtin.copy_, ha, run_und ht, run_size hsz, n2, n3'', goInt, hm0]
      · cases h
  split at h
  · exact go _ _ _ ⟨_, _, _, .inl rfl⟩ h
  · exact go _ _ _ ⟨_, _, _, .inr rfl⟩ h
  · cases h
end
end Go.Proofs.Ytcofcojjofkgcaa.Abs
namespace Go.Proofs.Ytcofcojjofkgcaa.Abs
open Go Go.RowKit
set_option linter.unusedVariables false
def valsI (k : IntKind) (l : List Int) : List Value := l.map fun z => Value.int k z
theorem valsI_length (k : IntKind) (l : List Int) : (valsI k l).length = l.length := by simp [valsI]
section
variable {w0 : World} {φ : Phi} {P : Program} {RO : PT AObj}
theorem intsS_rel {k : IntKind} : ∀ {l : List AVal} {q : List Int} {us : List Value}, intsS k l = some q → VRels φ l us → us = q.map (fun z => .int k z) ∧ ∀ z ∈ q, inR k z
  | [], q, us, h, hr => by cases h; cases hr; exact ⟨rfl, fun z hz => by cases hz⟩
  | v :: l, q, us, h, hr => by
    cases hr with
    | cons _ u _ us h1 h2 =>
    unfold intsS at h
    split at h
    · rename_i j z r hz hr'
      cases hk : kindEq j k with
      | false => rw [hk] at h; cases h
      | true =>
      rw [hk] at h
      cases h
      obtain rfl := kindEq_eq _ _ hk
      obtain ⟨rfl, hin⟩ := asR_rel hz h1
      obtain ⟨e1, e2⟩ := intsS_rel hr' h2
      refine ⟨by rw [e1]; rfl, fun y hy => ?_⟩
      rcases List.mem_cons.1 hy with rfl | hy
      · exact hin
      · exact e2 y hy
    · cases h
theorem ints_rel (k : IntKind) (q : List Int) : VRels φ (q.map fun z => AVal.int k z) (q.map fun z => Value.int k z) := by
  induction q with
  | nil => exact .nil
  | cons z q ih => exact .cons _ _ _ _ (.int _ _) ih
theorem ints_vals {k : IntKind} {q : List Int} {us : List Value} (h : VRels φ (q.map fun z => AVal.int k z) us) : us = q.map fun z => Value.int k z := by
  induction q generalizing us with
  | nil => cases h; rfl
  | cons z q ih => cases h with | cons _ u _ us hu hs => cases hu; rw [ih hs]; rfl
/-- an object of ints: its cells in the block -/
theorem objI_cells {k : IntKind} {ob : AObj} {o n b0 nb : Nat} {x : Obj} {op : OP} {l : List Int} (h : objI k o n (some ob) = some (op, l)) (hop : op.ok) (hx : ORel φ ob b0 nb x) :
    l.length = n ∧ ∃ (L : List Int) (c : Array Value) (t' : TypeId) (fz : Nat × Nat), x = .cells c t' fz ∧ c.size = nb ∧ b0 + L.length ≤ nb ∧ (c.toList.drop b0).take L.length = valsI k L ∧ (fz.1 = fz.2 ∨ nb ≤ fz.1) ∧ o + n ≤ L.length ∧ l = (L.drop o).take n ∧ objM ob = L.length ∧ ∀ z ∈ L, inR k z := by
  unfold objI at h
  split at h
  · rename_i j L t he
    cases hk : kindEq j k with
    | false => rw [hk] at h; cases h
    | true =>
    rw [hk] at h
    obtain rfl := kindEq_eq _ _ hk
    cases h
    have hop : o + n ≤ L.length := hop
    cases he
    cases hx with
    | sints _ _ _ _ _ _ hi hx =>
    cases hx with
    | cells _ _ t' _ _ c fz hn hb hr hf =>
    rw [List.length_map] at hb hr
    refine ⟨by simp; omega, L, c, t', fz, rfl, hn, hb, ints_vals hr, hf, hop, rfl, rfl, hi⟩
  · rename_i cs t he
    split at h
    · rename_i L hL
      cases h
      have hop : o + n ≤ L.length := hop
      cases he
      cases hx with
      | cells _ _ t' _ _ c fz hn hb hr hf =>
      obtain ⟨hv, hi⟩ := intsS_rel hL hr
      have hv : _ = valsI k L := hv
      have hlen : cs.length = L.length := by have := hr.length; rw [hv, valsI_length] at this; exact this.symm
      rw [hlen] at hb hv
      exact ⟨by simp; omega, L, c, t', fz, rfl, hn, hb, hv, hf, hop, rfl, by show lenL cs 0 = _; rw [lenL0, hlen], hi⟩
    · cases h
  · cases h
theorem objI_read {k : IntKind} {ob : AObj} {o n b0 nb : Nat} {x : Obj} {op : OP} {l : List Int} (h : objI k o n (some ob) = some (op, l)) (hop : op.ok) (hx : ORel φ ob b0 nb (thaw x)) :
    l.length = n ∧ (∀ z ∈ l, inR k z) ∧ ∃ (L : List Int) (c : Array Value) (t' : TypeId) (fz : Nat × Nat), x = .cells c t' fz ∧ c.size = nb ∧ b0 + L.length ≤ nb ∧ (c.toList.drop b0).take L.length = valsI k L ∧ o + n ≤ L.length ∧ l = (L.drop o).take n := by
  obtain ⟨h1, L, c, t', fz, h2, h3, h4, h5, h6, h7, h8, h9, h10⟩ := objI_cells h hop hx
  have hin : ∀ z ∈ l, inR k z := fun z hz => h10 z (by rw [h8] at hz; exact List.mem_of_mem_drop (List.mem_of_mem_take hz))
  cases x with
  | cells c2 t2 fz2 => cases h2; exact ⟨h1, hin, L, _, _, _, rfl, h3, h4, h5, h7, h8⟩
  | _ => cases h2
theorem objI_nul {k : IntKind} {ob : AObj} {o n : Nat} {op : OP} {l : List Int} (h : objI k o n (some ob) = some (op, l)) (hop : op.ok) (hn : ob.nul = true) : n = 0 ∧ l = [] := by
  unfold objI at h
  split at h
  · rename_i j L t he
    cases hk : kindEq j k with
    | false => rw [hk] at h; cases h
    | true =>
    rw [hk] at h
    cases h
    have hop : o + n ≤ L.length := hop
    cases he
    cases L with
    | nil => simp at hop; exact ⟨by omega, by simp⟩
    | cons _ _ => cases hn
  · rename_i cs t he
    cases he; cases hn
  · cases h
theorem cellsI_at {k : IntKind} {c : Array Value} {b0 o n : Nat} {L : List Int} (h : (c.toList.drop b0).take L.length = valsI k L) (hon : o + n ≤ L.length) : (c.toList.drop (b0 + o)).take n = valsI k ((L.drop o).take n) := by
  have h2 := congrArg (fun q => (q.drop o).take n) h
  simp only [valsI, ← List.map_drop, ← List.map_take] at h2 ⊢
  rw [← h2, List.drop_take, List.take_take, List.drop_drop, Nat.min_eq_left (by omega)]
/-- the ints of a source -/
theorem srcI_ok {k : IntKind} {st : St} {w : World} {x : AVal} {u : Value} {op : OP} {l : List Int} (h : srcI RO k st x = some (op, l)) (hop : op.ok) (hx : VRel φ x u) (hw : WRel w0 φ st.heap st.next w) (hr : RRel w0 φ RO) :
    (∀ z ∈ l, inR k z) ∧ l.length = lenB x ∧ (∀ w', (Builtin.lenOf u).run P w' = .ok l.length w') ∧ ∀ i, i ≤ l.length → (Builtin.firstCells 1 i u).run P w = .ok ((valsI k l).take i).toArray w := by
  have real : ∀ (b o n len cap : Nat) (a : Addr) (g b0 nb : Nat), lenB x = n → u = .slice (some a) n cap → n ≤ cap → φ b = some (g, b0, nb) → ((cap = 0 ∧ a.block = g) ∨ a = ⟨g, b0 + o, none⟩) → objI k o n (rd RO st b) = some (op, l) →
      (∀ z ∈ l, inR k z) ∧ l.length = lenB x ∧ (∀ w', (Builtin.lenOf u).run P w' = .ok l.length w') ∧ ∀ i, i ≤ l.length → (Builtin.firstCells 1 i u).run P w = .ok ((valsI k l).take i).toArray w := fun b o n len cap a g b0 nb hlen hu hcap hφ ha ho => by
    cases hrd : rd RO st b with
    | none => rw [hrd] at ho; cases ho
    | some ob =>
    rw [hrd] at ho
    subst hu
    rcases rd_some' hrd hw hr with hn | ⟨g', b0', nb', x', e1, e2, e3⟩
    · obtain ⟨rfl, rfl⟩ := objI_nul ho hop hn
      refine ⟨fun z hz => (by cases hz), by rw [hlen]; rfl, fun w' => rfl, fun i hk => ?_⟩
      have : i = 0 := by simpa using hk
      subst this
      simp [Builtin.firstCells, loadCells, loadCellsFrom]
    · obtain ⟨rfl, rfl, rfl⟩ : g = g' ∧ b0 = b0' ∧ nb = nb' := by rw [hφ] at e1; simpa using e1
      obtain ⟨h1, hin, L, c, t', fz, rfl, h3, h4, h5, h7, h8⟩ := objI_read ho hop e3
      refine ⟨hin, by rw [h1, hlen], fun w' => by rw [h1]; rfl, fun i hk => ?_⟩
      rcases ha with ⟨rfl, _⟩ | rfl
      · have : i = 0 := by omega
        subst this
        simp [Builtin.firstCells, loadCells, loadCellsFrom]
      · have hat : ∀ j u, ((valsI k l).take i)[j]? = some u → w.cell? ((⟨g, b0 + o, none⟩ : Addr).add j) = some u := fun j u hj => by
          rw [add_lit]
          have hjk : j < i := by have := (List.getElem?_eq_some_iff.1 hj).1; simp at this; omega
          have h9 := cellsI_at h5 h7
          rw [← h8] at h9
          rw [List.getElem?_take_of_lt hjk, ← h9, List.getElem?_take_of_lt (by omega), List.getElem?_drop] at hj
          unfold World.cell?
          simp only [e2]
          simp only [Option.isSome_none, Bool.false_eq_true, if_false]
          rw [← Array.getElem?_toList]
          exact hj
        have := run_loadCells_list (P := P) w ⟨g, b0 + o, none⟩ _ hat
        rw [List.length_take, valsI_length, Nat.min_eq_left hk] at this
        simpa [Builtin.firstCells] using this
  unfold srcI at h
  split at h
  · cases h
    cases hx
    exact ⟨fun z hz => (by cases hz), rfl, fun w' => rfl, fun i hk => by simp at hk; subst hk; simp [Builtin.firstCells]⟩
  · rename_i b o n c ex z
    cases hx with
    | slice _ _ _ _ _ g b0 nb cap _ a hφ hl hc hex hz ha => exact real b o n n cap a g b0 nb rfl rfl (by omega) hφ ha h
  · rename_i b o n c ex z
    cases hx with
    | sslice _ _ _ _ _ g b0 nb cap _ a hφ hl hc hex hz ha => exact real b o n n cap a g b0 nb rfl rfl (by omega) hφ ha h
    | semp _ A c' _ =>
      have hl : l = [] := by
        cases hrd : rd RO st b with
        | none => rw [hrd] at h; cases h
        | some ob =>
          rw [hrd] at h
          unfold objI at h
          split at h
          · rename_i j L t he
            cases hk : kindEq j k with
            | false => rw [hk] at h; cases h
            | true => rw [hk] at h; cases h; simp
          · split at h
            · cases h; simp
            · cases h
          · cases h
      subst hl
      refine ⟨fun z hz => (by cases hz), rfl, fun w' => rfl, fun i hk => ?_⟩
      have : i = 0 := by simpa using hk
      subst this
      cases A <;> simp [Builtin.firstCells, loadCells, loadCellsFrom]
    | snil =>
      have hl : l = [] := by
        cases hrd : rd RO st b with
        | none => rw [hrd] at h; cases h
        | some ob =>
          rw [hrd] at h
          unfold objI at h
          split at h
          · rename_i j L t he
            cases hk : kindEq j k with
            | false => rw [hk] at h; cases h
            | true => rw [hk] at h; cases h; simp
          · split at h
            · cases h; simp
            · cases h
          · cases h
      subst hl
      exact ⟨fun z hz => (by cases hz), rfl, fun w' => rfl, fun i hk => by simp at hk; subst hk; simp [Builtin.firstCells]⟩
  · cases h
theorem sints_cells {k : IntKind} {l : List Int} {t t' : TypeId} {b n : Nat} {c : Array Value} {fz : Nat × Nat} (hi : ∀ z ∈ l, inR k z) (hn : c.size = n) (hb : b + l.length ≤ n) (h : (c.toList.drop b).take l.length = valsI k l) (hf : fz.1 = fz.2 ∨ n ≤ fz.1) : ORel φ (.sints k l t) b n (.cells c t' fz) := by
  refine .sints _ _ _ _ _ _ hi (.cells _ _ _ _ _ _ _ hn (by rwa [List.length_map]) ?_ hf)
  rw [List.length_map, h]
  exact ints_rel k l
theorem intT_some {e : TypeId} {k : IntKind} (h : intT P e = some k) : P.underlying e = some (.int k) ∧ sizeA P e = some 1 ∧ ∃ i, P.info? e = some i ∧ i.zero = some (.int k 0) ∧ i.bytes ≤ 1048576 := by
  unfold intT at h
  split at h
  · rename_i k' hu
    cases hc : (Nat.ble (P.bytesOf e) 1048576 && zero1 P e k') with
    | false => rw [hc] at h; cases h
    | true =>
    rw [hc] at h
    cases h
    rw [Bool.and_eq_true] at hc
    obtain ⟨h2, h3⟩ := hc
    unfold zero1 at h3
    split at h3
    · rename_i z hz hs
      obtain ⟨i, z', hi, hiz, hzr, _⟩ := zero_some (φ := fun _ => none) hz
      have hby : P.bytesOf e = i.bytes := by unfold Program.bytesOf; rw [hi]; rfl
      have hib := Nat.le_of_ble_eq_true h2
      rw [hby] at hib
      refine ⟨hu, hs, i, hi, ?_, hib⟩
      unfold zeroIs at h3
      split at h3
      · rename_i k2 z2
        cases hzr
        rw [Bool.and_eq_true, intBeq_eq] at h3
        obtain rfl := kindEq_eq _ _ h3.1
        have : z2 = 0 := by simpa using h3.2
        rw [hiz, this]
      · cases h3
    · cases h3
  · cases h
theorem valsI_one (k : IntKind) (l : List Int) : ∀ v ∈ valsI k l, v.oneCell' = true := fun v hv => by
  simp [valsI] at hv
  obtain ⟨c, _, rfl⟩ := hv
  rfl
theorem valsI_append (k : IntKind) (l m : List Int) : valsI k (l ++ m) = valsI k l ++ valsI k m := by simp [valsI]
theorem appendI_ok {st st' : St} {w : World} {A : Array TypeId} {t t2 ty e : TypeId} {d : TypeDesc} {s x v : AVal} {us ux : Value} {op : OP} (hA0 : A[0]? = some t) (hA1 : A[1]? = some t2) (ht : P.underlying t = some (.slice e)) (ht2 : P.underlying t2 = some d) (hd : d = .string ∨ ∃ k, d = .slice k)
    (h : appendI P RO st e s x = some (op, v, st')) (hop : op.ok) (hs : VRel φ s us) (hx : VRel φ x ux) (hw : WRel w0 φ st.heap st.next w) (hr : RRel w0 φ RO) :
    Out w0 φ st w v st' ((Builtin.append_ A ty #[us, ux]).run P w) := by
  unfold appendI at h
  cases hc : intT P e with
  | none => rw [hc] at h; cases h
  | some k =>
  rw [hc] at h
  dsimp only at h
  obtain ⟨hu8, hsz, ie, hie, hiz, hby⟩ := intT_some hc
  cases hsrc : srcI RO k st x with
  | none => rw [hsrc] at h; cases h
  | some q =>
  obtain ⟨ob, new⟩ := q
  rw [hsrc] at h
  dsimp only at h
  have up : ∀ (base' : Option Addr) (len sCap : Nat) (old : List Int) (H : PT AObj) (lg : List Nat), ob.ok → (∀ z ∈ old, inR k z) → old.length = len → len + lenB x ≤ 65536 → us = .slice base' len sCap → ¬ len + lenB x ≤ sCap → (Builtin.firstCells 1 len us).run P w.drew = .ok (valsI k old).toArray w.drew → WRel w0 φ H st.next w → Step φ st.heap w φ H w →
      Out w0 φ st w (.sslice (st.next, 0) (len + lenB x) (len + lenB x) false 1) { heap := H.set st.next (some (.sints k (old ++ new) e)), next := st.next + 1, log := lg } ((Builtin.append_ A ty #[us, ux]).run P w) := by
    intro base' len sCap old H lg hob hoin hol hsm hus hno hof hwH hstep
    obtain ⟨hnin, n1, n2, n3⟩ := srcI_ok (P := P) hsrc hob hx hw hr
    obtain ⟨_, _, _, n4⟩ := srcI_ok (P := P) hsrc hob hx hw.drew hr
    have n4 := n4 _ (Nat.le_refl _)
    rw [List.take_of_length_le (by rw [valsI_length]; exact Nat.le_refl _), n1] at n4
    have n2 := n2 w
    rw [n1] at n2
    subst hus
    have hr1 := run_append_up (ty := ty) hA0 hA1 ht ht2 hd hsz hie hiz n2 hof n4 hno hsm hby
    have hge := grownCap_ge w (len + lenB x) sCap e
    have hnx := hwH.fresh _ (Nat.le_refl st.next)
    have hcs : ((valsI k old).toArray ++ (valsI k new).toArray ++ Builtin.zeroCells (Value.int k 0).cells (grownCap w (len + lenB x) sCap e - (len + lenB x))).size = grownCap w (len + lenB x) sCap e := by
      have hzc : (Value.int k 0).cells.size = 1 := rfl
      simp only [Array.size_append, size_zeroCells, hzc, List.size_toArray, valsI_length, hol, n1]
      omega
    have hor : ORel (φ.ext st.next (w.drew.heap.size, 0, ((valsI k old).toArray ++ (valsI k new).toArray ++ Builtin.zeroCells (Value.int k 0).cells (grownCap w (len + lenB x) sCap e - (len + lenB x))).size)) (.sints k (old ++ new) e) 0 ((valsI k old).toArray ++ (valsI k new).toArray ++ Builtin.zeroCells (Value.int k 0).cells (grownCap w (len + lenB x) sCap e - (len + lenB x))).size (.cells ((valsI k old).toArray ++ (valsI k new).toArray ++ Builtin.zeroCells (Value.int k 0).cells (grownCap w (len + lenB x) sCap e - (len + lenB x))) e (0, 0)) := by
      refine sints_cells (fun z hz => (List.mem_append.1 hz).elim (hoin z) (hnin z)) rfl (by rw [hcs, List.length_append, hol, n1]; omega) ?_ (.inl rfl)
      rw [List.drop_zero, Array.toList_append, Array.toList_append, List.toList_toArray, List.toList_toArray, ← valsI_append, List.take_append_of_le_length (by rw [valsI_length]; exact Nat.le_refl _), List.take_of_length_le (by rw [valsI_length]; exact Nat.le_refl _)]
    obtain ⟨i1, i2⟩ := new_ok (w := w.drew) (w' := w.drew.alloc (.cells ((valsI k old).toArray ++ (valsI k new).toArray ++ Builtin.zeroCells (Value.int k 0).cells (grownCap w (len + lenB x) sCap e - (len + lenB x))) e)) hwH.drew rfl rfl rfl rfl hor
    refine ⟨_, _, hr1, _, VRel.sslice st.next 0 (len + lenB x) (len + lenB x) 1 w.drew.heap.size 0 ((valsI k old).toArray ++ (valsI k new).toArray ++ Builtin.zeroCells (Value.int k 0).cells (grownCap w (len + lenB x) sCap e - (len + lenB x))).size (grownCap w (len + lenB x) sCap e) false ⟨w.heap.size, 0, none⟩ (Phi.ext_at _ _ _) (Nat.le_refl _) hge (by simp) (fun _ => ?_) (.inr rfl), i1, hstep.trans ((Step.drew H w).trans i2)⟩
    rw [hcs]; omega
  have nil : ∀ (H : PT AObj) (lg : List Nat), ob.ok → lenB x ≤ 65536 → us = .slice none 0 0 → WRel w0 φ H st.next w → Step φ st.heap w φ H w → Out w0 φ st w (.sslice (st.next, 0) (0 + lenB x) (0 + lenB x) false 1) { heap := H.set st.next (some (.sints k ([] ++ new) e)), next := st.next + 1, log := lg } ((Builtin.append_ A ty #[us, ux]).run P w) := by
    intro H lg hob hsm hus hwH hstep
    by_cases h0 : lenB x = 0
    · obtain ⟨hnin, n1, n2, n3⟩ := srcI_ok (P := P) hsrc hob hx hw hr
      have hnew : new = [] := List.eq_nil_of_length_eq_zero (by omega)
      subst hnew
      have n3 := n3 0 (Nat.le_refl _)
      have n2 := n2 w
      rw [h0]
      subst hus
      obtain ⟨i1, i2⟩ := nul_ok hwH (o := .sints k [] e) rfl
      exact ⟨_, w, run_append_in (ty := ty) (w' := w) hA0 hA1 ht ht2 hd hsz n2 n3 (Nat.le_refl _) rfl, φ, .snil _ _ _, i1, hstep.trans i2⟩
    · refine up none 0 0 [] H lg hob (fun z hz => (by cases hz)) rfl (by omega) hus (by omega) ?_ hwH hstep
      subst hus
      simp [Builtin.firstCells, valsI]
  have go : ∀ (ob' : OP) (b o len cap z : Nat) (ex : Bool), (ob'.ok → ob.ok) → (s = .slice (some (b, o)) len cap ex z ∨ (s = .sslice (b, o) len cap ex z ∧ (ob'.ok → ex = true → 0 < cap))) → appendJ st e k (lenB x) ob' new b o len cap ex z = some (op, v, st') → Out w0 φ st w v st' ((Builtin.append_ A ty #[us, ux]).run P w) := by
    intro ob' b o len cap z ex hob'' hsv h
    unfold appendJ at h
    split at h
    · cases h
    · rename_i obj hb
      split at h
      · cases h
      · rename_i ob2 old hold
        cases hz1 : Nat.beq z 1 with
        | false => rw [hz1] at h; cases h
        | true =>
        obtain rfl := Nat.eq_of_beq_eq_true hz1
        rw [hz1] at h
        cases h
        obtain ⟨hob', hob2, hsm, hexc⟩ := andP_ok hop
        have hob := hob'' hob'
        obtain ⟨k1, k2⟩ := kill_ok hw b
        have hsS : srcI RO k st s = some (ob2, old) := by rcases hsv with rfl | ⟨rfl, _⟩ <;> (show objI k o len (rd RO st b) = _; unfold rd; rw [hb]; exact hold)
        have hlS : lenB s = len := by rcases hsv with rfl | ⟨rfl, _⟩ <;> rfl
        obtain ⟨hsin, s1, s2, s3⟩ := srcI_ok (P := P) hsS hob2 hs hw.drew hr
        rw [hlS] at s1
        have s3 := s3 _ (Nat.le_refl _)
        rw [List.take_of_length_le (by rw [valsI_length]; exact Nat.le_refl _), s1] at s3
        have real : ∀ (g b0 nb cap' : Nat) (a : Addr), us = .slice (some a) len cap' → φ b = some (g, b0, nb) → len ≤ cap → cap ≤ cap' → (ex = true → cap' = cap) → (ex = false → b0 + o + cap' * 1 ≤ nb) → ((cap' = 0 ∧ a.block = g) ∨ a = ⟨g, b0 + o, none⟩) →
            Out w0 φ st w (.sslice (st.next, 0) (len + lenB x) (len + lenB x) false 1) { heap := (st.heap.set b none).set st.next (some (.sints k (old ++ new) e)), next := Nat.succ st.next, log := b :: st.log } ((Builtin.append_ A ty #[us, ux]).run P w) := by
          intro g b0 nb cap' a hus hφ hlc hcc hex hzb ha
          by_cases hin : len + lenB x ≤ cap'
          · obtain ⟨hnin, n1, q2, q3⟩ := srcI_ok (P := P) hsrc hob hx hw hr
            have n3 := q3 _ (Nat.le_refl _)
            rw [List.take_of_length_le (by rw [valsI_length]; exact Nat.le_refl _), n1] at n3
            have n2 := q2 w
            rw [n1] at n2
            clear q2 q3
            obtain ⟨g', b0', nb', x', e1, e2, e3, e4⟩ := hw.obj_of hb hφ
            obtain ⟨rfl, rfl, rfl⟩ : g = g' ∧ b0 = b0' ∧ nb = nb' := by rw [hφ] at e1; simpa using e1
            obtain ⟨h1, L, c, t', fz, rfl, h3, h4, h5, h6, h7, h8, h9, h10⟩ := objI_cells hold hob2 e4
            have hbd : b0 + o + cap' ≤ nb := by
              cases hexb : ex with
              | true => have := hex hexb; have := hexc hexb; omega
              | false => have := hzb hexb; omega
            have hst := run_storeRow (P := P) g (b0 + (o + len)) t' fz (valsI k new) 0 c w e3 (by rw [h3]; exact h6) (by rw [valsI_length]; omega) (valsI_one k new)
            simp only [Nat.add_zero] at hst
            have hcell := cellsI_at h5 h7
            rw [← h8] at hcell
            have hor : ORel (φ.ext st.next (g, b0 + o, nb)) (.sints k (old ++ new) e) (b0 + o) nb (.cells (c.toList.take (b0 + (o + len)) ++ valsI k new ++ c.toList.drop (b0 + (o + len) + (valsI k new).length)).toArray t' fz) := by
              refine sints_cells (fun z hz => (List.mem_append.1 hz).elim (hsin z) (hnin z)) (by simp [valsI_length]; omega) (by rw [List.length_append]; omega) ?_ h6
              have eX : ((c.toList.drop (b0 + o)).take len).length = len := by rw [hcell, valsI_length]; exact s1
              have e1 : (c.toList.take (b0 + (o + len))).drop (b0 + o) = (c.toList.drop (b0 + o)).take len := by rw [List.drop_take]; congr 1; omega
              have e2 : (old ++ new).length = ((c.toList.drop (b0 + o)).take len).length + (valsI k new).length := by rw [eX, valsI_length, List.length_append, s1]
              rw [List.toList_toArray, List.append_assoc, List.drop_append_of_le_length (by simp; omega), e1, e2, List.take_length_add_append, List.take_left, hcell, valsI_append]
            subst hus
            rcases ha with ⟨rfl, hab⟩ | rfl
            · have hl0 : len = 0 := by omega
              have hx0 : lenB x = 0 := by omega
              have hnew : new = [] := List.eq_nil_of_length_eq_zero (by omega)
              have hold0 : old = [] := List.eq_nil_of_length_eq_zero (by omega)
              subst hnew hold0 hl0
              have hor0 : ORel (φ.ext st.next (g, b0 + o, nb)) (.sints k ([] ++ []) e) (b0 + o) nb (.cells c t' fz) := sints_cells (fun z hz => (by cases hz)) h3 (by simp; omega) (by simp [valsI]) h6
              obtain ⟨i1, i2⟩ := graft_ok (b1 := b0 + o) hw hb hφ rfl e3 (fun k hk => rfl) rfl rfl rfl hor0
              simp only [hx0] at n2 n3 ⊢
              exact ⟨_, w, run_append_in (ty := ty) (w' := w) hA0 hA1 ht ht2 hd hsz n2 n3 (Nat.le_refl _) rfl, _, .sslice _ _ _ _ _ g (b0 + o) nb 0 _ _ (Phi.ext_at _ _ _) (Nat.le_refl _) (Nat.le_refl _) (by simp) (fun _ => by omega) (.inl ⟨rfl, hab⟩), i1, i2⟩
            · obtain ⟨i1, i2⟩ := graft_ok (b1 := b0 + o) hw hb hφ (setRow_size w g _) (setRow_heap w g c _ t' fz e3) (fun k hk => setRow_other w g _ k hk) rfl rfl rfl hor
              refine ⟨_, _, run_append_in (ty := ty) (w' := w.setRow g (c.toList.take (b0 + (o + len)) ++ valsI k new ++ c.toList.drop (b0 + (o + len) + (valsI k new).length)).toArray) hA0 hA1 ht ht2 hd hsz n2 n3 hin ?_, _, .sslice _ _ _ _ _ g (b0 + o) nb _ _ _ (Phi.ext_at _ _ _) (Nat.le_refl _) hin (by simp) (fun _ => by omega) (.inr rfl), i1, i2⟩
              show (storeCells ((⟨g, b0 + o, none⟩ : Addr).add (len * 1)) (valsI k new)).run P w = _
              rw [add_lit, Nat.mul_one, Nat.add_assoc]; exact hst
          · exact up (some a) len cap' old _ _ hob hsin s1 hsm hus hin s3 k1 k2
        rcases hsv with rfl | ⟨rfl, hcp⟩
        · cases hs with
          | slice _ _ _ _ _ g b0 nb cap' _ a hφ hl hcc hex hz ha => exact real g b0 nb cap' a rfl hφ hl hcc hex hz ha
        · cases hs with
          | sslice _ _ _ _ _ g b0 nb cap' _ a hφ hl hcc hex hz ha => exact real g b0 nb cap' a rfl hφ hl hcc hex hz ha
          | semp => exact absurd (hcp hob' rfl) (Nat.lt_irrefl _)
          | snil =>
            have hold0 : old = [] := List.eq_nil_of_length_eq_zero (by omega)
            subst hold0
            exact nil _ _ hob (by omega) rfl k1 k2
  split at h
  · cases h
    obtain ⟨hob, hsm⟩ := andP_ok hop
    cases hs with
    | slice0 =>
      have := nil st.heap st.log hob hsm rfl hw (Step.refl _ _ _)
      rw [Nat.zero_add, List.nil_append] at this
      exact this
  · exact go ob _ _ _ _ _ _ id (.inl rfl) h
  · exact go _ _ _ _ _ _ _ room_ok (.inr ⟨rfl, room_cap⟩) h
  · cases h
end
end Go.Proofs.Ytcofcojjofkgcaa.Abs
