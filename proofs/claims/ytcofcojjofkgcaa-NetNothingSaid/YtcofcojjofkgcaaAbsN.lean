/- Maps that are known by terms, and tables: what changes them. By an AI agent. -/
import Derived.Test.YtcofcojjofkgcaaAbsH
namespace Go.Proofs.Ytcofcojjofkgcaa.Abs
open Go Go.RowKit
set_option linter.unusedVariables false
section
variable {w0 : World} {φ : Phi} {P : Program} {RO : PT AObj}
/-- a block is seen otherwise -/
theorem swap_ok {H : PT AObj} {next : Nat} {w : World} (hw : WRel w0 φ H next w) {r g b n : Nat} {o o' : AObj} {u : Obj} (hH : H.get r = some o) (hφ : φ r = some (g, b, n)) (hg : w.heap[g]? = some u) (ho : ORel φ o' b n u) : WRel w0 φ (H.set r (some o')) next w ∧ Step φ H w φ (H.set r (some o')) w :=
  turn_ok hw hH hφ rfl hg (fun _ _ => rfl) rfl rfl rfl ho
theorem WRel.cong {H H' : PT AObj} {nx : Nat} {w : World} (h : ∀ x, H'.get x = H.get x) (k : WRel w0 φ H nx w) : WRel w0 φ H' nx w :=
  ⟨⟨k.below, k.fresh, fun x o hx => k.obj x o (by rw [← h]; exact hx), fun x y o o' g b b' n n' h1 h2 => k.inj x y o o' g b b' n n' (by rw [← h]; exact h1) (by rw [← h]; exact h2), fun x o hx => k.lt x o (by rw [← h]; exact hx)⟩, k.pool, fun q b L t x o b' n ht hx => k.apart q b L t x o b' n ht (by rw [← h]; exact hx)⟩
theorem Step.cong {φ0 : Phi} {H0 H H' : PT AObj} {wS w : World} (h : ∀ x, H'.get x = H.get x) (k : Step φ0 H0 wS φ H w) : Step φ0 H0 wS φ H' w :=
  ⟨⟨k.le, k.size, fun x o g b n hx => k.orig x o g b n (by rw [← h]; exact hx), k.frame, k.only⟩, k.pl⟩
theorem set_set (H : PT AObj) (r : Nat) (a b : Option AObj) (x : Nat) : (H.set r b).get x = ((H.set r a).set r b).get x := by
  rw [PT.get_set, PT.get_set, PT.get_set]
  split <;> rfl
/-- an entry's value, taken apart -/
theorem pack_rel {one : Bool} {l : List AVal} {u : Value} (h : VRel φ (packM one l) u) (hl : one = true → l.length = 1) : ∃ vs, VRels φ l vs ∧ (one = true → vs = [u]) ∧ (one = false → u = .agg vs.toArray) := by
  cases one with
  | true =>
    match l, hl rfl with
    | [v], _ => exact ⟨[u], .cons _ _ _ _ h .nil, fun _ => rfl, fun e => (by cases e)⟩
  | false =>
    cases h with
    | agg _ c hc => exact ⟨c.toList, hc, fun e => (by cases e), fun _ => by simp⟩
theorem cells_rel_one {one : Bool} {v : AVal} {vs : List AVal} {u : Value} (hv : cellsM one v = some vs) (h : VRel φ v u) : ∃ us, VRels φ vs us ∧ (one = true → us = [u]) ∧ (one = false → u = .agg us.toArray) := by
  cases one with
  | true =>
    have : vs = [v] := by cases v <;> first | (cases hv; rfl) | (cases hv; done)
    subst this
    exact ⟨[u], .cons _ _ _ _ h .nil, fun _ => rfl, fun e => (by cases e)⟩
  | false =>
    cases v with
    | agg l =>
      cases hv
      cases h with
      | agg _ c hc => exact ⟨c.toList, hc, fun e => (by cases e), fun _ => by simp⟩
    | _ => cases hv
/-- where an entry is put -/
def putPos (ks : List Int) (q : Int) : Nat := if q ∈ ks then ks.idxOf q else ks.length
theorem mput_at {α : Type} {ks : List Int} {q : Int} {l : List α} {v d : α} (hl : l.length = ks.length) : (mput ks q l v).getD (putPos ks q) d = v := by
  unfold mput putPos
  by_cases h : q ∈ ks
  · rw [if_pos h, if_pos h]
    have := List.idxOf_lt_length_iff.2 h
    rw [List.getD_eq_getElem?_getD, List.getElem?_set_self (by omega)]; rfl
  · rw [if_neg h, if_neg h, ← hl, List.getD_eq_getElem?_getD, List.getElem?_append_right (Nat.le_refl _), Nat.sub_self]; rfl
theorem mput_ne {α : Type} {ks : List Int} {q : Int} {l : List α} {v d : α} (hl : l.length = ks.length) {j : Nat} (hj : j ≠ putPos ks q) (hlt : j < ks.length) : (mput ks q l v).getD j d = l.getD j d := by
  unfold mput
  unfold putPos at hj
  by_cases h : q ∈ ks
  · rw [if_pos h]
    rw [if_pos h] at hj
    rw [List.getD_eq_getElem?_getD, List.getElem?_set_ne (Ne.symm hj), ← List.getD_eq_getElem?_getD]
  · rw [if_neg h, List.getD_eq_getElem?_getD, List.getElem?_append_left (by omega), ← List.getD_eq_getElem?_getD]
theorem col_put {ks : List Int} {q : Int} {c c' : TCol} {v : AVal} (h : c.put ks q v = some c') (hl : c.lenIs ks.length) :
    (∀ u, VRel φ v u → VRel φ (c'.val (putPos ks q)) u) ∧ ∀ j, j ≠ putPos ks q → j < ks.length → c'.val j = c.val j := by
  cases c with
  | zs k l =>
    have hl : l.length = ks.length := hl
    simp only [TCol.put] at h
    split at h
    · rename_i j z hz
      cases hb : kindEq k j with
      | false => rw [hb] at h; cases h
      | true =>
        rw [hb] at h
        cases h
        obtain rfl := kindEq_eq _ _ hb
        refine ⟨fun u hu => ?_, fun j h1 h2 => by simp only [TCol.val]; rw [mput_ne hl h1 h2]⟩
        obtain ⟨rfl, hr⟩ := asR_rel hz hu
        simp only [TCol.val, mput_at hl]
        exact .sint _ _ hr
    · cases h
  | bs l =>
    have hl : l.length = ks.length := hl
    simp only [TCol.put] at h
    split at h
    · rename_i b hb
      cases h
      refine ⟨fun u hu => ?_, fun j h1 h2 => by simp only [TCol.val]; rw [mput_ne hl h1 h2]⟩
      obtain rfl := asBo_rel hb hu
      simp only [TCol.val, mput_at hl]
      exact .sbool _
    · cases h
  | ss l =>
    have hl : l.length = ks.length := hl
    simp only [TCol.put] at h
    split at h
    · rename_i b hb
      cases h
      refine ⟨fun u hu => ?_, fun j h1 h2 => by simp only [TCol.val]; rw [mput_ne hl h1 h2]⟩
      obtain ⟨s, rfl, rfl⟩ := asB_rel hb hu
      simp only [TCol.val, mput_at hl]
      exact .sstr _
    · cases h
  | ps l =>
    have hl : l.length = ks.length := hl
    simp only [TCol.put] at h
    split at h
    · cases h
      refine ⟨fun u hu => ?_, fun j h1 h2 => by simp only [TCol.val]; rw [mput_ne hl h1 h2]⟩
      simp only [TCol.val, mput_at hl]
      exact hu
    · cases h
      refine ⟨fun u hu => ?_, fun j h1 h2 => by simp only [TCol.val]; rw [mput_ne hl h1 h2]⟩
      simp only [TCol.val, mput_at hl]
      cases hu
      exact .pemp _ _
    · cases h
theorem putT_ok {ks : List Int} {q : Int} : ∀ {cs cs' : List TCol} {vs : List AVal}, putT ks q cs vs = some cs' → lensT ks.length cs →
    cs'.length = cs.length ∧ vs.length = cs.length ∧ (∀ us, VRels φ vs us → VRels φ (rowT (putPos ks q) cs') us) ∧ ∀ j, j ≠ putPos ks q → j < ks.length → rowT j cs' = rowT j cs
  | [], cs', [], h, _ => by cases h; exact ⟨rfl, rfl, fun us hu => by cases hu; exact .nil, fun _ _ _ => rfl⟩
  | [], _, _ :: _, h, _ => by cases h
  | _ :: _, _, [], h, _ => by cases h
  | c :: cs, cs', v :: vs, h, hl => by
    simp only [putT] at h
    split at h
    · rename_i c1 cs1 h1 h2
      cases h
      obtain ⟨a1, a2⟩ := col_put (φ := φ) h1 hl.1
      obtain ⟨b1, b2, b3, b4⟩ := putT_ok h2 hl.2
      refine ⟨by simp [b1], by simp [b2], fun us hu => ?_, fun j h3 h4 => by simp only [rowT]; rw [a2 j h3 h4, b4 j h3 h4]⟩
      cases hu with
      | cons _ u _ us hu hus => exact .cons _ _ _ _ (a1 u hu) (b3 us hus)
    · cases h
theorem mkeys_get {ks : List Int} {q z : Int} {j : Nat} (h : (mkeys ks q)[j]? = some z) : (j = putPos ks q ∧ z = q) ∨ (j ≠ putPos ks q ∧ j < ks.length ∧ ks[j]? = some z) := by
  unfold mkeys at h
  unfold putPos
  by_cases hq : q ∈ ks
  · rw [if_pos hq] at h
    rw [if_pos hq]
    by_cases hj : j = ks.idxOf q
    · subst hj
      have := List.idxOf_lt_length_iff.2 hq
      rw [List.getElem?_eq_getElem this, List.getElem_idxOf] at h
      exact .inl ⟨rfl, (Option.some.inj h).symm⟩
    · exact .inr ⟨hj, (List.getElem?_eq_some_iff.1 h).1, h⟩
  · rw [if_neg hq] at h
    rw [if_neg hq]
    by_cases hj : j < ks.length
    · rw [List.getElem?_append_left hj] at h
      exact .inr ⟨by omega, hj, h⟩
    · have : j = ks.length := by
        have := (List.getElem?_eq_some_iff.1 h).1
        simp at this; omega
      subst this
      rw [List.getElem?_append_right (Nat.le_refl _), Nat.sub_self] at h
      exact .inl ⟨rfl, (Option.some.inj h).symm⟩
theorem esFrom_put {k : IntKind} {cs : List TCol} {one : Bool} {ks : List Int} {q : Int} {v : AVal} {es' : List (AVal × AVal)}
    (h : es' = if q ∈ ks then setAt (esFrom k cs one ks 0) (ks.idxOf q) (.int k q, v) else esFrom k cs one ks 0 ++ [(.int k q, v)]) :
    es'.length = (mkeys ks q).length ∧ ∀ j z, (mkeys ks q)[j]? = some z → es'[j]? = some (.int k z, if j = putPos ks q then v else packM one (rowT j cs)) := by
  subst h
  have hlen : (if q ∈ ks then setAt (esFrom k cs one ks 0) (ks.idxOf q) (AVal.int k q, v) else esFrom k cs one ks 0 ++ [(.int k q, v)]).length = (mkeys ks q).length := by
    unfold mkeys
    by_cases hq : q ∈ ks
    · rw [if_pos hq, if_pos hq, setAt_len, esFrom_length]
    · rw [if_neg hq, if_neg hq]; simp [esFrom_length]
  refine ⟨hlen, fun j z hz => ?_⟩
  rcases mkeys_get hz with ⟨hj, rfl⟩ | ⟨hj, hlt, hk⟩
  · rw [if_pos hj]
    subst hj
    unfold putPos
    by_cases hq : z ∈ ks
    · rw [if_pos hq, if_pos hq, setAt_get, if_pos ⟨rfl, by rw [esFrom_length]; exact List.idxOf_lt_length_iff.2 hq⟩]
    · rw [if_neg hq, if_neg hq, List.getElem?_append_right (by rw [esFrom_length]; exact Nat.le_refl _), esFrom_length, Nat.sub_self]; rfl
  · rw [if_neg hj]
    unfold putPos at hj
    by_cases hq : q ∈ ks
    · rw [if_pos hq] at hj ⊢
      rw [setAt_get, if_neg (fun e => hj e.1), esFrom_get, hk, Nat.zero_add]; rfl
    · rw [if_neg hq]
      rw [List.getElem?_append_left (by rw [esFrom_length]; exact hlt), esFrom_get, hk, Nat.zero_add]; rfl
theorem mapPutS_ok {st st' : St} {w : World} {t : TypeId} {r g b n : Nat} {k v x : AVal} {uk uv : Value} {ob : OP} (h : mapPutS P st t r k v = some (ob, x, st')) (hob : ob.ok) (hw : WRel w0 φ st.heap st.next w) (hk : VRel φ k uk) (hv : VRel φ v uv) (hφ : φ r = some (g, b, n)) :
    ∃ w', (Instr.mapUpdate t (.map (some g)) uk uv).run P w = .ok () w' ∧ x = .undef ∧ WRel w0 φ st'.heap st'.next w' ∧ Step φ st.heap w φ st'.heap w' := by
  unfold mapPutS at h
  split at h
  · rename_i kt et kk ks cs one j q ht hH hq
    split at h
    · rename_i j' vs hkt hvs
      split at h
      · rename_i cs' hput
        cases hb : (kindEq j j' && kindEq j kk) with
        | false => rw [hb] at h; cases h
        | true =>
        rw [hb] at h
        cases h
        rw [Bool.and_eq_true] at hb
        obtain rfl := kindEq_eq _ _ hb.1
        obtain rfl := kindEq_eq _ _ hb.2
        have hlens : lensT ks.length cs := hob
        obtain ⟨rfl, hqr⟩ := asR_rel hq hk
        obtain ⟨g', b', n', x0, e1, e2, e3, e4⟩ := hw.obj_at hH rfl
        obtain ⟨rfl, rfl, rfl⟩ : g = g' ∧ b = b' ∧ n = n' := by rw [hφ] at e1; simpa using e1
        obtain ⟨s1, s2⟩ := swap_ok hw hH hφ e3 (smap_map e4)
        have hko : keyOk P kt (.int j q) = true := by unfold keyOk; rw [hkt]; exact kindEq_refl j
        have hget : (st.heap.set r (some (.map (esFrom j cs one ks 0)))).get r = some (.map (esFrom j cs one ks 0)) := by rw [PT.get_set, if_pos rfl]
        have hA : mapPutA P ⟨st.heap.set r (some (.map (esFrom j cs one ks 0))), st.next, st.log⟩ t r (.int j q) v = some (.undef, putObj ⟨st.heap.set r (some (.map (esFrom j cs one ks 0))), st.next, st.log⟩ r (.map (if q ∈ ks then setAt (esFrom j cs one ks 0) (ks.idxOf q) (.int j q, v) else esFrom j cs one ks 0 ++ [(.int j q, v)]))) := by
          unfold mapPutA
          simp only [ht, hget, hko, cond_true, findM_es]
          by_cases hq' : q ∈ ks
          · simp only [if_pos hq', Nat.zero_add]
          · simp only [if_neg hq']; rfl
        obtain ⟨w', q1, _, q2, q3⟩ := mapPutA_ok hA s1 (.int _ _) hv hφ
        refine ⟨w', q1, rfl, ?_⟩
        generalize hes : (if q ∈ ks then setAt (esFrom j cs one ks 0) (ks.idxOf q) (AVal.int j q, v) else esFrom j cs one ks 0 ++ [(.int j q, v)]) = es' at q2 q3
        have hget2 : (putObj ⟨st.heap.set r (some (.map (esFrom j cs one ks 0))), st.next, st.log⟩ r (.map es')).heap.get r = some (.map es') := by
          show (PT.set _ r _).get r = _
          rw [PT.get_set, if_pos rfl]
        obtain ⟨g2, b2, n2, x2, f1, f2, f3, f4⟩ := q2.obj_at hget2 rfl
        obtain ⟨rfl, rfl, rfl⟩ : g = g2 ∧ b = b2 ∧ n = n2 := by rw [hφ] at f1; simpa using f1
        obtain ⟨p1, p2⟩ := esFrom_put hes.symm
        obtain ⟨c1, c2, c3, c4⟩ := putT_ok (φ := φ) hput hlens
        have hnew : ORel φ (.smap j (mkeys ks q) cs' one) b n x2 := by
          cases f4 with
          | map _ _ _ ms clock hl hbn hbo hh =>
            refine .smap _ _ _ _ _ _ ms clock (by rw [hl, p1]) hbn hbo fun i z hz => ?_
            obtain ⟨m, d1, d2, d3⟩ := hh i _ (p2 i z hz)
            have hkey : m.key = .int j z := by generalize m.key = y at d2; cases d2; rfl
            have hin : inR j z := by
              rcases mkeys_get hz with ⟨_, rfl⟩ | ⟨_, _, h3⟩
              · exact hqr
              · cases e4 with | smap _ _ _ _ _ _ _ _ _ _ _ h => exact (h i z h3).1
            refine ⟨hin, m, d1, hkey, ?_⟩
            by_cases hi : i = putPos ks q
            · rw [if_pos hi] at d3
              subst hi
              obtain ⟨us, a1, a2, a3⟩ := cells_rel_one hvs d3
              exact ⟨us, c3 us a1, a2, a3⟩
            · rw [if_neg hi] at d3
              rcases mkeys_get hz with ⟨h3, _⟩ | ⟨_, h2, h3⟩
              · exact absurd h3 hi
              · rw [c4 i hi h2]
                refine pack_rel d3 fun ho => ?_
                rw [rowT_length, ← c2]
                subst ho
                cases v <;> first | (cases hvs; rfl) | (cases hvs; done)
        obtain ⟨t1, t2⟩ := swap_ok q2 hget2 hφ f3 hnew
        have hcong : ∀ y, (st.heap.set r (some (.smap j (mkeys ks q) cs' one))).get y = ((((st.heap.set r (some (.map (esFrom j cs one ks 0)))).set r (some (.map es'))).set r (some (.smap j (mkeys ks q) cs' one)))).get y := fun y => by
          rw [← set_set, ← set_set]
        exact ⟨t1.cong hcong, ((s2.trans q3).trans t2).cong hcong⟩
      · cases h
    · cases h
  · cases h
theorem esFrom_del {k : IntKind} {cs : List TCol} {one : Bool} {ks : List Int} {p : Nat} {j : Nat} {z : Int} (hz : (ks.eraseIdx p)[j]? = some z) : ((esFrom k cs one ks 0).eraseIdx p)[j]? = some (.int k z, packM one (rowT (if j < p then j else j + 1) cs)) := by
  rw [List.getElem?_eraseIdx] at hz ⊢
  by_cases h : j < p
  · rw [if_pos h] at hz ⊢
    rw [if_pos h, esFrom_get, hz, Nat.zero_add]; rfl
  · rw [if_neg h] at hz ⊢
    rw [if_neg h, esFrom_get, hz, Nat.zero_add]; rfl
theorem mdel_get {α : Type} {ks : List Int} {q : Int} {l : List α} {d : α} {j : Nat} : (mdel ks q l).getD j d = l.getD (if j < ks.idxOf q then j else j + 1) d := by
  unfold mdel
  rw [List.getD_eq_getElem?_getD, List.getElem?_eraseIdx, List.getD_eq_getElem?_getD]
  split <;> rfl
theorem delT_row (ks : List Int) (q : Int) (j : Nat) : ∀ cs : List TCol, rowT j (delT ks q cs) = rowT (if j < ks.idxOf q then j else j + 1) cs
  | [] => rfl
  | c :: cs => by
    simp only [delT, rowT, delT_row ks q j cs]
    congr 1
    cases c <;> simp only [TCol.del, TCol.val, mdel_get]
theorem mapDelS_ok {st st' : St} {w : World} {t : TypeId} {r g b n : Nat} {k x : AVal} {uk : Value} {ob : OP} (h : mapDelS P st t r k = some (ob, x, st')) (hw : WRel w0 φ st.heap st.next w) (hk : VRel φ k uk) (hφ : φ r = some (g, b, n)) {A : Array TypeId} (hA : A[0]? = some t) (ty : TypeId) :
    ∃ w', (Builtin.delete_ A ty #[.map (some g), uk]).run P w = .ok (.tuple #[]) w' ∧ x = .tuple [] ∧ WRel w0 φ st'.heap st'.next w' ∧ Step φ st.heap w φ st'.heap w' := by
  unfold mapDelS at h
  split at h
  · rename_i kt et kk ks cs one j q ht hH hq
    split at h
    · rename_i j' hkt
      cases hb : (kindEq j j' && kindEq j kk) with
      | false => rw [hb] at h; cases h
      | true =>
      rw [hb] at h
      cases h
      rw [Bool.and_eq_true] at hb
      obtain rfl := kindEq_eq _ _ hb.1
      obtain rfl := kindEq_eq _ _ hb.2
      obtain ⟨rfl, hqr⟩ := asR_rel hq hk
      obtain ⟨g', b', n', x0, e1, e2, e3, e4⟩ := hw.obj_at hH rfl
      obtain ⟨rfl, rfl, rfl⟩ : g = g' ∧ b = b' ∧ n = n' := by rw [hφ] at e1; simpa using e1
      obtain ⟨s1, s2⟩ := swap_ok hw hH hφ e3 (smap_map e4)
      have hko : keyOk P kt (.int j q) = true := by unfold keyOk; rw [hkt]; exact kindEq_refl j
      have hget : (st.heap.set r (some (.map (esFrom j cs one ks 0)))).get r = some (.map (esFrom j cs one ks 0)) := by rw [PT.get_set, if_pos rfl]
      have hes : ks.eraseIdx (ks.idxOf q) = if q ∈ ks then ks.eraseIdx (ks.idxOf q) else ks := by
        by_cases hq' : q ∈ ks
        · rw [if_pos hq']
        · rw [if_neg hq', List.idxOf_eq_length hq', List.eraseIdx_of_length_le (Nat.le_refl _)]
      have hA2 : mapDelA P ⟨st.heap.set r (some (.map (esFrom j cs one ks 0))), st.next, st.log⟩ t r (.int j q) = some (.tuple [], putObj ⟨st.heap.set r (some (.map (esFrom j cs one ks 0))), st.next, st.log⟩ r (.map ((esFrom j cs one ks 0).eraseIdx (ks.idxOf q)))) := by
        unfold mapDelA
        simp only [ht, hget, hko, cond_true, findM_es]
        by_cases hq' : q ∈ ks
        · simp only [if_pos hq', Nat.zero_add, delAt_eq]
        · simp only [if_neg hq']
          rw [List.eraseIdx_of_length_le (by rw [esFrom_length, List.idxOf_eq_length hq']; exact Nat.le_refl _)]
      obtain ⟨w', q1, _, q2, q3⟩ := mapDelA_ok hA2 s1 (.int _ _) hφ hA ty
      refine ⟨w', q1, rfl, ?_⟩
      generalize hes2 : (esFrom j cs one ks 0).eraseIdx (ks.idxOf q) = es' at q2 q3
      have hget2 : (putObj ⟨st.heap.set r (some (.map (esFrom j cs one ks 0))), st.next, st.log⟩ r (.map es')).heap.get r = some (.map es') := by
        show (PT.set _ r _).get r = _
        rw [PT.get_set, if_pos rfl]
      obtain ⟨g2, b2, n2, x2, f1, f2, f3, f4⟩ := q2.obj_at hget2 rfl
      obtain ⟨rfl, rfl, rfl⟩ : g = g2 ∧ b = b2 ∧ n = n2 := by rw [hφ] at f1; simpa using f1
      have hnew : ORel φ (.smap j (mdel ks q ks) (delT ks q cs) one) b n x2 := by
        cases f4 with
        | map _ _ _ ms clock hl hbn hbo hh =>
          have hlen : es'.length = (mdel ks q ks).length := by
            rw [← hes2, List.length_eraseIdx, esFrom_length]; unfold mdel; rw [List.length_eraseIdx]
          refine .smap _ _ _ _ _ _ ms clock (by rw [hl, hlen]) hbn hbo fun i z hz => ?_
          have hz' : (ks.eraseIdx (ks.idxOf q))[i]? = some z := hz
          have hi := esFrom_del (k := j) (cs := cs) (one := one) hz'
          rw [hes2] at hi
          obtain ⟨m, d1, d2, d3⟩ := hh i _ hi
          have hkey : m.key = .int j z := by generalize m.key = y at d2; cases d2; rfl
          rw [List.getElem?_eraseIdx] at hz'
          have hold : ks[if i < ks.idxOf q then i else i + 1]? = some z := by
            by_cases h3 : i < ks.idxOf q
            · rw [if_pos h3] at hz' ⊢; exact hz'
            · rw [if_neg h3] at hz' ⊢; exact hz'
          cases e4 with
          | smap _ _ _ _ _ _ ms0 _ _ _ _ h =>
          obtain ⟨h0, m0, _, _, vs0, h4, h5, _⟩ := h _ z hold
          refine ⟨h0, m, d1, hkey, ?_⟩
          rw [delT_row]
          refine pack_rel d3 fun ho => ?_
          have h6 := h4.length
          rw [h5 ho] at h6
          exact h6.symm
      obtain ⟨t1, t2⟩ := swap_ok q2 hget2 hφ f3 hnew
      have hcong : ∀ y, (st.heap.set r (some (.smap j (mdel ks q ks) (delT ks q cs) one))).get y = ((((st.heap.set r (some (.map (esFrom j cs one ks 0)))).set r (some (.map es'))).set r (some (.smap j (mdel ks q ks) (delT ks q cs) one)))).get y := fun y => by
        rw [← set_set, ← set_set]
      exact ⟨t1.cong hcong, ((s2.trans q3).trans t2).cong hcong⟩
    · cases h
  · cases h
theorem mapPutP_ok {st st' : St} {w : World} {t : TypeId} {r g b n : Nat} {k v x : AVal} {uk uv : Value} (h : got (mapPutP P st t r k v) = some (x, st')) (hw : WRel w0 φ st.heap st.next w) (hk : VRel φ k uk) (hv : VRel φ v uv) (hφ : φ r = some (g, b, n)) :
    ∃ w', (Instr.mapUpdate t (.map (some g)) uk uv).run P w = .ok () w' ∧ x = .undef ∧ WRel w0 φ st'.heap st'.next w' ∧ Step φ st.heap w φ st'.heap w' := by
  obtain ⟨ob, h, hob⟩ := got_some h
  unfold mapPutP at h
  split at h
  · cases h; exact mapPutA_ok ‹_› hw hk hv hφ
  · exact mapPutS_ok h hob hw hk hv hφ
theorem mapDelP_ok {st st' : St} {w : World} {t : TypeId} {r g b n : Nat} {k x : AVal} {uk : Value} (h : got (mapDelP P st t r k) = some (x, st')) (hw : WRel w0 φ st.heap st.next w) (hk : VRel φ k uk) (hφ : φ r = some (g, b, n)) {A : Array TypeId} (hA : A[0]? = some t) (ty : TypeId) :
    ∃ w', (Builtin.delete_ A ty #[.map (some g), uk]).run P w = .ok (.tuple #[]) w' ∧ x = .tuple [] ∧ WRel w0 φ st'.heap st'.next w' ∧ Step φ st.heap w φ st'.heap w' := by
  obtain ⟨ob, h, hob⟩ := got_some h
  unfold mapDelP at h
  split at h
  · cases h; exact mapDelA_ok ‹_› hw hk hφ hA ty
  · exact mapDelS_ok h hw hk hφ hA ty
/-- bytes of one's own are changed no more -/
def Phi.addP (φ : Phi) (g b : Nat) (l : List UInt8) (t : Nat × Nat × Nat) : Phi := fun k => if k = .pool g b l then some t else φ k
theorem freeze_ok {H : PT AObj} {next : Nat} {w : World} (hw : WRel w0 φ H next w) {y g b n : Nat} {o : AObj} {l : List UInt8} {u : Obj} (hH : H.get y = some o) (hφ : φ y = some (g, b, n)) (hg : w.heap[g]? = some u) (ho : ORel φ (.sbytes l 0) b n (thaw u)) :
    WRel w0 (φ.addP g b l (g, b, n)) (H.set y none) next w ∧ Step φ H w (φ.addP g b l (g, b, n)) (H.set y none) w := by
  have hno : φ (.pool g b l) = none := by
    cases hp : φ (.pool g b l) with
    | none => rfl
    | some t => exact absurd hφ (hw.apart g b l t y o b n hp hH)
  have hle : φ.le (φ.addP g b l (g, b, n)) := fun k t hk => by
    unfold Phi.addP
    split
    · rename_i e; subst e; rw [hno] at hk; cases hk
    · exact hk
  have hblk : ∀ x : Nat, φ.addP g b l (g, b, n) (.blk x) = φ (.blk x) := fun x => if_neg (by intro e; cases e)
  have hget : ∀ x o1, (H.set y none).get x = some o1 → x ≠ y ∧ H.get x = some o1 := fun x o1 hx => by
    rw [PT.get_set] at hx
    split at hx
    · cases hx
    · exact ⟨‹_›, hx⟩
  have hpool : ∀ k b1 L t, φ.addP g b l (g, b, n) (.pool k b1 L) = some t → (k = g ∧ b1 = b ∧ L = l ∧ t = (g, b, n)) ∨ φ (.pool k b1 L) = some t := fun k b1 L t h => by
    unfold Phi.addP at h
    split at h
    · rename_i e
      cases e
      exact .inl ⟨rfl, rfl, rfl, (Option.some.inj h).symm⟩
    · exact .inr h
  refine ⟨⟨⟨hw.below, fun x hx => (hblk x).trans (hw.fresh x hx), fun x o1 hx => ?_, fun x z o1 o2 g1 b1 b2 n1 n2 hx hz h1 h2 => ?_, fun x o1 hx => hw.lt x o1 (hget x o1 hx).2⟩, fun k b1 L t ht => ?_, fun k b1 L t x o1 b2 n1 ht hx h1 => ?_⟩,
    ⟨⟨hle, Nat.le_refl _, fun x o1 g1 b1 n1 hx h1 => ?_, fun _ _ _ => rfl, fun x h1 h2 => absurd ((hblk x).trans h2) h1⟩, fun k b1 L t ht => ?_⟩⟩
  · rcases hw.obj x o1 (hget x o1 hx).2 with ⟨e1, e2⟩ | ⟨g1, b1, n1, u1, e1, e2, e3, e4⟩
    · exact .inl ⟨(hblk x).trans e1, e2⟩
    · exact .inr ⟨g1, b1, n1, u1, (hblk x).trans e1, e2, e3, e4.mono hle⟩
  · rw [hblk] at h1 h2
    exact hw.inj x z o1 o2 g1 b1 b2 n1 n2 (hget x o1 hx).2 (hget z o2 hz).2 h1 h2
  · rcases hpool k b1 L t ht with ⟨rfl, rfl, rfl, rfl⟩ | h
    · exact ⟨n, u, rfl, hg, ho.mono hle⟩
    · obtain ⟨n1, x, e1, e2, e3⟩ := hw.pool k b1 L t h
      exact ⟨n1, x, e1, e2, e3.mono hle⟩
  · rw [hblk] at h1
    obtain ⟨hxy, hx⟩ := hget x o1 hx
    rcases hpool k b1 L t ht with ⟨rfl, rfl, rfl, rfl⟩ | h
    · exact hxy (hw.inj x y o1 o k b2 b1 n1 n hx hH h1 hφ)
    · exact hw.apart k b1 L t x o1 b2 n1 h hx h1
  · rw [hblk] at h1
    exact .inr ⟨x, o1, b1, n1, (hget x o1 hx).2, h1⟩
  · rcases hpool k b1 L t ht with ⟨rfl, rfl, rfl, rfl⟩ | h
    · exact .inr (.inr ⟨y, o, b1, n, hH, hφ⟩)
    · exact .inl h
theorem frz_ok {st st1 : St} {w : World} {v v' : AVal} {u : Value} {ob : OP} (h : frz st v = some (ob, v', st1)) (hob : ob.ok) (hw : WRel w0 φ st.heap st.next w) (hv : VRel φ v u) :
    ∃ φ', WRel w0 φ' st1.heap st1.next w ∧ Step φ st.heap w φ' st1.heap w ∧ VRel φ' v' u ∧ st1.next = st.next ∧ ∀ x o, st1.heap.get x = some o → st.heap.get x = some o := by
  have same : ∀ v'', ob = none → v' = v'' → st1 = st → VRel φ v'' u → ∃ φ', WRel w0 φ' st1.heap st1.next w ∧ Step φ st.heap w φ' st1.heap w ∧ VRel φ' v' u ∧ st1.next = st.next ∧ ∀ x o, st1.heap.get x = some o → st.heap.get x = some o := fun v'' _ h1 h2 h3 => by
    subst h1 h2
    exact ⟨φ, hw, Step.refl _ _ _, h3, rfl, fun _ _ h => h⟩
  have kget : ∀ b x o, (st.heap.set b none).get x = some o → st.heap.get x = some o := fun b x o hx => by
    rw [PT.get_set] at hx
    split at hx
    · cases hx
    · exact hx
  have row : ∀ (b n c : Nat) (l : List UInt8) (o : AObj), st.heap.get b = some o → (∀ b0 nb x, ORel φ o b0 nb (thaw x) → ORel φ (.sbytes l 0) b0 nb (thaw x)) → (o.nul = true → l = []) → n = l.length → ((∃ ex, VRel φ (.sslice (b, 0) n c ex 1) u) ∨ ∃ ex z, VRel φ (.slice (some (b, 0)) n c ex z) u) →
      ∃ φ', WRel w0 φ' (st.heap.set b none) st.next w ∧ Step φ st.heap w φ' (st.heap.set b none) w ∧ VRel φ' (.pbytes l) u := fun b n c l o hH ho hnul hn hvv => by
    subst hn
    have emp : l = [] → (∃ A c, u = .slice A 0 c) → ∃ φ', WRel w0 φ' (st.heap.set b none) st.next w ∧ Step φ st.heap w φ' (st.heap.set b none) w ∧ VRel φ' (.pbytes l) u := fun h1 ⟨A, c, h2⟩ => by
      subst h1 h2
      obtain ⟨k1, k2⟩ := kill_ok hw b
      exact ⟨φ, k1, k2, .pemp _ _⟩
    have main : ∀ g b0 nb cap a, φ b = some (g, b0, nb) → u = .slice (some a) l.length cap → l.length ≤ cap → ((cap = 0 ∧ a.block = g) ∨ a = ⟨g, b0 + 0, none⟩) → ∃ φ', WRel w0 φ' (st.heap.set b none) st.next w ∧ Step φ st.heap w φ' (st.heap.set b none) w ∧ VRel φ' (.pbytes l) u := fun g b0 nb cap a hφ hu hc ha => by
      cases hl : l with
      | nil => exact hl ▸ emp hl ⟨some a, cap, by rw [hu, hl]; rfl⟩
      | cons c0 l0 =>
        rw [← hl]
        rcases ha with ⟨h0, _⟩ | rfl
        · rw [hl] at hc; simp at hc; omega
        · obtain ⟨g', b', n', x0, e1, e2, e3, e4⟩ := hw.obj_of hH hφ
          obtain ⟨rfl, rfl, rfl⟩ : g = g' ∧ b0 = b' ∧ nb = n' := by rw [hφ] at e1; simpa using e1
          obtain ⟨k1, k2⟩ := freeze_ok hw hH hφ e3 (ho _ _ _ e4.thaw)
          refine ⟨_, k1, k2, ?_⟩
          subst hu
          have := VRel.pbytes (φ := φ.addP g b0 l (g, b0, nb)) l l 0 g b0 nb cap (if_pos rfl) (by simp) (by simp) hc
          simpa using this
    rcases hvv with ⟨ex, hvv⟩ | ⟨ex, z, hvv⟩
    · generalize hln : l.length = m at hvv
      cases hvv with
      | sslice _ _ _ _ _ g b0 nb cap _ a hφ hl hc he hz ha => exact main g b0 nb cap a hφ (by rw [hln]) (by omega) ha
      | snil => exact emp (List.eq_nil_of_length_eq_zero hln) ⟨none, 0, rfl⟩
      | semp _ A c z => exact emp (List.eq_nil_of_length_eq_zero hln) ⟨A, c, rfl⟩
    · generalize hln : l.length = m at hvv
      cases hvv with
      | slice _ _ _ _ _ g b0 nb cap _ a hφ hl hc he hz ha => exact main g b0 nb cap a hφ (by rw [hln]) (by omega) ha
  unfold frz at h
  split at h
  · rename_i b o n c ex z
    split at h
    · rename_i l t hH
      cases hb : (Nat.beq o 0 && Nat.beq z 1) with
      | false => rw [hb] at h; cases h
      | true =>
        rw [hb] at h
        cases h
        rw [Bool.and_eq_true] at hb
        obtain rfl := Nat.eq_of_beq_eq_true hb.1
        obtain rfl := Nat.eq_of_beq_eq_true hb.2
        obtain ⟨φ', k1, k2, k3⟩ := row b n c l _ hH (fun b0 nb x hx => by
          generalize thaw x = xx at hx ⊢
          cases hx with | sbytes _ _ _ _ _ hx => cases hx with | cells _ _ t' _ _ cc fz i0 i1 i2 i3 => exact .sbytes _ _ _ _ _ (.cells _ _ _ _ _ _ _ i0 i1 i2 i3)) (fun hn => by cases l with | nil => rfl | cons _ _ => cases hn) hob (.inl ⟨ex, hv⟩)
        exact ⟨φ', k1, k2, k3, rfl, kget b⟩
    · cases h
  · rename_i b o n c ex z
    split at h
    · rename_i vs t hH
      split at h
      · rename_i q hq
        cases hb : (Nat.beq o 0 && Nat.beq n (lenL vs 0)) with
        | false => rw [hb] at h; cases h
        | true =>
          rw [hb] at h
          cases h
          rw [Bool.and_eq_true] at hb
          obtain rfl := Nat.eq_of_beq_eq_true hb.1
          have hn := Nat.eq_of_beq_eq_true hb.2
          rw [lenL0] at hn
          obtain ⟨g0, b0, nb0, x0, _, _, _, d4⟩ := hw.obj_at hH rfl
          have hlen : vs.length = q.length := by
            cases d4 with
            | cells _ _ _ _ _ cc fz i0 i1 i2 i3 =>
              have h1 := bytesS_rel hq i2
              have h2 := i2.length
              rw [h1, vals_length] at h2
              exact h2.symm
          obtain ⟨φ', k1, k2, k3⟩ := row b n c q _ hH (fun b1 nb x hx => by
            generalize thaw x = xx at hx ⊢
            cases hx with
            | cells _ _ t' _ _ cc fz i0 i1 i2 i3 =>
              exact sbytes_cells i0 (by omega) (by rw [← hlen]; exact bytesS_rel hq i2) i3) (fun hn => by cases hn) (by omega) (.inr ⟨ex, z, hv⟩)
          exact ⟨φ', k1, k2, k3, rfl, kget b⟩
      · cases h
    · cases h
  all_goals first | (cases h; exact same _ rfl rfl rfl hv) | (cases h; cases hv; exact same _ rfl rfl rfl (.pemp _ _)) | cases h
theorem OP.andO_ok {p q : OP} (h : (andO p q).ok) : p.ok ∧ q.ok := by
  cases p <;> cases q <;> first | exact ⟨trivial, h⟩ | exact ⟨h, trivial⟩ | exact h | exact ⟨trivial, trivial⟩
theorem frzs_ok {w : World} : ∀ {vs vs' : List AVal} {us : List Value} {φ : Phi} {st st1 : St} {ob : OP}, frzs st vs = some (ob, vs', st1) → ob.ok → WRel w0 φ st.heap st.next w → VRels φ vs us →
    ∃ φ', WRel w0 φ' st1.heap st1.next w ∧ Step φ st.heap w φ' st1.heap w ∧ VRels φ' vs' us ∧ st1.next = st.next ∧ ∀ x o, st1.heap.get x = some o → st.heap.get x = some o
  | [], _, us, φ, st, st1, ob, h, _, hw, hv => by
    cases h
    exact ⟨φ, hw, Step.refl _ _ _, hv, rfl, fun _ _ h => h⟩
  | v :: vs, _, us, φ, st, st1, ob, h, hob, hw, hv => by
    simp only [frzs] at h
    split at h
    · rename_i ob1 v' s1 h1
      split at h
      · rename_i ob2 vs' s2 h2
        cases h
        obtain ⟨o1, o2⟩ := OP.andO_ok hob
        cases hv with
        | cons _ u _ us hv hvs =>
        obtain ⟨φ1, a1, a2, a3, a4, a5⟩ := frz_ok h1 o1 hw hv
        obtain ⟨φ2, b1, b2, b3, b4, b5⟩ := frzs_ok h2 o2 a1 (hvs.mono a2.le)
        exact ⟨φ2, b1, a2.trans b2, .cons _ _ _ _ (a3.mono b2.le) b3, b4.trans a4, fun x o hx => a5 x o (b5 x o hx)⟩
      · cases h
    · cases h
/-- the rows of a table behind each other -/
def flatT (cs : List TCol) : Nat → Nat → List AVal
  | _, 0 => []
  | i, m + 1 => rowT i cs ++ flatT cs (i + 1) m
theorem flatT_length (cs : List TCol) : ∀ i m, (flatT cs i m).length = m * cs.length
  | _, 0 => by simp [flatT]
  | i, m + 1 => by rw [flatT, List.length_append, rowT_length, flatT_length cs (i + 1) m, Nat.succ_mul]; omega
theorem flatT_row (cs : List TCol) (l : List AVal) : ∀ i m j, j < m → ((flatT cs i m ++ l).drop (j * cs.length)).take cs.length = rowT (i + j) cs
  | i, 0, j, h => by omega
  | i, m + 1, 0, _ => by
    rw [flatT, Nat.zero_mul, List.drop_zero, List.append_assoc, List.take_left' (by rw [rowT_length])]; rfl
  | i, m + 1, j + 1, h => by
    rw [flatT, List.append_assoc, Nat.succ_mul, Nat.add_comm, ← List.drop_drop, List.drop_left' (by rw [rowT_length]), flatT_row cs l (i + 1) m j (by omega), show i + 1 + j = i + (j + 1) by omega]
theorem VRels.part {l : List AVal} {us : List Value} (h : VRels φ l us) (o n : Nat) : VRels φ ((l.drop o).take n) ((us.drop o).take n) := (h.drop o).take n
theorem flatT_rel (cs : List TCol) : ∀ (m i : Nat) (us : List Value), us.length = m * cs.length → (∀ j, j < m → VRels φ (rowT (i + j) cs) ((us.drop (j * cs.length)).take cs.length)) → VRels φ (flatT cs i m) us
  | 0, i, us, hl, h => by
    rw [Nat.zero_mul] at hl
    rw [List.eq_nil_of_length_eq_zero hl]; exact .nil
  | m + 1, i, us, hl, h => by
    have h0 := h 0 (by omega)
    rw [Nat.zero_mul, List.drop_zero] at h0
    rw [flatT, ← List.take_append_drop cs.length us]
    refine h0.append (flatT_rel cs m (i + 1) _ (by rw [List.length_drop, hl, Nat.succ_mul]; omega) fun j hj => ?_)
    have h1 := h (j + 1) (by omega)
    rw [List.drop_drop, show cs.length + j * cs.length = (j + 1) * cs.length by rw [Nat.succ_mul]; omega, show i + 1 + j = i + (j + 1) by omega]
    exact h1
theorem tab_flat {m : Nat} {cs : List TCol} {t : TypeId} {b n : Nat} {x : Obj} (h : ORel φ (.tab m cs t) b n x) : ORel φ (.cells (flatT cs 0 m) t) b n x := by
  cases h with
  | tab _ _ _ t' _ _ c fz hn hb h hf =>
    refine .cells _ _ _ _ _ _ _ hn (by rw [flatT_length]; exact hb) ?_ hf
    rw [flatT_length]
    have hc : c.toList.length = c.size := Array.length_toList
    have hb' : b + m * cs.length ≤ c.toList.length := by omega
    refine flatT_rel cs m 0 _ (by rw [List.length_take, List.length_drop]; omega) fun j hj => ?_
    have h1 := h j hj
    have h2 : j * cs.length + cs.length ≤ m * cs.length := by
      have := Nat.mul_le_mul_right cs.length (Nat.succ_le_of_lt hj)
      rwa [Nat.succ_mul] at this
    rw [Nat.zero_add, List.drop_take, List.drop_drop, List.take_take, Nat.min_eq_left (by omega)]
    exact h1
theorem tab_of {m : Nat} {cs : List TCol} {L : List AVal} {t : TypeId} {b n : Nat} {x : Obj} (h : ORel φ (.cells L t) b n x) (hl : L.length = m * cs.length) (hr : ∀ i us, i < m → VRels φ ((L.drop (i * cs.length)).take cs.length) us → VRels φ (rowT i cs) us) : ORel φ (.tab m cs t) b n x := by
  cases h with
  | cells _ _ t' _ _ c fz hn hb h hf =>
    rw [hl] at hb h
    refine .tab _ _ _ _ _ _ _ _ hn hb (fun i hi => hr i _ hi ?_) hf
    have h1 := h.part (i * cs.length) cs.length
    have h2 : i * cs.length + cs.length ≤ m * cs.length := by
      have := Nat.mul_le_mul_right cs.length (Nat.succ_le_of_lt hi)
      rwa [Nat.succ_mul] at this
    rw [List.drop_take, List.drop_drop, List.take_take, Nat.min_eq_left (by omega)] at h1
    exact h1
theorem col_snoc {n : Nat} {c c' : TCol} {v : AVal} (h : c.snoc v = some c') (hl : c.lenIs n) : (∀ u, VRel φ v u → VRel φ (c'.val n) u) ∧ ∀ j, j < n → c'.val j = c.val j := by
  have at1 : ∀ {α : Type} (l : List α) (v d : α), (l ++ [v]).getD l.length d = v := fun l v d => by
    rw [List.getD_eq_getElem?_getD, List.getElem?_append_right (Nat.le_refl _), Nat.sub_self]; rfl
  have ne1 : ∀ {α : Type} (l : List α) (v d : α) (j : Nat), j < l.length → (l ++ [v]).getD j d = l.getD j d := fun l v d j hj => by
    rw [List.getD_eq_getElem?_getD, List.getElem?_append_left hj, ← List.getD_eq_getElem?_getD]
  cases c with
  | zs k l =>
    obtain rfl : l.length = n := hl
    simp only [TCol.snoc] at h
    split at h
    · rename_i j z hz
      cases hb : kindEq k j with
      | false => rw [hb] at h; cases h
      | true =>
        rw [hb] at h
        cases h
        obtain rfl := kindEq_eq _ _ hb
        refine ⟨fun u hu => ?_, fun j h1 => by simp only [TCol.val]; rw [ne1 _ _ _ _ h1]⟩
        obtain ⟨rfl, hr⟩ := asR_rel hz hu
        simp only [TCol.val, at1]
        exact .sint _ _ hr
    · cases h
  | bs l =>
    obtain rfl : l.length = n := hl
    simp only [TCol.snoc] at h
    split at h
    · rename_i b hb
      cases h
      refine ⟨fun u hu => ?_, fun j h1 => by simp only [TCol.val]; rw [ne1 _ _ _ _ h1]⟩
      obtain rfl := asBo_rel hb hu
      simp only [TCol.val, at1]
      exact .sbool _
    · cases h
  | ss l =>
    obtain rfl : l.length = n := hl
    simp only [TCol.snoc] at h
    split at h
    · rename_i b hb
      cases h
      refine ⟨fun u hu => ?_, fun j h1 => by simp only [TCol.val]; rw [ne1 _ _ _ _ h1]⟩
      obtain ⟨s, rfl, rfl⟩ := asB_rel hb hu
      simp only [TCol.val, at1]
      exact .sstr _
    · cases h
  | ps l =>
    obtain rfl : l.length = n := hl
    simp only [TCol.snoc] at h
    split at h
    · cases h
      refine ⟨fun u hu => ?_, fun j h1 => by simp only [TCol.val]; rw [ne1 _ _ _ _ h1]⟩
      simp only [TCol.val, at1]
      exact hu
    · cases h
theorem snocT_ok {n : Nat} : ∀ {cs cs' : List TCol} {vs : List AVal}, snocT cs vs = some cs' → lensT n cs → cs'.length = cs.length ∧ vs.length = cs.length ∧ (∀ (φ : Phi) us, VRels φ vs us → VRels φ (rowT n cs') us) ∧ ∀ j, j < n → rowT j cs' = rowT j cs
  | [], cs', [], h, _ => by cases h; exact ⟨rfl, rfl, fun φ us hu => by cases hu; exact .nil, fun _ _ => rfl⟩
  | [], _, _ :: _, h, _ => by cases h
  | _ :: _, _, [], h, _ => by cases h
  | c :: cs, cs', v :: vs, h, hl => by
    simp only [snocT] at h
    split at h
    · rename_i c1 cs1 h1 h2
      cases h
      obtain ⟨b1, b2, b3, b4⟩ := snocT_ok h2 hl.2
      refine ⟨by simp [b1], by simp [b2], fun φ us hu => ?_, fun j h3 => by simp only [rowT]; rw [(col_snoc (φ := fun _ => none) h1 hl.1).2 j h3, b4 j h3]⟩
      cases hu with
      | cons _ u _ us hu hus => exact .cons _ _ _ _ ((col_snoc (φ := φ) h1 hl.1).1 u hu) (b3 φ us hus)
    · cases h
theorem frz_one {st st1 : St} {v v' : AVal} {ob : OP} (h : frz st v = some (ob, v', st1)) : oneA [v'] = true := by
  unfold frz at h
  split at h
  · split at h
    · cases hb : (Nat.beq _ 0 && Nat.beq _ 1) with
      | false => rw [hb] at h; cases h
      | true => rw [hb] at h; cases h; rfl
    · cases h
  · split at h
    · split at h
      · cases hb : (Nat.beq _ 0 && Nat.beq _ (lenL _ 0)) with
        | false => rw [hb] at h; cases h
        | true => rw [hb] at h; cases h; rfl
      · cases h
    · cases h
  all_goals first | (cases h; rfl) | cases h
theorem frzs_one : ∀ {vs vs' : List AVal} {st st1 : St} {ob : OP}, frzs st vs = some (ob, vs', st1) → oneA vs' = true
  | [], _, _, _, _, h => by cases h; rfl
  | v :: vs, _, st, st1, ob, h => by
    simp only [frzs] at h
    split at h
    · rename_i ob1 v' s1 h1
      split at h
      · rename_i ob2 vs' s2 h2
        cases h
        have a := frz_one h1
        have b := frzs_one h2
        cases v' <;> first | (cases a; done) | exact b
      · cases h
    · cases h
theorem frzs_len : ∀ {vs vs' : List AVal} {st st1 : St} {ob : OP}, frzs st vs = some (ob, vs', st1) → vs'.length = vs.length
  | [], _, _, _, _, h => by cases h; rfl
  | v :: vs, _, st, st1, ob, h => by
    simp only [frzs] at h
    split at h
    · split at h
      · rename_i h2
        cases h
        simp [frzs_len h2]
      · cases h
    · cases h
theorem appendT_ok {st st' : St} {w : World} {A : Array TypeId} {t t2 ty e : TypeId} {d : TypeDesc} {s x v : AVal} {us ux : Value} {op : OP} (hA0 : A[0]? = some t) (hA1 : A[1]? = some t2) (ht : P.underlying t = some (.slice e)) (ht2 : P.underlying t2 = some d) (hd : d = .string ∨ ∃ k, d = .slice k)
    (h : appendT P st e s x = some (op, v, st')) (hop : op.ok) (hs : VRel φ s us) (hx : VRel φ x ux) (hw : WRel w0 φ st.heap st.next w) (hr : RRel w0 φ RO) :
    Out w0 φ st w v st' ((Builtin.append_ A ty #[us, ux]).run P w) := by
  unfold appendT at h
  split at h
  · rename_i b i len lo wd sb so m c2 ex2 z2 sz zero hsz hzero
    split at h
    · rename_i vs tsb hsb
      split at h
      · rename_i ob vs' st1 hfz
        split at h
        · rename_i n cs ttb l2 t3 hb1 hsb1
          split at h
          · rename_i cs' hsn
            cases hbb : (Nat.beq sz wd && Nat.beq m 1 && Nat.beq so 0 && Nat.beq i 0 && Nat.beq (lenL vs 0) wd && Nat.beq (lenL cs 0) wd && Nat.blt 0 wd && Nat.ble (P.bytesOf e) 1048576 && Nat.beq (lenL zero.cells 0) wd) with
            | false => rw [hbb] at h; cases h
            | true =>
            rw [hbb] at h
            cases h
            simp only [Bool.and_eq_true, lenL0] at hbb
            obtain ⟨⟨⟨⟨⟨⟨⟨⟨q1, q2⟩, q3⟩, q4⟩, q5⟩, q6⟩, q7⟩, q8⟩, q9⟩ := hbb
            obtain rfl := Nat.eq_of_beq_eq_true q1
            obtain rfl := Nat.eq_of_beq_eq_true q2
            obtain rfl := Nat.eq_of_beq_eq_true q3
            obtain rfl := Nat.eq_of_beq_eq_true q4
            have q5 := Nat.eq_of_beq_eq_true q5
            have q6 := Nat.eq_of_beq_eq_true q6
            have q9 := Nat.eq_of_beq_eq_true q9
            rw [Nat.blt_eq] at q7
            obtain ⟨hob, hn, h64, hlens⟩ := OP.andO_ok hop
            subst hn
            -- the row's cells, frozen
            obtain ⟨gs, bs, ns, us0, e1, e2, e3, e4⟩ := hw.obj_at hsb rfl
            have hvs : ∃ uvs, VRels φ vs uvs := by
              cases e4 with | cells _ _ _ _ _ c fz i0 i1 i2 i3 => exact ⟨_, i2⟩
            obtain ⟨uvs, hvs⟩ := hvs
            have hvs0 : ∀ (ψ : Phi), φ.le ψ → (∀ {xs}, VRels ψ vs xs → xs.length = sz) → True := fun _ _ _ => trivial
            -- what stands in the block
            cases e4 with
            | cells _ _ t0 _ _ c0 fz0 i0 i1 i2 i3 =>
            obtain ⟨φ1, a1, a2, a3, a4, a5⟩ := frzs_ok hfz hob hw i2
            have hl' := frzs_len hfz
            have hone := frzs_one hfz
            have hsb1' : st.heap.get sb = some (.cells l2 t3) := a5 _ _ hsb1
            rw [hsb] at hsb1'
            cases hsb1'
            have hg1 : w.heap[gs]? = some (.cells c0 t0 fz0) := e3
            obtain ⟨s1, s2⟩ := swap_ok (o' := .cells vs' tsb) a1 hsb1 (a2.le _ _ e1) hg1 (.cells _ _ _ _ _ _ _ i0 (by rw [hl']; exact i1) (by rw [hl']; exact a3) i3)
            -- the table's rows behind each other
            have hbs : b ≠ sb := fun e => by subst e; rw [hb1] at hsb1; cases hsb1
            have hgetb : (st1.heap.set sb (some (.cells vs' tsb))).get b = some (.tab n cs ttb) := by rw [PT.get_set, if_neg hbs]; exact hb1
            have hx1 : VRel φ1 (.slice (some (sb, 0)) 1 c2 ex2 z2) ux := hx.mono a2.le
            have hs1 : VRel φ1 (.tslice b 0 n lo false sz) us := hs.mono a2.le
            obtain ⟨cs1, cs2, cs3, cs4⟩ := snocT_ok hsn hlens
            have hsz0 : sz ≠ 0 := by omega
            have hrowlen : vs'.length = sz := by omega
            have hrow : ∀ j (l : List AVal), j < n → ((flatT cs 0 n ++ l).drop (j * sz)).take sz = rowT j cs := fun j l hj => by
              have := flatT_row cs l 0 n j hj
              rwa [q6, Nat.zero_add] at this
            have hnx : st1.next = st.next := a4
            have hbn : b ≠ st1.next := fun e => by have := a1.lt _ _ hb1; omega
            have hsn' : sb ≠ st1.next := fun e => by have := a1.lt _ _ hsb1; omega
            -- the last step: a table again
            have last : ∀ (H : PT AObj) (ψ : Phi) (w' : World) (u : Value) (b1 : Nat), φ1.le ψ → WRel w0 ψ H (st1.next + 1) w' → Step φ st.heap w ψ H w' → H.get st1.next = some (.cells (flatT cs 0 n ++ vs') e) → (∀ y, y ≠ st1.next → y ≠ sb → y ≠ b → H.get y = st1.heap.get y) → VRel ψ (.slice (some (st1.next, 0)) (n + 1) (n + 1) false sz) u →
                StepOk w0 φ st w (.tslice st1.next 0 (n + 1) (n + 1) false sz) { heap := ((st1.heap.set sb none).set b none).set st1.next (some (.tab (n + 1) cs' e)), next := Nat.succ st1.next, log := b :: sb :: st1.log } u w' := fun H ψ w' u _ hle hwl hsl hgl hoth hv => by
              obtain ⟨gl, bl, nl, ul, f1, f2, f3, f4⟩ := hwl.obj_at hgl rfl
              have htab : ORel ψ (.tab (n + 1) cs' e) bl nl ul := tab_of f4 (by rw [List.length_append, flatT_length, q6, hrowlen, cs1, q6, Nat.succ_mul]) fun i us hi hu => by
                rw [cs1, q6] at hu
                by_cases hin : i < n
                · rw [hrow i vs' hin] at hu
                  rw [cs4 i hin]; exact hu
                · obtain rfl : i = n := by omega
                  rw [List.drop_left' (by rw [flatT_length, q6]), List.take_of_length_le (by omega)] at hu
                  exact cs3 ψ us hu
              obtain ⟨k1, k2⟩ := swap_ok hwl hgl f1 f3 htab
              obtain ⟨k3, k4⟩ := kill_ok k1 sb
              obtain ⟨k5, k6⟩ := kill_ok k3 b
              have hc : ∀ y, (((st1.heap.set sb none).set b none).set st1.next (some (.tab (n + 1) cs' e))).get y = (((H.set st1.next (some (.tab (n + 1) cs' e))).set sb none).set b none).get y := fun y => by
                rw [PT.get_set, PT.get_set, PT.get_set, PT.get_set, PT.get_set, PT.get_set]
                by_cases h1 : y = st1.next
                · subst h1; rw [if_pos rfl, if_neg (fun e => hbn e.symm), if_neg (fun e => hsn' e.symm), if_pos rfl]
                · rw [if_neg h1]
                  by_cases h2 : y = b
                  · rw [if_pos h2, if_pos h2]
                  · rw [if_neg h2, if_neg h2]
                    by_cases h3 : y = sb
                    · rw [if_pos h3, if_pos h3]
                    · rw [if_neg h3, if_neg h3, if_neg h1, hoth y h1 h3 h2]
              refine ⟨ψ, .tslice _ _ _ _ _ _ _ ?_, k5.cong hc, (((hsl.trans k2).trans k4).trans k6).cong hc⟩
              rw [Nat.zero_mul]
              cases hv with
              | slice _ _ _ _ _ g b n cap ex a h hl hc he hz ha => exact .sslice _ _ _ _ _ _ _ _ _ _ _ h hl hc he hz ha
            have hsz1 : Nat.beq sz sz = true := Nat.beq_refl _
            have h0 : Nat.beq sz 0 = false := by cases hh : Nat.beq sz 0 with | false => rfl | true => exact absurd (Nat.eq_of_beq_eq_true hh) hsz0
            have h65 : Nat.blt 65536 (n + 1) = false := by cases hh : Nat.blt 65536 (n + 1) with | false => rfl | true => rw [Nat.blt_eq] at hh; omega
            have h10 : Nat.blt 1048576 (P.bytesOf e) = false := by cases hh : Nat.blt 1048576 (P.bytesOf e) with | false => rfl | true => rw [Nat.blt_eq] at hh; have := Nat.le_of_ble_eq_true q8; omega
            have hz9 : Nat.beq (lenL zero.cells 0) sz = true := by rw [lenL0, q9]; exact hsz1
            have hsrc : ∀ (H : PT AObj) lg, H.get sb = some (.cells vs' tsb) → cellsOfSrc RO ⟨H, st1.next, lg⟩ sz 1 (.slice (some (sb, 0)) 1 c2 ex2 z2) = some vs' := fun H lg hh => by
              have hrd : rd RO ⟨H, st1.next, lg⟩ sb = some (.cells vs' tsb) := by unfold rd; simp only [hh]
              unfold cellsOfSrc
              simp only [hrd]
              unfold slicedL
              rw [lenL0, hrowlen, show Nat.ble (0 + 1 * sz) sz = true from Nat.ble_eq_true_of_le (by omega)]
              simp only [cond_true, List.drop_zero]
              rw [List.take_of_length_le (by omega)]
            cases hs1 with
            | tslice _ _ _ _ _ _ _ hs2 =>
            rw [Nat.zero_mul] at hs2
            cases hs2 with
            | sslice _ _ _ _ _ g b0 nb cap _ a hφb hlen hcap hex hzz ha =>
              -- a table that stands somewhere
              obtain ⟨gb, bb, nnb, ub, g1, g2, g3, g4⟩ := a1.obj_of hb1 hφb
              obtain ⟨rfl, rfl, rfl⟩ : g = gb ∧ b0 = bb ∧ nb = nnb := by rw [hφb] at g1; simpa using g1
              obtain ⟨t1, t2⟩ := swap_ok s1 hgetb hφb g3 (tab_flat g4)
              generalize hHH : ((st1.heap.set sb (some (.cells vs' tsb))).set b (some (.cells (flatT cs 0 n) ttb))) = HH at t1 t2
              have hHb : HH.get b = some (.cells (flatT cs 0 n) ttb) := by rw [← hHH, PT.get_set, if_pos rfl]
              have hHs : HH.get sb = some (.cells vs' tsb) := by rw [← hHH, PT.get_set, if_neg (fun e => hbs e.symm), PT.get_set, if_pos rfl]
              have hA : appendA P RO ⟨HH, st1.next, []⟩ e (.slice (some (b, 0)) n n false sz) (.slice (some (sb, 0)) 1 c2 ex2 z2) = some (.slice (some (st1.next, 0)) (n + 1) (n + 1) false sz, { heap := (HH.set b none).set st1.next (some (.cells (flatT cs 0 n ++ vs') e)), next := Nat.succ st1.next, log := [b] }) := by
                unfold appendA
                simp only [hsz, hzero, lenSrc, h65, h0, h10, hsz1, hz9, Bool.or_true, Bool.or_false, Bool.not_true, Bool.false_or, cond_false, hsrc HH [] hHs, hone, cond_true]
                rw [show Nat.ble (n + 1) n = false by cases hh : Nat.ble (n + 1) n with | false => rfl | true => have := Nat.le_of_ble_eq_true hh; omega]
                simp only [cond_false]
                have hold : cellsOfSrc RO ⟨HH, st1.next, []⟩ sz n (.slice (some (b, 0)) n n false sz) = some (flatT cs 0 n) := by
                  have hrd : rd RO ⟨HH, st1.next, []⟩ b = some (.cells (flatT cs 0 n) ttb) := by unfold rd; simp only [hHb]
                  unfold cellsOfSrc
                  simp only [hrd]
                  unfold slicedL
                  rw [lenL0, flatT_length, q6, show Nat.ble (0 + n * sz) (n * sz) = true from Nat.ble_eq_true_of_le (by omega)]
                  simp only [cond_true, List.drop_zero]
                  rw [List.take_of_length_le (by rw [flatT_length, q6]; exact Nat.le_refl _)]
                rw [hold]
                unfold growA
                simp only [hHb]
              obtain ⟨u, w', r1, ψ, r2, r3, r4⟩ := appendA_ok (ty := ty) hA0 hA1 ht ht2 hd hA (.slice _ _ _ _ _ g b0 nb cap false a hφb (Nat.le_refl _) (Nat.le_trans hlen hcap) (fun e => (by cases e)) hzz ha) hx1 t1 (hr.mono a2.le)
              refine ⟨u, w', r1, last _ ψ w' u 0 r4.le r3 (((a2.trans s2).trans t2).trans r4) (by show (PT.set _ _ _).get _ = _; rw [PT.get_set, if_pos rfl]) (fun y h1 h2 h3 => ?_) r2⟩
              show ((HH.set b none).set st1.next _).get y = _
              rw [PT.get_set, if_neg h1, PT.get_set, if_neg h3, ← hHH, PT.get_set, if_neg h3, PT.get_set, if_neg h2]
            | snil =>
              generalize hHH : (st1.heap.set sb (some (.cells vs' tsb))) = HH at s1 s2
              have hHs : HH.get sb = some (.cells vs' tsb) := by rw [← hHH, PT.get_set, if_pos rfl]
              have hA : appendA P RO ⟨HH, st1.next, []⟩ e (.slice none 0 0 true sz) (.slice (some (sb, 0)) 1 c2 ex2 z2) = some (.slice (some (st1.next, 0)) (0 + 1) (0 + 1) false sz, { heap := HH.set st1.next (some (.cells (flatT cs 0 0 ++ vs') e)), next := Nat.succ st1.next, log := [] }) := by
                unfold appendA
                simp only [hsz, hzero, lenSrc, h65, h0, h10, hsz1, hz9, Bool.or_true, Bool.or_false, Bool.not_true, Bool.false_or, Bool.true_or, cond_false, hsrc HH [] hHs, hone, cond_true]
                rfl
              obtain ⟨u, w', r1, ψ, r2, r3, r4⟩ := appendA_ok (ty := ty) hA0 hA1 ht ht2 hd hA (.slice0 true sz) hx1 s1 (hr.mono a2.le)
              refine ⟨u, w', r1, last _ ψ w' u 0 r4.le r3 ((a2.trans s2).trans r4) (by show (PT.set _ _ _).get _ = _; rw [PT.get_set, if_pos rfl]) (fun y h1 h2 h3 => ?_) r2⟩
              show (HH.set st1.next _).get y = _
              rw [PT.get_set, if_neg h1, ← hHH, PT.get_set, if_neg h2]
          · cases h
        · cases h
      · cases h
    · cases h
  · cases h
end
end Go.Proofs.Ytcofcojjofkgcaa.Abs
