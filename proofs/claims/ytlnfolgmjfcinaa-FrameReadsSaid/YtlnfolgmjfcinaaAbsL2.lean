/- Closed functions run by an interpreter: more operations that read at most one block. By an AI agent. -/
import Derived.Test.YtlnfolgmjfcinaaAbsL
import Derived.Laws.Tables
import Derived.Laws.CopyRow
import Derived.Laws.MakeOwn
import Derived.Laws.IdiomStrings
import Derived.Great.BuildSlice
namespace Go.Proofs.Ytlnfolgmjfcinaa.Abs
open Go Go.RowKit
set_option linter.unusedVariables false
section
variable {φ : Phi} {P : Program} {ev : Operand → Option AVal} {ρ : Operand → Value}
theorem putAt_some {l l' vs : List AVal} {o : Nat} (h : putAt l o vs = some l') : l' = l.take o ++ vs ++ l.drop (o + vs.length) ∧ o + vs.length ≤ l.length := by
  unfold putAt at h
  rw [lenL0, lenL0] at h
  cases hb : Nat.ble (o + vs.length) l.length with
  | false => rw [hb] at h; cases h
  | true => rw [hb] at h; cases h; exact ⟨rfl, Nat.le_of_ble_eq_true hb⟩
theorem foldl_put (off : Nat) : ∀ (vs : List Value) (k : Nat) (cs : Array Value), off + k + vs.length ≤ cs.size →
    ((vs.zipIdx k).foldl (fun cs (p : Value × Nat) => cs.setIfInBounds (off + p.2) p.1) cs).toList = cs.toList.take (off + k) ++ vs ++ cs.toList.drop (off + k + vs.length)
  | [], k, cs, h => by simp
  | v :: vs, k, cs, h => by
    rw [List.zipIdx_cons, List.foldl_cons, foldl_put off vs (k + 1) (cs.setIfInBounds (off + k) v) (by simp at h ⊢; omega)]
    have e := list_seg_step cs.toList (off + k) v vs (by simp at h ⊢; omega)
    simpa [Array.toList_setIfInBounds, Nat.add_assoc] using e
theorem put_rel {l vs : List AVal} {c : List Value} {us : List Value} {o : Nat} (h : VRels φ l c) (h' : VRels φ vs us) : VRels φ (l.take o ++ vs ++ l.drop (o + vs.length)) (c.take o ++ us ++ c.drop (o + us.length)) := by
  rw [h'.length]
  exact ((h.take o).append h').append (h.drop _)
theorem fill_some (place : Nat → Option (Nat × Nat)) : ∀ (vs : List (Nat × AVal)) (l l' : List AVal) (us : List (Nat × Value)) (c : Array Value), fillA place l vs = some l' → VRels φ l c.toList →
    us.length = vs.length → (∀ (i n : Nat) (v : AVal), vs[i]? = some (n, v) → ∃ u, us[i]? = some (n, u) ∧ VRel φ v u) → ∃ c', Instr.fill place c us = some c' ∧ VRels φ l' c'.toList
  | [], l, l', us, c, h, hc, hl, hr => by
    cases us with
    | nil => simp [fillA] at h; subst h; exact ⟨c, rfl, hc⟩
    | cons _ _ => simp at hl
  | (n, v) :: vs, l, l', us, c, h, hc, hl, hr => by
    cases us with
    | nil => simp at hl
    | cons nu us =>
      obtain ⟨u, hu, hvu⟩ := hr 0 n v rfl
      obtain rfl : nu = (n, u) := by simpa using hu
      unfold fillA at h
      split at h
      · rename_i o m hp
        rw [lenL0] at h
        cases hb : Nat.beq v.cells.length m with
        | false => rw [hb] at h; cases h
        | true =>
          rw [hb] at h
          simp only [cond_true] at h
          split at h
          · rename_i l1 hl1
            obtain ⟨rfl, hle⟩ := putAt_some hl1
            have hcr := cells_rel hvu
            have hcl := hcr.length
            have hm : v.cells.length = m := Nat.eq_of_beq_eq_true hb
            have hcsz := hc.length
            rw [Array.length_toList] at hcl hcsz
            have hfold := foldl_put o u.cells.toList 0 c (by simp; omega)
            have hput := put_rel (o := o) hc hcr
            have hz : (u.cells.zipIdx.foldl (fun cs (p : Value × Nat) => cs.setIfInBounds (o + p.2) p.1) c).toList = c.toList.take o ++ u.cells.toList ++ c.toList.drop (o + u.cells.toList.length) := by
              rw [← Array.foldl_toList, Array.toList_zipIdx]
              simpa using hfold
            obtain ⟨c', h1, h2⟩ := fill_some place vs _ l' us (u.cells.zipIdx.foldl (fun cs (p : Value × Nat) => cs.setIfInBounds (o + p.2) p.1) c) h (by rw [hz]; exact hput) (by simpa using hl)
              (fun i n v hi => by have := hr (i + 1) n v (by simpa using hi); simpa using this)
            refine ⟨c', ?_, h2⟩
            unfold Instr.fill
            rw [hp]
            simp only
            rw [if_neg (by simp; omega)]
            exact h1
          · cases h
      · cases h
theorem evps_some (he : EvOk φ ev ρ) : ∀ (ps : List (Nat × Operand)) (vs : List (Nat × AVal)), evps ev ps = some vs →
    (ps.map fun p => (p.1, ρ p.2)).length = vs.length ∧ ∀ (i n : Nat) (v : AVal), vs[i]? = some (n, v) → ∃ u, (ps.map fun p => (p.1, ρ p.2))[i]? = some (n, u) ∧ VRel φ v u
  | [], vs, h => by simp [evps] at h; subst h; simp
  | (n, x) :: ps, vs, h => by
    unfold evps at h
    split at h
    · rename_i v vs' hv hvs
      cases h
      obtain ⟨h1, h2⟩ := evps_some he ps vs' hvs
      refine ⟨by simpa using h1, fun i m w hi => ?_⟩
      rcases i with _ | i
      · simp at hi
        obtain ⟨rfl, rfl⟩ := hi
        exact ⟨_, rfl, he _ _ hv⟩
      · have := h2 i m w (by simpa using hi)
        simpa using this
    · cases h
theorem evs_some (he : EvOk φ ev ρ) : ∀ (xs : List Operand) (vs : List AVal), evs ev xs = some vs → VRels φ vs (xs.map ρ)
  | [], vs, h => by simp [evs] at h; subst h; exact .nil
  | x :: xs, vs, h => by
    unfold evs at h
    split at h
    · rename_i v vs' hv hvs
      cases h
      exact .cons _ _ _ _ (he _ _ hv) (evs_some he xs vs' hvs)
    · cases h
theorem places_some : ∀ (fs : List Field) (ps : List (Nat × Nat)), placesA P fs = some ps → fs.mapM (fun f => (P.info? f.type).map fun i => (f.offset, i.size)) = some ps
  | [], ps, h => by simp [placesA] at h; subst h; rfl
  | f :: fs, ps, h => by
    unfold placesA at h
    split at h
    · rename_i n ps' hn hps
      cases h
      unfold sizeA at hn
      split at hn
      · rename_i i hi
        cases hn
        simp [List.mapM_cons, hi, places_some fs ps' hps]
      · cases hn
    · cases h
theorem size_info {t : TypeId} {n : Nat} (h : sizeA P t = some n) : ∃ i, P.info? t = some i ∧ i.size = n := by
  unfold sizeA at h
  split at h
  · cases h; exact ⟨_, ‹_›, rfl⟩
  · cases h
theorem nth_toArray {α : Type} (ps : List α) : (fun i => ps.toArray[i]?) = nth ps := by funext i; rw [nth_eq]; simp
theorem build_ok (he : EvOk φ ev ρ) (o : Oper) (t : TypeId) (parts : Array (Nat × Operand)) (ho : o.op = .build t parts) (r : LRes) (h : lBuild P ev t parts = some r) : LSpec φ (fun w => (execOp ρ o).run P w) r := by
  unfold lBuild at h
  split at h
  · rename_i z vs hz hvs
    obtain ⟨it, zv, hit, hiz, hzr, _⟩ := zero_some (φ := φ) hz
    obtain ⟨e1, e2⟩ := evps_some he _ _ hvs
    have hzc := cells_rel hzr
    have key : ∀ (place : Nat → Option (Nat × Nat)) (l : List AVal), fillA place z.cells vs = some l → P.built t (parts.map fun (i, x) => (i, ρ x)).toList = Instr.fill place zv.cells (parts.map fun (i, x) => (i, ρ x)).toList →
        ∃ u, VRel φ (.agg l) u ∧ ∀ w, (execOp ρ o).run P w = .ok (.value u) w := fun place l hf hb => by
      obtain ⟨c', h1, h2⟩ := fill_some place vs _ _ (parts.map fun (i, x) => (i, ρ x)).toList zv.cells hf hzc (by simpa using e1) (by simpa using e2)
      refine ⟨.agg c', .agg _ _ h2, fun w => ?_⟩
      rw [h1] at hb
      have := run_build (P := P) w t (parts.map fun (i, x) => (i, ρ x)) c' hb
      simp [execOp, ho, this]
    split at h
    · rename_i fs hu
      split at h
      · rename_i ps hps
        split at h
        · rename_i l hl
          cases h
          refine key _ _ hl ?_
          unfold Program.built
          simp only [hit, hu, hiz, places_some _ _ hps, nth_toArray]
        · cases h
      · cases h
    · rename_i n e hu
      split at h
      · rename_i m hm
        obtain ⟨ie, hie, rfl⟩ := size_info hm
        split at h
        · rename_i l hl
          cases h
          refine key _ _ hl ?_
          unfold Program.built
          simp only [hit, hu, hiz, hie]
        · cases h
      · cases h
    · cases h
  · cases h
theorem rep_length (z : List AVal) : ∀ n, (repL z n).length = n * z.length
  | 0 => by simp [repL]
  | n + 1 => by rw [repL, List.length_append, rep_length z n, Nat.succ_mul]; omega
theorem rep_get (z : List AVal) (hz : 0 < z.length) : ∀ (n i : Nat), i < n * z.length → (repL z n)[i]? = z[i % z.length]?
  | 0, i, h => by simp at h
  | n + 1, i, h => by
    rw [repL]
    by_cases hi : i < z.length
    · rw [List.getElem?_append_left hi, Nat.mod_eq_of_lt hi]
    · rw [List.getElem?_append_right (by omega), rep_get z hz n (i - z.length) (by rw [Nat.succ_mul] at h; omega)]
      rw [← Nat.mod_eq_sub_mod (by omega)]
theorem made_rel {z : List AVal} {c : Array Value} (h : VRels φ z c.toList) (hz : 0 < z.length) (n m : Nat) (hm : m = n * z.length) : VRels φ (repL z n) (madeCells c m).toList := by
  subst hm
  have hc : c.size = z.length := by rw [← h.length, Array.length_toList]
  refine VRels.of_get (by rw [Array.length_toList, size_madeCells, rep_length]) fun i v hi => ?_
  have hlt : i < n * z.length := by rw [← rep_length z n]; exact (List.getElem?_eq_some_iff.1 hi).1
  rw [rep_get z hz n i hlt] at hi
  obtain ⟨u, h1, h2⟩ := h.get hi
  refine ⟨u, ?_, h2⟩
  have hlt2 : i % c.size < c.size := Nat.mod_lt _ (by omega)
  rw [Array.getElem?_toList] at h1 ⊢
  unfold madeCells
  rw [Array.getElem?_map, Array.getElem?_range]
  rw [← hc] at h1
  simp only [hlt, if_true, Option.map_some]
  rw [Array.getElem?_eq_getElem hlt2] at h1
  rw [getElem!_pos c _ hlt2]
  exact h1
theorem cells_new {l : List AVal} {c : Array Value} (t : TypeId) (h : VRels φ l c.toList) : ORel φ (.cells l t) 0 c.size (.cells c t (0, 0)) := by
  refine .cells _ _ _ _ _ _ _ rfl (by have := h.length; simp at this ⊢; omega) ?_ (.inl rfl)
  rw [List.drop_zero, List.take_of_length_le (by rw [h.length]; exact Nat.le_refl _)]
  exact h
theorem mslice_ok (he : EvOk φ ev ρ) (o : Oper) (t : TypeId) (l c : Operand) (ho : o.op = .makeSlice t l c) (r : LRes) (h : lMakeSlice P ev t l c = some r) : LSpec φ (fun w => (execOp ρ o).run P w) r := by
  unfold lMakeSlice at h
  split at h
  · rename_i e k n k' m hu hl hc
    split at h
    · rename_i s z hs hz
      rw [lenL0] at h
      cases hb : (Nat.ble n m && Nat.ble m 1048576 && Nat.ble (P.bytesOf e) 1048576 && Nat.beq z.cells.length s && Nat.blt 0 s) with
      | false => rw [hb] at h; cases h
      | true =>
        rw [hb] at h
        cases h
        simp only [Bool.and_eq_true, Nat.blt_eq] at hb
        obtain ⟨⟨⟨⟨b1, b2⟩, b3⟩, b4⟩, b5⟩ := hb
        have b1 := Nat.le_of_ble_eq_true b1
        have b2 := Nat.le_of_ble_eq_true b2
        have b3 := Nat.le_of_ble_eq_true b3
        have b4 := Nat.eq_of_beq_eq_true b4
        obtain ⟨ie, zv, hie, hiz, hzr, _⟩ := zero_some (φ := φ) hz
        obtain ⟨ie', hie', hsz⟩ := size_info hs
        obtain rfl : ie = ie' := by rw [hie] at hie'; simpa using hie'
        have hby : P.bytesOf e = ie.bytes := by unfold Program.bytesOf; rw [hie]; rfl
        rw [hby] at b3
        have h1 := he _ _ hl
        have h2 := he _ _ hc
        generalize hρl : ρ l = ql at h1
        generalize hρc : ρ c = qc at h2
        cases h1
        cases h2
        have hzc := cells_rel hzr
        intro w
        have hbm : (ie.bytes : Int) * (m : Int) ≤ 281474976710656 := by
          have : ie.bytes * m ≤ 1048576 * 1048576 := Nat.mul_le_mul b3 b2
          have h3 : ((ie.bytes * m : Nat) : Int) ≤ 281474976710656 := by omega
          rwa [Int.natCast_mul] at h3
        have hr := run_make (P := P) w t e ie zv hu hie hiz k k' (n : Int) (m : Int) (by omega) (by omega) hbm (by omega)
        have hrel := made_rel hzc (by omega) m (m * ie.size) (by rw [b4, hsz])
        have hn0 := cells_new e hrel
        rw [size_madeCells] at hn0
        refine ⟨.cells (madeCells zv.cells (m * ie.size)) e, m * ie.size, .slice (some ⟨w.heap.size, 0, none⟩) n m, w.alloc (.cells (madeCells zv.cells (m * ie.size)) e), ?_, rfl, rfl, rfl, rfl, hn0, fun ψ r hle hr => ?_⟩
        · have h4 : (Instr.makeSlice t (.int k (Int.ofNat n)) (.int k' (Int.ofNat m))).run P w = _ := hr
          simp [execOp, ho, hρl, hρc]
          simp at h4
          rw [h4]
          simp
        · exact .slice r 0 n m s w.heap.size 0 (m * ie.size) m true _ hr b1 (Nat.le_refl _) (fun _ => rfl) (by simp) (.inr rfl)
    · cases h
  · cases h
end
end Go.Proofs.Ytlnfolgmjfcinaa.Abs
