/- Closed functions run by an interpreter: append and copy. By an AI agent. -/
import Derived.Test.YtlnfolgmjfcinaaAbsH
namespace Go.Proofs.Ytlnfolgmjfcinaa.Abs
open Go Go.RowKit
set_option linter.unusedVariables false
section
variable {w0 : World} {φ : Phi} {P : Program} {RO : PT AObj}
theorem WRel.drew {H : PT AObj} {next : Nat} {w : World} (h : WRel w0 φ H next w) : WRel w0 φ H next w.drew := ⟨h.below.drew, h.fresh, h.obj, h.inj, h.lt⟩
theorem Step.drew (H : PT AObj) (w : World) : Step φ H w φ H w.drew := ⟨φ.le_refl, Nat.le_refl _, fun x o g b n h1 h2 => .inr ⟨x, o, b, n, h1, h2⟩, fun _ _ _ => rfl, fun _ h k => absurd k h⟩
theorem lenSrc_ok {x : AVal} {n : Nat} {u : Value} (h : lenSrc x = some n) (hx : VRel φ x u) : ∀ w, (Builtin.lenOf u).run P w = .ok n w := by
  unfold lenSrc at h
  split at h
  · cases h; intro w; cases hx <;> rfl
  · cases h; intro w; cases hx with | str s => rw [lenL0, List.length_map, Array.length_toList]; rfl
  · cases h
theorem src_ok {st : St} {w : World} {size n m : Nat} {x : AVal} {u : Value} {new : List AVal} (h : cellsOfSrc RO st size n x = some new) (hl : lenSrc x = some m) (hnm : n ≤ m) (hx : VRel φ x u) (hw : WRel w0 φ st.heap st.next w) (hr : RRel w0 φ RO) :
    ∃ news : Array Value, VRels φ new news.toList ∧ (Builtin.firstCells size n u).run P w = .ok news w := by
  unfold cellsOfSrc at h
  split at h
  · cases hb : Nat.beq n 0 with
    | false => rw [hb] at h; cases h
    | true =>
      rw [hb] at h; cases h
      cases hx
      exact ⟨#[], .nil, rfl⟩
  · rename_i b o len cap ex z
    have hm : len = m := by simpa [lenSrc] using hl
    split at h
    · rename_i l t hrd
      obtain ⟨rfl, hle⟩ := slicedL_some h
      obtain ⟨g, b0, nb, x', e1, e2, e3⟩ := rd_some hrd hw hr rfl
      obtain ⟨us, f1, f2, f3⟩ := orel_row e3 hle
      cases hx with
      | slice _ _ _ _ _ g2 b2 nb2 cap' _ a hφ hl' hc hex hz ha =>
      obtain ⟨rfl, rfl, rfl⟩ : g = g2 ∧ b0 = b2 ∧ nb = nb2 := by rw [e1] at hφ; simpa using hφ
      refine ⟨us.toArray, by simpa using f2, ?_⟩
      rcases ha with ⟨rfl, _⟩ | rfl
      · have hn0 : n = 0 := by omega
        subst hn0
        have : us = [] := List.eq_nil_of_length_eq_zero (by simpa using f1)
        subst this
        simp [Builtin.firstCells, loadCells, loadCellsFrom]
      · have := run_loadCells_list (P := P) w ⟨g, b0 + o, none⟩ us (f3 w g e2)
        rw [f1] at this
        simpa [Builtin.firstCells] using this
    · cases h
  · rename_i l
    cases hb1 : Nat.beq size 1 with
    | false => rw [hb1] at h; cases h
    | true =>
    rw [hb1] at h
    cases h
    cases hx with
    | str s =>
    refine ⟨(s.extract 0 n).data.map fun b => .int .u8 b.toNat, VRels.of_get ?_ fun i v hi => ?_, rfl⟩
    · have : s.data.size = s.size := rfl
      simp [this]
    · rw [List.getElem?_map, List.getElem?_take] at hi
      by_cases hin : i < n
      · rw [if_pos hin, List.getElem?_map] at hi
        cases hq : s.data.toList[i]? with
        | none => rw [hq] at hi; cases hi
        | some b =>
          rw [hq] at hi
          cases hi
          refine ⟨.int .u8 b.toNat, ?_, .int _ _⟩
          rw [Array.getElem?_toList] at hq ⊢
          rw [Array.getElem?_map, ByteArray.data_extract, Array.getElem?_extract]
          obtain ⟨hlt, _⟩ := Array.getElem?_eq_some_iff.1 hq
          have h2 : i < min n s.size := by have : s.data.size = s.size := rfl; omega
          simp [h2, hq]
      · rw [if_neg hin] at hi; cases hi
  · cases h
theorem cells_len {st : St} {size n m : Nat} {x : AVal} {new : List AVal} (h : cellsOfSrc RO st size n x = some new) (hl : lenSrc x = some m) (hnm : n ≤ m) : new.length = n * size := by
  unfold cellsOfSrc at h
  split at h
  · cases hb : Nat.beq n 0 with
    | false => rw [hb] at h; cases h
    | true => rw [hb] at h; cases h; have := Nat.eq_of_beq_eq_true hb; subst this; simp
  · split at h
    · obtain ⟨rfl, hh⟩ := slicedL_some h
      simp; omega
    · cases h
  · rename_i l
    cases hb1 : Nat.beq size 1 with
    | false => rw [hb1] at h; cases h
    | true =>
      rw [hb1] at h; cases h
      have := Nat.eq_of_beq_eq_true hb1
      subst this
      have hlm : lenL l 0 = m := by simpa [lenSrc] using hl
      rw [lenL0] at hlm
      simp; omega
  · cases h
theorem run_append_in {A : Array TypeId} {t t2 ty e : TypeId} {d : TypeDesc} {size : Nat} (h0 : A[0]? = some t) (h1 : A[1]? = some t2) (ht : P.underlying t = some (.slice e)) (ht2 : P.underlying t2 = some d) (hd : d = .string ∨ ∃ k, d = .slice k) (hs : sizeA P e = some size)
    {base : Option Addr} {sLen sCap n : Nat} {x : Value} {w w' : World} {news : Array Value} (hl : (Builtin.lenOf x).run P w = .ok n w) (hn : (Builtin.firstCells size n x).run P w = .ok news w) (hle : sLen + n ≤ sCap)
    (hst : match base with | some a => (storeCells (a.add (sLen * size)) news.toList).run P w = .ok () w' | none => w' = w) :
    (Builtin.append_ A ty #[.slice base sLen sCap, x]).run P w = .ok (.slice base (sLen + n) sCap) w' := by
  rcases hd with rfl | ⟨k, rfl⟩ <;> cases base with
  | none => simp only at hst; subst hst; simp [Builtin.append_, h0, h1, run_und ht, run_und ht2, run_size hs, hl, hle, hn]
  | some a => simp only at hst; simp [Builtin.append_, h0, h1, run_und ht, run_und ht2, run_size hs, hl, hle, hn, hst]
theorem run_append_up {A : Array TypeId} {t t2 ty e : TypeId} {d : TypeDesc} {size : Nat} {i : TypeInfo} {z : Value} (h0 : A[0]? = some t) (h1 : A[1]? = some t2) (ht : P.underlying t = some (.slice e)) (ht2 : P.underlying t2 = some d) (hd : d = .string ∨ ∃ k, d = .slice k) (hs : sizeA P e = some size) (hi : P.info? e = some i) (hz : i.zero = some z)
    {base : Option Addr} {sLen sCap n : Nat} {x : Value} {w : World} {olds news : Array Value} (hl : (Builtin.lenOf x).run P w = .ok n w) (ho : (Builtin.firstCells size sLen (.slice base sLen sCap)).run P w.drew = .ok olds w.drew) (hn : (Builtin.firstCells size n x).run P w.drew = .ok news w.drew)
    (hle : ¬ sLen + n ≤ sCap) (hsm : sLen + n ≤ 65536) (hby : i.bytes ≤ 1048576) :
    (Builtin.append_ A ty #[.slice base sLen sCap, x]).run P w = .ok (.slice (some ⟨w.heap.size, 0, none⟩) (sLen + n) (grownCap w (sLen + n) sCap e))
      (w.drew.alloc (.cells (olds ++ news ++ Builtin.zeroCells z.cells (grownCap w (sLen + n) sCap e - (sLen + n))) e)) := by
  have h63 : ¬ (((sLen + n : Nat) : Int) > IntKind.i64.max ∧ (false = true ∨ i.bytes = 0)) := by simp [IntKind.max, IntKind.bits, IntKind.signed]; omega
  have h48 : ¬ Builtin.nextslicecap (sLen + n) sCap * i.bytes > 2 ^ 48 := by
    have h1 : (sLen + n) * i.bytes ≤ 65536 * 1048576 := Nat.mul_le_mul hsm hby
    have := growslice_fits (bytes := i.bytes) (show sCap < sLen + n by omega) (by omega)
    omega
  have hzv : ∀ w, (zeroValue e).run P w = .ok z w := fun w => by simp [zeroValue, typeInfo, hi, hz]
  have hti : ∀ w, (typeInfo e).run P w = .ok i w := fun w => by simp [typeInfo, hi]
  have hdr : ({ w with drawn := w.drawn + 1 } : World) = w.drew := rfl
  have h63' : ¬ (9223372036854775807 < ((sLen : Int) + (n : Int))) := by omega
  have h48' : ¬ (281474976710656 < Builtin.nextslicecap (sLen + n) sCap * i.bytes) := by omega
  rcases hd with rfl | ⟨k, rfl⟩ <;> (simp [Builtin.append_, h0, h1, run_und ht, run_und ht2, run_size hs, hl, hle, hti, hzv, h63', h48', Question.forced, ho, hn, newRow, grownCap])
/-- the outcome of an operation -/
def Out (w0 : World) (φ : Phi) (st : St) (w : World) (v : AVal) (st' : St) (r : Result Value) : Prop := ∃ u w', r = .ok u w' ∧ StepOk w0 φ st w v st' u w'
theorem grown_cells {l : List AVal} {c : Array Value} {m : Nat} {zs : Array Value} (t : TypeId) (h : VRels φ l c.toList) : ORel φ (.cells l t) 0 (c ++ zs).size (.cells (c ++ zs) t (0, 0)) := by
  have hl := h.length
  refine .cells _ _ _ _ _ _ _ rfl (by simp at hl ⊢; omega) ?_ (.inl rfl)
  rw [List.drop_zero, Array.toList_append, List.take_append_of_le_length (by omega), List.take_of_length_le (by omega)]
  exact h
theorem kill_ok {H : PT AObj} {next : Nat} {w : World} (hw : WRel w0 φ H next w) (b : Nat) : WRel w0 φ (H.set b none) next w ∧ Step φ H w φ (H.set b none) w := by
  have hget : ∀ y o1, (H.set b none).get y = some o1 → H.get y = some o1 := fun y o1 hy => by
    rw [PT.get_set] at hy
    split at hy
    · cases hy
    · exact hy
  exact ⟨⟨hw.below, hw.fresh, fun y o hy => hw.obj y o (hget y o hy), fun y z o1 o2 g b1 b2 m m' hy hz => hw.inj y z o1 o2 g b1 b2 m m' (hget _ _ hy) (hget _ _ hz), fun y o hy => hw.lt y o (hget _ _ hy)⟩, ⟨φ.le_refl, Nat.le_refl _, fun x o g b1 n h1 h2 => .inr ⟨x, o, b1, n, hget _ _ h1, h2⟩, fun _ _ _ => rfl, fun _ h k => absurd k h⟩⟩
theorem appendA_ok {st st' : St} {w : World} {A : Array TypeId} {t t2 ty e : TypeId} {d : TypeDesc} {s x v : AVal} {us ux : Value} (hA0 : A[0]? = some t) (hA1 : A[1]? = some t2) (ht : P.underlying t = some (.slice e)) (ht2 : P.underlying t2 = some d) (hd : d = .string ∨ ∃ k, d = .slice k)
    (h : appendA P RO st e s x = some (v, st')) (hs : VRel φ s us) (hx : VRel φ x ux) (hw : WRel w0 φ st.heap st.next w) (hr : RRel w0 φ RO) :
    Out w0 φ st w v st' ((Builtin.append_ A ty #[us, ux]).run P w) := by
  unfold appendA at h
  split at h
  · rename_i size zero base len cap exact z n hsz hze hlx
    cases hc : (Nat.blt 65536 (len + n) || Nat.beq size 0 || Nat.blt 1048576 (P.bytesOf e) || !(exact || Nat.beq z size) || !(Nat.beq (lenL zero.cells 0) size)) with
    | true => rw [hc] at h; cases h
    | false =>
    rw [hc] at h
    simp only [cond_false] at h
    simp only [Bool.or_eq_false_iff, Bool.not_eq_false'] at hc
    obtain ⟨⟨⟨⟨c1, c2⟩, c3⟩, c4⟩, c5⟩ := hc
    have c1 : len + n ≤ 65536 := by
      rcases Nat.lt_or_ge 65536 (len + n) with hlt | hge
      · have : Nat.blt 65536 (len + n) = true := by simpa [Nat.blt_eq] using hlt
        rw [this] at c1; cases c1
      · exact hge
    have c2 : 0 < size := by
      rcases Nat.eq_zero_or_pos size with h0 | h0
      · subst h0; simp at c2
      · exact h0
    have c3 : P.bytesOf e ≤ 1048576 := by
      rcases Nat.lt_or_ge 1048576 (P.bytesOf e) with hlt | hge
      · have : Nat.blt 1048576 (P.bytesOf e) = true := by simpa [Nat.blt_eq] using hlt
        rw [this] at c3; cases c3
      · exact hge
    have c4 : exact = false → z = size := fun he => by rw [he] at c4; exact Nat.eq_of_beq_eq_true (by simpa using c4)
    have c5 := Nat.eq_of_beq_eq_true c5
    rw [lenL0] at c5
    obtain ⟨ie, zv, hie, hiz, hzr, _⟩ := zero_some (φ := φ) hze
    have hby : ie.bytes ≤ 1048576 := by unfold Program.bytesOf at c3; rw [hie] at c3; exact c3
    have hlen := lenSrc_ok (P := P) hlx hx w
    split at h
    · cases h
    · rename_i new hnew
      cases hone : oneA new with
      | false => rw [hone] at h; cases h
      | true =>
      rw [hone] at h
      simp only [Bool.not_true, cond_false] at h
      cases hfit : Nat.ble (len + n) cap with
      | true =>
        rw [hfit] at h
        simp only [cond_true] at h
        have hfit := Nat.le_of_ble_eq_true hfit
        obtain ⟨news, n1, n2⟩ := src_ok (P := P) hnew hlx (Nat.le_refl _) hx hw hr
        unfold putInA at h
        split at h
        · cases hb : Nat.beq (len + n) 0 with
          | false => rw [hb] at h; cases h
          | true =>
            rw [hb] at h
            cases h
            have h0 := Nat.eq_of_beq_eq_true hb
            cases hs with
            | slice0 =>
            have hn0 : n = 0 := by omega
            subst hn0
            exact ⟨_, w, run_append_in (ty := ty) (w' := w) hA0 hA1 ht ht2 hd hsz hlen n2 (Nat.le_refl _) rfl, φ, .slice0 _ _, hw, Step.refl _ _ _⟩
        · rename_i b o
          split at h
          · rename_i st1 hst1
            cases h
            cases hs with
            | slice _ _ _ _ _ g b0 nb cap' _ a hφ hl hcc hex hz ha =>
            obtain ⟨g2, b2, nb2, w', e1, e2, e3, e4⟩ := storeA_ok (P := P) hst1 hw n1
            obtain ⟨rfl, rfl, rfl⟩ : g = g2 ∧ b0 = b2 ∧ nb = nb2 := by rw [hφ] at e1; simpa using e1
            have hrel : VRel φ (.slice (some (b, o)) (len + n) cap exact size) (.slice (some a) (len + n) cap') := .slice _ _ _ _ _ g b0 nb _ _ _ hφ hfit hcc hex (fun he => by have := hz he; rw [c4 he] at this; exact this) ha
            rcases ha with ⟨rfl, hab⟩ | rfl
            · have h0 : len + n = 0 := by omega
              have hl0 : len = 0 := by omega
              have hn0 : n = 0 := by omega
              subst hl0 hn0
              have hlx2 : news.toList = [] := by
                have hnl := cells_len hnew hlx (Nat.le_refl _)
                have := n1.length
                exact List.eq_nil_of_length_eq_zero (by omega)
              have hw' : w' = w := by
                rw [hlx2] at e2
                have : (Result.ok () w : Result Unit) = .ok () w' := e2
                cases this; rfl
              subst hw'
              refine ⟨_, _, run_append_in (ty := ty) (w' := w') hA0 hA1 ht ht2 hd hsz hlen n2 (by omega) ?_, φ, hrel, e3, e4⟩
              rw [hlx2]; rfl
            · refine ⟨_, w', run_append_in (ty := ty) hA0 hA1 ht ht2 hd hsz hlen n2 (by omega) ?_, φ, hrel, e3, e4⟩
              show (storeCells ((⟨g, b0 + o, none⟩ : Addr).add (len * size)) news.toList).run P w = _
              rw [add_lit, Nat.add_assoc]; exact e2
          · cases h
      | false =>
        rw [hfit] at h
        simp only [cond_false] at h
        have hfit : ¬ len + n ≤ cap := fun hle => by rw [Nat.ble_eq_true_of_le hle] at hfit; cases hfit
        split at h
        · cases h
        · rename_i old hold
          have hwd := hw.drew
          obtain ⟨news, n1, n2⟩ := src_ok (P := P) hnew hlx (Nat.le_refl _) hx hwd hr
          obtain ⟨olds, o1, o2⟩ := src_ok (P := P) hold (m := len) rfl (Nat.le_refl _) hs hwd hr
          have hall : VRels φ (old ++ new) (olds ++ news).toList := by rw [Array.toList_append]; exact o1.append n1
          have grow : ∀ (base' : Option Addr) (sCap : Nat) (H : PT AObj), us = .slice base' len sCap → ¬ len + n ≤ sCap → WRel w0 φ H st.next w → Step φ st.heap w φ H w →
              Out w0 φ st w (.slice (some (st.next, 0)) (len + n) (len + n) false size) { heap := H.set st.next (some (.cells (old ++ new) e)), next := st.next + 1, log := st'.log } ((Builtin.append_ A ty #[us, ux]).run P w) := by
            intro base' sCap H hus hno hwH hstep
            subst hus
            have hr1 := run_append_up (ty := ty) hA0 hA1 ht ht2 hd hsz hie hiz hlen o2 n2 hno c1 hby
            have hge := grownCap_ge w (len + n) sCap e
            have hor := grown_cells (m := 0) (zs := Builtin.zeroCells zv.cells (grownCap w (len + n) sCap e - (len + n))) e hall
            have hor2 : ORel (φ.ext st.next (w.drew.heap.size, 0, (olds ++ news ++ Builtin.zeroCells zv.cells (grownCap w (len + n) sCap e - (len + n))).size)) (.cells (old ++ new) e) 0 _ _ := hor.mono (Phi.ext_le _ (hwH.fresh _ (Nat.le_refl _)))
            obtain ⟨i1, i2⟩ := new_ok (w := w.drew) (w' := w.drew.alloc (.cells (olds ++ news ++ Builtin.zeroCells zv.cells (grownCap w (len + n) sCap e - (len + n))) e)) hwH.drew rfl rfl rfl rfl hor2
            refine ⟨_, _, hr1, _, .slice _ _ _ _ _ w.heap.size 0 _ _ _ _ (Phi.ext_at _ _ _) (Nat.le_refl _) hge (by simp) (fun _ => ?_) (.inr rfl), i1, hstep.trans ((Step.drew H w).trans i2)⟩
            have hzc : zv.cells.size = size := by have := (cells_rel hzr).length; simp at this; omega
            have hos : olds.size = len * size := by have h1 := o1.length; rw [cells_len hold (m := len) rfl (Nat.le_refl _)] at h1; simpa using h1
            have hns : news.size = n * size := by have h1 := n1.length; rw [cells_len hnew hlx (Nat.le_refl _)] at h1; simpa using h1
            simp only [Array.size_append, size_zeroCells, hzc, hos, hns, ← Nat.add_mul]
            rw [show len + n + (grownCap w (len + n) sCap e - (len + n)) = grownCap w (len + n) sCap e by omega]
            omega
          rcases base with _ | ⟨b, o⟩
          · have h' : some (AVal.slice (some (st.next, 0)) (len + n) (len + n) false size, ({ heap := st.heap.set st.next (some (.cells (old ++ new) e)), next := Nat.succ st.next, log := st.log } : St)) = some (v, st') := by cases exact <;> exact h
            cases h'
            cases hs with
            | slice0 => exact grow none 0 st.heap rfl hfit hw (Step.refl _ _ _)
          · cases hexa : exact with
            | true =>
              subst hexa
              have h' : some (AVal.slice (some (st.next, 0)) (len + n) (len + n) false size, ({ heap := st.heap.set st.next (some (.cells (old ++ new) e)), next := Nat.succ st.next, log := st.log } : St)) = some (v, st') := h
              cases h'
              cases hs with
              | slice _ _ _ _ _ g b0 nb cap' _ a hφ hl hcc hex hz ha =>
              have := hex rfl
              exact grow (some a) cap' st.heap rfl (by omega) hw (Step.refl _ _ _)
            | false =>
            subst hexa
            unfold growA at h
            simp only at h
            split at h
            · rename_i l t hb
              cases h
              cases hs with
              | slice _ _ _ _ _ g b0 nb cap' _ a hφ hl hcc hex hz ha =>
              by_cases hin : len + n ≤ cap'
              · rcases ha with ⟨rfl, _⟩ | rfl
                · omega
                have hzz := c4 rfl
                subst hzz
                have hbd := hz rfl
                obtain ⟨g2, b2, nb2, x1, e1, e2, e3, e4⟩ := hw.obj_at hb rfl
                obtain ⟨rfl, rfl, rfl⟩ : g = g2 ∧ b0 = b2 ∧ nb = nb2 := by rw [hφ] at e1; simpa using e1
                cases e4 with
                | cells _ _ t' _ _ c fz hn hbl hrow hf =>
                subst hn
                obtain ⟨news', m1, m2⟩ := src_ok (P := P) hnew hlx (Nat.le_refl _) hx hw hr
                have hnn : news'.toList.length = n * z := by rw [m1.length]; exact cells_len hnew hlx (Nat.le_refl _)
                have hon : old.length = len * z := cells_len hold (m := len) rfl (Nat.le_refl _)
                have hbig : (len + n) * z ≤ cap' * z := Nat.mul_le_mul_right _ hin
                rw [Nat.add_mul] at hbig
                have hst := run_storeRow (P := P) g (b0 + (o + len * z)) t' fz news'.toList 0 c w e3 hf (by omega) (oneA_some hone m1)
                simp only [Nat.add_zero] at hst
                have hslice : slicedL l o (len * z) = some old := by
                  unfold cellsOfSrc at hold
                  simp only [rd, hb] at hold
                  exact hold
                obtain ⟨hold2, hle2⟩ := slicedL_some hslice
                have hor : ORel φ (.cells (old ++ new) e) (b0 + o) c.size (.cells (c.toList.take (b0 + (o + len * z)) ++ news'.toList ++ c.toList.drop (b0 + (o + len * z) + news'.toList.length)).toArray t' fz) := by
                  refine .cells _ _ _ _ _ _ _ (by simp at hnn ⊢; omega) (by rw [List.length_append, hon, cells_len hnew hlx (Nat.le_refl _)]; omega) ?_ hf
                  have hol : VRels φ old ((c.toList.drop (b0 + o)).take (len * z)) := by
                    rw [hold2]
                    have := (hrow.drop o).take (len * z)
                    refine VRels.of_get (by simp; omega) fun i v hi => ?_
                    obtain ⟨u, f1, f2⟩ := this.get hi
                    refine ⟨u, ?_, f2⟩
                    have hil : i < len * z := by
                      have := (List.getElem?_eq_some_iff.1 hi).1
                      simp at this; omega
                    rw [List.getElem?_take_of_lt hil, List.getElem?_drop] at f1 ⊢
                    rw [List.getElem?_take_of_lt (by omega), List.getElem?_drop] at f1
                    rw [Nat.add_assoc]; exact f1
                  have hall2 := hol.append m1
                  have heq : (c.toList.drop (b0 + o)).take (len * z) ++ news'.toList = (((c.toList.take (b0 + (o + len * z)) ++ news'.toList ++ c.toList.drop (b0 + (o + len * z) + news'.toList.length)).toArray.toList.drop (b0 + o)).take (old ++ new).length) := by
                    have eX : ((c.toList.drop (b0 + o)).take (len * z)).length = len * z := by simp; omega
                    have e1 : (c.toList.take (b0 + (o + len * z))).drop (b0 + o) = (c.toList.drop (b0 + o)).take (len * z) := by rw [List.drop_take]; congr 1; omega
                    have e2 : (old ++ new).length = ((c.toList.drop (b0 + o)).take (len * z)).length + news'.toList.length := by rw [eX, hnn, List.length_append, hon, cells_len hnew hlx (Nat.le_refl _)]
                    rw [List.toList_toArray, List.append_assoc, List.drop_append_of_le_length (by simp; omega), e1, e2, List.take_length_add_append, List.take_left]
                  rw [← heq]
                  exact hall2
                obtain ⟨i1, i2⟩ := graft_ok (b1 := b0 + o) hw hb hφ (setRow_size w g _) (setRow_heap w g c _ t' fz e3) (fun k hk => setRow_other w g _ k hk) rfl rfl rfl (hor.mono (Phi.ext_le _ (hw.fresh _ (Nat.le_refl _))))
                refine ⟨_, _, run_append_in (ty := ty) (w' := w.setRow g (c.toList.take (b0 + (o + len * z)) ++ news'.toList ++ c.toList.drop (b0 + (o + len * z) + news'.toList.length)).toArray) hA0 hA1 ht ht2 hd hsz hlen m2 hin ?_, _, .slice _ _ _ _ _ g (b0 + o) c.size _ _ _ (Phi.ext_at _ _ _) (Nat.le_refl _) hin (by simp) (fun _ => by omega) (.inr rfl), i1, i2⟩
                show (storeCells ((⟨g, b0 + o, none⟩ : Addr).add (len * z)) news'.toList).run P w = _
                rw [add_lit, Nat.add_assoc]; exact hst
              · obtain ⟨k1, k2⟩ := kill_ok hw b
                exact grow (some a) cap' _ rfl hin k1 k2
            · cases h
  · cases h
theorem copyA_ok {st st' : St} {w : World} {t t2 ty e : TypeId} {dv x v : AVal} {ud ux : Value} (ht : P.underlying t = some (.slice e))
    (h : copyA P RO st e dv x = some (v, st')) (hs : VRel φ dv ud) (hx : VRel φ x ux) (hw : WRel w0 φ st.heap st.next w) (hr : RRel w0 φ RO) (args : Array TypeId) (ha : args[0]? = some t) :
    Out w0 φ st w v st' ((Builtin.copy_ args ty #[ud, ux]).run P w) := by
  unfold copyA at h
  split at h
  · rename_i size base len cap ex z m hsz hlx
    have hlen := lenSrc_ok (P := P) hlx hx w
    have hmin : (bif Nat.ble m len then m else len) = Nat.min m len := by
      cases hb : Nat.ble m len with
      | true => have := Nat.le_of_ble_eq_true hb; show m = min m len; omega
      | false =>
        have : ¬ m ≤ len := fun hle => by rw [Nat.ble_eq_true_of_le hle] at hb; cases hb
        show len = min m len; omega
    rw [hmin] at h
    dsimp only at h
    have hnm : Nat.min m len ≤ m := Nat.min_le_left _ _
    split at h
    · cases h
    · rename_i cs hcs
      obtain ⟨news, n1, n2⟩ := src_ok (P := P) hcs hlx hnm hx hw hr
      split at h
      · cases h
        cases hs with
        | slice0 =>
        have n3 : (Builtin.firstCells size 0 ux).run P w = .ok news w := by have := n2; rwa [show m.min 0 = 0 from Nat.min_zero m] at this
        exact ⟨_, w, by simp [Builtin.copy_, ha, run_und ht, run_size hsz, hlen, n3, goInt], φ, .int _ _, hw, Step.refl _ _ _⟩
      · split at h
        · rename_i st1 hst1
          cases h
          cases hs with
          | slice b o _ _ _ g b0 nb cap' _ a hφ hl hcc hex hz haa =>
          obtain ⟨g2, b2, nb2, w', e1, e2, e3, e4⟩ := storeA_ok (P := P) hst1 hw n1
          obtain ⟨rfl, rfl, rfl⟩ : g = g2 ∧ b0 = b2 ∧ nb = nb2 := by rw [hφ] at e1; simpa using e1
          rcases haa with ⟨rfl, hab⟩ | rfl
          · have hl0 : len = 0 := by omega
            subst hl0
            have hnl := cells_len hcs hlx hnm
            have hnews : news.toList = [] := by
              have := n1.length
              have h0 : Nat.min m 0 = 0 := Nat.min_zero _
              rw [h0] at hnl
              exact List.eq_nil_of_length_eq_zero (by omega)
            have hw' : w' = w := by
              rw [hnews] at e2
              have : (Result.ok () w : Result Unit) = .ok () w' := e2
              cases this; rfl
            subst hw'
            have e5 : (storeCells a news.toList).run P w' = .ok () w' := by rw [hnews]; rfl
            have n3 : (Builtin.firstCells size 0 ux).run P w' = .ok news w' := by have := n2; rwa [show m.min 0 = 0 from Nat.min_zero m] at this
            exact ⟨_, w', by simp [Builtin.copy_, ha, run_und ht, run_size hsz, hlen, n3, goInt, e5], φ, .int _ _, e3, e4⟩
          · exact ⟨_, w', by simp [Builtin.copy_, ha, run_und ht, run_size hsz, hlen, n2, goInt, e2], φ, .int _ _, e3, e4⟩
        · cases h
  · cases h
end
end Go.Proofs.Ytlnfolgmjfcinaa.Abs
