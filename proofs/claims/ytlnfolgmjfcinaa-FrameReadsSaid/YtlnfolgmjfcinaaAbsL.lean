/- Closed functions run by an interpreter: operations that read at most one block. By an AI agent. -/
import Derived.Test.YtlnfolgmjfcinaaAbsI
namespace Go.Proofs.Ytlnfolgmjfcinaa.Abs
open Go Go.RowKit
set_option linter.unusedVariables false

/-- what an operation's result says of the model's -/
def LSpec (φ : Phi) (run : World → Result Next) : LRes → Prop
  | .pure v => ∃ u, VRel φ v u ∧ ∀ w, run w = .ok (.value u) w
  | .read b k => (∀ o v, got (k o) = some v → ∀ g b0 n x, φ b = some (g, b0, n) → ORel φ o b0 n (thaw x) → ∃ u, VRel φ v u ∧ ∀ w, w.heap[g]? = some x → run w = .ok (.value u) w) ∧ ∀ o v, got (k o) = some v → o.nul = true → ∃ u, VRel φ v u ∧ ∀ w, run w = .ok (.value u) w
  | .touch b v => ∀ l t g b0 n x, φ b = some (g, b0, n) → ORel φ (.cells l t) b0 n x → ∃ u, VRel φ v u ∧ ∀ w, w.heap[g]? = some x →
      ∃ x' w', (∀ ψ o, ORel ψ o b0 n x → ORel ψ o b0 n x') ∧ run w = .ok (.value u) w' ∧ w'.heap.size = w.heap.size ∧ w'.heap[g]? = some x' ∧ (∀ k, k ≠ g → w'.heap[k]? = w.heap[k]?) ∧ w'.os = w.os ∧ w'.tape = w.tape ∧ w'.output = w.output
  | .new o k => ∀ w, ∃ x n u w', run w = .ok (.value u) w' ∧ w'.heap = w.heap.push x ∧ w'.os = w.os ∧ w'.tape = w.tape ∧ w'.output = w.output ∧ ORel φ o 0 n x ∧
      ∀ ψ r, φ.le ψ → ψ r = some (w.heap.size, 0, n) → VRel ψ (k r) u
theorem need_some {α : Type} {ob : OP} {x : Option α} {v : α} (h : need ob x = some v) : ob.ok ∧ x = some v := by
  unfold need at h
  cases ob with
  | none => exact ⟨trivial, h⟩
  | some p =>
    simp only at h
    split at h
    · exact ⟨‹_›, h⟩
    · cases h
theorem got_some {α : Type} {r : Option (OP × α)} {v : α} (h : got r = some v) : ∃ ob, r = some (ob, v) ∧ ob.ok := by
  unfold got at h
  split at h
  · obtain ⟨h1, h2⟩ := need_some h
    cases h2
    exact ⟨_, rfl, h1⟩
  · cases h
theorem got_free {α : Type} (r : Option α) : got (free r) = r := by cases r <;> rfl
theorem need_ok {α : Type} {ob : OP} (h : ob.ok) (x : Option α) : need ob x = x := by
  cases ob with
  | none => rfl
  | some p => exact if_pos h
section
variable {φ : Phi} {P : Program} {ev : Operand → Option AVal} {ρ : Operand → Value}
theorem cells_rel {v : AVal} {u : Value} (h : VRel φ v u) : VRels φ v.cells u.cells.toList := by
  cases h <;> first | exact .cons _ _ _ _ (by constructor <;> assumption) .nil | assumption | skip
theorem slicedL_some {l r : List AVal} {o n : Nat} (h : slicedL l o n = some r) : r = (l.drop o).take n ∧ o + n ≤ l.length := by
  unfold slicedL at h
  rw [lenL0] at h
  cases hb : Nat.ble (o + n) l.length with
  | false => rw [hb] at h; cases h
  | true => rw [hb] at h; cases h; exact ⟨rfl, Nat.le_of_ble_eq_true hb⟩
theorem run_isAgg {t : TypeId} {b : Bool} (h : isAggA P t = some b) (w : World) : (isAgg t).run P w = .ok b w := by
  unfold isAggA at h
  cases hu : P.underlying t with
  | none => rw [hu] at h; cases h
  | some d =>
    rw [hu] at h
    simp only [isAgg, Sem.run_bind, run_und hu, Result.andThen_ok]
    cases d <;> cases h <;> rfl
theorem add_lit (g o i : Nat) : (⟨g, o, none⟩ : Addr).add i = ⟨g, o + i, none⟩ := by unfold Addr.add; split <;> simp_all
theorem orel_cell {l : List AVal} {t : TypeId} {b n : Nat} {x : Obj} (hx : ORel φ (.cells l t) b n (thaw x)) {i : Nat} {v : AVal} (hi : l[i]? = some v) :
    ∃ u, VRel φ v u ∧ ∀ (w : World) (g : Nat), w.heap[g]? = some x → w.cell? ⟨g, b + i, none⟩ = some u := by
  obtain ⟨c, t9, fz, rfl⟩ : ∃ c t9 fz, x = .cells c t9 fz := by
    cases x with
    | cells c t9 fz => exact ⟨c, t9, fz, rfl⟩
    | _ => cases hx
  cases hx with
  | cells _ _ _ _ _ _ fz' hn hb h hf =>
    obtain ⟨u, h1, h2⟩ := h.get hi
    refine ⟨u, h2, fun w g hg => ?_⟩
    have hlt : i < l.length := (List.getElem?_eq_some_iff.1 hi).1
    rw [List.getElem?_take_of_lt hlt, List.getElem?_drop] at h1
    unfold World.cell?
    simp only [hg]
    simpa using h1
theorem orel_row {l : List AVal} {t : TypeId} {b n : Nat} {x : Obj} (hx : ORel φ (.cells l t) b n (thaw x)) {o m : Nat} (hm : o + m ≤ l.length) :
    ∃ us : List Value, us.length = m ∧ VRels φ ((l.drop o).take m) us ∧ ∀ (w : World) (g : Nat), w.heap[g]? = some x → ∀ j u, us[j]? = some u → w.cell? ((⟨g, b + o, none⟩ : Addr).add j) = some u := by
  obtain ⟨c, t9, fz, rfl⟩ : ∃ c t9 fz, x = .cells c t9 fz := by
    cases x with
    | cells c t9 fz => exact ⟨c, t9, fz, rfl⟩
    | _ => cases hx
  cases hx with
  | cells _ _ _ _ _ _ fz' hn hb h hf =>
    refine ⟨(((c.toList.drop b).take l.length).drop o).take m, ?_, (h.drop o).take m, fun w g hg j u hj => ?_⟩
    · simp; omega
    · rw [add_lit]
      have hjm : j < m := by
        have := (List.getElem?_eq_some_iff.1 hj).1
        simp at this; omega
      rw [List.getElem?_take_of_lt hjm, List.getElem?_drop, List.getElem?_take_of_lt (by omega), List.getElem?_drop] at hj
      unfold World.cell?
      simp only [hg]
      simp only [Option.isSome_none, Bool.false_eq_true, if_false]
      rw [← Array.getElem?_toList, Nat.add_assoc]
      exact hj
theorem loadVar_some {t ty : TypeId} {l : List AVal} {o b n : Nat} {v : AVal} {x : Obj} (h : partA P t l o = some v) (hx : ORel φ (.cells l ty) b n (thaw x)) :
    ∃ u, VRel φ v u ∧ ∀ (w : World) (g : Nat), w.heap[g]? = some x → (loadVar t ⟨g, b + o, none⟩).run P w = .ok u w := by
  unfold partA at h
  split at h
  · rename_i m ha hs
    cases hq : slicedL l o m with
    | none => rw [hq] at h; cases h
    | some r =>
      rw [hq] at h
      cases h
      obtain ⟨rfl, hle⟩ := slicedL_some hq
      obtain ⟨us, h1, h2, h3⟩ := orel_row hx hle
      refine ⟨.agg us.toArray, .agg _ _ (by simpa using h2), fun w g hg => ?_⟩
      have hl := run_loadCells_list (P := P) w ⟨g, b + o, none⟩ us (h3 w g hg)
      rw [h1] at hl
      unfold loadVar
      simp [run_isAgg ha, run_size hs, hl]
  · rename_i ha
    obtain ⟨u, h1, h2⟩ := orel_cell hx h
    refine ⟨u, h1, fun w g hg => ?_⟩
    unfold loadVar
    simp [run_isAgg ha, h2 w g hg]
  · cases h
theorem inR_u8 (n : Nat) (h : n < 256) : inR .u8 (n : Int) := ⟨by show (0 : Int) ≤ _; omega, by show _ ≤ (255 : Int); omega⟩
theorem rowB_rel (l : List UInt8) : ∀ (n o : Nat), o + n ≤ l.length → VRels φ (rowB l o n) (((l.drop o).take n).map fun c => Value.int .u8 (c.toNat : Int))
  | 0, o, _ => by simp [rowB]; exact .nil
  | n + 1, o, h => by
    have hlt : o < l.length := by omega
    rw [List.drop_eq_getElem_cons hlt, List.take_succ_cons, List.map_cons, rowB, List.getD, List.getElem?_eq_getElem hlt]
    exact .cons _ _ _ _ (.sint _ _ (inR_u8 _ (UInt8.toNat_lt _))) (rowB_rel l n (o + 1) (by omega))
theorem loadB_some {t ty : TypeId} {l : List UInt8} {o b n : Nat} {v : AVal} {x : Obj} (h : got (loadB P t l o) = some v) (hx : ORel φ (.sbytes l ty) b n (thaw x)) :
    ∃ u, VRel φ v u ∧ ∀ (w : World) (g : Nat), w.heap[g]? = some x → (loadVar t ⟨g, b + o, none⟩).run P w = .ok u w := by
  obtain ⟨ob, h1, h2⟩ := got_some h
  unfold loadB at h1
  split at h1
  · rename_i hu
    cases h1
    have h2 : o < l.length := h2
    cases hx with
    | sbytes _ _ _ _ _ hx =>
    obtain ⟨u, k1, k2⟩ := orel_cell hx (i := o) (v := .int .u8 (l[o].toNat : Int)) (by simp [h2])
    cases k1
    refine ⟨.int .u8 (l[o].toNat : Int), ?_, fun w g hg => ?_⟩
    · rw [List.getD, List.getElem?_eq_getElem h2]
      exact .sint _ _ (inR_u8 _ (by simpa using l[o].toNat_lt))
    · have := k2 w g hg
      have ha : isAggA P t = some false := by unfold isAggA; rw [hu]; rfl
      unfold loadVar
      simp [run_isAgg ha, this]
  · rename_i m e hu
    cases hu8 : isU8 P e with
    | false => rw [hu8] at h1; cases h1
    | true =>
    rw [hu8] at h1
    cases hs : sizeA P t with
    | none => rw [hs] at h1; simp at h1
    | some m' =>
    rw [hs] at h1
    simp only [cond_true] at h1
    cases hmm : (Nat.beq m' m && Nat.blt 0 m) with
    | false => rw [hmm] at h1; cases h1
    | true =>
    rw [hmm] at h1
    cases h1
    rw [Bool.and_eq_true] at hmm
    obtain rfl := Nat.eq_of_beq_eq_true hmm.1
    have h2 : o + m' ≤ l.length := h2
    cases hx with
    | sbytes _ _ _ _ _ hx =>
    obtain ⟨us, q1, q2, q3⟩ := orel_row hx (o := o) (m := m') (by simpa using h2)
    have hus : us = ((l.drop o).take m').map fun c => Value.int .u8 (c.toNat : Int) := by
      rw [← List.map_drop, ← List.map_take] at q2
      clear q3 q1
      generalize (l.drop o).take m' = q at q2
      induction q generalizing us with
      | nil => cases q2; rfl
      | cons c q ih => cases q2 with | cons _ u _ us hu hs => cases hu; rw [ih _ hs]; rfl
    refine ⟨.agg us.toArray, .agg _ _ (by rw [hus]; simpa using rowB_rel l m' o h2), fun w g hg => ?_⟩
    have hl := run_loadCells_list (P := P) w ⟨g, b + o, none⟩ us (q3 w g hg)
    rw [q1] at hl
    have ha : isAggA P t = some true := by unfold isAggA; rw [hu]; rfl
    unfold loadVar
    simp [run_isAgg ha, run_size hs, hl]
  · cases h1
theorem loadI_some {t ty : TypeId} {k : IntKind} {l : List Int} {o b n : Nat} {v : AVal} {x : Obj} (h : got (loadI P t k l o) = some v) (hx : ORel φ (.sints k l ty) b n (thaw x)) :
    ∃ u, VRel φ v u ∧ ∀ (w : World) (g : Nat), w.heap[g]? = some x → (loadVar t ⟨g, b + o, none⟩).run P w = .ok u w := by
  obtain ⟨ob, h1, h2⟩ := got_some h
  unfold loadI at h1
  split at h1
  · rename_i k' hu
    cases hkk : kindEq k k' with
    | false => rw [hkk] at h1; cases h1
    | true =>
    rw [hkk] at h1
    cases h1
    have h2 : o < l.length := h2
    cases hx with
    | sints _ _ _ _ _ _ hr hx =>
    obtain ⟨u, k1, k2⟩ := orel_cell hx (i := o) (v := .int k l[o]) (by simp [h2])
    cases k1
    refine ⟨.int k l[o], ?_, fun w g hg => ?_⟩
    · rw [List.getD, List.getElem?_eq_getElem h2]
      exact .sint _ _ (hr _ (List.getElem_mem h2))
    · have := k2 w g hg
      have ha : isAggA P t = some false := by unfold isAggA; rw [hu]; rfl
      unfold loadVar
      simp [run_isAgg ha, this]
  · cases h1
theorem part_some {t : TypeId} {l : List AVal} {o : Nat} {v : AVal} {c : Array Value} (h : partA P t l o = some v) (hx : VRels φ l c.toList) :
    ∃ u, VRel φ v u ∧ ∀ w, (part t c o).run P w = .ok u w := by
  unfold partA at h
  split at h
  · rename_i m ha hs
    cases hq : slicedL l o m with
    | none => rw [hq] at h; cases h
    | some r =>
      rw [hq] at h
      cases h
      obtain ⟨rfl, hle⟩ := slicedL_some hq
      refine ⟨.agg (c.extract o (o + m)), .agg _ _ ?_, fun w => ?_⟩
      · have := (hx.drop o).take m
        rw [Array.toList_extract, List.extract_eq_take_drop]
        simpa using this
      · unfold part
        simp [run_isAgg ha, run_size hs]
  · rename_i ha
    obtain ⟨u, h1, h2⟩ := hx.get h
    refine ⟨u, h2, fun w => ?_⟩
    unfold part
    rw [Array.getElem?_toList] at h1
    simp [run_isAgg ha, h1]
  · cases h
theorem zero_some {t : TypeId} {v : AVal} (h : zeroA P t = some v) : ∃ i z, P.info? t = some i ∧ i.zero = some z ∧ VRel φ v z ∧ ∀ w, (zeroValue t).run P w = .ok z w := by
  unfold zeroA at h
  split at h
  · rename_i i hi
    split at h
    · rename_i z hz
      exact ⟨i, z, hi, hz, ofValue_some _ _ _ h, fun w => by simp [zeroValue, typeInfo, hi, hz]⟩
    · cases h
  · cases h
abbrev EvOk (φ : Phi) (ev : Operand → Option AVal) (ρ : Operand → Value) : Prop := ∀ x v, ev x = some v → VRel φ v (ρ x)
theorem new_cells {v : AVal} {z : Value} (t : TypeId) (h : VRel φ v z) : ORel φ (.cells v.cells t) 0 z.cells.size (.cells z.cells t (0, 0)) := by
  have := cells_rel h
  refine .cells _ _ _ _ _ _ _ rfl (by have := this.length; simp at this ⊢; omega) ?_ (.inl rfl)
  rw [List.drop_zero, List.take_of_length_le (by rw [this.length]; exact Nat.le_refl _)]
  exact this
theorem alloc_ok (he : EvOk φ ev ρ) (o : Oper) (t : TypeId) (ho : o.op = .alloc t) (r : LRes) (h : lAlloc P ev t = some r) : LSpec φ (fun w => (execOp ρ o).run P w) r := by
  unfold lAlloc at h
  split at h
  · rename_i v hv
    cases h
    obtain ⟨i, z, hi, hz, h1, h2⟩ := zero_some (φ := φ) hv
    intro w
    refine ⟨.cells z.cells t, z.cells.size, .pointer (some ⟨w.heap.size, 0, none⟩), w.alloc (.cells z.cells t), ?_, rfl, rfl, rfl, rfl, new_cells t h1, fun ψ r hle hr => .ptr _ _ _ _ _ hr⟩
    simp [execOp, ho, Instr.alloc, h2, newVar, newRow]
  · cases h
theorem box_ok (he : EvOk φ ev ρ) (o : Oper) (t : TypeId) (x : Operand) (ho : o.op = .box t x) (r : LRes) (h : lBox ev t x = some r) : LSpec φ (fun w => (execOp ρ o).run P w) r := by
  unfold lBox at h
  split at h
  · rename_i v hv
    cases h
    have h1 := he _ _ hv
    intro w
    refine ⟨.cells (ρ x).cells t, (ρ x).cells.size, .pointer (some ⟨w.heap.size, 0, none⟩), w.alloc (.cells (ρ x).cells t), ?_, rfl, rfl, rfl, rfl, new_cells t h1, fun ψ r hle hr => .ptr _ _ _ _ _ hr⟩
    simp [execOp, ho, Instr.box, newVar, newRow]
  · cases h
theorem move_ok (he : EvOk φ ev ρ) (o : Oper) (x : Operand) (ho : o.op = .move x ∨ o.op = .assign x) (r : LRes) (h : lMove ev x = some r) : LSpec φ (fun w => (execOp ρ o).run P w) r := by
  unfold lMove at h
  split at h
  · rename_i v hv
    cases h
    exact ⟨_, he _ _ hv, fun w => by rcases ho with ho | ho <;> simp [execOp, ho]⟩
  · cases h
theorem pick_ok (he : EvOk φ ev ρ) (o : Oper) (c a b : Operand) (ho : o.op = .pick c a b) (r : LRes) (h : lPick ev c a b = some r) : LSpec φ (fun w => (execOp ρ o).run P w) r := by
  unfold lPick at h
  split at h
  · rename_i hc
    have h1 := he _ _ hc
    cases hv : ev a with
    | none => rw [hv] at h; cases h
    | some v =>
      rw [hv] at h; cases h
      generalize hρ : ρ c = q at h1
      cases h1
      exact ⟨_, he _ _ hv, fun w => by simp [execOp, ho, hρ, asBool]⟩
  · rename_i hc
    have h1 := he _ _ hc
    cases hv : ev b with
    | none => rw [hv] at h; cases h
    | some v =>
      rw [hv] at h; cases h
      generalize hρ : ρ c = q at h1
      cases h1
      exact ⟨_, he _ _ hv, fun w => by simp [execOp, ho, hρ, asBool]⟩
  · cases h
theorem load_ok (he : EvOk φ ev ρ) (o : Oper) (t : TypeId) (a : Operand) (ho : o.op = .load t a) (r : LRes) (h : lLoad P ev t a = some r) : LSpec φ (fun w => (execOp ρ o).run P w) r := by
  unfold lLoad at h
  split at h
  · rename_i b off hv
    cases h
    have h1 := he _ _ hv
    generalize hρ : ρ a = q at h1
    cases h1 with
    | ptr _ _ g b0 n hφ =>
    refine ⟨fun ob v hk g' b0' n' x hφ' hx => ?_, fun ob v hk hn => ?_⟩
    · obtain ⟨rfl, rfl, rfl⟩ : g = g' ∧ b0 = b0' ∧ n = n' := by rw [hφ] at hφ'; simpa using hφ'
      simp only at hk
      split at hk
      · rw [got_free] at hk
        obtain ⟨u, h2, h3⟩ := loadVar_some hk hx
        exact ⟨u, h2, fun w hg => by simp [execOp, ho, hρ, Instr.loadAt, Instr.sureAddr, h3 w g hg]⟩
      · obtain ⟨u, h2, h3⟩ := loadB_some hk hx
        exact ⟨u, h2, fun w hg => by simp [execOp, ho, hρ, Instr.loadAt, Instr.sureAddr, h3 w g hg]⟩
      · obtain ⟨u, h2, h3⟩ := loadI_some hk hx
        exact ⟨u, h2, fun w hg => by simp [execOp, ho, hρ, Instr.loadAt, Instr.sureAddr, h3 w g hg]⟩
      · cases hk
    · simp only at hk
      cases ob <;> simp only at hk <;> try (cases hk; done)
      · cases hn
      · rename_i l t'
        unfold loadB at hk
        obtain ⟨op, h1, h2⟩ := got_some hk
        split at h1
        · cases h1
          cases l with
          | nil => exact absurd h2 (Nat.not_lt_zero _)
          | cons _ _ => cases hn
        · rename_i m e hu
          cases l with
          | cons _ _ => cases hn
          | nil =>
          cases hu8 : isU8 P e with
          | false => rw [hu8] at h1; cases h1
          | true =>
          rw [hu8] at h1
          cases hs : sizeA P t with
          | none => rw [hs] at h1; simp at h1
          | some m' =>
          rw [hs] at h1
          simp only [cond_true] at h1
          cases hmm : (Nat.beq m' m && Nat.blt 0 m) with
          | false => rw [hmm] at h1; cases h1
          | true =>
          rw [hmm] at h1
          cases h1
          rw [Bool.and_eq_true, Nat.blt_eq] at hmm
          have h2 : off + m ≤ 0 := h2
          omega
        · cases h1
      · rename_i k l t'
        unfold loadI at hk
        obtain ⟨op, h1, h2⟩ := got_some hk
        split at h1
        · rename_i k' _
          cases hkk : kindEq k k' with
          | false => rw [hkk] at h1; cases h1
          | true =>
            rw [hkk] at h1
            cases h1
            cases l with
            | nil => exact absurd h2 (Nat.not_lt_zero _)
            | cons _ _ => cases hn
        · cases h1
  · cases h
theorem nil_ok (he : EvOk φ ev ρ) (o : Oper) (x : Operand) (ho : o.op = .nilCheck x) (r : LRes) (h : lNilCheck ev x = some r) : LSpec φ (fun w => (execOp ρ o).run P w) r := by
  unfold lNilCheck at h
  split at h
  · rename_i a hv
    cases h
    have h1 := he _ _ hv
    generalize hρ : ρ x = q at h1
    refine ⟨q, h1, fun w => ?_⟩
    cases h1
    simp [execOp, ho, hρ]
  · rename_i f a b hv
    cases h
    have h1 := he _ _ hv
    generalize hρ : ρ x = q at h1
    refine ⟨q, h1, fun w => ?_⟩
    cases h1
    simp [execOp, ho, hρ]
  · cases h
theorem bin_ok (he : EvOk φ ev ρ) (o : Oper) (op : BinOp) (t ty : TypeId) (x y : Operand) (ho : o.op = .binOp op t x y ty) (r : LRes) (h : lBinOp P ev op t x y = some r) : LSpec φ (fun w => (execOp ρ o).run P w) r := by
  unfold lBinOp at h
  split at h
  · rename_i a b hx hy
    cases hv : binA P op t a b with
    | none => rw [hv] at h; cases h
    | some v =>
      rw [hv] at h; cases h
      obtain ⟨u, h1, h2⟩ := binA_some hv (he _ _ hx) (he _ _ hy) x y
      exact ⟨u, h1, fun w => by simp only [execOp, ho]; rw [Sem.run_bind, h2 w]; rfl⟩
  · cases h
theorem un_ok (he : EvOk φ ev ρ) (o : Oper) (op : UnOp) (t : TypeId) (x : Operand) (ho : o.op = .unOp op t x) (r : LRes) (h : lUnOp ev op x = some r) : LSpec φ (fun w => (execOp ρ o).run P w) r := by
  unfold lUnOp at h
  split at h
  · rename_i a hx
    cases hv : unA op a with
    | none => rw [hv] at h; cases h
    | some v =>
      rw [hv] at h; cases h
      obtain ⟨u, h1, h2⟩ := unA_some (P := P) hv (he _ _ hx)
      exact ⟨u, h1, fun w => by simp only [execOp, ho]; rw [Sem.run_bind, h2 w]; rfl⟩
  · cases h
theorem extract_ok (he : EvOk φ ev ρ) (o : Oper) (x : Operand) (i : Nat) (ho : o.op = .extract x i) (r : LRes) (h : lExtract ev x i = some r) : LSpec φ (fun w => (execOp ρ o).run P w) r := by
  unfold lExtract at h
  split at h
  · rename_i l hx
    split at h
    · rename_i v hv
      cases h
      have h1 := he _ _ hx
      generalize hρ : ρ x = q at h1
      cases h1 with
      | tuple _ c hc =>
      obtain ⟨u, h2, h3⟩ := hc.get hv
      rw [Array.getElem?_toList] at h2
      exact ⟨u, h3, fun w => by simp [execOp, ho, hρ, Instr.extract, h2]⟩
    · cases h
  · cases h
theorem field_ok (he : EvOk φ ev ρ) (o : Oper) (t : TypeId) (x : Operand) (f : Nat) (ho : o.op = .field t x f) (r : LRes) (h : lField P ev t x f = some r) : LSpec φ (fun w => (execOp ρ o).run P w) r := by
  unfold lField at h
  split at h
  · rename_i fs l hu hx
    split at h
    · rename_i fl hf
      cases hv : partA P fl.type l fl.offset with
      | none => rw [hv] at h; cases h
      | some v =>
        rw [hv] at h; cases h
        have h1 := he _ _ hx
        generalize hρ : ρ x = q at h1
        cases h1 with
        | agg _ c hc =>
        obtain ⟨u, h2, h3⟩ := part_some hv hc
        exact ⟨u, h2, fun w => by simp [execOp, ho, hρ, Instr.field, run_und hu, hf, asAgg, h3 w]⟩
    · cases h
  · cases h
theorem faddr_ok (he : EvOk φ ev ρ) (o : Oper) (s : TypeId) (x : Operand) (f : Nat) (ho : o.op = .fieldAddr s x f) (r : LRes) (h : lFieldAddr P ev s x f = some r) : LSpec φ (fun w => (execOp ρ o).run P w) r := by
  unfold lFieldAddr at h
  split at h
  · rename_i fs b off hu hx
    split at h
    · rename_i fl hf
      split at h
      · rename_i n hn
        cases hb : Nat.beq n 0 with
        | true => rw [hb] at h; cases h
        | false =>
          rw [hb] at h; cases h
          have hn0 : n ≠ 0 := by intro h0; subst h0; simp at hb
          have h1 := he _ _ hx
          generalize hρ : ρ x = q at h1
          cases h1 with
          | ptr _ _ g b0 m hφ =>
          refine ⟨.pointer (some ⟨g, b0 + (off + fl.offset), none⟩), .ptr _ _ _ _ _ hφ, fun w => ?_⟩
          simp [execOp, ho, hρ, Instr.fieldAt, run_und hu, hf, Instr.sureAddr, fieldPlace, run_size hn, hn0, add_lit, Nat.add_assoc]
      · cases h
    · cases h
  · cases h
end
end Go.Proofs.Ytlnfolgmjfcinaa.Abs
