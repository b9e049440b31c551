/- Closed functions run by an interpreter: operations that read at most one block. By an AI agent. -/
import Derived.Great.BuildSlice
import Derived.Laws.IdiomStrings
import Derived.Laws.MakeOwn
import Derived.Laws.CopyRow
import Derived.Laws.Tables
import Derived.Test.YtcofcojjofkgcaaAbsI
namespace Go.Proofs.Ytcofcojjofkgcaa.Abs
open Go Go.RowKit
set_option linter.unusedVariables false

/-- what an operation's result says of the model's -/
def LSpec (φ : Phi) (run : World → Result Next) : LRes → Prop
  | .pure v => ∃ u, VRel φ v u ∧ ∀ w, run w = .ok (.value u) w
  | .peek v => ∃ u, VRel φ v u ∧ ∀ w, Pool φ w → run w = .ok (.value u) w
  | .read b k => (∀ o v, got (k o) = some v → ∀ g b0 n x, φ b = some (g, b0, n) → ORel φ o b0 n (thaw x) → ∃ u, VRel φ v u ∧ ∀ w, w.heap[g]? = some x → run w = .ok (.value u) w) ∧ ∀ o v, got (k o) = some v → o.nul = true → ∃ u, VRel φ v u ∧ ∀ w, run w = .ok (.value u) w
  | .touch b v => ∀ l t g b0 n x, φ b = some (g, b0, n) → ORel φ (.cells l t) b0 n x → ∃ u, VRel φ v u ∧ ∀ w, w.heap[g]? = some x →
      ∃ x' w', (∀ ψ o, ORel ψ o b0 n x → ORel ψ o b0 n x') ∧ run w = .ok (.value u) w' ∧ w'.heap.size = w.heap.size ∧ w'.heap[g]? = some x' ∧ (∀ k, k ≠ g → w'.heap[k]? = w.heap[k]?) ∧ w'.os = w.os ∧ w'.tape = w.tape ∧ w'.output = w.output
  | .new o k => ∀ w, ∃ x n u w', run w = .ok (.value u) w' ∧ w'.heap = w.heap.push x ∧ w'.os = w.os ∧ w'.tape = w.tape ∧ w'.output = w.output ∧ ORel φ o 0 n x ∧
      ∀ ψ (r : Nat), φ.le ψ → ψ r = some (w.heap.size, 0, n) → VRel ψ (k r) u
theorem need_some {α : Type} {ob : OP} {x : Option α} {v : α} (h : need ob x = some v) : ob.ok ∧ x = some v := by
  unfold need at h
  cases ob with
  | none => exact ⟨trivial, h⟩
  | some p =>
    simp only at h
    split at h
    · exact ⟨‹_›, h⟩
    · cases h
theorem got_some {α : Type} {r : Option (OP × α)} {v : α} (h : got r = some v) : ∃ ob, r = some (ob, v) ∧ ob.ok := by
  unfold got at h
  split at h
  · obtain ⟨h1, h2⟩ := need_some h
    cases h2
    exact ⟨_, rfl, h1⟩
  · cases h
theorem got_of {α : Type} {r : Option (OP × α)} {ob : OP} {v : α} (h : r = some (ob, v)) (ho : ob.ok) : got r = some v := by
  rw [h]
  cases ob with
  | none => rfl
  | some p => exact if_pos ho
theorem got_free {α : Type} (r : Option α) : got (free r) = r := by cases r <;> rfl
theorem need_ok {α : Type} {ob : OP} (h : ob.ok) (x : Option α) : need ob x = x := by
  cases ob with
  | none => rfl
  | some p => exact if_pos h
section
variable {φ : Phi} {P : Program} {ev : Operand → Option AVal} {ρ : Operand → Value}
theorem cells_rel {v : AVal} {u : Value} (h : VRel φ v u) : VRels φ v.cells u.cells.toList := by
  cases h with
  | tslice x i len lo wd ex u h =>
    have h2 := VRel.tslice _ _ _ _ _ _ _ h
    cases h <;> exact .cons _ _ _ _ h2 .nil
  | _ => first | exact .cons _ _ _ _ (by constructor <;> assumption) .nil | assumption | skip
theorem slicedL_some {l r : List AVal} {o n : Nat} (h : slicedL l o n = some r) : r = (l.drop o).take n ∧ o + n ≤ l.length := by
  unfold slicedL at h
  rw [lenL0] at h
  cases hb : Nat.ble (o + n) l.length with
  | false => rw [hb] at h; cases h
  | true => rw [hb] at h; cases h; exact ⟨rfl, Nat.le_of_ble_eq_true hb⟩
theorem run_isAgg {t : TypeId} {b : Bool} (h : isAggA P t = some b) (w : World) : (isAgg t).run P w = .ok b w := by
  unfold isAggA at h
  cases hu : P.underlying t with
  | none => rw [hu] at h; cases h
  | some d =>
    rw [hu] at h
    simp only [isAgg, Sem.run_bind, run_und hu, Result.andThen_ok]
    cases d <;> cases h <;> rfl
theorem add_lit (g o i : Nat) : (⟨g, o, none⟩ : Addr).add i = ⟨g, o + i, none⟩ := by unfold Addr.add; split <;> simp_all
theorem orel_cell {l : List AVal} {t : TypeId} {b n : Nat} {x : Obj} (hx : ORel φ (.cells l t) b n (thaw x)) {i : Nat} {v : AVal} (hi : l[i]? = some v) :
    ∃ u, VRel φ v u ∧ ∀ (w : World) (g : Nat), w.heap[g]? = some x → w.cell? ⟨g, b + i, none⟩ = some u := by
  obtain ⟨c, t9, fz, rfl⟩ : ∃ c t9 fz, x = .cells c t9 fz := by
    cases x with
    | cells c t9 fz => exact ⟨c, t9, fz, rfl⟩
    | _ => cases hx
  cases hx with
  | cells _ _ _ _ _ _ fz' hn hb h hf =>
    obtain ⟨u, h1, h2⟩ := h.get hi
    refine ⟨u, h2, fun w g hg => ?_⟩
    have hlt : i < l.length := (List.getElem?_eq_some_iff.1 hi).1
    rw [List.getElem?_take_of_lt hlt, List.getElem?_drop] at h1
    unfold World.cell?
    simp only [hg]
    simpa using h1
theorem orel_row {l : List AVal} {t : TypeId} {b n : Nat} {x : Obj} (hx : ORel φ (.cells l t) b n (thaw x)) {o m : Nat} (hm : o + m ≤ l.length) :
    ∃ us : List Value, us.length = m ∧ VRels φ ((l.drop o).take m) us ∧ ∀ (w : World) (g : Nat), w.heap[g]? = some x → ∀ j u, us[j]? = some u → w.cell? ((⟨g, b + o, none⟩ : Addr).add j) = some u := by
  obtain ⟨c, t9, fz, rfl⟩ : ∃ c t9 fz, x = .cells c t9 fz := by
    cases x with
    | cells c t9 fz => exact ⟨c, t9, fz, rfl⟩
    | _ => cases hx
  cases hx with
  | cells _ _ _ _ _ _ fz' hn hb h hf =>
    refine ⟨(((c.toList.drop b).take l.length).drop o).take m, ?_, (h.drop o).take m, fun w g hg j u hj => ?_⟩
    · simp; omega
    · rw [add_lit]
      have hjm : j < m := by
        have := (List.getElem?_eq_some_iff.1 hj).1
        simp at this; omega
      rw [List.getElem?_take_of_lt hjm, List.getElem?_drop, List.getElem?_take_of_lt (by omega), List.getElem?_drop] at hj
      unfold World.cell?
      simp only [hg]
      simp only [Option.isSome_none, Bool.false_eq_true, if_false]
      rw [← Array.getElem?_toList, Nat.add_assoc]
      exact hj
theorem loadVar_some {t ty : TypeId} {l : List AVal} {o b n : Nat} {v : AVal} {x : Obj} (h : partA P t l o = some v) (hx : ORel φ (.cells l ty) b n (thaw x)) :
    ∃ u, VRel φ v u ∧ ∀ (w : World) (g : Nat), w.heap[g]? = some x → (loadVar t ⟨g, b + o, none⟩).run P w = .ok u w := by
  unfold partA at h
  split at h
  · rename_i m ha hs
    cases hq : slicedL l o m with
    | none => rw [hq] at h; cases h
    | some r =>
      rw [hq] at h
      cases h
      obtain ⟨rfl, hle⟩ := slicedL_some hq
      obtain ⟨us, h1, h2, h3⟩ := orel_row hx hle
      refine ⟨.agg us.toArray, .agg _ _ (by simpa using h2), fun w g hg => ?_⟩
      have hl := run_loadCells_list (P := P) w ⟨g, b + o, none⟩ us (h3 w g hg)
      rw [h1] at hl
      unfold loadVar
      simp [run_isAgg ha, run_size hs, hl]
  · rename_i ha
    obtain ⟨u, h1, h2⟩ := orel_cell hx h
    refine ⟨u, h1, fun w g hg => ?_⟩
    unfold loadVar
    simp [run_isAgg ha, h2 w g hg]
  · cases h
theorem inR_u8 (n : Nat) (h : n < 256) : inR .u8 (n : Int) := ⟨by show (0 : Int) ≤ _; omega, by show _ ≤ (255 : Int); omega⟩
theorem rowB_rel (l : List UInt8) : ∀ (n o : Nat), o + n ≤ l.length → VRels φ (rowB l o n) (((l.drop o).take n).map fun c => Value.int .u8 (c.toNat : Int))
  | 0, o, _ => by simp [rowB]; exact .nil
  | n + 1, o, h => by
    have hlt : o < l.length := by omega
    rw [List.drop_eq_getElem_cons hlt, List.take_succ_cons, List.map_cons, rowB, List.getD, List.getElem?_eq_getElem hlt]
    exact .cons _ _ _ _ (.sint _ _ (inR_u8 _ (UInt8.toNat_lt _))) (rowB_rel l n (o + 1) (by omega))
theorem loadB_some {t ty : TypeId} {l : List UInt8} {o b n : Nat} {v : AVal} {x : Obj} (h : got (loadB P t l o) = some v) (hx : ORel φ (.sbytes l ty) b n (thaw x)) :
    ∃ u, VRel φ v u ∧ ∀ (w : World) (g : Nat), w.heap[g]? = some x → (loadVar t ⟨g, b + o, none⟩).run P w = .ok u w := by
  obtain ⟨ob, h1, h2⟩ := got_some h
  unfold loadB at h1
  split at h1
  · rename_i hu
    cases h1
    have h2 : o < l.length := h2
    cases hx with
    | sbytes _ _ _ _ _ hx =>
    obtain ⟨u, k1, k2⟩ := orel_cell hx (i := o) (v := .int .u8 (l[o].toNat : Int)) (by simp [h2])
    cases k1
    refine ⟨.int .u8 (l[o].toNat : Int), ?_, fun w g hg => ?_⟩
    · rw [List.getD, List.getElem?_eq_getElem h2]
      exact .sint _ _ (inR_u8 _ (by simpa using l[o].toNat_lt))
    · have := k2 w g hg
      have ha : isAggA P t = some false := by unfold isAggA; rw [hu]; rfl
      unfold loadVar
      simp [run_isAgg ha, this]
  · rename_i m e hu
    cases hu8 : isU8 P e with
    | false => rw [hu8] at h1; cases h1
    | true =>
    rw [hu8] at h1
    cases hs : sizeA P t with
    | none => rw [hs] at h1; simp at h1
    | some m' =>
    rw [hs] at h1
    simp only [cond_true] at h1
    cases hmm : (Nat.beq m' m && Nat.blt 0 m) with
    | false => rw [hmm] at h1; cases h1
    | true =>
    rw [hmm] at h1
    cases h1
    rw [Bool.and_eq_true] at hmm
    obtain rfl := Nat.eq_of_beq_eq_true hmm.1
    have h2 : o + m' ≤ l.length := h2
    cases hx with
    | sbytes _ _ _ _ _ hx =>
    obtain ⟨us, q1, q2, q3⟩ := orel_row hx (o := o) (m := m') (by simpa using h2)
    have hus : us = ((l.drop o).take m').map fun c => Value.int .u8 (c.toNat : Int) := by
      rw [← List.map_drop, ← List.map_take] at q2
      clear q3 q1
      generalize (l.drop o).take m' = q at q2
      induction q generalizing us with
      | nil => cases q2; rfl
      | cons c q ih => cases q2 with | cons _ u _ us hu hs => cases hu; rw [ih _ hs]; rfl
    refine ⟨.agg us.toArray, .agg _ _ (by rw [hus]; simpa using rowB_rel l m' o h2), fun w g hg => ?_⟩
    have hl := run_loadCells_list (P := P) w ⟨g, b + o, none⟩ us (q3 w g hg)
    rw [q1] at hl
    have ha : isAggA P t = some true := by unfold isAggA; rw [hu]; rfl
    unfold loadVar
    simp [run_isAgg ha, run_size hs, hl]
  · cases h1
theorem loadI_some {t ty : TypeId} {k : IntKind} {l : List Int} {o b n : Nat} {v : AVal} {x : Obj} (h : got (loadI P t k l o) = some v) (hx : ORel φ (.sints k l ty) b n (thaw x)) :
    ∃ u, VRel φ v u ∧ ∀ (w : World) (g : Nat), w.heap[g]? = some x → (loadVar t ⟨g, b + o, none⟩).run P w = .ok u w := by
  obtain ⟨ob, h1, h2⟩ := got_some h
  unfold loadI at h1
  split at h1
  · rename_i k' hu
    cases hkk : kindEq k k' with
    | false => rw [hkk] at h1; cases h1
    | true =>
    rw [hkk] at h1
    cases h1
    have h2 : o < l.length := h2
    cases hx with
    | sints _ _ _ _ _ _ hr hx =>
    obtain ⟨u, k1, k2⟩ := orel_cell hx (i := o) (v := .int k l[o]) (by simp [h2])
    cases k1
    refine ⟨.int k l[o], ?_, fun w g hg => ?_⟩
    · rw [List.getD, List.getElem?_eq_getElem h2]
      exact .sint _ _ (hr _ (List.getElem_mem h2))
    · have := k2 w g hg
      have ha : isAggA P t = some false := by unfold isAggA; rw [hu]; rfl
      unfold loadVar
      simp [run_isAgg ha, this]
  · cases h1
theorem part_some {t : TypeId} {l : List AVal} {o : Nat} {v : AVal} {c : Array Value} (h : partA P t l o = some v) (hx : VRels φ l c.toList) :
    ∃ u, VRel φ v u ∧ ∀ w, (part t c o).run P w = .ok u w := by
  unfold partA at h
  split at h
  · rename_i m ha hs
    cases hq : slicedL l o m with
    | none => rw [hq] at h; cases h
    | some r =>
      rw [hq] at h
      cases h
      obtain ⟨rfl, hle⟩ := slicedL_some hq
      refine ⟨.agg (c.extract o (o + m)), .agg _ _ ?_, fun w => ?_⟩
      · have := (hx.drop o).take m
        rw [Array.toList_extract, List.extract_eq_take_drop]
        simpa using this
      · unfold part
        simp [run_isAgg ha, run_size hs]
  · rename_i ha
    obtain ⟨u, h1, h2⟩ := hx.get h
    refine ⟨u, h2, fun w => ?_⟩
    unfold part
    rw [Array.getElem?_toList] at h1
    simp [run_isAgg ha, h1]
  · cases h
theorem zero_some {t : TypeId} {v : AVal} (h : zeroA P t = some v) : ∃ i z, P.info? t = some i ∧ i.zero = some z ∧ VRel φ v z ∧ ∀ w, (zeroValue t).run P w = .ok z w := by
  unfold zeroA at h
  split at h
  · rename_i i hi
    split at h
    · rename_i z hz
      exact ⟨i, z, hi, hz, ofValue_some _ _ _ h, fun w => by simp [zeroValue, typeInfo, hi, hz]⟩
    · cases h
  · cases h
abbrev EvOk (φ : Phi) (ev : Operand → Option AVal) (ρ : Operand → Value) : Prop := ∀ x v, ev x = some v → VRel φ v (ρ x)
theorem new_cells {v : AVal} {z : Value} (t : TypeId) (h : VRel φ v z) : ORel φ (.cells v.cells t) 0 z.cells.size (.cells z.cells t (0, 0)) := by
  have := cells_rel h
  refine .cells _ _ _ _ _ _ _ rfl (by have := this.length; simp at this ⊢; omega) ?_ (.inl rfl)
  rw [List.drop_zero, List.take_of_length_le (by rw [this.length]; exact Nat.le_refl _)]
  exact this
theorem alloc_ok (he : EvOk φ ev ρ) (o : Oper) (t : TypeId) (ho : o.op = .alloc t) (r : LRes) (h : lAlloc P ev t = some r) : LSpec φ (fun w => (execOp ρ o).run P w) r := by
  unfold lAlloc at h
  split at h
  · rename_i v hv
    cases h
    obtain ⟨i, z, hi, hz, h1, h2⟩ := zero_some (φ := φ) hv
    intro w
    refine ⟨.cells z.cells t, z.cells.size, .pointer (some ⟨w.heap.size, 0, none⟩), w.alloc (.cells z.cells t), ?_, rfl, rfl, rfl, rfl, new_cells t h1, fun ψ r hle hr => .ptr _ _ _ _ _ hr⟩
    simp [execOp, ho, Instr.alloc, h2, newVar, newRow]
  · cases h
theorem box_ok (he : EvOk φ ev ρ) (o : Oper) (t : TypeId) (x : Operand) (ho : o.op = .box t x) (r : LRes) (h : lBox ev t x = some r) : LSpec φ (fun w => (execOp ρ o).run P w) r := by
  unfold lBox at h
  split at h
  · rename_i v hv
    cases h
    have h1 := he _ _ hv
    intro w
    refine ⟨.cells (ρ x).cells t, (ρ x).cells.size, .pointer (some ⟨w.heap.size, 0, none⟩), w.alloc (.cells (ρ x).cells t), ?_, rfl, rfl, rfl, rfl, new_cells t h1, fun ψ r hle hr => .ptr _ _ _ _ _ hr⟩
    simp [execOp, ho, Instr.box, newVar, newRow]
  · cases h
theorem move_ok (he : EvOk φ ev ρ) (o : Oper) (x : Operand) (ho : o.op = .move x ∨ o.op = .assign x) (r : LRes) (h : lMove ev x = some r) : LSpec φ (fun w => (execOp ρ o).run P w) r := by
  unfold lMove at h
  split at h
  · rename_i v hv
    cases h
    exact ⟨_, he _ _ hv, fun w => by rcases ho with ho | ho <;> simp [execOp, ho]⟩
  · cases h
theorem pick_ok (he : EvOk φ ev ρ) (o : Oper) (c a b : Operand) (ho : o.op = .pick c a b) (r : LRes) (h : lPick ev c a b = some r) : LSpec φ (fun w => (execOp ρ o).run P w) r := by
  unfold lPick at h
  split at h
  · rename_i hc
    have h1 := he _ _ hc
    cases hv : ev a with
    | none => rw [hv] at h; cases h
    | some v =>
      rw [hv] at h; cases h
      generalize hρ : ρ c = q at h1
      cases h1
      exact ⟨_, he _ _ hv, fun w => by simp [execOp, ho, hρ, asBool]⟩
  · rename_i hc
    have h1 := he _ _ hc
    cases hv : ev b with
    | none => rw [hv] at h; cases h
    | some v =>
      rw [hv] at h; cases h
      generalize hρ : ρ c = q at h1
      cases h1
      exact ⟨_, he _ _ hv, fun w => by simp [execOp, ho, hρ, asBool]⟩
  · cases h
theorem rowT_length (i : Nat) : ∀ cs : List TCol, (rowT i cs).length = cs.length
  | [] => rfl
  | c :: cs => by simp [rowT, rowT_length i cs]
/-- a row of a table is a row of cells -/
theorem tab_cells {m i : Nat} {cs : List TCol} {t : TypeId} {b n : Nat} {x : Obj} (h : ORel φ (.tab m cs t) b n x) (hi : i < m) : ORel φ (.cells (rowT i cs) t) (b + i * cs.length) n x := by
  cases h with
  | tab _ _ _ t' _ _ c fz hn hb h hf =>
    have h1 : i * cs.length + cs.length ≤ m * cs.length := by
      have := Nat.mul_le_mul_right cs.length (Nat.succ_le_of_lt hi)
      rwa [Nat.succ_mul] at this
    exact .cells _ _ _ _ _ _ _ hn (by rw [rowT_length]; omega) (by rw [rowT_length]; exact h i hi) hf
theorem load_ok (he : EvOk φ ev ρ) (o : Oper) (t : TypeId) (a : Operand) (ho : o.op = .load t a) (r : LRes) (h : lLoad P ev t a = some r) : LSpec φ (fun w => (execOp ρ o).run P w) r := by
  unfold lLoad at h
  split at h
  · rename_i b off hv
    cases h
    have h1 := he _ _ hv
    generalize hρ : ρ a = q at h1
    cases h1 with
    | ptr _ _ g b0 n hφ =>
    refine ⟨fun ob v hk g' b0' n' x hφ' hx => ?_, fun ob v hk hn => ?_⟩
    · obtain ⟨rfl, rfl, rfl⟩ : g = g' ∧ b0 = b0' ∧ n = n' := by rw [hφ] at hφ'; simpa using hφ'
      simp only at hk
      split at hk
      · rw [got_free] at hk
        obtain ⟨u, h2, h3⟩ := loadVar_some hk hx
        exact ⟨u, h2, fun w hg => by simp [execOp, ho, hρ, Instr.loadAt, Instr.sureAddr, h3 w g hg]⟩
      · obtain ⟨u, h2, h3⟩ := loadB_some hk hx
        exact ⟨u, h2, fun w hg => by simp [execOp, ho, hρ, Instr.loadAt, Instr.sureAddr, h3 w g hg]⟩
      · obtain ⟨u, h2, h3⟩ := loadI_some hk hx
        exact ⟨u, h2, fun w hg => by simp [execOp, ho, hρ, Instr.loadAt, Instr.sureAddr, h3 w g hg]⟩
      · obtain ⟨op, h1, h2⟩ := got_some hk
        split at h1
        · rename_i v' hv'
          cases h1
          have h2 : off < _ := h2
          obtain ⟨u, h4, h3⟩ := loadVar_some hv' (tab_cells hx h2)
          refine ⟨u, h4, fun w hg => ?_⟩
          have h5 := h3 w g hg
          simp only [List.length_cons, List.length_nil, Nat.zero_add, Nat.mul_one, Nat.add_zero] at h5
          simp [execOp, ho, hρ, Instr.loadAt, Instr.sureAddr, h5]
        · cases h1
      · cases hk
    · simp only at hk
      split at hk
      · cases hn
      · rename_i l t'
        unfold loadB at hk
        obtain ⟨op, h1, h2⟩ := got_some hk
        split at h1
        · cases h1
          cases l with
          | nil => exact absurd h2 (Nat.not_lt_zero _)
          | cons _ _ => cases hn
        · rename_i m e hu
          cases l with
          | cons _ _ => cases hn
          | nil =>
          cases hu8 : isU8 P e with
          | false => rw [hu8] at h1; cases h1
          | true =>
          rw [hu8] at h1
          cases hs : sizeA P t with
          | none => rw [hs] at h1; simp at h1
          | some m' =>
          rw [hs] at h1
          simp only [cond_true] at h1
          cases hmm : (Nat.beq m' m && Nat.blt 0 m) with
          | false => rw [hmm] at h1; cases h1
          | true =>
          rw [hmm] at h1
          cases h1
          rw [Bool.and_eq_true, Nat.blt_eq] at hmm
          have h2 : off + m ≤ 0 := h2
          omega
        · cases h1
      · rename_i k l t'
        unfold loadI at hk
        obtain ⟨op, h1, h2⟩ := got_some hk
        split at h1
        · rename_i k' _
          cases hkk : kindEq k k' with
          | false => rw [hkk] at h1; cases h1
          | true =>
            rw [hkk] at h1
            cases h1
            cases l with
            | nil => exact absurd h2 (Nat.not_lt_zero _)
            | cons _ _ => cases hn
        · cases h1
      · rename_i n c t'
        obtain ⟨op, h1, h2⟩ := got_some hk
        split at h1
        · cases h1
          have h2 : off < n := h2
          cases n with
          | zero => omega
          | succ n => cases hn
        · cases h1
      · cases hk
  · cases h
theorem nil_ok (he : EvOk φ ev ρ) (o : Oper) (x : Operand) (ho : o.op = .nilCheck x) (r : LRes) (h : lNilCheck ev x = some r) : LSpec φ (fun w => (execOp ρ o).run P w) r := by
  unfold lNilCheck at h
  split at h
  · rename_i a hv
    cases h
    have h1 := he _ _ hv
    generalize hρ : ρ x = q at h1
    refine ⟨q, h1, fun w => ?_⟩
    cases h1
    simp [execOp, ho, hρ]
  · rename_i f a b hv
    cases h
    have h1 := he _ _ hv
    generalize hρ : ρ x = q at h1
    refine ⟨q, h1, fun w => ?_⟩
    cases h1
    simp [execOp, ho, hρ]
  · cases h
theorem bin_ok (he : EvOk φ ev ρ) (o : Oper) (op : BinOp) (t ty : TypeId) (x y : Operand) (ho : o.op = .binOp op t x y ty) (r : LRes) (h : lBinOp P ev op t x y = some r) : LSpec φ (fun w => (execOp ρ o).run P w) r := by
  unfold lBinOp at h
  split at h
  · rename_i a b hx hy
    cases hv : binA P op t a b with
    | none => rw [hv] at h; cases h
    | some v =>
      rw [hv] at h; cases h
      obtain ⟨u, h1, h2⟩ := binA_some hv (he _ _ hx) (he _ _ hy) x y
      exact ⟨u, h1, fun w => by simp only [execOp, ho]; rw [Sem.run_bind, h2 w]; rfl⟩
  · cases h
theorem un_ok (he : EvOk φ ev ρ) (o : Oper) (op : UnOp) (t : TypeId) (x : Operand) (ho : o.op = .unOp op t x) (r : LRes) (h : lUnOp ev op x = some r) : LSpec φ (fun w => (execOp ρ o).run P w) r := by
  unfold lUnOp at h
  split at h
  · rename_i a hx
    cases hv : unA op a with
    | none => rw [hv] at h; cases h
    | some v =>
      rw [hv] at h; cases h
      obtain ⟨u, h1, h2⟩ := unA_some (P := P) hv (he _ _ hx)
      exact ⟨u, h1, fun w => by simp only [execOp, ho]; rw [Sem.run_bind, h2 w]; rfl⟩
  · cases h
theorem extract_ok (he : EvOk φ ev ρ) (o : Oper) (x : Operand) (i : Nat) (ho : o.op = .extract x i) (r : LRes) (h : lExtract ev x i = some r) : LSpec φ (fun w => (execOp ρ o).run P w) r := by
  unfold lExtract at h
  split at h
  · rename_i l hx
    split at h
    · rename_i v hv
      cases h
      have h1 := he _ _ hx
      generalize hρ : ρ x = q at h1
      cases h1 with
      | tuple _ c hc =>
      obtain ⟨u, h2, h3⟩ := hc.get hv
      rw [Array.getElem?_toList] at h2
      exact ⟨u, h3, fun w => by simp [execOp, ho, hρ, Instr.extract, h2]⟩
    · cases h
  · cases h
theorem field_ok (he : EvOk φ ev ρ) (o : Oper) (t : TypeId) (x : Operand) (f : Nat) (ho : o.op = .field t x f) (r : LRes) (h : lField P ev t x f = some r) : LSpec φ (fun w => (execOp ρ o).run P w) r := by
  unfold lField at h
  split at h
  · rename_i fs l hu hx
    split at h
    · rename_i fl hf
      cases hv : partA P fl.type l fl.offset with
      | none => rw [hv] at h; cases h
      | some v =>
        rw [hv] at h; cases h
        have h1 := he _ _ hx
        generalize hρ : ρ x = q at h1
        cases h1 with
        | agg _ c hc =>
        obtain ⟨u, h2, h3⟩ := part_some hv hc
        exact ⟨u, h2, fun w => by simp [execOp, ho, hρ, Instr.field, run_und hu, hf, asAgg, h3 w]⟩
    · cases h
  · cases h
theorem faddr_ok (he : EvOk φ ev ρ) (o : Oper) (s : TypeId) (x : Operand) (f : Nat) (ho : o.op = .fieldAddr s x f) (r : LRes) (h : lFieldAddr P ev s x f = some r) : LSpec φ (fun w => (execOp ρ o).run P w) r := by
  unfold lFieldAddr at h
  split at h
  · rename_i fs b off hu hx
    split at h
    · rename_i fl hf
      split at h
      · rename_i n hn
        cases hb : Nat.beq n 0 with
        | true => rw [hb] at h; cases h
        | false =>
          rw [hb] at h; cases h
          have hn0 : n ≠ 0 := by intro h0; subst h0; simp at hb
          have h1 := he _ _ hx
          generalize hρ : ρ x = q at h1
          cases h1 with
          | ptr _ _ g b0 m hφ =>
          refine ⟨.pointer (some ⟨g, b0 + (off + fl.offset), none⟩), .ptr _ _ _ _ _ hφ, fun w => ?_⟩
          simp [execOp, ho, hρ, Instr.fieldAt, run_und hu, hf, Instr.sureAddr, fieldPlace, run_size hn, hn0, add_lit, Nat.add_assoc]
      · cases h
    · cases h
  · cases h
end
end Go.Proofs.Ytcofcojjofkgcaa.Abs
namespace Go.Proofs.Ytcofcojjofkgcaa.Abs
open Go Go.RowKit
set_option linter.unusedVariables false
section
variable {φ : Phi} {P : Program} {ev : Operand → Option AVal} {ρ : Operand → Value}
theorem putAt_some {l l' vs : List AVal} {o : Nat} (h : putAt l o vs = some l') : l' = l.take o ++ vs ++ l.drop (o + vs.length) ∧ o + vs.length ≤ l.length := by
  unfold putAt at h
  rw [lenL0, lenL0] at h
  cases hb : Nat.ble (o + vs.length) l.length with
  | false => rw [hb] at h; cases h
  | true => rw [hb] at h; cases h; exact ⟨rfl, Nat.le_of_ble_eq_true hb⟩
theorem foldl_put (off : Nat) : ∀ (vs : List Value) (k : Nat) (cs : Array Value), off + k + vs.length ≤ cs.size →
    ((vs.zipIdx k).foldl (fun cs (p : Value × Nat) => cs.setIfInBounds (off + p.2) p.1) cs).toList = cs.toList.take (off + k) ++ vs ++ cs.toList.drop (off + k + vs.length)
  | [], k, cs, h => by simp
  | v :: vs, k, cs, h => by
    rw [List.zipIdx_cons, List.foldl_cons, foldl_put off vs (k + 1) (cs.setIfInBounds (off + k) v) (by simp at h ⊢; omega)]
    have e := list_seg_step cs.toList (off + k) v vs (by simp at h ⊢; omega)
    simpa [Array.toList_setIfInBounds, Nat.add_assoc] using e
theorem put_rel {l vs : List AVal} {c : List Value} {us : List Value} {o : Nat} (h : VRels φ l c) (h' : VRels φ vs us) : VRels φ (l.take o ++ vs ++ l.drop (o + vs.length)) (c.take o ++ us ++ c.drop (o + us.length)) := by
  rw [h'.length]
  exact ((h.take o).append h').append (h.drop _)
theorem fill_some (place : Nat → Option (Nat × Nat)) : ∀ (vs : List (Nat × AVal)) (l l' : List AVal) (us : List (Nat × Value)) (c : Array Value), fillA place l vs = some l' → VRels φ l c.toList →
    us.length = vs.length → (∀ (i n : Nat) (v : AVal), vs[i]? = some (n, v) → ∃ u, us[i]? = some (n, u) ∧ VRel φ v u) → ∃ c', Instr.fill place c us = some c' ∧ VRels φ l' c'.toList
  | [], l, l', us, c, h, hc, hl, hr => by
    cases us with
    | nil => simp [fillA] at h; subst h; exact ⟨c, rfl, hc⟩
    | cons _ _ => simp at hl
  | (n, v) :: vs, l, l', us, c, h, hc, hl, hr => by
    cases us with
    | nil => simp at hl
    | cons nu us =>
      obtain ⟨u, hu, hvu⟩ := hr 0 n v rfl
      obtain rfl : nu = (n, u) := by simpa using hu
      unfold fillA at h
      split at h
      · rename_i o m hp
        rw [lenL0] at h
        cases hb : Nat.beq v.cells.length m with
        | false => rw [hb] at h; cases h
        | true =>
          rw [hb] at h
          simp only [cond_true] at h
          split at h
          · rename_i l1 hl1
            obtain ⟨rfl, hle⟩ := putAt_some hl1
            have hcr := cells_rel hvu
            have hcl := hcr.length
            have hm : v.cells.length = m := Nat.eq_of_beq_eq_true hb
            have hcsz := hc.length
            rw [Array.length_toList] at hcl hcsz
            have hfold := foldl_put o u.cells.toList 0 c (by simp; omega)
            have hput := put_rel (o := o) hc hcr
            have hz : (u.cells.zipIdx.foldl (fun cs (p : Value × Nat) => cs.setIfInBounds (o + p.2) p.1) c).toList = c.toList.take o ++ u.cells.toList ++ c.toList.drop (o + u.cells.toList.length) := by
              rw [← Array.foldl_toList, Array.toList_zipIdx]
              simpa using hfold
            obtain ⟨c', h1, h2⟩ := fill_some place vs _ l' us (u.cells.zipIdx.foldl (fun cs (p : Value × Nat) => cs.setIfInBounds (o + p.2) p.1) c) h (by rw [hz]; exact hput) (by simpa using hl)
              (fun i n v hi => by have := hr (i + 1) n v (by simpa using hi); simpa using this)
            refine ⟨c', ?_, h2⟩
            unfold Instr.fill
            rw [hp]
            simp only
            rw [if_neg (by simp; omega)]
            exact h1
          · cases h
      · cases h
theorem evps_some (he : EvOk φ ev ρ) : ∀ (ps : List (Nat × Operand)) (vs : List (Nat × AVal)), evps ev ps = some vs →
    (ps.map fun p => (p.1, ρ p.2)).length = vs.length ∧ ∀ (i n : Nat) (v : AVal), vs[i]? = some (n, v) → ∃ u, (ps.map fun p => (p.1, ρ p.2))[i]? = some (n, u) ∧ VRel φ v u
  | [], vs, h => by simp [evps] at h; subst h; simp
  | (n, x) :: ps, vs, h => by
    unfold evps at h
    split at h
    · rename_i v vs' hv hvs
      cases h
      obtain ⟨h1, h2⟩ := evps_some he ps vs' hvs
      refine ⟨by simpa using h1, fun i m w hi => ?_⟩
      rcases i with _ | i
      · simp at hi
        obtain ⟨rfl, rfl⟩ := hi
        exact ⟨_, rfl, he _ _ hv⟩
      · have := h2 i m w (by simpa using hi)
        simpa using this
    · cases h
theorem evs_some (he : EvOk φ ev ρ) : ∀ (xs : List Operand) (vs : List AVal), evs ev xs = some vs → VRels φ vs (xs.map ρ)
  | [], vs, h => by simp [evs] at h; subst h; exact .nil
  | x :: xs, vs, h => by
    unfold evs at h
    split at h
    · rename_i v vs' hv hvs
      cases h
      exact .cons _ _ _ _ (he _ _ hv) (evs_some he xs vs' hvs)
    · cases h
theorem places_some : ∀ (fs : List Field) (ps : List (Nat × Nat)), placesA P fs = some ps → fs.mapM (fun f => (P.info? f.type).map fun i => (f.offset, i.size)) = some ps
  | [], ps, h => by simp [placesA] at h; subst h; rfl
  | f :: fs, ps, h => by
    unfold placesA at h
    split at h
    · rename_i n ps' hn hps
      cases h
      unfold sizeA at hn
      split at hn
      · rename_i i hi
        cases hn
        simp [List.mapM_cons, hi, places_some fs ps' hps]
      · cases hn
    · cases h
theorem size_info {t : TypeId} {n : Nat} (h : sizeA P t = some n) : ∃ i, P.info? t = some i ∧ i.size = n := by
  unfold sizeA at h
  split at h
  · cases h; exact ⟨_, ‹_›, rfl⟩
  · cases h
theorem nth_toArray {α : Type} (ps : List α) : (fun i => ps.toArray[i]?) = nth ps := by funext i; rw [nth_eq]; simp
theorem build_ok (he : EvOk φ ev ρ) (o : Oper) (t : TypeId) (parts : Array (Nat × Operand)) (ho : o.op = .build t parts) (r : LRes) (h : lBuild P ev t parts = some r) : LSpec φ (fun w => (execOp ρ o).run P w) r := by
  unfold lBuild at h
  split at h
  · rename_i z vs hz hvs
    obtain ⟨it, zv, hit, hiz, hzr, _⟩ := zero_some (φ := φ) hz
    obtain ⟨e1, e2⟩ := evps_some he _ _ hvs
    have hzc := cells_rel hzr
    have key : ∀ (place : Nat → Option (Nat × Nat)) (l : List AVal), fillA place z.cells vs = some l → P.built t (parts.map fun (i, x) => (i, ρ x)).toList = Instr.fill place zv.cells (parts.map fun (i, x) => (i, ρ x)).toList →
        ∃ u, VRel φ (.agg l) u ∧ ∀ w, (execOp ρ o).run P w = .ok (.value u) w := fun place l hf hb => by
      obtain ⟨c', h1, h2⟩ := fill_some place vs _ _ (parts.map fun (i, x) => (i, ρ x)).toList zv.cells hf hzc (by simpa using e1) (by simpa using e2)
      refine ⟨.agg c', .agg _ _ h2, fun w => ?_⟩
      rw [h1] at hb
      have := run_build (P := P) w t (parts.map fun (i, x) => (i, ρ x)) c' hb
      simp [execOp, ho, this]
    split at h
    · rename_i fs hu
      split at h
      · rename_i ps hps
        split at h
        · rename_i l hl
          cases h
          refine key _ _ hl ?_
          unfold Program.built
          simp only [hit, hu, hiz, places_some _ _ hps, nth_toArray]
        · cases h
      · cases h
    · rename_i n e hu
      split at h
      · rename_i m hm
        obtain ⟨ie, hie, rfl⟩ := size_info hm
        split at h
        · rename_i l hl
          cases h
          refine key _ _ hl ?_
          unfold Program.built
          simp only [hit, hu, hiz, hie]
        · cases h
      · cases h
    · cases h
  · cases h
theorem rep_length (z : List AVal) : ∀ n, (repL z n).length = n * z.length
  | 0 => by simp [repL]
  | n + 1 => by rw [repL, List.length_append, rep_length z n, Nat.succ_mul]; omega
theorem rep_get (z : List AVal) (hz : 0 < z.length) : ∀ (n i : Nat), i < n * z.length → (repL z n)[i]? = z[i % z.length]?
  | 0, i, h => by simp at h
  | n + 1, i, h => by
    rw [repL]
    by_cases hi : i < z.length
    · rw [List.getElem?_append_left hi, Nat.mod_eq_of_lt hi]
    · rw [List.getElem?_append_right (by omega), rep_get z hz n (i - z.length) (by rw [Nat.succ_mul] at h; omega)]
      rw [← Nat.mod_eq_sub_mod (by omega)]
theorem made_rel {z : List AVal} {c : Array Value} (h : VRels φ z c.toList) (hz : 0 < z.length) (n m : Nat) (hm : m = n * z.length) : VRels φ (repL z n) (madeCells c m).toList := by
  subst hm
  have hc : c.size = z.length := by rw [← h.length, Array.length_toList]
  refine VRels.of_get (by rw [Array.length_toList, size_madeCells, rep_length]) fun i v hi => ?_
  have hlt : i < n * z.length := by rw [← rep_length z n]; exact (List.getElem?_eq_some_iff.1 hi).1
  rw [rep_get z hz n i hlt] at hi
  obtain ⟨u, h1, h2⟩ := h.get hi
  refine ⟨u, ?_, h2⟩
  have hlt2 : i % c.size < c.size := Nat.mod_lt _ (by omega)
  rw [Array.getElem?_toList] at h1 ⊢
  unfold madeCells
  rw [Array.getElem?_map, Array.getElem?_range]
  rw [← hc] at h1
  simp only [hlt, if_true, Option.map_some]
  rw [Array.getElem?_eq_getElem hlt2] at h1
  rw [getElem!_pos c _ hlt2]
  exact h1
theorem cells_new {l : List AVal} {c : Array Value} (t : TypeId) (h : VRels φ l c.toList) : ORel φ (.cells l t) 0 c.size (.cells c t (0, 0)) := by
  refine .cells _ _ _ _ _ _ _ rfl (by have := h.length; simp at this ⊢; omega) ?_ (.inl rfl)
  rw [List.drop_zero, List.take_of_length_le (by rw [h.length]; exact Nat.le_refl _)]
  exact h
theorem mslice_ok (he : EvOk φ ev ρ) (o : Oper) (t : TypeId) (l c : Operand) (ho : o.op = .makeSlice t l c) (r : LRes) (h : lMakeSlice P ev t l c = some r) : LSpec φ (fun w => (execOp ρ o).run P w) r := by
  unfold lMakeSlice at h
  split at h
  · rename_i e k n k' m hu hl hc
    split at h
    · rename_i s z hs hz
      rw [lenL0] at h
      cases hb : (Nat.ble n m && Nat.ble m 1048576 && Nat.ble (P.bytesOf e) 1048576 && Nat.beq z.cells.length s && Nat.blt 0 s) with
      | false => rw [hb] at h; cases h
      | true =>
        rw [hb] at h
        cases h
        simp only [Bool.and_eq_true, Nat.blt_eq] at hb
        obtain ⟨⟨⟨⟨b1, b2⟩, b3⟩, b4⟩, b5⟩ := hb
        have b1 := Nat.le_of_ble_eq_true b1
        have b2 := Nat.le_of_ble_eq_true b2
        have b3 := Nat.le_of_ble_eq_true b3
        have b4 := Nat.eq_of_beq_eq_true b4
        obtain ⟨ie, zv, hie, hiz, hzr, _⟩ := zero_some (φ := φ) hz
        obtain ⟨ie', hie', hsz⟩ := size_info hs
        obtain rfl : ie = ie' := by rw [hie] at hie'; simpa using hie'
        have hby : P.bytesOf e = ie.bytes := by unfold Program.bytesOf; rw [hie]; rfl
        rw [hby] at b3
        have h1 := he _ _ hl
        have h2 := he _ _ hc
        generalize hρl : ρ l = ql at h1
        generalize hρc : ρ c = qc at h2
        cases h1
        cases h2
        have hzc := cells_rel hzr
        intro w
        have hbm : (ie.bytes : Int) * (m : Int) ≤ 281474976710656 := by
          have : ie.bytes * m ≤ 1048576 * 1048576 := Nat.mul_le_mul b3 b2
          have h3 : ((ie.bytes * m : Nat) : Int) ≤ 281474976710656 := by omega
          rwa [Int.natCast_mul] at h3
        have hr := run_make (P := P) w t e ie zv hu hie hiz k k' (n : Int) (m : Int) (by omega) (by omega) hbm (by omega)
        have hrel := made_rel hzc (by omega) m (m * ie.size) (by rw [b4, hsz])
        have hn0 := cells_new e hrel
        rw [size_madeCells] at hn0
        refine ⟨.cells (madeCells zv.cells (m * ie.size)) e, m * ie.size, .slice (some ⟨w.heap.size, 0, none⟩) n m, w.alloc (.cells (madeCells zv.cells (m * ie.size)) e), ?_, rfl, rfl, rfl, rfl, hn0, fun ψ r hle hr => ?_⟩
        · have h4 : (Instr.makeSlice t (.int k (Int.ofNat n)) (.int k' (Int.ofNat m))).run P w = _ := hr
          simp [execOp, ho, hρl, hρc]
          simp at h4
          rw [h4]
          simp
        · exact .slice r 0 n m s w.heap.size 0 (m * ie.size) m true _ hr b1 (Nat.le_refl _) (fun _ => rfl) (by simp) (.inr rfl)
    · cases h
  · cases h
end
end Go.Proofs.Ytcofcojjofkgcaa.Abs
namespace Go.Proofs.Ytcofcojjofkgcaa.Abs
open Go Go.RowKit
set_option linter.unusedVariables false
section
variable {φ : Phi} {P : Program} {ev : Operand → Option AVal} {ρ : Operand → Value}
theorem bslice_ok (he : EvOk φ ev ρ) (o : Oper) (t : TypeId) (len : Nat) (parts : Array (Nat × Operand)) (ho : o.op = .buildSlice t len parts) (r : LRes) (h : lBuildSlice P ev t len parts = some r) : LSpec φ (fun w => (execOp ρ o).run P w) r := by
  unfold lBuildSlice at h
  split at h
  · rename_i e hu
    split at h
    · split at h
      · rename_i n hp hn
        cases h
        intro w
        refine ⟨.cells #[] e (0, 0), 0, .slice (some ⟨w.heap.size, 0, none⟩) 0 0, w.alloc (.cells #[] e), ?_, rfl, rfl, rfl, rfl, cells_new e (c := #[]) .nil, fun ψ r hle hr => ?_⟩
        · have hpe : parts = #[] := by simpa using hp
          subst hpe
          simp [execOp, ho, Instr.buildSlice, run_und hu, run_size hn, Instr.fill, newRow, Array.range_zero']
        · exact .slice r 0 0 0 n w.heap.size 0 0 0 true _ hr (Nat.le_refl _) (Nat.le_refl _) (fun _ => rfl) (by simp) (.inr rfl)
      · cases h
    · rename_i x m
      split at h
      · rename_i n z vs hn hz hvs
        rw [lenL0] at h
        cases hb : (Nat.ble ((m + 1) * n) 65536 && Nat.beq z.cells.length n && Nat.blt 0 n) with
        | false => rw [hb] at h; cases h
        | true =>
          rw [hb] at h
          simp only [cond_true] at h
          simp only [Bool.and_eq_true, Nat.blt_eq] at hb
          obtain ⟨⟨b1, b2⟩, b3⟩ := hb
          have b1 := Nat.le_of_ble_eq_true b1
          have b2 := Nat.eq_of_beq_eq_true b2
          split at h
          · rename_i l hl
            cases h
            obtain ⟨ie, zv, hie, hiz, hzr, _⟩ := zero_some (φ := φ) hz
            obtain ⟨ie', hie', hsz⟩ := size_info hn
            obtain rfl : ie = ie' := by rw [hie] at hie'; simpa using hie'
            obtain ⟨e1, e2⟩ := evps_some he _ _ hvs
            have hzc := cells_rel hzr
            have hrel := made_rel hzc (by omega) (m + 1) ((m + 1) * ie.size) (by rw [b2, hsz])
            have hpos : 0 < (m + 1) * ie.size := Nat.mul_pos (by omega) (by omega)
            obtain ⟨ps, hps⟩ : ∃ ps : Array (Nat × Value), ps = parts.map fun (i, x) => (i, ρ x) := ⟨_, rfl⟩
            obtain ⟨c', h1, h2⟩ := fill_some (fun i => some (i * n, n)) vs _ _ ps.toList _ hl hrel (by rw [hps]; simpa using e1) (by rw [hps]; simpa using e2)
            intro w
            subst hsz
            have hr := run_buildSlice (P := P) w t e (m + 1) ps c' ie zv hu hie hiz (by omega) (by omega) h1
            refine ⟨.cells c' e, c'.size, .slice (some ⟨w.heap.size, 0, none⟩) (m + 1) (m + 1), w.alloc (.cells c' e), ?_, rfl, rfl, rfl, rfl, cells_new e h2, fun ψ r hle hr => ?_⟩
            · simp only [execOp, ho, ← hps, Sem.run_bind, hr]; rfl
            · exact .slice r 0 (m + 1) (m + 1) ie.size w.heap.size 0 c'.size (m + 1) true _ hr (Nat.le_refl _) (Nat.le_refl _) (fun _ => rfl) (by simp) (.inr rfl)
          · cases h
      · cases h
  · cases h
theorem arrp_ok (he : EvOk φ ev ρ) (o : Oper) (t : TypeId) (x : Operand) (ho : o.op = .sliceToArrayPointer t x) (r : LRes) (h : lSliceToArrayPointer P ev t x = some r) : LSpec φ (fun w => (execOp ρ o).run P w) r := by
  unfold lSliceToArrayPointer at h
  split at h
  · rename_i n e a len c ex z hu hx
    cases hb : (Nat.ble n len && Nat.blt 0 n) with
    | false => rw [hb] at h; cases h
    | true =>
      rw [hb] at h
      cases h
      simp only [Bool.and_eq_true, Nat.blt_eq] at hb
      have b1 := Nat.le_of_ble_eq_true hb.1
      have h1 := he _ _ hx
      generalize hρ : ρ x = q at h1
      cases h1 with
      | slice0 => omega
      | slice x o' _ _ _ g b m cap _ a hφ hl hc hex hz ha =>
        rcases ha with ⟨rfl, _⟩ | rfl
        · omega
        · exact ⟨_, .ptr _ _ _ _ _ hφ, fun w => by simp [execOp, ho, hρ, Instr.arrayAt, run_und hu, Nat.not_lt.2 b1]⟩
  · cases h
theorem mfunc_ok (he : EvOk φ ev ρ) (o : Oper) (f : FuncId) (first captured : Array Operand) (ho : o.op = .makeFunc (.func f) first captured) (r : LRes) (h : lMakeFunc ev f first captured = some r) : LSpec φ (fun w => (execOp ρ o).run P w) r := by
  unfold lMakeFunc at h
  split at h
  · rename_i a b ha hb
    cases h
    have h1 := evs_some he _ _ ha
    have h2 := evs_some he _ _ hb
    exact ⟨.func (.func f) (first.map ρ) (captured.map ρ), .func _ _ _ _ _ (by simpa using h1) (by simpa using h2), fun w => by simp [execOp, ho, Instr.makeFunc]⟩
  · cases h
theorem evo_none {x : Option Operand} (h : evo ev x = some none) : x = none := by
  cases x with
  | none => rfl
  | some x => simp [evo] at h
theorem keyOk_kind {t : TypeId} {k : AVal} (h : keyOk P t k = true) : ∃ d, P.underlying t = some d ∧ ((∃ j a, d = .int j ∧ k = .int j a) ∨ ∃ l, d = .string ∧ k = .str l) := by
  unfold keyOk at h
  split at h
  · rename_i j j' a hu
    obtain rfl := kindEq_eq _ _ h
    exact ⟨_, hu, .inl ⟨_, _, rfl, rfl⟩⟩
  · rename_i l hu
    exact ⟨_, hu, .inr ⟨_, rfl, rfl⟩⟩
  · cases h
theorem keyEq_same {k k' : AVal} {u u' : Value} {b : Bool} (h : keyEq k k' = some b) (hk : VRel φ k u) (hk' : VRel φ k' u') {d : TypeDesc} (hd : (∃ j a, d = .int j ∧ k = .int j a) ∨ ∃ l, d = .string ∧ k = .str l) : Instr.sameNow d u u' = some b ∧ (b = true → u = u') := by
  unfold keyEq at h
  split at h
  · rename_i j a j' a'
    cases hk; cases hk'
    cases hj : kindEq j j' with
    | false => rw [hj] at h; cases h
    | true =>
      rw [hj] at h
      cases h
      obtain rfl := kindEq_eq _ _ hj
      rw [intBeq_eq]
      rcases hd with ⟨j', a', rfl, _⟩ | ⟨l, _, e⟩
      · exact ⟨by simp [Instr.sameNow], fun e => by rw [beq_iff_eq] at e; rw [e]⟩
      · cases e
  · rename_i a a'
    cases h
    rcases hd with ⟨j', a', _, e⟩ | ⟨l, rfl, _⟩
    · cases e
    · cases hk with | str s => cases hk' with | str s' =>
      rw [beqL_eq]
      have hbe : (s.data.toList == s'.data.toList) = (s == s') := by
        show _ = (s.data == s'.data)
        rw [Bool.eq_iff_iff, beq_iff_eq, beq_iff_eq]
        exact Array.toList_inj
      refine ⟨by rw [hbe]; rfl, fun e => ?_⟩
      rw [beq_iff_eq, Array.toList_inj] at e
      cases s; cases s'; simp at e; rw [e]
  · cases h
/-- what is looked up: none, or the first entry -/
theorem findM_ok {k : AVal} {u : Value} (hk : VRel φ k u) {d : TypeDesc} (hd : (∃ j a, d = .int j ∧ k = .int j a) ∨ ∃ l, d = .string ∧ k = .str l) : ∀ {es : List (AVal × AVal)} {ms : List MapEntry} {n : Nat} {r : Option (Nat × AVal)}, findM k es n = some r → ms.length = es.length →
    (∀ (i : Nat) (e : AVal × AVal), es[i]? = some e → ∃ m : MapEntry, ms[i]? = some m ∧ VRel φ e.1 m.key ∧ VRel φ e.2 m.val) →
    (r = none ∧ Instr.findNow d u ms n = some none) ∨ ∃ i v, ∃ m : MapEntry, r = some (n + i, v) ∧ Instr.findNow d u ms n = some (some (n + i, m.val)) ∧ es[i]? = some (es[i]?.getD default) ∧ (es[i]?.getD default).2 = v ∧ ms[i]? = some m ∧ m.key = u ∧ VRel φ v m.val
  | [], ms, n, r, h, hl, hr => by
    cases h
    obtain rfl : ms = [] := List.eq_nil_of_length_eq_zero hl
    exact .inl ⟨rfl, rfl⟩
  | e :: es, ms, n, r, h, hl, hr => by
    cases ms with
    | nil => cases hl
    | cons m ms =>
    obtain ⟨m', e1, e2, e3⟩ := hr 0 e rfl
    obtain rfl : m = m' := by simpa using e1
    unfold findM at h
    split at h
    · rename_i b hb
      obtain ⟨h1, h2⟩ := keyEq_same hb hk e2 hd
      cases b with
      | true =>
        cases h
        refine .inr ⟨0, e.2, m, rfl, ?_, rfl, rfl, rfl, (h2 rfl).symm, e3⟩
        simp only [Instr.findNow, h1, Nat.add_zero]
      | false =>
        simp only [cond_false] at h
        rcases findM_ok hk hd h (by simpa using hl) (fun i e he => by
          obtain ⟨m1, q1, q2⟩ := hr (i + 1) e (by simpa using he)
          exact ⟨m1, by simpa using q1, q2⟩) with ⟨rfl, q⟩ | ⟨i, v, m1, rfl, q1, q2, q3, q4, q5, q6⟩
        · refine .inl ⟨rfl, ?_⟩
          simp only [Instr.findNow, h1]; exact q
        · refine .inr ⟨i + 1, v, m1, by rw [Nat.succ_add]; rfl, ?_, ?_, ?_, by simpa using q4, q5, q6⟩
          · simp only [Instr.findNow, h1, q1]
            rw [Nat.succ_add]; rfl
          · simpa using q2
          · simpa using q3
    · cases h
theorem run_checkKey_of {t : TypeId} {k : AVal} {u : Value} (h : keyOk P t k = true) (hk : VRel φ k u) (em : Bool) (w : World) : (Instr.checkKey em 10000 t u).run P w = .ok () w := by
  obtain ⟨d, hd, h⟩ := keyOk_kind h
  rw [show (10000 : Nat) = 9999 + 1 from rfl]
  generalize 9999 = n
  rcases h with ⟨j, a, rfl, rfl⟩ | ⟨l, rfl, rfl⟩ <;> cases hk <;> simp [Instr.checkKey, run_und hd]
theorem run_findKey_of {t : TypeId} {d : TypeDesc} {u : Value} {ms : List MapEntry} {r : Option (Nat × Value)} (hd : P.underlying t = some d) (h : Instr.findNow d u ms 0 = some r) (w : World) : (Instr.findKey t u ms).run P w = .ok r w := by
  simp [Instr.findKey, run_und hd, h]
theorem lookV_rel {ok is : Bool} {v : AVal} {u : Value} (h : VRel φ v u) : VRel φ (lookV ok v is) (if ok = true then .tuple #[u, .bool is] else u) := by
  cases ok with
  | true => exact .tuple _ _ (.cons _ _ _ _ h (.cons _ _ _ _ (.bool _) .nil))
  | false => exact h
theorem map_entries {es : List (AVal × AVal)} {b n : Nat} {x : Obj} (h : ORel φ (.map es) b n x) : ∃ ms clock, x = .map ms clock ∧ ms.toList.length = es.length ∧ (ms.toList.map (·.born)).Nodup ∧ (∀ m ∈ ms.toList, m.born < clock) ∧ ∀ (i : Nat) (e : AVal × AVal), es[i]? = some e → ∃ m : MapEntry, ms.toList[i]? = some m ∧ VRel φ e.1 m.key ∧ VRel φ e.2 m.val := by
  cases h with
  | map _ _ _ ms clock hl hbn hbo h => exact ⟨ms, clock, rfl, by simpa using hl, hbn, hbo, fun i e he => by simpa using h i e he⟩
/-- a map known by a term, entry by entry -/
def esFrom (k : IntKind) (cs : List TCol) (one : Bool) : List Int → Nat → List (AVal × AVal)
  | [], _ => []
  | z :: ks, i => (.int k z, packM one (rowT i cs)) :: esFrom k cs one ks (i + 1)
theorem esFrom_get (k : IntKind) (cs : List TCol) (one : Bool) : ∀ (ks : List Int) (i j : Nat), (esFrom k cs one ks i)[j]? = (ks[j]?).map fun z => (.int k z, packM one (rowT (i + j) cs))
  | [], i, j => by simp [esFrom]
  | z :: ks, i, 0 => by simp [esFrom]
  | z :: ks, i, j + 1 => by
    simp only [esFrom, List.getElem?_cons_succ]
    rw [esFrom_get k cs one ks (i + 1) j, show i + 1 + j = i + (j + 1) by omega]
theorem esFrom_length (k : IntKind) (cs : List TCol) (one : Bool) : ∀ (ks : List Int) (i : Nat), (esFrom k cs one ks i).length = ks.length
  | [], i => rfl
  | z :: ks, i => by simp [esFrom, esFrom_length k cs one ks (i + 1)]
theorem kindEq_refl (k : IntKind) : kindEq k k = true := by cases k <;> rfl
theorem findM_es (k : IntKind) (cs : List TCol) (one : Bool) (q : Int) : ∀ (ks : List Int) (i n : Nat), findM (.int k q) (esFrom k cs one ks i) n = some (if q ∈ ks then some (n + ks.idxOf q, packM one (rowT (i + ks.idxOf q) cs)) else none)
  | [], i, n => by simp [esFrom, findM]
  | z :: ks, i, n => by
    simp only [esFrom, findM, keyEq, kindEq_refl, cond_true]
    by_cases h : q = z
    · subst h
      rw [show intBeq q q = true from by rw [intBeq_eq]; simp]
      simp
    · rw [show intBeq q z = false from by rw [intBeq_eq]; simp [h]]
      simp only [cond_false]
      rw [findM_es k cs one q ks (i + 1) (n + 1)]
      have hz : ¬ z = q := fun e => h e.symm
      by_cases hq : q ∈ ks
      · rw [if_pos hq, if_pos (List.mem_cons_of_mem _ hq), List.idxOf_cons]
        have hb : (z == q) = false := by simpa using hz
        rw [hb]
        simp only [cond_false]
        rw [show n + 1 + ks.idxOf q = n + (ks.idxOf q + 1) by omega, show i + 1 + ks.idxOf q = i + (ks.idxOf q + 1) by omega]
      · rw [if_neg hq, if_neg (by simp [h, hq])]
theorem smap_map {k : IntKind} {ks : List Int} {cs : List TCol} {one : Bool} {b n : Nat} {x : Obj} (h : ORel φ (.smap k ks cs one) b n x) : ORel φ (.map (esFrom k cs one ks 0)) b n x := by
  cases h with
  | smap _ _ _ _ _ _ ms clock hl hbn hbo h =>
    refine .map _ _ _ ms clock (by rw [esFrom_length]; exact hl) hbn hbo fun i e he => ?_
    rw [esFrom_get] at he
    cases hk : ks[i]? with
    | none => rw [hk] at he; cases he
    | some z =>
      rw [hk] at he
      cases he
      obtain ⟨h0, m, h1, h2, vs, h3, h4, h5⟩ := h i z hk
      refine ⟨m, h1, by rw [h2]; exact .int _ _, ?_⟩
      rw [Nat.zero_add]
      cases one with
      | false => rw [h5 rfl]; exact .agg _ _ (by simpa using h3)
      | true =>
        rw [h4 rfl] at h3
        simp only [packM]
        generalize rowT i cs = r at h3
        cases h3 with
        | cons v _ vs _ h6 h7 => cases h7; exact h6
theorem getT_mem {ks : List Int} {q : Int} (h : q ∈ ks) : ∀ cs : List TCol, getT ks q cs = rowT (ks.idxOf q) cs
  | [] => rfl
  | c :: cs => by
    simp only [getT, rowT, getT_mem h cs]
    congr 1
    cases c <;> simp [TCol.get, TCol.val, mget, h]
theorem zeroCols_rel {ks : List Int} {q : Int} (h : q ∉ ks) : ∀ {cs : List TCol} {zs : List AVal} {us : List Value}, zeroCols cs zs = true → VRels φ zs us → VRels φ (getT ks q cs) us
  | [], [], _, _, .nil => .nil
  | [], _ :: _, _, hz, _ => by cases hz
  | _ :: _, [], _, hz, _ => by cases hz
  | c :: cs, z :: zs, _, hz, .cons _ u _ us h1 h2 => by
    simp only [zeroCols, Bool.and_eq_true] at hz
    refine .cons _ _ _ _ ?_ (zeroCols_rel h hz.2 h2)
    have hz1 := hz.1
    cases c with
    | zs k l =>
      cases z with
      | int j n =>
        have hz1 : (kindEq k j && intBeq n 0) = true := hz1
        rw [Bool.and_eq_true, intBeq_eq] at hz1
        obtain rfl := kindEq_eq _ _ hz1.1
        obtain rfl : n = 0 := by simpa using hz1.2
        cases h1
        simp only [TCol.get, mget, if_neg h]
        exact .sint _ _ (by cases k <;> simp [inR, loI, hiI])
      | _ => simp [zeroCol] at hz1
    | bs l =>
      cases z with
      | bool b =>
        cases b with
        | true => simp [zeroCol] at hz1
        | false => cases h1; simp only [TCol.get, mget, if_neg h]; exact .sbool _
      | _ => simp [zeroCol] at hz1
    | ss l =>
      cases z with
      | str m =>
        cases m with
        | cons _ _ => simp [zeroCol] at hz1
        | nil =>
          simp only [TCol.get, mget, if_neg h]
          generalize hq : AVal.str [] = y at h1
          cases h1 with
          | str s =>
            have h3 : s.data.toList.map UInt8.toNat = [] := by simpa using hq.symm
            have h4 : s.data.toList = [] := by simpa using h3
            have := VRel.sstr (φ := φ) s
            rwa [h4] at this
          | _ => cases hq
      | _ => simp [zeroCol] at hz1
    | ps l =>
      cases z with
      | slice a n c ex w =>
        cases a with
        | some _ => simp [zeroCol] at hz1
        | none =>
          simp only [TCol.get, mget, if_neg h]
          cases h1
          exact .pemp _ _
      | _ => simp [zeroCol] at hz1
theorem packM_rel {one : Bool} {z : AVal} {zs ws : List AVal} {u : Value} (hz : cellsM one z = some zs) (hu : VRel φ z u) (h : ∀ us, VRels φ zs us → VRels φ ws us) : VRel φ (packM one ws) u := by
  cases one with
  | true =>
    have : zs = [z] := by cases z <;> first | (cases hz; rfl) | (cases hz; done)
    subst this
    have := h [u] (.cons _ _ _ _ hu .nil)
    cases this with
    | cons v _ vs _ h1 h2 => cases h2; exact h1
  | false =>
    cases z with
    | agg l =>
      cases hz
      cases hu with
      | agg _ c hc => exact .agg _ c (h _ hc)
    | _ => cases hz
theorem lookV_rel' {ok is : Bool} {v : AVal} {u : Value} (h : VRel φ v u) : VRel φ (bif ok then .tuple [v, .sbool is] else v) (if ok = true then .tuple #[u, .bool is] else u) := by
  cases ok with
  | true => exact .tuple _ _ (.cons _ _ _ _ h (.cons _ _ _ _ (.sbool _) .nil))
  | false => exact h
theorem lookS_some {k z v : AVal} {ok : Bool} {kk : IntKind} {ks : List Int} {cs : List TCol} {one : Bool} (h : got (lookS k z ok kk ks cs one) = some v) :
    ∃ q zs, (k = .int kk q ∨ k = .sint kk q) ∧ cellsM one z = some zs ∧ zeroCols cs zs = true ∧ v = (bif ok then .tuple [packM one (getT ks q cs), .sbool (decide (q ∈ ks))] else packM one (getT ks q cs)) := by
  obtain ⟨ob, h, hob⟩ := got_some h
  unfold lookS at h
  split at h
  · rename_i j q zs hz _
    cases hb : (kindEq j kk && zeroCols cs zs) with
    | false => rw [hb] at h; cases h
    | true =>
      rw [hb] at h
      cases h
      rw [Bool.and_eq_true] at hb
      obtain rfl := kindEq_eq _ _ hb.1
      exact ⟨q, zs, .inl rfl, hz, hb.2, rfl⟩
  · rename_i j q zs hz _
    cases hb : (kindEq j kk && zeroCols cs zs) with
    | false => rw [hb] at h; cases h
    | true =>
      rw [hb] at h
      cases h
      rw [Bool.and_eq_true] at hb
      obtain rfl := kindEq_eq _ _ hb.1
      exact ⟨q, zs, .inr rfl, hz, hb.2, rfl⟩
  · cases h
/-- what is looked up in a map that is known by a term -/
theorem lookS_ok {o : Oper} {t kt et : TypeId} {x i : Operand} {ok : Bool} {j : IntKind} {q : Int} {z v : AVal} {kk : IntKind} {ks : List Int} {cs : List TCol} {one : Bool} {g b0 n : Nat} {x1 : Obj} (ho : o.op = .lookup t x i ok) (ht : P.underlying t = some (.map kt et)) (hkt : P.underlying kt = some (.int j)) (hz : zeroA P et = some z)
    (hi : ρ i = .int j q) (hx : ρ x = .map (some g)) (hor : ORel φ (.smap kk ks cs one) b0 n (thaw x1)) {k : AVal} (hk : k = .int j q ∨ k = .sint j q) (hv : got (lookS k z ok kk ks cs one) = some v) :
    ∃ u, VRel φ v u ∧ ∀ w : World, w.heap[g]? = some x1 → (execOp ρ o).run P w = .ok (.value u) w := by
  obtain ⟨q', zs, hq, hc, hzc, rfl⟩ := lookS_some hv
  obtain ⟨rfl, rfl⟩ : j = kk ∧ q = q' := by rcases hk with rfl | rfl <;> rcases hq with hq | hq <;> cases hq <;> exact ⟨rfl, rfl⟩
  obtain ⟨zi, zv, z1, z2, z3, z4⟩ := zero_some (φ := φ) hz
  obtain ⟨ms, clock, e1, e2, e3, e4, e5⟩ := map_entries (smap_map hor)
  obtain rfl : x1 = .map ms clock := by
    cases x1 <;> first | exact e1 | cases e1
  have r2 : VRel φ (.int j q) (.int j q) := .int _ _
  have hko : keyOk P kt (.int j q) = true := by unfold keyOk; rw [hkt]; exact kindEq_refl j
  have hkd : (∃ j' a, TypeDesc.int j = .int j' ∧ AVal.int j q = .int j' a) ∨ ∃ l, TypeDesc.int j = .string ∧ AVal.int j q = .str l := .inl ⟨j, q, rfl, rfl⟩
  have hgo : ∀ w : World, w.heap[g]? = some (.map ms clock) → (getObj g).run P w = .ok (.map ms clock) w := fun w hw => by simp [getObj, Sem.run, hw]
  rcases findM_ok r2 hkd (findM_es j cs one q ks 0 0) e2 e5 with ⟨h1, h2⟩ | ⟨jj, v2, m1, h1, h2, _, _, h3, h4, h5⟩
  · have hq' : q ∉ ks := fun hin => by rw [if_pos hin] at h1; cases h1
    refine ⟨_, lookV_rel' (v := packM one (getT ks q cs)) (is := decide (q ∈ ks)) (packM_rel hc z3 fun us hus => zeroCols_rel hq' hzc hus), fun w hw => ?_⟩
    simp [execOp, ho, hx, hi, Instr.lookup, run_und ht, hgo w hw, run_checkKey_of hko r2, Result.andThen, run_findKey_of hkt h2, z4, hq']
  · have hq' : q ∈ ks := by
      refine Decidable.byContradiction fun hn => ?_
      rw [if_neg hn] at h1; cases h1
    rw [if_pos hq', Nat.zero_add, Nat.zero_add] at h1
    obtain ⟨rfl, rfl⟩ : ks.idxOf q = jj ∧ packM one (rowT (ks.idxOf q) cs) = v2 := by simpa using h1
    refine ⟨_, lookV_rel' (v := packM one (getT ks q cs)) (is := decide (q ∈ ks)) (u := m1.val) (by rw [getT_mem hq']; exact h5), fun w hw => ?_⟩
    simp [execOp, ho, hx, hi, Instr.lookup, run_und ht, hgo w hw, run_checkKey_of hko r2, Result.andThen, run_findKey_of hkt h2, hq']
theorem lookup_ok (he : EvOk φ ev ρ) (o : Oper) (t : TypeId) (x i : Operand) (ok : Bool) (ho : o.op = .lookup t x i ok) (r : LRes) (h : lLookup P ev t x i ok = some r) : LSpec φ (fun w => (execOp ρ o).run P w) r := by
  unfold lLookup at h
  split at h
  · rename_i kt et rr k ht hx hi
    split at h
    · rename_i z hz
      cases hko : keyOk P kt k with
      | false => rw [hko] at h; cases h
      | true =>
      rw [hko] at h
      simp only [cond_true] at h
      have r1 := he _ _ hx
      have r2 := he _ _ hi
      obtain ⟨zi, zv, z1, z2, z3, z4⟩ := zero_some (φ := φ) hz
      obtain ⟨d, hd, hk⟩ := keyOk_kind hko
      cases rr with
      | none =>
        cases h
        generalize hxv : ρ x = xv at r1
        cases r1
        refine ⟨_, lookV_rel z3, fun w => ?_⟩
        simp [execOp, ho, hxv, Instr.lookup, run_und ht, run_checkKey_of hko r2, Result.andThen, run_findKey_of hd (show Instr.findNow d (ρ i) [] 0 = some none from rfl), z4]
      | some m =>
        cases h
        refine ⟨fun o1 v hv g b0 n x1 hφ hor => ?_, fun o1 v hv hnul => ?_⟩
        · obtain ⟨ob, hv, hob⟩ := got_some hv
          unfold lookM at hv
          split at hv
          · rename_i kk ks cs one
            obtain ⟨q, zs, hq, _⟩ := lookS_some (got_of hv hob)
            rcases hk with ⟨j, a, rfl, rfl⟩ | ⟨l, rfl, rfl⟩
            · generalize hxv : ρ x = xv at r1
              cases r1 with
              | map _ g' b' n' h' =>
              obtain ⟨rfl, _, _⟩ : g' = g ∧ _ ∧ _ := by rw [hφ] at h'; simpa using h'.symm
              generalize hiv : ρ i = iv at r2
              cases r2
              exact lookS_ok ho ht hd hz hiv hxv hor (.inl rfl) (got_of hv hob)
            · rcases hq with hq | hq <;> cases hq
          · rename_i es
            obtain ⟨ms, clock, e1, e2, e3, e4, e5⟩ := map_entries hor
            obtain rfl : x1 = .map ms clock := by
              cases x1 <;> first | exact e1 | cases e1
            generalize hxv : ρ x = xv at r1
            cases r1 with
            | map _ g' b' n' h' =>
            obtain ⟨rfl, _, _⟩ : g' = g ∧ _ ∧ _ := by rw [hφ] at h'; simpa using h'.symm
            have hgo : ∀ w : World, w.heap[g']? = some (.map ms clock) → (getObj g').run P w = .ok (.map ms clock) w := fun w hw => by simp [getObj, Sem.run, hw]
            split at hv
            · rename_i j v1 hf
              cases hv
              rcases findM_ok r2 hk hf e2 e5 with ⟨h1, _⟩ | ⟨jj, v2, m1, h1, h2, _, _, h3, h4, h5⟩
              · cases h1
              · cases h1
                refine ⟨_, lookV_rel h5, fun w hw => ?_⟩
                simp [execOp, ho, hxv, Instr.lookup, run_und ht, hgo w hw, run_checkKey_of hko r2, Result.andThen, run_findKey_of hd h2]
            · rename_i hf
              cases hv
              rcases findM_ok r2 hk hf e2 e5 with ⟨_, h2⟩ | ⟨jj, v2, m1, h1, _⟩
              · refine ⟨_, lookV_rel z3, fun w hw => ?_⟩
                simp [execOp, ho, hxv, Instr.lookup, run_und ht, hgo w hw, run_checkKey_of hko r2, Result.andThen, run_findKey_of hd h2, z4]
              · cases h1
            · cases hv
          · cases hv
        · obtain ⟨ob, hv, hob⟩ := got_some hv
          unfold lookM at hv
          split at hv
          · cases hnul
          · cases hnul
          · cases hv
    · cases h
  · cases h
theorem mmap_ok (he : EvOk φ ev ρ) (o : Oper) (t : TypeId) (x : Option Operand) (ho : o.op = .makeMap t x) (r : LRes) (h : lMakeMap ev t x = some r) : LSpec φ (fun w => (execOp ρ o).run P w) r := by
  unfold lMakeMap at h
  split at h
  · rename_i hx
    cases h
    obtain rfl := evo_none hx
    intro w
    refine ⟨.map #[] 0, 0, .map (some w.heap.size), w.alloc (.map #[] 0), ?_, rfl, rfl, rfl, rfl, .map _ _ _ _ _ rfl (by simp) (by simp) (by simp), fun ψ r hle hr => .map _ _ _ _ hr⟩
    simp [execOp, ho, Instr.makeMap]
  · cases h
theorem iaddr_ok (he : EvOk φ ev ρ) (o : Oper) (t : TypeId) (x i : Operand) (ho : o.op = .indexAddr t x i) (r : LRes) (h : lIndexAddr P ev t x i = some r) : LSpec φ (fun w => (execOp ρ o).run P w) r := by
  unfold lIndexAddr at h
  split at h
  · rename_i len e b off k n hu hx hi
    split at h
    · rename_i s hs
      cases hb : Nat.blt n len with
      | false => rw [hb] at h; cases h
      | true =>
        rw [hb] at h; cases h
        have hlt : n < len := by simpa [Nat.blt_eq] using hb
        have h1 := he _ _ hx
        have h2 := he _ _ hi
        generalize hρ : ρ x = q at h1
        generalize hρ2 : ρ i = q2 at h2
        cases h2
        cases h1 with
        | ptr _ _ g b0 m hφ =>
        refine ⟨_, .ptr _ _ _ _ _ hφ, fun w => ?_⟩
        simp [execOp, ho, hρ, hρ2, Instr.indexAt, asIntOf, run_und hu, Instr.sureAddr, run_size hs, add_lit, hlt, Nat.add_assoc]
    · cases h
  · rename_i e b off len c ex z k n hu hx hi
    split at h
    · rename_i s hs
      cases hb : Nat.blt n len with
      | false => rw [hb] at h; cases h
      | true =>
        rw [hb] at h; cases h
        have hlt : n < len := by simpa [Nat.blt_eq] using hb
        have h1 := he _ _ hx
        have h2 := he _ _ hi
        generalize hρ : ρ x = q at h1
        generalize hρ2 : ρ i = q2 at h2
        cases h2
        cases h1 with
        | slice _ _ _ _ _ g b0 m cap _ a hφ hl hc hex hz ha =>
        rcases ha with ⟨rfl, _⟩ | rfl
        · omega
        · refine ⟨_, .ptr _ _ _ _ _ hφ, fun w => ?_⟩
          simp [execOp, ho, hρ, hρ2, Instr.indexAt, asIntOf, run_und hu, Instr.sureAddr, run_size hs, add_lit, hlt, Nat.add_assoc]
    · cases h
  · cases h
theorem index_ok (he : EvOk φ ev ρ) (o : Oper) (t : TypeId) (x i : Operand) (ho : o.op = .index t x i) (r : LRes) (h : lIndex P ev t x i = some r) : LSpec φ (fun w => (execOp ρ o).run P w) r := by
  unfold lIndex at h
  split at h
  · rename_i len e l k n hu hx hi
    split at h
    · rename_i s hs
      cases hb : Nat.blt n len with
      | false => rw [hb] at h; cases h
      | true =>
        rw [hb] at h
        have hlt : n < len := by simpa [Nat.blt_eq] using hb
        cases hv : partA P e l (n * s) with
        | none => rw [hv] at h; cases h
        | some v =>
        rw [hv] at h; cases h
        have h1 := he _ _ hx
        have h2 := he _ _ hi
        generalize hρ : ρ x = q at h1
        generalize hρ2 : ρ i = q2 at h2
        cases h2
        cases h1 with
        | agg _ c hc =>
        obtain ⟨u, h3, h4⟩ := part_some hv hc
        exact ⟨u, h3, fun w => by simp [execOp, ho, hρ, hρ2, Instr.index, asIntOf, run_und hu, run_size hs, hlt, h4 w]⟩
    · cases h
  · rename_i l k n hu hx hi
    split at h
    · rename_i c hc
      cases h
      have h1 := he _ _ hx
      have h2 := he _ _ hi
      generalize hρ : ρ x = q at h1
      generalize hρ2 : ρ i = q2 at h2
      cases h2
      cases h1 with
      | str s =>
      rw [List.getElem?_map] at hc
      cases hs : s.data.toList[n]? with
      | none => rw [hs] at hc; cases hc
      | some b =>
        rw [hs] at hc
        obtain rfl : b.toNat = c := by simpa using hc
        have hsb : s[n]? = some b := by
          rw [Array.getElem?_toList] at hs
          obtain ⟨hlt, hb⟩ := Array.getElem?_eq_some_iff.1 hs
          rw [getElem?_pos s n (show n < s.size from hlt)]
          exact congrArg some hb
        exact ⟨_, .int _ _, fun w => by simp [execOp, ho, hρ, hρ2, Instr.index, asIntOf, run_und hu, hsb]⟩
    · cases h
  · cases h
theorem call_ok (he : EvOk φ ev ρ) (o : Oper) (c : Call) (ho : o.op = .call c) (r : LRes) (h : lCall P ev c = some r) : LSpec φ (fun w => (execOp ρ o).run P w) r := by
  unfold lCall at h
  split at h
  · rename_i hcal
    split at h
    · rename_i t x ht hxa
      have hargs : (c.args.map ρ)[0]? = some (ρ x) := by simp [hxa]
      have hrun : ∀ w u, (Builtin.len_ c.argTypes o.type (c.args.map ρ)).run P w = .ok u w → (execOp ρ o).run P w = .ok (.value u) w := fun w u hu => by
        simp [execOp, ho, resolve, hcal, invoke, builtin, hu]
      split at h
      · rename_i l hu hx
        cases h
        have h1 := he _ _ hx
        generalize hρ : ρ x = q at h1
        cases h1 with
        | str s =>
        rw [lenL0]
        refine ⟨_, .int _ _, fun w => hrun w _ ?_⟩
        unfold Builtin.len_
        simp [ht, hxa, hρ, run_und hu, goInt]
      · rename_i n e v hu hx
        cases h
        refine ⟨_, .int _ _, fun w => hrun w _ ?_⟩
        unfold Builtin.len_
        simp [ht, hxa, run_und hu, goInt]
      · rename_i e a n c' ex z hu hx
        cases h
        have h1 := he _ _ hx
        generalize hρ : ρ x = q at h1
        refine ⟨_, .int _ _, fun w => hrun w _ ?_⟩
        cases h1 <;> (unfold Builtin.len_; simp [ht, hxa, hρ, run_und hu, goInt])
      · rename_i k e hu hx
        cases h
        have h1 := he _ _ hx
        generalize hρ : ρ x = q at h1
        cases h1
        refine ⟨_, .int _ _, fun w => hrun w _ ?_⟩
        unfold Builtin.len_
        simp [ht, hxa, hρ, run_und hu, goInt]
      · rename_i k e b hu hx
        cases h
        have h1 := he _ _ hx
        generalize hρ : ρ x = q at h1
        cases h1 with
        | map _ g b0 n hφ =>
        refine ⟨fun ob v hk g' b0' n' x' hφ' hx' => ?_, fun ob v hk hn => by cases ob <;> first | (cases hn; done) | (simp only at hk; cases hk)⟩
        obtain ⟨rfl, rfl, rfl⟩ : g = g' ∧ b0 = b0' ∧ n = n' := by rw [hφ] at hφ'; simpa using hφ'
        simp only at hk
        split at hk
        · obtain ⟨_, hk, _⟩ := got_some hk
          cases hk
          obtain ⟨ms0, cl0, rfl⟩ : ∃ ms cl, x' = .map ms cl := by
            cases x' with
            | map ms cl => exact ⟨ms, cl, rfl⟩
            | _ => cases hx'
          cases hx' with
          | map es _ _ ms clock hl hm =>
          refine ⟨_, .int _ _, fun w hg => hrun w _ ?_⟩
          unfold Builtin.len_
          have hgo : (getObj g).run P w = .ok (.map ms0 cl0) w := by simp [getObj, Sem.run, hg]
          simp [ht, hxa, hρ, run_und hu, goInt, hgo, lenL0, hl]
        · obtain ⟨_, hk, hob⟩ := got_some hk
          cases hk
          have hob : _ ≤ 9223372036854775807 := hob
          obtain ⟨ms0, cl0, rfl⟩ : ∃ ms cl, x' = .map ms cl := by
            cases x' with
            | map ms cl => exact ⟨ms, cl, rfl⟩
            | _ => cases hx'
          cases hx' with
          | smap _ ks _ _ _ _ ms clock hl hm =>
          refine ⟨_, .sint _ _ ⟨by show (-9223372036854775808 : Int) ≤ _; omega, by show _ ≤ (9223372036854775807 : Int); omega⟩, fun w hg => hrun w _ ?_⟩
          unfold Builtin.len_
          have hgo : (getObj g).run P w = .ok (.map ms0 cl0) w := by simp [getObj, Sem.run, hg]
          simp [ht, hxa, hρ, run_und hu, goInt, hgo, hl]
        · cases hk
      · cases h
    · cases h
  · rename_i hcal
    split at h
    · rename_i k a j b hargs
      cases h
      have h1 := evs_some he _ _ hargs
      have hL2 : (c.args.map ρ).toList = c.args.toList.map ρ := by simp
      generalize hL : c.args.toList.map ρ = L at h1
      rw [hL] at hL2
      have hv : (bif intLe a b then a else b) = if b < a then b else a := by
        rw [intLe_eq]; by_cases hab : a ≤ b
        · simp [hab, Int.not_lt.2 hab]
        · simp [hab, Int.not_le.1 hab]
      rw [hv]
      refine ⟨_, .int _ _, fun w => ?_⟩
      cases h1 with | cons _ u1 _ us hu1 hr => cases hr with | cons _ u2 _ us hu2 hr2 =>
      cases hu1; cases hu2; cases hr2
      simp [execOp, ho, resolve, hcal, invoke, builtin, Builtin.min_, hL, Builtin.min2]
    · cases h
  · rename_i hcal
    split at h
    · rename_i k a j b hargs
      cases h
      have h1 := evs_some he _ _ hargs
      generalize hL : c.args.toList.map ρ = L at h1
      have hv : (bif intLe a b then b else a) = if a < b then b else a := by
        rw [intLe_eq]; by_cases hab : a < b
        · simp [hab, Int.le_of_lt hab]
        · by_cases hab2 : a = b
          · subst hab2; simp
          · have : ¬ a ≤ b := by omega
            simp [hab, this]
      rw [hv]
      refine ⟨_, .int _ _, fun w => ?_⟩
      cases h1 with | cons _ u1 _ us hu1 hr => cases hr with | cons _ u2 _ us hu2 hr2 =>
      cases hu1; cases hu2; cases hr2
      simp [execOp, ho, resolve, hcal, invoke, builtin, Builtin.max_, hL, Builtin.max2]
    · cases h
  · cases h
end
end Go.Proofs.Ytcofcojjofkgcaa.Abs
namespace Go.Proofs.Ytcofcojjofkgcaa.Abs
open Go Go.RowKit
set_option linter.unusedVariables false
section
variable {φ : Phi} {P : Program} {ev : Operand → Option AVal} {ρ : Operand → Value}
/-- an operand that may be none -/
inductive ORl (φ : Phi) (ρ : Operand → Value) : Option Operand → Option AVal → Prop
  | none : ORl φ ρ none none
  | some (x : Operand) (v : AVal) (h : VRel φ v (ρ x)) : ORl φ ρ (some x) (some v)
theorem evo_some (he : EvOk φ ev ρ) {x : Option Operand} {y : Option AVal} (h : evo ev x = some y) : ORl φ ρ x y := by
  cases x with
  | none => simp [evo] at h; subst h; exact .none
  | some x =>
    simp only [evo] at h
    cases hv : ev x with
    | none => rw [hv] at h; cases h
    | some v => rw [hv] at h; cases h; exact .some _ _ (he _ _ hv)
theorem bound_some {v : AVal} {d y n : Nat} (h : bound (some v) d y = some n) {u : Value} (hv : VRel φ v u) : n ≤ y ∧ ∀ code w, (Instr.sliceBound u y code).run P w = .ok n w := by
  unfold bound at h
  split at h
  · rename_i hx; cases hx
  · rename_i k i hx
    cases hx
    cases hv
    cases hb : Nat.ble i y with
    | false => rw [hb] at h; cases h
    | true =>
      rw [hb] at h; cases h
      have hle := Nat.le_of_ble_eq_true hb
      refine ⟨hle, fun code w => ?_⟩
      have := run_sliceBound (P := P) (w := w) k (n : Int) y code (by omega) (by omega)
      simpa using this
  · cases h
theorem bound_mono {v : AVal} {d y y' n : Nat} (h : bound (some v) d y = some n) (hy : y ≤ y') (d' : Nat) : bound (some v) d' y' = some n := by
  unfold bound at h ⊢
  split at h
  · rename_i hx; cases hx
  · rename_i k i hx
    cases hx
    cases hb : Nat.ble i y with
    | false => rw [hb] at h; cases h
    | true =>
      rw [hb] at h; cases h
      have hle := Nat.le_of_ble_eq_true hb
      simp [Nat.ble_eq_true_of_le (Nat.le_trans hle hy)]
  · cases h
theorem bounds_some (s : Bool) {len lo cap m h l : Nat} {xlo xhi xmx : Option Operand} {vlo vhi vmx : Option AVal} (r1 : ORl φ ρ xlo vlo) (r2 : ORl φ ρ xhi vhi) (r3 : ORl φ ρ xmx vmx)
    (e1 : bound vmx lo lo = some m) (e2 : bound vhi len m = some h) (e3 : bound vlo 0 h = some l) (e4 : (bif isNone vhi then isNone vmx else true) = true) (hl : len ≤ lo) (hc : lo ≤ cap) :
    l ≤ h ∧ h ≤ m ∧ m ≤ lo ∧ ∃ mc, m ≤ mc ∧ mc ≤ cap ∧ (isNone vmx = true → mc = cap ∧ m = lo) ∧ (isNone vmx = false → mc = m) ∧ ∀ w, (Instr.sliceBounds s len cap (xlo.map ρ) (xhi.map ρ) (xmx.map ρ)).run P w = .ok (l, h, mc) w := by
  have hml : m ≤ lo := by
    cases r3 with
    | none => simp [bound] at e1; omega
    | some x v hv => exact (bound_some (P := P) e1 hv).1
  have hhm : h ≤ m := by
    cases r2 with
    | none =>
      cases r3 with
      | none => simp [bound] at e1 e2; omega
      | some x v hv => simp [isNone] at e4
    | some x v hv => exact (bound_some (P := P) e2 hv).1
  have hlh : l ≤ h := by
    cases r1 with
    | none => simp [bound] at e3; omega
    | some x v hv => exact (bound_some (P := P) e3 hv).1
  refine ⟨hlh, hhm, hml, ?_⟩
  cases r3 with
  | none =>
    simp [bound] at e1
    subst e1
    refine ⟨cap, hc, Nat.le_refl _, by simp, by simp [isNone], fun w => ?_⟩
    cases r2 with
    | none =>
      simp [bound] at e2
      subst e2
      cases r1 with
      | none => simp [bound] at e3; subst e3; simp [Instr.sliceBounds]
      | some x v hv => simp [Instr.sliceBounds, (bound_some (P := P) e3 hv).2]
    | some x2 v2 hv2 =>
      have e2' := bound_mono e2 hc 0
      cases r1 with
      | none => simp [bound] at e3; subst e3; simp [Instr.sliceBounds, (bound_some (P := P) e2' hv2).2]
      | some x v hv => simp [Instr.sliceBounds, (bound_some (P := P) e2' hv2).2, (bound_some (P := P) e3 hv).2]
  | some x3 v3 hv3 =>
    refine ⟨m, Nat.le_refl _, by omega, by simp [isNone], fun _ => rfl, fun w => ?_⟩
    have e1' := bound_mono e1 hc 0
    cases r2 with
    | none => simp [isNone] at e4
    | some x2 v2 hv2 =>
      cases r1 with
      | none => simp [bound] at e3; subst e3; simp [Instr.sliceBounds, (bound_some (P := P) e1' hv3).2, (bound_some (P := P) e2 hv2).2]
      | some x v hv => simp [Instr.sliceBounds, (bound_some (P := P) e1' hv3).2, (bound_some (P := P) e2 hv2).2, (bound_some (P := P) e3 hv).2]
theorem sliceP_parts {n len cap : Nat} {ex : Bool} {a : Option (Nat × Nat)} {lo hi mx : Option AVal} {v : AVal} (h : sliceP n len cap ex a lo hi mx = some v) :
    ∃ m h l, bound mx cap cap = some m ∧ (bif isNone hi then isNone mx else true) = true ∧ bound hi len m = some h ∧ bound lo 0 h = some l ∧
      v = .slice (moveA a (l * n)) (h - l) (m - l) (bif isNone mx then ex else true) n := by
  unfold sliceP at h
  split at h
  · rename_i m e1 e4
    split at h
    · rename_i h' e2
      split at h
      · rename_i l e3
        exact ⟨m, h', l, e1, e4, e2, e3, (Option.some.inj h).symm⟩
      · cases h
    · cases h
  · cases h
/-- a part's value -/
theorem slice_rel {x o g b0 nb n lo cap m mc h l : Nat} {ex nx : Bool} {a : Addr} (hφ : φ x = some (g, b0, nb)) (hex : ex = true → cap = lo) (hz : ex = false → b0 + o + cap * n ≤ nb) (ha : (cap = 0 ∧ a.block = g) ∨ a = ⟨g, b0 + o, none⟩)
    (h1 : l ≤ h) (h2 : h ≤ m) (h3 : m ≤ mc) (h4 : mc ≤ cap) (h5 : nx = true → mc = cap ∧ m = lo) (h6 : nx = false → mc = m) :
    VRel φ (.slice (some (x, o + l * n)) (h - l) (m - l) (bif nx then ex else true) n) (.slice (some (if mc = l then a else a.add (l * n))) (h - l) (mc - l)) := by
  refine .slice _ _ _ _ _ g b0 nb _ _ _ hφ (by omega) (by omega) (fun he => ?_) (fun he => ?_) ?_
  · cases nx with
    | true => obtain ⟨e1, e2⟩ := h5 rfl; have := hex he; omega
    | false => have := h6 rfl; omega
  · cases nx with
    | true =>
      obtain ⟨rfl, e2⟩ := h5 rfl
      have := hz he
      have e : l * n + (mc - l) * n = mc * n := by rw [← Nat.add_mul]; congr 1; omega
      omega
    | false => cases he
  · by_cases hml : mc = l
    · rw [if_pos hml]
      refine .inl ⟨by omega, ?_⟩
      rcases ha with ⟨_, h⟩ | rfl
      · exact h
      · rfl
    · rcases ha with ⟨rfl, _⟩ | rfl
      · omega
      · rw [if_neg hml, add_lit, Nat.add_assoc]; exact .inr rfl
theorem slice_ok (he : EvOk φ ev ρ) (o : Oper) (t : TypeId) (x : Operand) (lo hi mx : Option Operand) (ho : o.op = .slice t x lo hi mx) (r : LRes) (h : lSlice P ev t x lo hi mx = some r) : LSpec φ (fun w => (execOp ρ o).run P w) r := by
  unfold lSlice at h
  split at h
  · rename_i v vl vh vm hx hlo hhi hmx
    have rl := evo_some he hlo
    have rh := evo_some he hhi
    have rm := evo_some he hmx
    have h1 := he _ _ hx
    generalize hρ : ρ x = q at h1
    cases hs : sliceA P t v vl vh vm with
    | none => rw [hs] at h; cases h
    | some rv =>
      rw [hs] at h; cases h
      suffices hh : ∃ u, VRel φ rv u ∧ ∀ w, (Instr.sliceAt t q (lo.map ρ) (hi.map ρ) (mx.map ρ)).run P w = .ok u w by
        obtain ⟨u, h2, h3⟩ := hh
        exact ⟨u, h2, fun w => by simp only [execOp, ho, hρ, Sem.run_bind, h3 w]; rfl⟩
      unfold sliceA at hs
      split at hs
      · rename_i hu
        split at hs
        · rename_i l
          cases h1 with
          | str s =>
          unfold sliceS at hs
          split at hs
          · cases hs
          · cases rm
            rw [lenL0, List.length_map, Array.length_toList] at hs
            split at hs
            · rename_i hh e2
              split at hs
              · rename_i ll e3
                cases hs
                obtain ⟨b1, b2, b3, mc, b4, b5, b6, b7, b8⟩ := bounds_some (P := P) (φ := φ) (ρ := ρ) false (len := s.size) (lo := s.size) (cap := s.size) (m := s.size) rl rh .none rfl e2 e3 (by cases vh <;> rfl) (Nat.le_refl _) (Nat.le_refl _)
                refine ⟨.string (s.extract ll hh), ?_, fun w => ?_⟩
                · have := VRel.str (φ := φ) (s.extract ll hh)
                  have e : (s.extract ll hh).data.toList = (s.data.toList.take hh).drop ll := by
                    rw [ByteArray.data_extract, Array.toList_extract, List.extract_eq_take_drop, List.drop_take]
                  rw [e, List.map_drop, List.map_take] at this
                  exact this
                · have hb := b8 w
                  simp [Instr.sliceAt, run_und hu, Instr.slice] at hb ⊢
                  rw [hb]
                  rfl
              · cases hs
            · cases hs
        · cases hs
      · rename_i e hu
        split at hs
        · rename_i a len cap ex z
          split at hs
          · rename_i n hn
            cases hzz : (ex || Nat.beq z n) with
            | false => rw [hzz] at hs; cases hs
            | true =>
              rw [hzz] at hs
              obtain ⟨m, hh, l, e1, e4, e2, e3, rfl⟩ := sliceP_parts hs
              cases h1 with
              | slice0 =>
                obtain ⟨b1, b2, b3, mc, b4, b5, b6, b7, b8⟩ := bounds_some (P := P) (φ := φ) (ρ := ρ) true (cap := 0) rl rh rm e1 e2 e3 e4 (Nat.le_refl _) (Nat.le_refl _)
                have hl0 : l = 0 := by omega
                have hh0 : hh = 0 := by omega
                have hm0 : m = 0 := by omega
                have hc0 : mc = 0 := by omega
                subst hl0 hh0 hm0 hc0
                refine ⟨.slice none 0 0, .slice0 _ _, fun w => ?_⟩
                have hb := b8 w
                simp [Instr.sliceAt, run_und hu, Instr.slice, run_size hn] at hb ⊢
                rw [hb]
                simp []
              | slice x' o' _ _ _ g b0 nb cap' _ a' hφ hl hc hex hz ha =>
                obtain ⟨b1, b2, b3, mc, b4, b5, b6, b7, b8⟩ := bounds_some (P := P) (φ := φ) (ρ := ρ) true (cap := cap') rl rh rm e1 e2 e3 e4 hl hc
                have hz' : ex = false → b0 + o' + cap' * n ≤ nb := fun he' => by
                  rw [he'] at hzz
                  have : z = n := Nat.eq_of_beq_eq_true (by simpa using hzz)
                  subst this
                  exact hz he'
                refine ⟨_, slice_rel (nx := isNone vm) hφ hex hz' ha b1 b2 b4 b5 b6 b7, fun w => ?_⟩
                have hb := b8 w
                simp [Instr.sliceAt, run_und hu, Instr.slice, run_size hn] at hb ⊢
                rw [hb]
                simp []
                split <;> rfl
          · cases hs
        · cases hs
      · rename_i k e hu
        split at hs
        · rename_i a
          split at hs
          · rename_i n hn
            obtain ⟨m, hh, l, e1, e4, e2, e3, rfl⟩ := sliceP_parts hs
            cases h1 with
            | ptr x' o' g b0 nb hφ =>
              obtain ⟨b1, b2, b3, mc, b4, b5, b6, b7, b8⟩ := bounds_some (P := P) (φ := φ) (ρ := ρ) false (cap := k) rl rh rm e1 e2 e3 e4 (Nat.le_refl _) (Nat.le_refl _)
              have hr := slice_rel (φ := φ) (nx := isNone vm) (ex := true) (n := n) (o := o') (a := ⟨g, b0 + o', none⟩) hφ (fun _ => rfl) (by simp) (.inr rfl) b1 b2 b4 b5 b6 b7
              refine ⟨_, hr, fun w => ?_⟩
              have hb := b8 w
              simp [Instr.sliceAt, run_und hu, Instr.sureAddr] at hb ⊢
              rw [hb]
              simp [run_size hn]
          · cases hs
        · cases hs
      · cases hs
  · cases h
theorem u8_some {e : TypeId} (h : isU8 P e = true) : P.underlying e = some (.int .u8) := by
  unfold isU8 at h; split at h
  · assumption
  · cases h
theorem bytesOf_some : ∀ {l : List AVal} {ns : List Nat} {us : List Value}, bytesOf l = some ns → VRels φ l us → us = ns.map (fun (n : Nat) => Value.int .u8 n) ∧ ∀ n ∈ ns, n < 256
  | [], ns, us, h, hu => by simp [bytesOf] at h; subst h; cases hu; simp
  | v :: l, ns, us, h, hu => by
    unfold bytesOf at h
    split at h
    · rename_i n r hv hr
      have hv := asI_some hv
      subst hv
      cases hb : Nat.blt n 256 with
      | false => rw [hb] at h; cases h
      | true =>
        rw [hb] at h; cases h
        have hlt : n < 256 := by simpa [Nat.blt_eq] using hb
        cases hu with
        | cons _ u _ us' h1 h2 =>
        cases h1
        obtain ⟨e1, e2⟩ := bytesOf_some hr h2
        refine ⟨by rw [e1]; rfl, fun m hm => ?_⟩
        rcases List.mem_cons.1 hm with rfl | hm
        · exact hlt
        · exact e2 _ hm
    · cases h
theorem text_of (ns : List Nat) (h : ∀ n ∈ ns, n < 256) : ∃ s : ByteArray, s.data.toList.map UInt8.toNat = ns ∧ (ns.map (fun (n : Nat) => (n : Int))).foldl (fun r n => r.push (UInt8.ofNat n.toNat)) ByteArray.empty = s := by
  refine ⟨_, ?_, rfl⟩
  have e : ns.map (fun (n : Nat) => (n : Int)) = (ns.map UInt8.ofNat).map (fun b => (b.toNat : Int)) := by
    rw [List.map_map]
    refine List.map_congr_left fun n hn => ?_
    simp [Function.comp, UInt8.toNat_ofNat', Nat.mod_eq_of_lt (h n hn)]
  rw [e, foldl_push_byteCells]
  simp only [ByteArray.data_empty, List.append_toArray, List.map_append]
  have : (ns.map UInt8.ofNat).map UInt8.toNat = ns := by
    rw [List.map_map]
    conv => rhs; rw [← List.map_id ns]
    refine List.map_congr_left fun n hn => ?_
    simp [Function.comp, UInt8.toNat_ofNat', Nat.mod_eq_of_lt (h n hn)]
  simpa using this
theorem orel_turn {ψ : Phi} {ob : AObj} {b n : Nat} {x x' : Obj} (h : ORel ψ ob b n x) : ∀ (cc : Array Value) (t' : TypeId) (fz fz' : Nat × Nat), x = .cells cc t' fz → x' = .cells cc t' fz' → (fz'.1 = fz'.2 ∨ cc.size ≤ fz'.1) → ORel ψ ob b n x' := by
  induction h with
  | cells l1 _ _ _ _ _ _ i0 i1 i2 i3 =>
    intro cc t' fz fz' h1 h2 h3
    cases h1; subst h2
    exact .cells _ _ _ _ _ _ _ i0 i1 i2 (by omega)
  | sbytes l t b n u h ih => intro cc t' fz fz' h1 h2 h3; exact .sbytes _ _ _ _ _ (ih cc t' fz fz' h1 h2 h3)
  | sints k l t b n u hr h ih => intro cc t' fz fz' h1 h2 h3; exact .sints _ _ _ _ _ _ hr (ih cc t' fz fz' h1 h2 h3)
  | tab _ _ _ _ _ _ _ _ i0 i1 i2 i3 =>
    intro cc t' fz fz' h1 h2 h3
    cases h1; subst h2
    exact .tab _ _ _ _ _ _ _ _ i0 i1 i2 (by omega)
  | smap => intro cc t' fz fz' h1; cases h1
  | map => intro cc t' fz fz' h1; cases h1
  | loop => intro cc t' fz fz' h1; cases h1
  | defd => intro cc t' fz fz' h1; cases h1
theorem bytesOf_map (l : List UInt8) : bytesOf (l.map fun c => AVal.int .u8 (c.toNat : Int)) = some (l.map UInt8.toNat) := by
  induction l with
  | nil => rfl
  | cons c l ih =>
    have hc : Nat.blt c.toNat 256 = true := by rw [Nat.blt_eq]; exact c.toNat_lt
    show (match asI (AVal.int .u8 (c.toNat : Int)), bytesOf (l.map fun c => AVal.int .u8 (c.toNat : Int)) with | some (.u8, .ofNat n), some r => bif Nat.blt n 256 then some (n :: r) else none | _, _ => none) = _
    rw [ih]
    show (bif Nat.blt c.toNat 256 then some (c.toNat :: l.map UInt8.toNat) else none) = _
    rw [hc]; rfl
theorem bytesY_us : ∀ {l : List AVal} {q : List UInt8} {us : List Value}, bytesY l = some q → VRels φ l us → us = (q.map UInt8.toNat).map (fun (n : Nat) => Value.int .u8 n) ∧ ∀ n ∈ q.map UInt8.toNat, n < 256
  | [], q, us, h, hr => by cases h; cases hr; exact ⟨rfl, fun n hn => by cases hn⟩
  | v :: l, q, us, h, hr => by
    cases hr with
    | cons _ u _ us h1 h2 =>
    simp only [bytesY] at h
    split at h
    · rename_i b r hb hr'
      cases h
      obtain ⟨e, hlt⟩ := bytesY_us hr' h2
      subst e
      have hu : u = .int .u8 (b.toNat : Int) := by
        cases v with
        | sint k z =>
          simp only [byteY] at hb
          cases hk : kindEq k .u8 with
          | false => rw [hk] at hb; cases hb
          | true =>
            rw [hk] at hb
            cases hb
            obtain rfl := kindEq_eq _ _ hk
            cases h1 with
            | sint _ _ hin =>
              obtain ⟨p1, p2⟩ := hin
              simp only [loI, hiI] at p1 p2
              rw [UInt8.toNat_ofNat', Nat.mod_eq_of_lt (by omega)]
              congr 1; omega
        | int k z =>
          simp only [byteY] at hb
          cases hk : kindEq k .u8 with
          | false => rw [hk] at hb; cases hb
          | true =>
            rw [hk] at hb
            obtain rfl := kindEq_eq _ _ hk
            simp only [cond_true] at hb
            split at hb
            · rename_i n
              cases hn : Nat.blt n 256 with
              | false => rw [hn] at hb; cases hb
              | true =>
                rw [hn] at hb
                cases hb
                rw [Nat.blt_eq] at hn
                cases h1
                rw [UInt8.toNat_ofNat', Nat.mod_eq_of_lt hn]; rfl
            · cases hb
        | _ => cases hb
      refine ⟨by rw [hu]; rfl, fun n hn => ?_⟩
      rcases List.mem_cons.1 hn with rfl | hn
      · exact b.toNat_lt
      · exact hlt n hn
    · cases h
theorem cvText_ok {o : Oper} {s d e : TypeId} {q : Value} {a : Nat × Nat} {n : Nat} {r : LRes} (hs : P.underlying s = some (.slice e)) (hd : P.underlying d = some .string) (hu8 : P.underlying e = some (.int .u8))
    (hrun : ∀ w u w', (convert s d q).run P w = .ok u w' → (execOp ρ o).run P w = .ok (.value u) w') (h : cvText P e (some a) n = some r)
    (hq : (∃ g b0 nb cap a2, φ a.1 = some (g, b0, nb) ∧ q = .slice (some a2) n cap ∧ n ≤ cap ∧ ((cap = 0 ∧ a2.block = g) ∨ a2 = ⟨g, b0 + a.2, none⟩)) ∨ (∃ A c, q = .slice A 0 c ∧ n = 0)) : LSpec φ (fun w => (execOp ρ o).run P w) r := by
  obtain ⟨x2, o2⟩ := a
  unfold cvText at h
  cases hb : isU8 P e with
  | false => rw [hb] at h; cases h
  | true =>
  rw [hb] at h
  simp only [cond_true] at h
  cases h
  have empty : ∀ cap a2, q = .slice (some a2) 0 cap → ∀ w, (execOp ρ o).run P w = .ok (.value (.string ByteArray.empty)) w := fun cap a2 hq2 w => hrun w _ _ (by subst hq2; rw [run_convert_bytes_string w s d e _ _ _ hs hu8 hd, run_bytesToString w a2 0 cap [] rfl]; rfl)
  have none_ : ∀ A c, q = .slice A 0 c → ∀ w, (execOp ρ o).run P w = .ok (.value (.string ByteArray.empty)) w := fun A c hq2 w => by
    cases A with
    | none => exact hrun w _ _ (by subst hq2; rw [run_convert_bytes_string w s d e _ _ _ hs hu8 hd]; rfl)
    | some a2 => exact empty c a2 hq2 w
  have none0 : n = 0 → ∀ w, (execOp ρ o).run P w = .ok (.value (.string ByteArray.empty)) w := fun hn w => by
    rcases hq with ⟨g, b0, nb, cap, a2, hφ, hq, hle, ha⟩ | ⟨A, c, hq, _⟩
    · subst hn; exact empty cap a2 hq w
    · exact none_ A c hq w
  refine ⟨fun ob v hk g b0 nb x' hφ hx' => ?_, fun ob v hk hnul => ?_⟩
  · simp only at hk
    have main : ∀ (l : List AVal) (t : TypeId) (ns : List Nat), ORel φ (.cells l t) b0 nb (thaw x') → o2 + n ≤ l.length → (∀ us, VRels φ ((l.drop o2).take n) us → us = ns.map (fun (n : Nat) => Value.int .u8 n) ∧ ∀ n ∈ ns, n < 256) → ∃ st : ByteArray, st.data.toList.map UInt8.toNat = ns ∧ ∀ w, w.heap[g]? = some x' → (execOp ρ o).run P w = .ok (.value (.string st)) w := fun l t ns hx' hle hns => by
      obtain ⟨us, e1, e2, e3⟩ := orel_row hx' hle
      obtain ⟨rfl, hns2⟩ := hns us e2
      obtain ⟨st, f1, f2⟩ := text_of ns hns2
      have hns3 : ns.length = n := by simpa using e1
      refine ⟨st, f1, fun w hg => ?_⟩
      rcases hq with ⟨g', b0', nb', cap, a2, hφ', hq, hle, ha⟩ | ⟨A, c, hq, hn⟩
      · obtain ⟨rfl, rfl, rfl⟩ : g = g' ∧ b0 = b0' ∧ nb = nb' := by rw [hφ] at hφ'; simpa using hφ'
        refine hrun w _ _ ?_
        subst hq
        rw [run_convert_bytes_string w s d e _ _ _ hs hu8 hd]
        have hload : (loadCells a2 n).run P w = .ok ((ns.map (fun (n : Nat) => (n : Int))).map (Value.int .u8)).toArray w := by
          rcases ha with ⟨hc0, _⟩ | rfl
          · have : n = 0 := by omega
            subst this
            have : ns = [] := List.eq_nil_of_length_eq_zero hns3
            subst this
            rfl
          · have := run_loadCells_list (P := P) w ⟨g, b0 + o2, none⟩ _ (e3 w g hg)
            rw [e1] at this
            rw [this, List.map_map]
            rfl
        rw [run_bytesToString w a2 n cap _ hload, f2]
      · have : ns = [] := List.eq_nil_of_length_eq_zero (by omega)
        subst this
        have : st = ByteArray.empty := by rw [← f2]; rfl
        rw [this]
        exact none_ A c hq w
    split at hk
    · rename_i l t
      split at hk
      · rename_i r hr
        obtain ⟨rfl, hle⟩ := slicedL_some hr
        split at hk
        · rename_i ns hns
          cases hk
          obtain ⟨st, h1, h2⟩ := main l t ns hx' hle (fun us hu => bytesOf_some hns hu)
          exact ⟨.string st, h1 ▸ .str st, h2⟩
        · split at hk
          · rename_i qs hqs
            cases hk
            obtain ⟨st, h1, h2⟩ := main l t _ hx' hle (fun us hu => bytesY_us hqs hu)
            have h5 : st.data.toList = qs := by
              have h6 := congrArg (List.map UInt8.ofNat) h1
              rw [List.map_map, List.map_map] at h6
              have e : UInt8.ofNat ∘ UInt8.toNat = id := by funext c; simp
              rw [e] at h6
              simpa using h6
            exact ⟨.string st, h5 ▸ .sstr st, h2⟩
          · cases hk
      · cases hk
    · rename_i l t
      obtain ⟨op, h1, h2⟩ := got_some hk
      cases h1
      have h2 : o2 + n ≤ l.length := h2
      cases hx' with
      | sbytes _ _ _ _ _ hx' =>
      obtain ⟨st, h3, h4⟩ := main _ _ (((l.drop o2).take n).map UInt8.toNat) hx' (by simpa using h2) (fun us hu => bytesOf_some (by rw [← List.map_drop, ← List.map_take, bytesOf_map]) hu)
      have h5 : st.data.toList = (l.drop o2).take n := by
        have h6 := congrArg (List.map UInt8.ofNat) h3
        rw [List.map_map, List.map_map] at h6
        have e : UInt8.ofNat ∘ UInt8.toNat = id := by funext c; simp
        rw [e] at h6
        simpa using h6
      exact ⟨.string st, h5 ▸ .sstr st, h4⟩
    · cases hk
  · simp only at hk
    split at hk
    · cases hnul
    · rename_i l t
      obtain ⟨op, h1, h2⟩ := got_some hk
      cases h1
      have h2 : o2 + n ≤ l.length := h2
      cases l with
      | cons _ _ => cases hnul
      | nil =>
      have hn : n = 0 := by simp at h2; omega
      refine ⟨.string ByteArray.empty, ?_, none0 hn⟩
      have : (List.take n (List.drop o2 ([] : List UInt8))) = ByteArray.empty.data.toList := by simp
      rw [this]
      exact .sstr _
    · cases hk
theorem conv_ok (he : EvOk φ ev ρ) (o : Oper) (s d : TypeId) (x : Operand) (ho : o.op = .convert s d x) (r : LRes) (h : lConvert P ev s d x = some r) : LSpec φ (fun w => (execOp ρ o).run P w) r := by
  have hrun : ∀ w u w', (convert s d (ρ x)).run P w = .ok u w' → (execOp ρ o).run P w = .ok (.value u) w' := fun w u w' hu => by simp [execOp, ho, hu]
  unfold lConvert at h
  split at h
  · rename_i d' k k' n hs hd hx
    cases h
    have h1 := he _ _ hx
    generalize ρ x = q at h1 hrun
    cases h1
    exact ⟨_, .int _ _, fun w => hrun w _ _ (by rw [wrapA_eq]; simp [convert, run_und hs, run_und hd, Conv.intToInt])⟩
  · rename_i l hs hd hx
    cases h
    have h1 := he _ _ hx
    generalize ρ x = q at h1 hrun
    cases h1
    exact ⟨_, .str _, fun w => hrun w _ _ (by simp [convert, run_und hs, run_und hd])⟩
  · rename_i e e' a n c ex z hs hd hx
    cases hb : (Nat.beq s d && isU8 P e) with
    | false => rw [hb] at h; cases h
    | true =>
      rw [hb] at h; cases h
      rw [Bool.and_eq_true] at hb
      have hsd := Nat.eq_of_beq_eq_true hb.1
      have hu8 := u8_some hb.2
      have h1 := he _ _ hx
      generalize ρ x = q at h1 hrun
      intro l t g b0 nb x' hφ hx'
      refine ⟨q, h1, fun w hg => ?_⟩
      cases h1 with
      | slice x2 o2 _ _ _ g2 b2 nb2 cap _ a2 hφ2 hl hc hex hz ha =>
      obtain ⟨rfl, rfl, rfl⟩ : g = g2 ∧ b0 = b2 ∧ nb = nb2 := by rw [hφ] at hφ2; simpa using hφ2
      have hab : a2.block = g := by rcases ha with ⟨_, h⟩ | rfl <;> first | assumption | rfl
      cases hx' with
      | cells _ _ t' _ _ cc fz hn hb1 hb2 hf =>
      subst hn
      obtain ⟨fz', hfz', hfz2⟩ : ∃ fz' : Nat × Nat, (fz'.1 = fz'.2 ∨ cc.size ≤ fz'.1) ∧ fz' = (if fz.1 == fz.2 then (cc.size, cc.size + 1) else (min fz.1 cc.size, max fz.2 (cc.size + 1))) := by
        refine ⟨_, ?_, rfl⟩
        split
        · exact .inr (Nat.le_refl _)
        · rename_i hne
          rcases hf with hf | hf
          · rw [hf] at hne; simp at hne
          · exact .inr (by simp; omega)
      have hgs : g < w.heap.size := (Array.getElem?_eq_some_iff.1 hg).1
      have hfreeze : w.freeze ⟨g, cc.size, none⟩ 1 = { w with heap := w.heap.modify g fun | .cells c elem (lo, hi) => .cells c elem (if lo == hi then (cc.size, cc.size + 1) else (min lo cc.size, max hi (cc.size + 1))) | o => o } := rfl
      refine ⟨.cells cc t' fz', w.freeze ⟨g, cc.size, none⟩ 1, fun ψ ob hob => orel_turn hob _ _ _ _ rfl rfl hfz', hrun w _ _ ?_, ?_, ?_, fun k hk => ?_, rfl, rfl, rfl⟩
      · have hd' : P.underlying d = some (.slice e) := by rw [← hsd]; exact hs
        have hsh : w.shape? g = some (t', cc.size) := by unfold World.shape?; rw [hg]
        simp [convert, run_und hd', run_und hu8, hsd, markStringish, hab, hsh]
      · rw [hfreeze]; simp
      · rw [hfreeze]
        simp only [Array.getElem?_modify, if_true, hg, Option.map_some]
        obtain ⟨lo, hi⟩ := fz
        rw [hfz2]
      · rw [hfreeze]
        simp only [Array.getElem?_modify]
        rw [if_neg (Ne.symm hk)]
  · rename_i e l hs hd hx
    unfold cvBytes at h
    cases hb : isU8 P e with
    | false => rw [hb] at h; cases h
    | true =>
      rw [hb] at h; cases h
      have hu8 := u8_some hb
      have h1 := he _ _ hx
      generalize ρ x = q at h1 hrun
      cases h1 with
      | str t =>
      intro w
      have hr := run_bytes_of_string (P := P) w s d e t hs hd hu8
      have hge := grownCap_ge w t.size 0 e
      have hsz : (bytesRow t (grownCap w t.size 0 e)).size = grownCap w t.size 0 e := by
        have : t.data.size = t.size := rfl
        simp [bytesRow, this]; omega
      refine ⟨_, _, _, _, hrun w _ _ hr, rfl, rfl, rfl, rfl, ORel.cells _ _ _ 0 _ _ _ rfl ?_ ?_ (.inr (by simp)), fun ψ r hle hr => ?_⟩
      · rw [hsz]; simp; exact hge
      · rw [List.drop_zero]
        refine VRels.of_get ?_ fun i v hi => ?_
        · simp [bytesRow]
        · simp only [List.map_map, List.getElem?_map] at hi
          cases hq : t.data.toList[i]? with
          | none => rw [hq] at hi; cases hi
          | some b =>
            rw [hq] at hi
            cases hi
            have hlt := (List.getElem?_eq_some_iff.1 hq).1
            have hlt2 : i < t.data.size := by simpa using hlt
            refine ⟨.int .u8 b.toNat, ?_, .int _ _⟩
            rw [List.getElem?_take_of_lt (by simpa using hlt), Array.getElem?_toList]
            unfold bytesRow
            rw [Array.getElem?_append_left (by simpa using hlt2)]
            rw [Array.getElem?_toList] at hq
            simp [hq]
      · rw [hsz] at hr
        rw [lenL0, List.length_map, Array.length_toList]
        exact .slice r 0 _ _ _ w.heap.size 0 _ _ _ _ hr (Nat.le_refl _) hge (by simp) (fun _ => by omega) (.inr rfl)
  · rename_i e a n c ex z hs hd hx
    unfold cvText at h
    cases hb : isU8 P e with
    | false => rw [hb] at h; cases h
    | true =>
      rw [hb] at h
      have hu8 := u8_some hb
      have h1 := he _ _ hx
      generalize ρ x = q at h1 hrun
      cases h1 with
      | slice0 =>
        cases h
        exact ⟨.string ByteArray.empty, VRel.str (φ := φ) ByteArray.empty, fun w => hrun w _ _ (by rw [run_convert_bytes_string w s d e none 0 0 hs hu8 hd]; rfl)⟩
      | slice x2 o2 _ _ _ g2 b2 nb2 cap _ a2 hφ2 hl hc hex hz ha =>
        cases h
        refine cvText_ok (a := (x2, o2)) hs hd hu8 hrun ?_ (.inl ⟨g2, b2, nb2, cap, a2, hφ2, rfl, by omega, ha⟩)
        unfold cvText; rw [hb]; rfl
  · cases h
/-- ALL OF THEM. -/
theorem light0_ok (he : EvOk φ ev ρ) (o : Oper) (r : LRes) (h : light0 P ev o.op = some r) : LSpec φ (fun w => (execOp ρ o).run P w) r := by
  unfold light0 at h
  split at h
  · exact move_ok he o _ (.inl ‹_›) r h
  · exact move_ok he o _ (.inr ‹_›) r h
  · exact pick_ok he o _ _ _ ‹_› r h
  · exact alloc_ok he o _ ‹_› r h
  · exact box_ok he o _ _ ‹_› r h
  · exact build_ok he o _ _ ‹_› r h
  · exact bslice_ok he o _ _ _ ‹_› r h
  · exact load_ok he o _ _ ‹_› r h
  · exact nil_ok he o _ ‹_› r h
  · exact bin_ok he o _ _ _ _ _ ‹_› r h
  · exact un_ok he o _ _ _ ‹_› r h
  · exact conv_ok he o _ _ _ ‹_› r h
  · exact arrp_ok he o _ _ ‹_› r h
  · exact mfunc_ok he o _ _ _ ‹_› r h
  · exact mmap_ok he o _ _ ‹_› r h
  · exact lookup_ok he o _ _ _ _ ‹_› r h
  · exact mslice_ok he o _ _ _ ‹_› r h
  · exact slice_ok he o _ _ _ _ _ ‹_› r h
  · exact faddr_ok he o _ _ _ ‹_› r h
  · exact field_ok he o _ _ _ ‹_› r h
  · exact iaddr_ok he o _ _ _ ‹_› r h
  · exact index_ok he o _ _ _ ‹_› r h
  · exact extract_ok he o _ _ ‹_› r h
  · exact call_ok he o _ ‹_› r h
  · cases h
end
end Go.Proofs.Ytcofcojjofkgcaa.Abs
