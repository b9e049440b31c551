/- Arrays: values, rows in memory, parts of structs. By an AI agent. -/
import Derived.Test.YtmhbmjagnihopaaGreatDoorProg
import Derived.Test.YtmhbmjagnihopaaGreatDoorM
import Derived.Laws.CopyOwn
namespace Go.Proofs.YtmhbmjagnihopaaGreatDoor.M
open Go.RowKit
set_option linter.unusedVariables false

def cell8 (b : UInt8) : Value := .int .u8 (b.toNat : Int)
def cell32 (n : Nat) : Value := .int .u32 (n : Int)

/-- an element of an array value, of one cell -/
theorem run_index1 {P : Program} (w : World) (t e : TypeId) (n : Nat) (i : TypeInfo) (d : TypeDesc) (cs : Array Value) (k : IntKind) (j : Nat) (v : Value)
    (ht : P.underlying t = some (.array n e)) (hi : P.info? e = some i) (hs : i.size = 1) (he : P.underlying e = some d) (hd : (match d with | .struct _ | .array _ _ => true | _ => false) = false)
    (hj : j < n) (hv : cs[j]? = some v) : (Instr.index t (.agg cs) (.int k (j : Int))).run P w = .ok v w := by
  have hagg : (isAgg e).run P w = .ok false w := by
    unfold isAgg
    rw [Sem.run_bind, run_underlying he w]
    cases d <;> simp_all
  simp only [Instr.index, asIntOf, Sem.run_bind, Sem.run_pure, Result.andThen_ok, run_underlying ht w]
  rw [if_pos ⟨by omega, by omega⟩]
  simp [part, Sem.run_bind, hagg, sizeOf, typeInfo, hi, hs, hv]

/-- an array that lies anywhere in a row -/
theorem run_loadVar_at {P : Program} (w : World) (a : Addr) (ty : TypeId) (cs : List Value) (d : TypeDesc) (i : TypeInfo)
    (hu : P.underlying ty = some d) (hd : (match d with | .struct _ | .array _ _ => true | _ => false) = true) (hi : P.info? ty = some i) (hs : i.size = cs.length)
    (hc : ∀ j v, cs[j]? = some v → w.cell? (a.add j) = some v) : (loadVar ty a).run P w = .ok (.agg cs.toArray) w := by
  have hl := run_loadCells_list (P := P) w a cs hc
  have hagg : (isAgg ty).run P w = .ok true w := by
    unfold isAgg
    rw [Sem.run_bind, run_underlying hu w]
    cases d <;> simp_all
  simp [loadVar, Sem.run_bind, hagg, sizeOf, typeInfo, hi, hs, hl]
theorem wpList_load_at {P : Program} {ops : Array Oper} {rest : List Oper} {o : Oper} {a : Act} {w : World} {Q : Exit → Act → World → Prop} (hgd : o.guard = none) (ty : TypeId) (x : Operand) (ho : o.op = .load ty x)
    (ad : Addr) (hx : a.eval x = .pointer (some ad)) (cs : List Value) (d : TypeDesc) (i : TypeInfo)
    (hu : P.underlying ty = some d) (hd : (match d with | .struct _ | .array _ _ => true | _ => false) = true) (hi : P.info? ty = some i) (hs : i.size = cs.length)
    (hc : ∀ j v, cs[j]? = some v → w.cell? (ad.add j) = some v)
    (h : wpList P ops Q rest (a.put o.dst (.agg cs.toArray)) w) : wpList P ops Q (o :: rest) a w := by
  refine wpList_plain hgd fun _ hK => ?_
  unfold Oper.wp execOp
  simp only [ho, hx, Instr.loadAt, Instr.sureAddr, Sem.run_bind, Sem.run_pure, Result.andThen_ok, run_loadVar_at w ad ty cs d i hu hd hi hs hc]
  exact hK _ _ h

/-- rows of noughts, by names that no walk opens -/
def row8 (n : Nat) : List UInt8 := List.replicate n 0
def row32 (n : Nat) : List Nat := List.replicate n 0
theorem run_alloc_of {P : Program} (w : World) (t : TypeId) (i : TypeInfo) (z : Value) (hi : P.info? t = some i) (hz : i.zero = some z) :
    (Instr.alloc t true (.tuple #[])).run P w = .ok (.pointer (some ⟨w.heap.size, 0, none⟩)) (w.alloc (.cells z.cells t)) := by
  simp [Instr.alloc, zeroValue, typeInfo, hi, hz, Sem.run_bind, newVar, newRow, newObj]; try rfl
theorem zeroOf {P : Program} {t : TypeId} {z : Value} (h : (P.info? t).map (·.zero) = some (some z)) : ∃ i, P.info? t = some i ∧ i.zero = some z := by
  cases hq : P.info? t with
  | none => simp [hq] at h
  | some i => exact ⟨i, rfl, by simpa [hq] using h⟩
theorem run_alloc_zero {P : Program} {t : TypeId} {z : Value} {cs : Array Value} (h : (P.info? t).map (·.zero) = some (some z)) (hc : z.cells = cs) (w : World) :
    (Instr.alloc t true (.tuple #[])).run P w = .ok (.pointer (some ⟨w.heap.size, 0, none⟩)) (w.alloc (.cells cs t)) := by
  obtain ⟨i, hi, hz⟩ := zeroOf h
  rw [run_alloc_of w t i z hi hz, hc]
theorem wpList_alloc_as {P : Program} {ops : Array Oper} {rest : List Oper} {o : Oper} {a : Act} {w : World} {Q : Exit → Act → World → Prop} (hgd : o.guard = none) (t : TypeId) (ho : o.op = .alloc t) (cs : Array Value)
    (hz : ∀ w, (Instr.alloc t true (.tuple #[])).run P w = .ok (.pointer (some ⟨w.heap.size, 0, none⟩)) (w.alloc (.cells cs t)))
    (h : wpList P ops Q rest (a.put o.dst (.pointer (some ⟨w.heap.size, 0, none⟩))) (w.alloc (.cells cs t))) : wpList P ops Q (o :: rest) a w := by
  refine wpList_plain hgd fun _ hK => ?_
  unfold Oper.wp execOp
  simp only [ho, Sem.run_bind, Sem.run_pure, Result.andThen_ok, hz]
  exact hK _ _ h
theorem wpList_build_as {P : Program} {ops : Array Oper} {rest : List Oper} {o : Oper} {a : Act} {w : World} {Q : Exit → Act → World → Prop} (hgd : o.guard = none) (t : TypeId) (parts : Array (Nat × Operand)) (ho : o.op = .build t parts) (cells : Array Value)
    (hb : P.built t (parts.map fun (i, x) => (i, a.eval x)).toList = some cells)
    (h : wpList P ops Q rest (a.put o.dst (.agg cells)) w) : wpList P ops Q (o :: rest) a w := by
  refine wpList_build hgd t parts ho (by rw [hb]; rfl) ?_
  rw [hb]
  exact h
theorem run_copy_of {P : Program} (w : World) (dT sT ty elem : TypeId) (hu : P.underlying dT = some (.slice elem)) (hsz : (P.info? elem).map (·.size) = some 1)
    (g off dLen dCap : Nat) (ad : Addr) (sLen sCap : Nat) (cur : List Value) (t : TypeId) (hg : w.heap[g]? = some (.cells cur.toArray t (0, 0))) (cs : List Value) (hn : cs.length = Nat.min sLen dLen)
    (hsrc : ∀ j v, cs[j]? = some v → w.cell? (ad.add j) = some v) (hfit : off + cs.length ≤ cur.length) (h1 : ∀ v ∈ cs, v.oneCell' = true) :
    (Builtin.copy_ #[dT, sT] ty #[.slice (some ⟨g, off, none⟩) dLen dCap, .slice (some ad) sLen sCap]).run P w = .ok (goInt cs.length) (w.setRow g (splice cur off cs).toArray) := by
  have h := run_copy_row (P := P) w dT sT ty elem g off dLen dCap ad sLen sCap cur.toArray t cs hu hsz hg hn hsrc (by simpa using hfit) h1
  simpa [splice] using h
theorem step_copy_set {P : Program} {ops : Array Oper} {o : Oper} {a : Act} {w : World} {K : Act → World → Prop} {Q : Exit → Act → World → Prop} {E : Prop} (hgd : o.guard = none) (d s : Operand) (dT sT : TypeId)
    (ho : o.op = .call { callee := .builtin .copy, args := #[d, s], argTypes := #[dT, sT] }) (elem : TypeId) (hu : P.underlying dT = some (.slice elem)) (hsz : (P.info? elem).map (·.size) = some 1)
    (ad : Addr) (g off dLen dCap sLen sCap : Nat) (hd : a.eval d = .slice (some ⟨g, off, none⟩) dLen dCap) (hs : a.eval s = .slice (some ad) sLen sCap)
    (cur : List Value) (t : TypeId) (hg : w.heap[g]? = some (.cells cur.toArray t (0, 0))) (cs : List Value) (hn : cs.length = Nat.min sLen dLen)
    (hsrc : ∀ j v, cs[j]? = some v → w.cell? (ad.add j) = some v)
    (hfit : off + cs.length ≤ cur.length) (h1 : ∀ v ∈ cs, v.oneCell' = true)
    (h : K (a.put o.dst (goInt cs.length)) (w.setRow g (splice cur off cs).toArray)) :
    if Region.wanted o (yielded ops a.tmps) = true then Oper.wp P o a w K Q else E := by
  have hw : Region.wanted o (yielded ops a.tmps) = true := by simp [Region.wanted, hgd]
  rw [if_pos hw]
  have hrun := run_copy_of (P := P) w dT sT o.type elem hu hsz g off dLen dCap ad sLen sCap cur t hg cs hn hsrc hfit h1
  unfold Oper.wp
  simp [execOp, ho, resolve, invoke, builtin, hd, hs, hrun, Result.andThen]
  exact h
theorem wpList_copy_set {P : Program} {ops : Array Oper} {rest : List Oper} {o : Oper} {a : Act} {w : World} {Q : Exit → Act → World → Prop} (hgd : o.guard = none) (d s : Operand) (dT sT : TypeId)
    (ho : o.op = .call { callee := .builtin .copy, args := #[d, s], argTypes := #[dT, sT] }) (elem : TypeId) (hu : P.underlying dT = some (.slice elem)) (hsz : (P.info? elem).map (·.size) = some 1)
    (ad : Addr) (g off dLen dCap sLen sCap : Nat) (hd : a.eval d = .slice (some ⟨g, off, none⟩) dLen dCap) (hs : a.eval s = .slice (some ad) sLen sCap)
    (cur : List Value) (t : TypeId) (hg : w.heap[g]? = some (.cells cur.toArray t (0, 0))) (cs : List Value) (hn : cs.length = Nat.min sLen dLen)
    (hsrc : ∀ j v, cs[j]? = some v → w.cell? (ad.add j) = some v)
    (hfit : off + cs.length ≤ cur.length) (h1 : ∀ v ∈ cs, v.oneCell' = true)
    (h : wpList P ops Q rest (a.put o.dst (goInt cs.length)) (w.setRow g (splice cur off cs).toArray)) : wpList P ops Q (o :: rest) a w := by
  refine wpList_plain hgd fun _ hK => ?_
  have hrun := run_copy_of (P := P) w dT sT o.type elem hu hsz g off dLen dCap ad sLen sCap cur t hg cs hn hsrc hfit h1
  unfold Oper.wp
  simp [execOp, ho, resolve, invoke, builtin, hd, hs, hrun, Result.andThen]
  exact hK _ _ h
theorem oneCell8 (l : List UInt8) : ∀ v ∈ l.map cell8, v.oneCell' = true := fun v hv => by
  obtain ⟨y, _, rfl⟩ := List.mem_map.1 hv
  rfl
/-- a slice's rest -/
theorem Byts.drop_ {w : World} {S : Nat → Prop} {A : Option Addr} {n c : Nat} {l : List UInt8} (h : Byts w S (.slice A n c) l) {k : Nat} (hk : k ≤ n) :
    Byts w S (.slice (if c = k then A else A.map (·.add k)) (n - k) (c - k)) (l.drop k) := by
  obtain ⟨A', n', c', h1, hl, hnc, hm, h0, hc⟩ := h
  cases h1
  refine ⟨_, _, _, rfl, by rw [List.length_drop]; omega, by omega, by omega, ?_, ?_⟩
  · intro e
    split at e
    · have := h0 e; omega
    · cases hA : A with
      | none => have := h0 hA; omega
      | some ad => rw [hA] at e; simp at e
  · intro ad e hp
    split at e
    · omega
    · cases hA : A with
      | none => rw [hA] at e; simp at e
      | some a0 =>
        rw [hA] at e
        simp at e
        subst e
        obtain ⟨hs, hcell⟩ := hc a0 hA (by omega)
        refine ⟨by rw [block_add]; exact hs, fun j b hj => ?_⟩
        rw [add_add]
        exact hcell _ b (by rw [List.getElem?_drop] at hj; exact hj)
theorem run_slice_low {P : Program} (w : World) (t e : TypeId) (i : TypeInfo) (ht : P.underlying t = some (.slice e)) (hi : P.info? e = some i) (hs : i.size = 1) (A : Option Addr) (n c k : Nat) (kk : IntKind) (hk : k ≤ n) :
    (Instr.sliceAt t (.slice A n c) (some (.int kk (k : Int))) none none).run P w = .ok (.slice (if c = k then A else A.map (·.add k)) (n - k) (c - k)) w := by
  unfold Instr.sliceAt
  simp only [Sem.run_bind, run_underlying ht w, Result.andThen_ok]
  unfold Instr.slice
  simp only [Sem.run_bind, run_underlying ht w, Result.andThen_ok]
  have hb : (Instr.sliceBounds true n c (some (.int kk (k : Int))) none none).run P w = .ok (k, n, c) w := by
    unfold Instr.sliceBounds Instr.sliceBound
    simp [asIntOf, hk]
  rw [hb]
  simp [sizeOf, typeInfo, hi, hs, Sem.run_bind]
/-- a call of a Go function as one step of a region that draws its order -/
theorem step_calls {P : Program} {ops : Array Oper} {o : Oper} {a : Act} {w : World} {K : Act → World → Prop} {Q : Exit → Act → World → Prop} {E : Prop} {R : Ending → World → Prop} (hgd : o.guard = none) (f : FuncId) (args : Array Value)
    (hrun : (execOp a.eval o).run P w = .ok (.enter f args) w) (hc : Calls P f args w R) (hR : ∀ e w', R e w' → ∃ v, e = .returned v)
    (h : ∀ v w', R (.returned v) w' → K (a.put o.dst v) w') : if Region.wanted o (yielded ops a.tmps) = true then Oper.wp P o a w K Q else E := by
  have hw : Region.wanted o (yielded ops a.tmps) = true := by simp [Region.wanted, hgd]
  rw [if_pos hw]
  unfold Oper.wp
  rw [hrun, Oper.upon_enter]
  refine hc.mono fun e w' hr => ?_
  obtain ⟨v, rfl⟩ := hR e w' hr
  exact h v w' hr
theorem run_copy_byts {P : Program} (w : World) (dT sT ty elem : TypeId) (hu : P.underlying dT = some (.slice elem)) (hsz : (P.info? elem).map (·.size) = some 1)
    (g off dLen dCap : Nat) (A : Option Addr) (n c : Nat) (cur : List Value) (t : TypeId) (hg : w.heap[g]? = some (.cells cur.toArray t (0, 0))) (S : Nat → Prop) (l : List UInt8) (hb : Byts w S (.slice A n c) l)
    (hn : n ≤ dLen) (hfit : off + n ≤ cur.length) :
    (Builtin.copy_ #[dT, sT] ty #[.slice (some ⟨g, off, none⟩) dLen dCap, .slice A n c]).run P w = .ok (goInt n) (w.setRow g (splice cur off (l.map cell8)).toArray) := by
  obtain ⟨A', n', c', h1, hl, hnc, hm, h0, hc⟩ := hb
  cases h1
  rcases Nat.eq_zero_or_pos n with hz | hp
  · subst hz
    obtain rfl : l = [] := List.eq_nil_of_length_eq_zero hl
    have h := run_copy_none (P := P) w dT sT ty elem (some ⟨g, off, none⟩) A dLen dCap 0 c hu hsz (by simp)
    have e : w.setRow g (splice cur off (([] : List UInt8).map cell8)).toArray = w := by
      have : splice cur off (([] : List UInt8).map cell8) = cur := by simp [splice]
      rw [this]
      exact setRow_self w g _ t _ hg
    rw [e]
    simpa [goInt] using h
  · cases A with
    | none => have := h0 rfl; omega
    | some ad =>
      have h := run_copy_of (P := P) w dT sT ty elem hu hsz g off dLen dCap ad n c cur t hg (l.map cell8) (by rw [List.length_map, hl]; exact (Nat.min_eq_left hn).symm) (fun j v hj => by
        obtain ⟨y, hy, rfl⟩ : ∃ y, l[j]? = some y ∧ cell8 y = v := by simpa using hj
        exact (hc ad rfl hp).2 j y hy) (by rw [List.length_map, hl]; exact hfit) (oneCell8 l)
      rw [List.length_map, hl] at h
      exact h
theorem wpList_copy_byts {P : Program} {ops : Array Oper} {rest : List Oper} {o : Oper} {a : Act} {w : World} {Q : Exit → Act → World → Prop} (hgd : o.guard = none) (d s : Operand) (dT sT : TypeId)
    (ho : o.op = .call { callee := .builtin .copy, args := #[d, s], argTypes := #[dT, sT] }) (elem : TypeId) (hu : P.underlying dT = some (.slice elem)) (hsz : (P.info? elem).map (·.size) = some 1)
    (g off dLen dCap : Nat) (A : Option Addr) (n c : Nat) (hd : a.eval d = .slice (some ⟨g, off, none⟩) dLen dCap) (hs : a.eval s = .slice A n c)
    (cur : List Value) (t : TypeId) (hg : w.heap[g]? = some (.cells cur.toArray t (0, 0))) (S : Nat → Prop) (l : List UInt8) (hb : Byts w S (.slice A n c) l) (hn : n ≤ dLen) (hfit : off + n ≤ cur.length)
    (h : wpList P ops Q rest (a.put o.dst (goInt n)) (w.setRow g (splice cur off (l.map cell8)).toArray)) : wpList P ops Q (o :: rest) a w := by
  refine wpList_plain hgd fun _ hK => ?_
  have hrun := run_copy_byts (P := P) w dT sT o.type elem hu hsz g off dLen dCap A n c cur t hg S l hb hn hfit
  unfold Oper.wp
  simp [execOp, ho, resolve, invoke, builtin, hd, hs, hrun, Result.andThen]
  exact hK _ _ h
theorem step_copy_byts {P : Program} {ops : Array Oper} {o : Oper} {a : Act} {w : World} {K : Act → World → Prop} {Q : Exit → Act → World → Prop} {E : Prop} (hgd : o.guard = none) (d s : Operand) (dT sT : TypeId)
    (ho : o.op = .call { callee := .builtin .copy, args := #[d, s], argTypes := #[dT, sT] }) (elem : TypeId) (hu : P.underlying dT = some (.slice elem)) (hsz : (P.info? elem).map (·.size) = some 1)
    (g off dLen dCap : Nat) (A : Option Addr) (n c : Nat) (hd : a.eval d = .slice (some ⟨g, off, none⟩) dLen dCap) (hs : a.eval s = .slice A n c)
    (cur : List Value) (t : TypeId) (hg : w.heap[g]? = some (.cells cur.toArray t (0, 0))) (S : Nat → Prop) (l : List UInt8) (hb : Byts w S (.slice A n c) l) (hn : n ≤ dLen) (hfit : off + n ≤ cur.length)
    (h : K (a.put o.dst (goInt n)) (w.setRow g (splice cur off (l.map cell8)).toArray)) :
    if Region.wanted o (yielded ops a.tmps) = true then Oper.wp P o a w K Q else E := by
  have hw : Region.wanted o (yielded ops a.tmps) = true := by simp [Region.wanted, hgd]
  rw [if_pos hw]
  have hrun := run_copy_byts (P := P) w dT sT o.type elem hu hsz g off dLen dCap A n c cur t hg S l hb hn hfit
  unfold Oper.wp
  simp [execOp, ho, resolve, invoke, builtin, hd, hs, hrun, Result.andThen]
  exact h
end Go.Proofs.YtmhbmjagnihopaaGreatDoor.M
