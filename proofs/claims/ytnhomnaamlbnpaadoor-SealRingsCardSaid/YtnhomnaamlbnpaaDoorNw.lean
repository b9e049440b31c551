/- New blocks under names: laws of single operations that hand the world on as a letter. By an AI agent. -/
import Derived.Test.YtnhomnaamlbnpaaDoorProg
import Derived.Test.YtnhomnaamlbnpaaDoorM
import Derived.Test.YtnhomnaamlbnpaaDoorArr
import Derived.Great.Walk
import Derived.Laws.Tables
import Derived.Laws.Rows
namespace Go.Proofs.YtnhomnaamlbnpaaDoor.Nw
open Go.RowKit Go.Great Go.Proofs.YtnhomnaamlbnpaaDoor.M
set_option linter.unusedVariables false

/-- a block that was just made -/
structure New (w w' : World) (g : Nat) (t : TypeId) (cs : Array Value) : Prop where
  is : g = w.heap.size
  blk : Blk w' g t cs
  size : w'.heap.size = w.heap.size + 1
  below : Below w.heap.size w w'
theorem New.of (w : World) (t : TypeId) (cs : Array Value) : New w (w.alloc (.cells cs t)) w.heap.size t cs := ⟨rfl, Blk.new w t cs, World.size_alloc .., (Below.refl _ _).alloc (Nat.le_refl _) _⟩
/-- a block that was written -/
structure Put (w w' : World) (g : Nat) (t : TypeId) (cs : Array Value) : Prop where
  blk : Blk w' g t cs
  size : w'.heap.size = w.heap.size
  grown : w.grownBy w' (some g)
section
variable {P : Program} {ops : Array Oper} {rest : List Oper} {o : Oper} {a : Act} {w : World} {Q : Exit → Act → World → Prop}
theorem wpList_alloc_new (hgd : o.guard = none) (t : TypeId) (ho : o.op = .alloc t) (cs : Array Value)
    (hz : ∀ w, (Instr.alloc t true (.tuple #[])).run P w = .ok (.pointer (some ⟨w.heap.size, 0, none⟩)) (w.alloc (.cells cs t)))
    (h : ∀ g w', New w w' g t cs → wpList P ops Q rest (a.put o.dst (.pointer (some ⟨g, 0, none⟩))) w') : wpList P ops Q (o :: rest) a w :=
  wpList_alloc_as hgd t ho cs hz (h _ _ (New.of w t cs))
theorem wpList_box_new (hgd : o.guard = none) (t : TypeId) (x : Operand) (ho : o.op = .box t x) (cs : Array Value) (hx : (a.eval x).cells = cs)
    (h : ∀ g w', New w w' g t cs → wpList P ops Q rest (a.put o.dst (.pointer (some ⟨g, 0, none⟩))) w') : wpList P ops Q (o :: rest) a w :=
  wpList_boxTo hgd t x ho o.dst rfl w.heap.size rfl cs hx (h _ _ (New.of w t cs))
theorem wpList_slice_new (hgd : o.guard = none) (t e : TypeId) (len : Nat) (parts : Array (Nat × Operand)) (ho : o.op = .buildSlice t len parts) (hu : P.underlying t = some (.slice e)) (cs : Array Value)
    (hf : P.builtSlice e len (parts.map fun (i, x) => (i, a.eval x)).toList = some cs)
    (h : ∀ g w', New w w' g e cs → wpList P ops Q rest (a.put o.dst (.slice (some ⟨g, 0, none⟩) len len)) w') : wpList P ops Q (o :: rest) a w :=
  wpList_buildSliceTo hgd t e len parts ho w.heap.size rfl o.dst rfl hu cs hf (h _ _ (New.of w e cs))
theorem wpList_store_all (hgd : o.guard = none) (ty : TypeId) (x y : Operand) (ho : o.op = .store ty x y) (g : Nat) (cs : Array Value) (hx : a.eval x = .pointer (some ⟨g, 0, none⟩)) (hy : a.eval y = .agg cs)
    (t : TypeId) (old : Array Value) (hg : Blk w g t old) (hi : (P.info? ty).map (·.size) = some cs.size) (hold : old.size = cs.size) (h1 : cs.all (·.oneCell') = true)
    (h : ∀ w', Put w w' g t cs → wpList P ops Q rest (a.put o.dst undef) w') : wpList P ops Q (o :: rest) a w :=
  wpList_store_row hgd ty x y ho g cs hx hy t old hg hi hold h1 (h _ ⟨setRow_heap _ _ _ _ _ _ hg, by simp [World.setRow],
    ⟨rfl, rfl, rfl, by simp [World.setRow], fun k hk hne => setRow_other _ _ _ _ (fun e => hne (by rw [e]))⟩⟩)
end
theorem wpList_load_all {P : Program} {ops : Array Oper} {rest : List Oper} {o : Oper} {a : Act} {w : World} {Q : Exit → Act → World → Prop} (hgd : o.guard = none) (ty : TypeId) (x : Operand) (ho : o.op = .load ty x) (g : Nat) (hx : a.eval x = .pointer (some ⟨g, 0, none⟩)) (t : TypeId) (cs : Array Value) (d : TypeDesc) (hg : Blk w g t cs)
    (hu : P.underlying ty = some d) (hd : (match d with | .struct _ | .array _ _ => true | _ => false) = true) (hi : (P.info? ty).map (·.size) = some cs.size)
    (h : wpList P ops Q rest (a.put o.dst (.agg cs)) w) : wpList P ops Q (o :: rest) a w := wpList_load_row hgd ty x ho g hx t cs (0, 0) d hg hu hd hi h
/-- one element, two -/
theorem built1 {P : Program} {e : TypeId} {i : TypeInfo} {z : Value} (hi : P.info? e = some i) (hz : i.zero = some z) (hs : i.size = 1) (u : Value) (hu : u.cells = #[u]) : P.builtSlice e 1 [(0, u)] = some #[u] := by
  unfold Program.builtSlice
  simp only [hi, hz, hs]
  rw [if_neg (by simp)]
  have hr : Array.range 1 = #[0] := rfl
  simp [Instr.fill, hu, hr]
theorem built2 {P : Program} {e : TypeId} {i : TypeInfo} {z : Value} (hi : P.info? e = some i) (hz : i.zero = some z) (hs : i.size = 1) (u v : Value) (hu : u.cells = #[u]) (hv : v.cells = #[v]) : P.builtSlice e 2 [(0, u), (1, v)] = some #[u, v] := by
  unfold Program.builtSlice
  simp only [hi, hz, hs]
  rw [if_neg (by simp)]
  have hr : Array.range 2 = #[0, 1] := rfl
  simp [Instr.fill, hu, hv, hr]
theorem built5 {P : Program} {e : TypeId} {i : TypeInfo} {z : Value} (hi : P.info? e = some i) (hz : i.zero = some z) (hs : i.size = 1) (u v x y q : Value) (hu : u.cells = #[u]) (hv : v.cells = #[v]) (hx : x.cells = #[x]) (hy : y.cells = #[y]) (hq : q.cells = #[q]) :
    P.builtSlice e 5 [(0, u), (1, v), (2, x), (3, y), (4, q)] = some #[u, v, x, y, q] := by
  unfold Program.builtSlice
  simp only [hi, hz, hs]
  rw [if_neg (by simp)]
  have hr : Array.range 5 = #[0, 1, 2, 3, 4] := rfl
  simp [Instr.fill, hu, hv, hx, hy, hq, hr]
section
variable {P : Program} {ops : Array Oper} {rest : List Oper} {o : Oper} {a : Act} {w : World} {Q : Exit → Act → World → Prop}
theorem wpList_slice1 (hgd : o.guard = none) (t e : TypeId) (x : Operand) (ho : o.op = .buildSlice t 1 #[(0, x)]) (hu : P.underlying t = some (.slice e)) {i : TypeInfo} {z : Value} (hi : P.info? e = some i) (hz : i.zero = some z) (hs : i.size = 1)
    (u : Value) (hx : a.eval x = u) (h1 : u.cells = #[u])
    (h : ∀ g w', New w w' g e #[u] → wpList P ops Q rest (a.put o.dst (.slice (some ⟨g, 0, none⟩) 1 1)) w') : wpList P ops Q (o :: rest) a w :=
  wpList_slice_new hgd t e 1 _ ho hu #[u] (by subst hx; simpa using built1 hi hz hs _ h1) h
theorem wpList_slice2 (hgd : o.guard = none) (t e : TypeId) (x y : Operand) (ho : o.op = .buildSlice t 2 #[(0, x), (1, y)]) (hu : P.underlying t = some (.slice e)) {i : TypeInfo} {z : Value} (hi : P.info? e = some i) (hz : i.zero = some z) (hs : i.size = 1)
    (u v : Value) (hx : a.eval x = u) (hy : a.eval y = v) (h1 : u.cells = #[u]) (h2 : v.cells = #[v])
    (h : ∀ g w', New w w' g e #[u, v] → wpList P ops Q rest (a.put o.dst (.slice (some ⟨g, 0, none⟩) 2 2)) w') : wpList P ops Q (o :: rest) a w :=
  wpList_slice_new hgd t e 2 _ ho hu #[u, v] (by subst hx; subst hy; simpa using built2 hi hz hs _ _ h1 h2) h
theorem wpList_slice5 (hgd : o.guard = none) (t e : TypeId) (x0 x1 x2 x3 x4 : Operand) (ho : o.op = .buildSlice t 5 #[(0, x0), (1, x1), (2, x2), (3, x3), (4, x4)]) (hu : P.underlying t = some (.slice e)) {i : TypeInfo} {z : Value} (hi : P.info? e = some i) (hz : i.zero = some z) (hs : i.size = 1)
    (u0 u1 u2 u3 u4 : Value) (h0 : a.eval x0 = u0) (h1 : a.eval x1 = u1) (h2 : a.eval x2 = u2) (h3 : a.eval x3 = u3) (h4 : a.eval x4 = u4) (c0 : u0.cells = #[u0]) (c1 : u1.cells = #[u1]) (c2 : u2.cells = #[u2]) (c3 : u3.cells = #[u3]) (c4 : u4.cells = #[u4])
    (h : ∀ g w', New w w' g e #[u0, u1, u2, u3, u4] → wpList P ops Q rest (a.put o.dst (.slice (some ⟨g, 0, none⟩) 5 5)) w') : wpList P ops Q (o :: rest) a w :=
  wpList_slice_new hgd t e 5 _ ho hu #[u0, u1, u2, u3, u4] (by subst h0; subst h1; subst h2; subst h3; subst h4; simpa using built5 hi hz hs _ _ _ _ _ c0 c1 c2 c3 c4) h
end
/-- copy of as much as there is room for -/
theorem run_copy_min {P : Program} (w : World) (dT sT ty elem : TypeId) (hu : P.underlying dT = some (.slice elem)) (hsz : (P.info? elem).map (·.size) = some 1)
    (g off dLen dCap : Nat) (A : Option Addr) (n c : Nat) (cur : List Value) (t : TypeId) (hg : Blk w g t cur.toArray) (S : Nat → Prop) (l : List UInt8) (hb : Byts w S (.slice A n c) l) (hfit : off + dLen ≤ cur.length) :
    (Builtin.copy_ #[dT, sT] ty #[.slice (some ⟨g, off, none⟩) dLen dCap, .slice A n c]).run P w = .ok (goInt ((min n dLen : Nat) : Int)) (w.setRow g (splice cur off ((l.take dLen).map cell8)).toArray) := by
  obtain ⟨A', n', c', h1, hl, hnc, hm, h0, hc⟩ := hb
  cases h1
  rcases Nat.eq_zero_or_pos (min n dLen) with hz | hp
  · have hz2 : l.take dLen = [] := List.eq_nil_of_length_eq_zero (by rw [List.length_take]; omega)
    have h := run_copy_none (P := P) w dT sT ty elem (some ⟨g, off, none⟩) A dLen dCap n c hu hsz hz
    have e : w.setRow g (splice cur off ((l.take dLen).map cell8)).toArray = w := by
      have : splice cur off ((l.take dLen).map cell8) = cur := by rw [hz2]; simp [splice]
      rw [this]
      exact setRow_self w g _ t _ hg
    rw [e, hz]
    simpa [goInt] using h
  · cases A with
    | none => have := h0 rfl; omega
    | some ad =>
      have h := run_copy_of (P := P) w dT sT ty elem hu hsz g off dLen dCap ad n c cur t hg ((l.take dLen).map cell8) (by rw [List.length_map, List.length_take, hl]; exact Nat.min_comm _ _) (fun j v hj => by
        rw [List.getElem?_map] at hj
        obtain ⟨y, hy, rfl⟩ := Option.map_eq_some_iff.1 hj
        have hlt : j < dLen := by have := (List.getElem?_eq_some_iff.1 hy).1; rw [List.length_take] at this; omega
        rw [List.getElem?_take_of_lt hlt] at hy
        exact (hc ad rfl (by omega)).2 j y hy) (by rw [List.length_map, List.length_take]; omega) (oneCell8 _)
      rw [List.length_map, List.length_take, hl, Nat.min_comm] at h
      exact h
theorem wpList_copy_min {P : Program} {ops : Array Oper} {rest : List Oper} {o : Oper} {a : Act} {w : World} {Q : Exit → Act → World → Prop} (hgd : o.guard = none) (d s : Operand) (dT sT : TypeId)
    (ho : o.op = .call { callee := .builtin .copy, args := #[d, s], argTypes := #[dT, sT] }) (elem : TypeId) (hu : P.underlying dT = some (.slice elem)) (hsz : (P.info? elem).map (·.size) = some 1)
    (g off dLen dCap : Nat) (A : Option Addr) (n c : Nat) (hd : a.eval d = .slice (some ⟨g, off, none⟩) dLen dCap) (hs : a.eval s = .slice A n c)
    (cur : List Value) (t : TypeId) (hg : Blk w g t cur.toArray) (S : Nat → Prop) (l : List UInt8) (hb : Byts w S (.slice A n c) l) (hfit : off + dLen ≤ cur.length)
    (h : ∀ w', Put w w' g t (splice cur off ((l.take dLen).map cell8)).toArray → wpList P ops Q rest (a.put o.dst (goInt ((min n dLen : Nat) : Int))) w') : wpList P ops Q (o :: rest) a w := by
  refine wpList_plain hgd fun _ hK => ?_
  have hrun := run_copy_min (P := P) w dT sT o.type elem hu hsz g off dLen dCap A n c cur t hg S l hb hfit
  generalize splice cur off ((l.take dLen).map cell8) = m at *
  unfold Oper.wp
  simp [execOp, ho, resolve, invoke, builtin, hd, hs, hrun, Result.andThen]
  exact hK _ _ (h _ ⟨setRow_heap _ _ _ _ _ _ hg, by simp [World.setRow], ⟨rfl, rfl, rfl, by simp [World.setRow], fun k hk hne => setRow_other _ _ _ _ (fun e => hne (by rw [e]))⟩⟩)
end Go.Proofs.YtnhomnaamlbnpaaDoor.Nw
