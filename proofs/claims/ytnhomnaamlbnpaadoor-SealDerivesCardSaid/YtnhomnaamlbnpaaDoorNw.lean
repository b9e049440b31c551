/- New blocks under names: laws of single operations that hand the world on as a letter. By an AI agent. -/
import Derived.Test.YtnhomnaamlbnpaaDoorProg
import Derived.Test.YtnhomnaamlbnpaaDoorM
import Derived.Test.YtnhomnaamlbnpaaDoorArr
import Derived.Great.Walk
import Derived.Laws.Tables
import Derived.Laws.Rows
namespace Go.Proofs.YtnhomnaamlbnpaaDoor.Nw
open Go.RowKit Go.Great Go.Proofs.YtnhomnaamlbnpaaDoor.M
set_option linter.unusedVariables false

/-- a block that was just made -/
structure New (w w' : World) (g : Nat) (t : TypeId) (cs : Array Value) : Prop where
  is : g = w.heap.size
  blk : Blk w' g t cs
  size : w'.heap.size = w.heap.size + 1
  below : Below w.heap.size w w'
theorem New.of (w : World) (t : TypeId) (cs : Array Value) : New w (w.alloc (.cells cs t)) w.heap.size t cs := ⟨rfl, Blk.new w t cs, World.size_alloc .., (Below.refl _ _).alloc (Nat.le_refl _) _⟩
/-- a block that was written -/
structure Put (w w' : World) (g : Nat) (t : TypeId) (cs : Array Value) : Prop where
  blk : Blk w' g t cs
  size : w'.heap.size = w.heap.size
  grown : w.grownBy w' (some g)
section
variable {P : Program} {ops : Array Oper} {rest : List Oper} {o : Oper} {a : Act} {w : World} {Q : Exit → Act → World → Prop}
theorem wpList_alloc_new (hgd : o.guard = none) (t : TypeId) (ho : o.op = .alloc t) (cs : Array Value)
    (hz : ∀ w, (Instr.alloc t true (.tuple #[])).run P w = .ok (.pointer (some ⟨w.heap.size, 0, none⟩)) (w.alloc (.cells cs t)))
    (h : ∀ g w', New w w' g t cs → wpList P ops Q rest (a.put o.dst (.pointer (some ⟨g, 0, none⟩))) w') : wpList P ops Q (o :: rest) a w :=
  wpList_alloc_as hgd t ho cs hz (h _ _ (New.of w t cs))
theorem wpList_box_new (hgd : o.guard = none) (t : TypeId) (x : Operand) (ho : o.op = .box t x) (cs : Array Value) (hx : (a.eval x).cells = cs)
    (h : ∀ g w', New w w' g t cs → wpList P ops Q rest (a.put o.dst (.pointer (some ⟨g, 0, none⟩))) w') : wpList P ops Q (o :: rest) a w :=
  wpList_boxTo hgd t x ho o.dst rfl w.heap.size rfl cs hx (h _ _ (New.of w t cs))
theorem wpList_slice_new (hgd : o.guard = none) (t e : TypeId) (len : Nat) (parts : Array (Nat × Operand)) (ho : o.op = .buildSlice t len parts) (hu : P.underlying t = some (.slice e)) (cs : Array Value)
    (hf : P.builtSlice e len (parts.map fun (i, x) => (i, a.eval x)).toList = some cs)
    (h : ∀ g w', New w w' g e cs → wpList P ops Q rest (a.put o.dst (.slice (some ⟨g, 0, none⟩) len len)) w') : wpList P ops Q (o :: rest) a w :=
  wpList_buildSliceTo hgd t e len parts ho w.heap.size rfl o.dst rfl hu cs hf (h _ _ (New.of w e cs))
theorem wpList_store_all (hgd : o.guard = none) (ty : TypeId) (x y : Operand) (ho : o.op = .store ty x y) (g : Nat) (cs : Array Value) (hx : a.eval x = .pointer (some ⟨g, 0, none⟩)) (hy : a.eval y = .agg cs)
    (t : TypeId) (old : Array Value) (hg : Blk w g t old) (hi : (P.info? ty).map (·.size) = some cs.size) (hold : old.size = cs.size) (h1 : cs.all (·.oneCell') = true)
    (h : ∀ w', Put w w' g t cs → wpList P ops Q rest (a.put o.dst undef) w') : wpList P ops Q (o :: rest) a w :=
  wpList_store_row hgd ty x y ho g cs hx hy t old hg hi hold h1 (h _ ⟨setRow_heap _ _ _ _ _ _ hg, by simp [World.setRow],
    ⟨rfl, rfl, rfl, by simp [World.setRow], fun k hk hne => setRow_other _ _ _ _ (fun e => hne (by rw [e]))⟩⟩)
end
/-- one element, two -/
theorem built1 {P : Program} {e : TypeId} {i : TypeInfo} {z : Value} (hi : P.info? e = some i) (hz : i.zero = some z) (hs : i.size = 1) (u : Value) (hu : u.cells = #[u]) : P.builtSlice e 1 [(0, u)] = some #[u] := by
  unfold Program.builtSlice
  simp only [hi, hz, hs]
  rw [if_neg (by simp)]
  have hr : Array.range 1 = #[0] := rfl
  simp [Instr.fill, hu, hr]
section
variable {P : Program} {ops : Array Oper} {rest : List Oper} {o : Oper} {a : Act} {w : World} {Q : Exit → Act → World → Prop}
theorem wpList_slice1 (hgd : o.guard = none) (t e : TypeId) (x : Operand) (ho : o.op = .buildSlice t 1 #[(0, x)]) (hu : P.underlying t = some (.slice e)) {i : TypeInfo} {z : Value} (hi : P.info? e = some i) (hz : i.zero = some z) (hs : i.size = 1)
    (u : Value) (hx : a.eval x = u) (h1 : u.cells = #[u])
    (h : ∀ g w', New w w' g e #[u] → wpList P ops Q rest (a.put o.dst (.slice (some ⟨g, 0, none⟩) 1 1)) w') : wpList P ops Q (o :: rest) a w :=
  wpList_slice_new hgd t e 1 _ ho hu #[u] (by subst hx; simpa using built1 hi hz hs _ h1) h
end
end Go.Proofs.YtnhomnaamlbnpaaDoor.Nw
