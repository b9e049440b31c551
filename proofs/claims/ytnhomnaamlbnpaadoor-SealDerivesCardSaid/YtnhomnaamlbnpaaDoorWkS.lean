/- What every statement of layer 3 ends with: the chapter's example. By an AI agent. -/
import Derived.Test.YtnhomnaamlbnpaaDoorSeal
import Derived.Lib.SlBytesConst
import Derived.Stop.BytesEq
import Derived.Test.YtnhomnaamlbnpaaDoorM
import Derived.Test.YtnhomnaamlbnpaaDoorAdd
import Derived.Laws.Rows
import Derived.Orders
import Derived.WalkKit
namespace Go.Proofs.YtnhomnaamlbnpaaDoor.Ord
open Go
set_option linter.unusedVariables false

section
variable {P : Program} {ops : Array Oper} {Q : Exit → Act → World → Prop} {md : Region.Mode}
/-- each operation's temporary filled -/
def fillFrom (X : Nat → Value) : List Oper → Nat → Act → Act
  | [], _, a => a
  | o :: os, j, a => fillFrom X os (j + 1) (a.put o.dst (X j))
def frame (a0 : Act) (ops : Array Oper) (X : Nat → Value) : Act := fillFrom X ops.toList 0 a0
def dsts (ops : Array Oper) : List Tmp := ops.toList.filterMap (·.dst)
def dstOf (ops : Array Oper) (i : Nat) : Option Tmp := (ops[i]?).bind (·.dst)
/-- what stood there -/
def old (a0 : Act) (ops : Array Oper) : Nat → Value := fun j => match dstOf ops j with | some d => a0.tmps.getD d undef | none => undef
/-- those that i waits for -/
def deps (ops : Array Oper) (i : Nat) : List Nat := (((ops[i]?).map fun o => (o.after.toList.filter (Region.binds .any)).map (·.on)).getD [])

def Closed (ops : Array Oper) (listed : Array Bool) : Prop := ∀ j, listed.getD j false = true → ∀ i ∈ deps ops j, listed.getD i false = true
theorem Closed.set {listed : Array Bool} (hC : Closed ops listed) {i : Nat} (hs : listed.size = ops.size) (hlt : i < ops.size) (hd : ∀ j ∈ deps ops i, listed.getD j false = true ∧ j < ops.size) : Closed ops (listed.setIfInBounds i true) := fun j hj k hk => by
  by_cases hki : i = k
  · subst hki; simp [hs, hlt]
  · rw [getD_set_ne false hki]
    by_cases hji : i = j
    · subst hji; exact (hd k hk).1
    · rw [getD_set_ne false hji] at hj
      exact hC j hj k hk
/-- a slot that no operation has written when i runs -/
def free (ops : Array Oper) (i d : Nat) : Bool := !(dsts ops).contains d || (List.range ops.size).any fun k => (dstOf ops k == some d) && (deps ops k).contains i

/-- what is asked of an operation's value, and that it stays -/
structure Spec (E : World → World → Prop) where
  R : Value → World → Prop
  keep : ∀ v w w', R v w → E w w' → R v w'
def Spec.is {E : World → World → Prop} (u : Value) : Spec E := ⟨fun v _ => v = u, fun _ _ _ h _ => h⟩
def Spec.any {E : World → World → Prop} : Spec E := ⟨fun _ _ => True, fun _ _ _ _ _ => trivial⟩
def Each (p : Nat → Prop) : Nat → Nat → Prop
  | 0, _ => True
  | n + 1, k => p k ∧ Each p n (k + 1)
theorem Each.at_ {p : Nat → Prop} : ∀ (n k : Nat), Each p n k → ∀ i, k ≤ i → i < k + n → p i
  | 0, k, _, i, h1, h2 => by omega
  | n + 1, k, h, i, h1, h2 => by
    by_cases hk : i = k
    · subst hk; exact h.1
    · exact Each.at_ n (k + 1) h.2 i (by omega) (by omega)
/-- operation j has left v -/
def Left (ops : Array Oper) (a : Act) (j : Nat) (v : Value) : Prop := ∀ d, dstOf ops j = some d → d < a.tmps.size → a.tmps[d]? = some v
/-- a duty's end: the value put, and what stays -/
def Kept (ops : Array Oper) (S : World → Prop) (E : World → World → Prop) (SP : List (Spec E)) (i : Nat) (a : Act) (w : World) : Act → World → Prop :=
  fun a' w' => ∃ v, a' = a.put (dstOf ops i) v ∧ (SP.getD i Spec.any).R v w' ∧ S w' ∧ E w w'
theorem Kept.mk {S : World → Prop} {E : World → World → Prop} {SP : List (Spec E)} {i : Nat} {a : Act} {w w' : World} {d : Option Tmp} (hd : dstOf ops i = d) (v : Value) (h : (SP.getD i Spec.any).R v w') (hS : S w') (hE : E w w') : Kept ops S E SP i a w (a.put d v) w' := by
  subst hd; exact ⟨v, rfl, h, hS, hE⟩
end
end Go.Proofs.YtnhomnaamlbnpaaDoor.Ord
namespace Go.Proofs.YtnhomnaamlbnpaaDoor.Ext
open Go Go.RowKit Go.Proofs.YtnhomnaamlbnpaaDoor.M Go.Proofs.YtnhomnaamlbnpaaDoor.Sha
set_option linter.unusedVariables false

structure Ext (B : Nat) (w w' : World) : Prop where
  os : w'.os = w.os
  tape : w'.tape = w.tape
  output : w'.output = w.output
  size : w.heap.size ≤ w'.heap.size
  block : ∀ k, k < B → w'.heap[k]? = w.heap[k]?
  cells : ∀ (k : Nat) (cs : Array Value) (t : TypeId) (fr : Nat × Nat), w.heap[k]? = some (Obj.cells cs t fr) → ∃ fr' : Nat × Nat, w'.heap[k]? = some (Obj.cells cs t fr')
theorem Ext.refl (B : Nat) (w : World) : Ext B w w := ⟨rfl, rfl, rfl, Nat.le_refl _, fun _ _ => rfl, fun _ _ _ fr h => ⟨fr, h⟩⟩
theorem Ext.trans {B : Nat} {a b c : World} (h : Ext B a b) (k : Ext B b c) : Ext B a c :=
  ⟨k.os.trans h.os, k.tape.trans h.tape, k.output.trans h.output, Nat.le_trans h.size k.size, fun i hi => (k.block i hi).trans (h.block i hi), fun i cs t fr hh => by
    obtain ⟨fr1, h1⟩ := h.cells i cs t fr hh
    exact k.cells i cs t fr1 h1⟩
theorem Ext.of {B : Nat} {w w' : World} (h : Below w.heap.size w w') (hB : B ≤ w.heap.size) : Ext B w w' :=
  ⟨h.os, h.tape, h.output, h.size, fun k hk => h.block k (by omega), fun k cs t fr hh => ⟨fr, (h.block k (by
    rcases Nat.lt_or_ge k w.heap.size with hl | hl
    · exact hl
    · rw [Array.getElem?_eq_none hl] at hh; cases hh)).trans hh⟩⟩
theorem Ext.below {B : Nat} {w w' : World} (h : Ext B w w') : Below B w w' := ⟨h.os, h.tape, h.output, h.size, h.block⟩
theorem Ext.cell {B : Nat} {w w' : World} (h : Ext B w w') {a : Addr} {v : Value} (hc : w.cell? a = some v) : w'.cell? a = some v := by
  unfold World.cell? at hc ⊢
  cases hq : w.heap[a.block]? with
  | none => rw [hq] at hc; cases hc
  | some o =>
    rw [hq] at hc
    cases o with
    | cells cs t fr =>
      obtain ⟨fr', h'⟩ := h.cells _ _ _ _ hq
      rw [h']
      exact hc
    | _ => cases hc
theorem Ext.byts {B : Nat} {w w' : World} {S : Nat → Prop} {v : Value} {l : List UInt8} (e : Ext B w w') (h : Byts w S v l) : Byts w' S v l := by
  obtain ⟨A, n, c, rfl, hl, hnc, hm, h0, hc⟩ := h
  exact ⟨A, n, c, rfl, hl, hnc, hm, h0, fun ad ea hn => ⟨(hc ad ea hn).1, fun j b hb => e.cell ((hc ad ea hn).2 j b hb)⟩⟩
/-- bytes, wherever they lie -/
def Bs (l : List UInt8) (v : Value) (w : World) : Prop := Byts w (fun k => k < w.heap.size) v l
theorem Bs.ext {B : Nat} {w w' : World} {v : Value} {l : List UInt8} (h : Bs l v w) (e : Ext B w w') : Bs l v w' := (e.byts h).sub fun i hi => by have := e.size; omega
theorem Bs.below {w w' : World} {v : Value} {l : List UInt8} (h : Bs l v w) (hb : Below w.heap.size w w') : Bs l v w' := (Byts.same h (same_below hb)).sub fun i hi => by have := hb.size; omega
theorem bel {w w' : World} {g : Nat} {t : TypeId} {cs : Array Value} (h : Blk w g t cs) (hb : Below w.heap.size w w') : Blk w' g t cs := h.same (same_below hb) h.lt
/-- parts, wherever they lie -/
def Ps (ls : List (List UInt8)) (v : Value) (w : World) : Prop := Parts w (fun k => k < w.heap.size) v ls
theorem Ps.ext {B : Nat} {w w' : World} {v : Value} {ls : List (List UInt8)} (h : Ps ls v w) (e : Ext B w w') : Ps ls v w' := by
  obtain ⟨A, c, rfl, h1, h2, h3⟩ := h
  have := e.size
  refine ⟨A, c, rfl, h1, h2, fun i l hl => ?_⟩
  obtain ⟨g, off, u, hA, hg, hc, hb⟩ := h3 i l hl
  exact ⟨g, off, u, hA, by omega, e.cell hc, (e.byts hb).sub fun i hi => by omega⟩
/-- a row of its own, whatever is marked of it -/
def Row (B : Nat) (cs : Array Value) (t : TypeId) (n : Nat) (v : Value) (w : World) : Prop := ∃ g fr, v = .slice (some ⟨g, 0, none⟩) n n ∧ B ≤ g ∧ w.heap[g]? = some (Obj.cells cs t fr)
theorem Row.ext {B : Nat} {w w' : World} {cs : Array Value} {t : TypeId} {n : Nat} {v : Value} (h : Row B cs t n v w) (e : Ext B w w') : Row B cs t n v w' := by
  obtain ⟨g, fr, rfl, hg, hh⟩ := h
  obtain ⟨fr', h'⟩ := e.cells _ _ _ _ hh
  exact ⟨g, fr', rfl, hg, h'⟩
theorem Row.bytes {B : Nat} {w : World} {cs : Array Value} {t : TypeId} {n : Nat} {v : Value} {l : List UInt8} (h : Row B cs t n v w) (hc : cs.toList = l.map fun b => Value.int .u8 (b.toNat : Int)) (hn : l.length = n) (hm : n ≤ maxLen) : Bs l v w := by
  obtain ⟨g, fr, rfl, hg, hh⟩ := h
  refine ⟨_, _, _, rfl, hn, Nat.le_refl _, hm, (fun h0 => by cases h0), ?_⟩
  intro ad h1 _
  cases h1
  refine ⟨(Array.getElem?_eq_some_iff.1 hh).1, fun j b hj => ?_⟩
  rw [Addr.add_lit, cell_of_row w g _ cs t fr hh, ← Array.getElem?_toList, hc]
  simp [hj]
end Go.Proofs.YtnhomnaamlbnpaaDoor.Ext
namespace Go.Proofs.YtnhomnaamlbnpaaDoor.Seal
open Go.RowKit Go.Proofs.YtnhomnaamlbnpaaDoor.M Go.Proofs.YtnhomnaamlbnpaaDoor.Sha Go.Proofs.YtnhomnaamlbnpaaDoor.Nw Go.Proofs.YtnhomnaamlbnpaaDoor.Ld Go.Proofs.YtnhomnaamlbnpaaDoor.Ord Go.Proofs.YtnhomnaamlbnpaaDoor.Ext
set_option linter.unusedVariables false
set_option maxRecDepth 20000

def k0 : List UInt8 := hmac [107, 101, 121] (lay [104, 101, 108, 108, 111] [])
end Go.Proofs.YtnhomnaamlbnpaaDoor.Seal
