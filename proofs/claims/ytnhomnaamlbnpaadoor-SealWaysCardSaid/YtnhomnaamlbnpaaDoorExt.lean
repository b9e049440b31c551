/- What stays behind a step of a drawn region: cells, and below B whole blocks. By an AI agent. -/
import Derived.Test.YtnhomnaamlbnpaaDoorM
import Derived.Test.YtnhomnaamlbnpaaDoorAdd
import Derived.Lib.SlBytesConst
import Derived.Laws.Rows
namespace Go.Proofs.YtnhomnaamlbnpaaDoor.Ext
open Go Go.RowKit Go.Proofs.YtnhomnaamlbnpaaDoor.M Go.Proofs.YtnhomnaamlbnpaaDoor.Sha
set_option linter.unusedVariables false

structure Ext (B : Nat) (w w' : World) : Prop where
  os : w'.os = w.os
  tape : w'.tape = w.tape
  output : w'.output = w.output
  size : w.heap.size ≤ w'.heap.size
  block : ∀ k, k < B → w'.heap[k]? = w.heap[k]?
  cells : ∀ (k : Nat) (cs : Array Value) (t : TypeId) (fr : Nat × Nat), w.heap[k]? = some (Obj.cells cs t fr) → ∃ fr' : Nat × Nat, w'.heap[k]? = some (Obj.cells cs t fr')
theorem Ext.refl (B : Nat) (w : World) : Ext B w w := ⟨rfl, rfl, rfl, Nat.le_refl _, fun _ _ => rfl, fun _ _ _ fr h => ⟨fr, h⟩⟩
theorem Ext.trans {B : Nat} {a b c : World} (h : Ext B a b) (k : Ext B b c) : Ext B a c :=
  ⟨k.os.trans h.os, k.tape.trans h.tape, k.output.trans h.output, Nat.le_trans h.size k.size, fun i hi => (k.block i hi).trans (h.block i hi), fun i cs t fr hh => by
    obtain ⟨fr1, h1⟩ := h.cells i cs t fr hh
    exact k.cells i cs t fr1 h1⟩
theorem Ext.of {B : Nat} {w w' : World} (h : Below w.heap.size w w') (hB : B ≤ w.heap.size) : Ext B w w' :=
  ⟨h.os, h.tape, h.output, h.size, fun k hk => h.block k (by omega), fun k cs t fr hh => ⟨fr, (h.block k (by
    rcases Nat.lt_or_ge k w.heap.size with hl | hl
    · exact hl
    · rw [Array.getElem?_eq_none hl] at hh; cases hh)).trans hh⟩⟩
theorem Ext.below {B : Nat} {w w' : World} (h : Ext B w w') : Below B w w' := ⟨h.os, h.tape, h.output, h.size, h.block⟩
theorem Ext.cell {B : Nat} {w w' : World} (h : Ext B w w') {a : Addr} {v : Value} (hc : w.cell? a = some v) : w'.cell? a = some v := by
  unfold World.cell? at hc ⊢
  cases hq : w.heap[a.block]? with
  | none => rw [hq] at hc; cases hc
  | some o =>
    rw [hq] at hc
    cases o with
    | cells cs t fr =>
      obtain ⟨fr', h'⟩ := h.cells _ _ _ _ hq
      rw [h']
      exact hc
    | _ => cases hc
theorem Ext.byts {B : Nat} {w w' : World} {S : Nat → Prop} {v : Value} {l : List UInt8} (e : Ext B w w') (h : Byts w S v l) : Byts w' S v l := by
  obtain ⟨A, n, c, rfl, hl, hnc, hm, h0, hc⟩ := h
  exact ⟨A, n, c, rfl, hl, hnc, hm, h0, fun ad ea hn => ⟨(hc ad ea hn).1, fun j b hb => e.cell ((hc ad ea hn).2 j b hb)⟩⟩
/-- bytes, wherever they lie -/
def Bs (l : List UInt8) (v : Value) (w : World) : Prop := Byts w (fun k => k < w.heap.size) v l
theorem Bs.ext {B : Nat} {w w' : World} {v : Value} {l : List UInt8} (h : Bs l v w) (e : Ext B w w') : Bs l v w' := (e.byts h).sub fun i hi => by have := e.size; omega
theorem Bs.below {w w' : World} {v : Value} {l : List UInt8} (h : Bs l v w) (hb : Below w.heap.size w w') : Bs l v w' := (Byts.same h (same_below hb)).sub fun i hi => by have := hb.size; omega
theorem bel {w w' : World} {g : Nat} {t : TypeId} {cs : Array Value} (h : Blk w g t cs) (hb : Below w.heap.size w w') : Blk w' g t cs := h.same (same_below hb) h.lt
/-- parts, wherever they lie -/
def Ps (ls : List (List UInt8)) (v : Value) (w : World) : Prop := Parts w (fun k => k < w.heap.size) v ls
theorem Ps.ext {B : Nat} {w w' : World} {v : Value} {ls : List (List UInt8)} (h : Ps ls v w) (e : Ext B w w') : Ps ls v w' := by
  obtain ⟨A, c, rfl, h1, h2, h3⟩ := h
  have := e.size
  refine ⟨A, c, rfl, h1, h2, fun i l hl => ?_⟩
  obtain ⟨g, off, u, hA, hg, hc, hb⟩ := h3 i l hl
  exact ⟨g, off, u, hA, by omega, e.cell hc, (e.byts hb).sub fun i hi => by omega⟩
/-- a row of its own, whatever is marked of it -/
def Row (B : Nat) (cs : Array Value) (t : TypeId) (n : Nat) (v : Value) (w : World) : Prop := ∃ g fr, v = .slice (some ⟨g, 0, none⟩) n n ∧ B ≤ g ∧ w.heap[g]? = some (Obj.cells cs t fr)
theorem Row.ext {B : Nat} {w w' : World} {cs : Array Value} {t : TypeId} {n : Nat} {v : Value} (h : Row B cs t n v w) (e : Ext B w w') : Row B cs t n v w' := by
  obtain ⟨g, fr, rfl, hg, hh⟩ := h
  obtain ⟨fr', h'⟩ := e.cells _ _ _ _ hh
  exact ⟨g, fr', rfl, hg, h'⟩
theorem Row.bytes {B : Nat} {w : World} {cs : Array Value} {t : TypeId} {n : Nat} {v : Value} {l : List UInt8} (h : Row B cs t n v w) (hc : cs.toList = l.map fun b => Value.int .u8 (b.toNat : Int)) (hn : l.length = n) (hm : n ≤ maxLen) : Bs l v w := by
  obtain ⟨g, fr, rfl, hg, hh⟩ := h
  refine ⟨_, _, _, rfl, hn, Nat.le_refl _, hm, (fun h0 => by cases h0), ?_⟩
  intro ad h1 _
  cases h1
  refine ⟨(Array.getElem?_eq_some_iff.1 hh).1, fun j b hj => ?_⟩
  rw [Addr.add_lit, cell_of_row w g _ cs t fr hh, ← Array.getElem?_toList, hc]
  simp [hj]
/-- a literal's row, marked -/
theorem row_mark {P : Program} {B : Nat} {w : World} {cs : Array Value} {t e : TypeId} {n : Nat} {v : Value} (h : Row B cs e n v w) (ht : P.underlying t = some (.slice e)) (he : P.underlying e = some (.int .u8)) :
    ∃ w', (convert t t v).run P w = .ok v w' ∧ Ext B w w' ∧ w'.heap.size = w.heap.size := by
  obtain ⟨g, fr, rfl, hg, hh⟩ := h
  have hsh : w.shape? g = some (e, cs.size) := by unfold World.shape?; rw [hh]
  refine ⟨w.freeze ⟨g, cs.size, none⟩ 1, ?_, ?_, ?_⟩
  · simp [convert, run_underlying ht, run_underlying he, markStringish, hsh]
  · unfold World.freeze
    rw [if_neg (by decide)]
    refine ⟨rfl, rfl, rfl, by simp, fun k hk => ?_, fun k cs' t' fr' hk => ?_⟩
    · simp only
      rw [Array.getElem?_modify, if_neg (by show ¬ g = k; omega)]
    · simp only
      rw [Array.getElem?_modify]
      by_cases hkg : g = k
      · subst hkg
        rw [if_pos rfl, hk]
        exact ⟨_, rfl⟩
      · rw [if_neg hkg]
        exact ⟨_, hk⟩
  · unfold World.freeze
    rw [if_neg (by decide)]
    simp
/-- a whole variable read -/
theorem run_load_blk {P : Program} {o : Oper} {a : Act} {w : World} (ty : TypeId) (x : Operand) (ho : o.op = .load ty x) (g : Nat) (hx : a.eval x = .pointer (some ⟨g, 0, none⟩)) (t : TypeId) (cs : Array Value) (d : TypeDesc) (hg : Blk w g t cs)
    (hu : P.underlying ty = some d) (hd : (match d with | .struct _ | .array _ _ => true | _ => false) = true) (hi : (P.info? ty).map (·.size) = some cs.size) : (execOp a.eval o).run P w = .ok (.value (.agg cs)) w := by
  unfold execOp
  simp only [ho, hx, Instr.loadAt, Instr.sureAddr, Sem.run_bind, Sem.run_pure, Result.andThen_ok, run_loadVar_row w g t ty cs (0, 0) d hg hu hd hi]
end Go.Proofs.YtnhomnaamlbnpaaDoor.Ext
