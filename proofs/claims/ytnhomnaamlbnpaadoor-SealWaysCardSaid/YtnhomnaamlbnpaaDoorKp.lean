/- What stays behind a step of a drawn region that leaves all blocks as they are; rows that are full. By an AI agent. -/
import Derived.Test.YtnhomnaamlbnpaaDoorM
import Derived.Test.YtnhomnaamlbnpaaDoorExt
import Derived.Test.YtnhomnaamlbnpaaDoorOrd
import Derived.Test.YtnhomnaamlbnpaaDoorSl
import Derived.Test.YtnhomnaamlbnpaaDoorHash
import Derived.Test.YtnhomnaamlbnpaaDoorNw
import Derived.Laws.Append
namespace Go.Proofs.YtnhomnaamlbnpaaDoor.Kp
open Go Go.RowKit Go.Proofs.YtnhomnaamlbnpaaDoor.M Go.Proofs.YtnhomnaamlbnpaaDoor.Sha Go.Proofs.YtnhomnaamlbnpaaDoor.Ext Go.Proofs.YtnhomnaamlbnpaaDoor.Sl Go.Proofs.YtnhomnaamlbnpaaDoor.Ord
set_option linter.unusedVariables false

def Kp (w w' : World) : Prop := Below w.heap.size w w'
theorem Kp.refl (w : World) : Kp w w := Below.refl _ _
theorem Kp.to {w0 w w' : World} (hS : Below w0.heap.size w0 w) (h : Kp w w') : Below w0.heap.size w0 w' := hS.trans (Below.mono h hS.size)
theorem _root_.Go.Proofs.YtnhomnaamlbnpaaDoor.Ext.Bs.kp {w w' : World} {v : Value} {l : List UInt8} (h : Bs l v w) (e : Kp w w') : Bs l v w' := h.below e
theorem drew_kp (w : World) : Below w.heap.size w w.drew := ⟨rfl, rfl, rfl, Nat.le_refl _, fun _ _ => rfl⟩
/-- a row of bytes that is full -/
def Nm (l : List UInt8) (v : Value) (w : World) : Prop := ∃ g, v = .slice (some ⟨g, 0, none⟩) l.length l.length ∧ Blk w g 5 (l.map cell8).toArray
theorem Nm.kp {w w' : World} {v : Value} {l : List UInt8} (h : Nm l v w) (e : Kp w w') : Nm l v w' := by
  obtain ⟨g, hv, hb⟩ := h
  exact ⟨g, hv, bel hb e⟩
theorem Nm.bs {w : World} {v : Value} {l : List UInt8} (h : Nm l v w) (hm : l.length ≤ maxLen) : Bs l v w := by
  obtain ⟨g, rfl, hb⟩ := h
  exact (Sha.Blk.byts hb hm).sub fun i hi => by subst hi; exact hb.lt
/-- parts, wherever they lie -/
theorem _root_.Go.Proofs.YtnhomnaamlbnpaaDoor.Ext.Ps.kp {w w' : World} {v : Value} {ls : List (List UInt8)} (h : Ps ls v w) (e : Kp w w') : Ps ls v w' := by
  exact Ps.ext (B := w.heap.size) h (Ext.of e (Nat.le_refl _))
/-- a row of one byte that was just made -/
def Fresh (cs : Array Value) (t : TypeId) (n : Nat) (v : Value) (w : World) : Prop := ∃ g, v = .slice (some ⟨g, 0, none⟩) n n ∧ Blk w g t cs
theorem Fresh.kp {w w' : World} {v : Value} {cs : Array Value} {t : TypeId} {n : Nat} (h : Fresh cs t n v w) (e : Kp w w') : Fresh cs t n v w' := by
  obtain ⟨g, hv, hb⟩ := h
  exact ⟨g, hv, bel hb e⟩
theorem kp_alloc (w : World) (o : Obj) : Kp w (w.alloc o) := (Below.refl _ _).alloc (Nat.le_refl _) _
/-- bytes put behind a full row: a new one -/
theorem run_append_full {w : World} {v u : Value} {l m : List UInt8} (h : Nm l v w) (hm : Bs m u w) (hp : 0 < m.length) (hb : l.length + m.length ≤ 140737488355328) :
    ∃ v' w', (Builtin.append_ #[22, 22] 22 #[v, u]).run Tryd.prog w = .ok v' w' ∧ Bs (l ++ m) v' w' ∧ Kp w w' := by
  obtain ⟨i0, hi0, hz0, hz1, hz2⟩ := info_parts infoByte
  obtain ⟨g, rfl, hg⟩ := h
  obtain ⟨A, c, rfl, hnc, hmx, hat⟩ := hm.row
  have hx0 := hat 0 _ (List.getElem?_eq_getElem hp)
  obtain ⟨b, off, rfl, hSb, _⟩ := hx0
  have hr := run_append_grow (P := Tryd.prog) (w := w) 22 22 5 i0 (.int .u8 0) Tryd.underlying22 hi0 hz0
    ⟨g, 0, none⟩ l.length l.length (l.map cell8) (by simp [hz1]) (fun j v hj => by rw [Addr.add_lit, Nat.zero_add, hg.cell, List.getElem?_toArray]; exact hj)
    ⟨b, off, none⟩ m.length c (m.map cell8) (by simp [hz1]) (fun j v hj => by
      rw [List.getElem?_map] at hj
      obtain ⟨x, hx, rfl⟩ := Option.map_eq_some_iff.1 hj
      obtain ⟨b', off', hA, _, hcc⟩ := hat j x hx
      obtain ⟨rfl, rfl⟩ : b = b' ∧ off = off' := by simpa using hA
      rw [Addr.add_lit]; exact hcc) (by omega) (by omega) (growslice_fits (by omega) (by rw [hz2]; omega))
  refine ⟨_, _, hr, ?_, ((Below.refl _ _).alloc (Nat.le_refl _) _).drew⟩
  have hc := grownCap_ge w (l.length + m.length) l.length 5
  refine ⟨_, _, _, rfl, by simp, hc, by unfold maxLen; omega, (fun h0 => by cases h0), ?_⟩
  intro ad h1 _
  cases h1
  refine ⟨by simp, fun j x hj => ?_⟩
  rw [Addr.add_lit, Nat.zero_add]
  refine (cell_of_row _ w.heap.size j _ _ (0, 0) (heap_alloc_new w.drew _)).trans ?_
  rw [← Array.getElem?_toList]
  simp only [Array.toList_append, List.append_assoc]
  rw [← List.append_assoc, List.getElem?_append_left (by have := (List.getElem?_eq_some_iff.1 hj).1; simpa using this), ← List.map_append, List.getElem?_map, hj]
  rfl
theorem put_of {w : World} {g : Nat} {t : TypeId} {old cs : Array Value} (hg : Blk w g t old) (hold : old.size = cs.size) : Nw.Put w (w.setRow g cs) g t cs :=
  ⟨setRow_heap _ _ _ _ _ _ hg, by simp [World.setRow], ⟨rfl, rfl, rfl, by simp [World.setRow], fun k hk hne => setRow_other _ _ _ _ (fun e => hne (by rw [e]))⟩⟩
theorem left_same {ops : Array Oper} {a : Act} {j : Nat} {u v : Value} (h : Ord.Left ops a j u) (k : Ord.Left ops a j v) {d : Tmp} (hd : dstOf ops j = some d) (hs : d < a.tmps.size) : u = v := Option.some.inj ((h d hd hs).symm.trans (k d hd hs))
end Go.Proofs.YtnhomnaamlbnpaaDoor.Kp
