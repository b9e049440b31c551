/- hash and its reference, as hooks of the interpreter over bytes known by terms. By an AI agent. -/
import Derived.Test.YtnhomnaamlbnpaaDoorRm
import Derived.Test.YtnhomnaamlbnpaaDoorAbsS
import Derived.Test.YtnhomnaamlbnpaaDoorLaid
import Derived.ChangeSlices
import Derived.Test.YtnhomnaamlbnpaaDoorCards
namespace Go.Proofs.YtnhomnaamlbnpaaDoor.Ht
open Go Go.RowKit Go.Proofs.YtnhomnaamlbnpaaDoor.Abs Go.Proofs.YtnhomnaamlbnpaaDoor.M Go.Proofs.YtnhomnaamlbnpaaDoor.Sha Go.Proofs.YtnhomnaamlbnpaaDoor.Rs Go.Proofs.YtnhomnaamlbnpaaDoor.Rm
set_option linter.unusedVariables false
/-- bytes of a slice, not of a string -/
noncomputable def srcS (RO : PT AObj) (st : St) : AVal → Option (OP × List UInt8)
  | .str _ => none
  | .sstr _ => none
  | x => srcB RO st x
section
variable {w0 w : World} {φ : Phi} {RO : PT AObj} {st : St}
theorem srcS_byts {x : AVal} {u : Value} {op : OP} {l : List UInt8} (h : srcS RO st x = some (op, l)) (hop : op.ok) (hx : VRel φ x u) (hw : WRel w0 φ st.heap st.next w) (hr : RRel w0 φ RO) (hm : l.length ≤ maxLen) : Byts w (fun k => k < w.heap.size) u l := by
  unfold srcS at h
  split at h
  · cases h
  · cases h
  · rename_i h1 h2
    exact srcB_byts h hop h1 h2 hx hw hr hm
end
variable (RO : PT AObj)
noncomputable def macR (args : List AVal) (st : St) : Option (OP × AVal × St) := match args with
  | [k, x] => (match srcS RO st k, srcS RO st x with | some (o1, kl), some (o2, l) => some (andP (andP o2 (o1.ok ∧ kl.length ≤ 50000)) (l.length ≤ 50000), .agg (dig (hmac kl l)), st) | _, _ => none)
  | _ => none
theorem macR_ok {w0 : World} (hT : FTab w0) : Call1Ok Tryd.prog w0 RO MAC (fun args st => got (macR RO args st)) := by
  intro args st v st' h
  obtain ⟨ob, h, hob⟩ := got_some h
  unfold macR at h
  split at h
  · split at h
    · rename_i k x o1 kl o2 l hk hl
      cases h
      obtain ⟨h1, h2⟩ := andP_some hob
      obtain ⟨h3, h4, h5⟩ := andP_some h1
      refine ⟨.refl _, ⟨_, rfl, rfl, by kernel_rfl⟩, fun φ us w hus hw hr => ?_⟩
      cases hus with
      | cons _ u _ us e1 e2 => cases e2 with
        | cons _ u2 _ us e3 e4 => cases e4 with
          | nil =>
          refine (mac_f (srcS_byts hk h4 e1 hw hr (by unfold maxLen; omega)) (srcS_byts hl h3 e3 hw hr (by unfold maxLen; omega)) (hT.below hw.below) h5 h2).mono fun e w' he => ?_
          obtain ⟨rfl, hb⟩ := he
          exact ⟨_, rfl, quiet_ok hw hb (dig_rel φ (sha_length _))⟩
    · cases h
  · cases h
end Go.Proofs.YtnhomnaamlbnpaaDoor.Ht
namespace Go.Proofs.YtnhomnaamlbnpaaDoor.Ht
open Go Go.RowKit Go.Proofs.YtnhomnaamlbnpaaDoor.Abs Go.Proofs.YtnhomnaamlbnpaaDoor.M Go.Proofs.YtnhomnaamlbnpaaDoor.Sha Go.Proofs.YtnhomnaamlbnpaaDoor.Rs
set_option linter.unusedVariables false
theorem cap_of {φ : Phi} {a : Nat × Nat} {n c z : Nat} {ex : Bool} {v : Value} (h : VRel φ (.sslice a n c ex z) v) : n ≤ c := by
  cases h with
  | sslice => assumption
  | snil => exact Nat.le_refl _
  | semp => exact Nat.zero_le _
end Go.Proofs.YtnhomnaamlbnpaaDoor.Ht
namespace Go.Proofs.YtnhomnaamlbnpaaDoor.Ht
open Go Go.RowKit Go.ChangeShapes Go.Proofs.YtnhomnaamlbnpaaDoor.M Go.Proofs.YtnhomnaamlbnpaaDoor.Sha Go.Proofs.YtnhomnaamlbnpaaDoor.Rs
set_option linter.unusedVariables false
theorem slice_laid {W : World} {name : String} {g : Nat} {t : TypeId} (l : List Nat) {cs : Array Value} {fuel : Nat} {p : List MemPlace} (hg : Tryd.prog.globalNamed name = some g) (ht : Tryd.prog.underlying t = some (.slice 37)) (hvar : W.var? Tryd.prog name = some cs)
    (htr : DataW.trod (fun _ => ()) Tryd.prog W 0 (fun _ => true) false fuel t cs.toList = some (.slice (l.map fun (n : Nat) => .lit (.int .u32 (n : Int))) [], p)) (hne : 0 < l.length) :
    ∃ (R o : Nat) (a : Array Value) (t1 : TypeId) (f1 : Nat × Nat) (t3 : TypeId) (f3 : Nat × Nat), W.heap[g]? = some (.cells #[.slice (some ⟨R, o, none⟩) l.length l.length] t1 f1) ∧ W.heap[R]? = some (.cells a t3 f3) ∧ (a.toList.drop o).take l.length = l.map cell32 := by
  rcases open_ints ht Tryd.underlying37 Open.cellsU32 htr with ⟨_, hx⟩ | ⟨ad, len, cap, zs, hcs, _, hl, hm, hz, hx, hcell, hwz⟩
  · cases hx
  · rw [if_pos rfl] at hz
    have hx1 := congrArg Prod.fst hx
    have e := DataW.slice.inj hx1
    have e2 : zs.drop len = [] := by
      have := e.2
      unfold lits at this
      exact List.map_eq_nil_iff.1 this.symm
    have hlen : zs.length ≤ len := List.drop_eq_nil_iff.1 e2
    have e1 : l.map (fun (n : Nat) => (n : Int)) = zs := by
      have h3 := e.1
      unfold lits at h3
      rw [List.take_of_length_le hlen] at h3
      have h4 : (l.map fun (n : Nat) => (n : Int)).map (fun z => (DataW.lit (.int .u32 z) : DataW Unit)) = zs.map fun z => DataW.lit (.int .u32 z) := by rw [List.map_map]; exact h3
      exact (List.map_inj_right (fun a b hab => by simpa using hab)).1 h4
    have hll : zs.length = l.length := by rw [← e1, List.length_map]
    obtain rfl : len = l.length := by omega
    obtain rfl : cap = l.length := by omega
    obtain rfl : cs = #[.slice (some ad) l.length l.length] := by rw [← Array.toArray_toList (xs := cs), hcs]
    obtain ⟨R, o, spot⟩ := ad
    have hspot : spot = none := by simpa [Addr.add] using World.cell?_spot (hcell 0 (by omega))
    subst hspot
    have hR : ∃ a t3 f3, W.heap[R]? = some (.cells a t3 f3) := by
      have := hcell 0 (by omega)
      rw [Addr.add_lit] at this
      unfold World.cell? at this
      simp only at this
      split at this
      · exact ⟨_, _, _, ‹_›⟩
      all_goals first | (cases this; done) | (simp at this; done)
    obtain ⟨a, t3, f3, hR⟩ := hR
    have hG : ∃ t1 f1, W.heap[g]? = some (.cells #[.slice (some ⟨R, o, none⟩) l.length l.length] t1 f1) := by
      unfold World.var? at hvar
      rw [hg, Option.bind_some] at hvar
      split at hvar
      · rename_i c1 t1 f1 hh
        cases hvar
        exact ⟨_, _, hh⟩
      · cases hvar
    obtain ⟨t1, f1, hG⟩ := hG
    refine ⟨R, o, a, t1, f1, t3, f3, hG, hR, ?_⟩
    have hat : ∀ i, i < l.length → a[o + i]? = some (.int .u32 (zs.getD i 0)) := fun i hi => by
      have := hcell i (by omega)
      rw [Addr.add_lit] at this
      unfold World.cell? at this
      simp only [hR] at this
      simpa using this
    apply List.ext_getElem?
    intro i
    by_cases hi : i < l.length
    · rw [List.getElem?_take_of_lt hi, List.getElem?_drop, Array.getElem?_toList, hat i hi, ← e1, List.getElem?_map, List.getElem?_eq_getElem hi, List.getD_eq_getElem?_getD, List.getElem?_map, List.getElem?_eq_getElem hi]
      rfl
    · have h0 := hat (l.length - 1) (by omega)
      rw [List.getElem?_eq_none (by rw [List.length_take]; omega), List.getElem?_eq_none (by rw [List.length_map]; omega)]
/-- what the three cards' list gives -/
theorem both_of {W : World} (h : laidMet Tryd.prog Rows.hashTellsRow.laid W) : Tab W ∧ FTab W := by
  obtain ⟨ps, ⟨g1, y1, cs1, u1, p1, q1, hg1, hy1, hv1, ht1, ⟨g2, y2, cs2, u2, p2, q2, hg2, hy2, hv2, ht2, hL3, e2⟩, e1⟩, hnd, hc⟩ := h
  have n1 : Tryd.prog.globalNamed "longwire/longwireref02.squares" = some 0 := by kernel_rfl
  have n2 : Tryd.prog.globalNamed "longwire/longwireref02.cubes" = some 1 := by kernel_rfl
  obtain rfl := Option.some.inj (n1.symm.trans hg1)
  obtain rfl := Option.some.inj (n2.symm.trans hg2)
  have m1 : (Tryd.prog.globals[0]?).map (·.type) = some 109 := by kernel_rfl
  have m2 : (Tryd.prog.globals[1]?).map (·.type) = some 109 := by kernel_rfl
  obtain rfl := Option.some.inj (m1.symm.trans hy1)
  obtain rfl := Option.some.inj (m2.symm.trans hy2)
  have hsl : Tryd.prog.underlying 109 = some (.slice 37) := by kernel_rfl
  obtain ⟨R1, o1, a1, t1, f1, t3, f3, k1, k3, k5⟩ := slice_laid init.list n1 hsl hv1 ht1 (by decide)
  obtain ⟨R2, o2, a2, t2, f2, t4, f4, k2, k4, k6⟩ := slice_laid K n2 hsl hv2 ht2 (by decide)
  refine ⟨Open.tab_of (rest := []) ⟨q2, hL3, ?_, fun b off hb => hc b off ?_⟩, R1, o1, R2, o2, a1, a2, t1, t2, t3, t4, f1, f2, f3, f4, k1, k2, k3, k4, k5, k6⟩
  · rw [e1, e2] at hnd
    exact (List.nodup_append.1 (List.nodup_append.1 hnd).2.1).2.1
  · rw [e1, e2]
    exact List.mem_append_right _ (List.mem_append_right _ hb)
/-- A WORLD FOR THE WITNESS: the settled one, the three tables holding their numbers. -/
noncomputable def tabWorld (os : Os) : World :=
  let w := Open.laidWorld os
  { w with heap := (((w.heap.modify 0 fun | .cells _ t fz => .cells #[.slice (some ⟨w.heap.size, 0, none⟩) 8 8] t fz | o => o).modify 1 fun | .cells _ t fz => .cells #[.slice (some ⟨w.heap.size + 1, 0, none⟩) 64 64] t fz | o => o).push (.cells (init.list.map cell32).toArray 37 (0, 0))).push (.cells (K.map cell32).toArray 37 (0, 0)) }
end Go.Proofs.YtnhomnaamlbnpaaDoor.Ht
