/- Closed functions run by an interpreter: what an operation that writes or calls does. By an AI agent. -/
import Derived.Test.YtcofcojjofkgcaaAbsQ
import Derived.RangeFuncLeaves
import Derived.RangeFuncRecord
import Derived.RangeFuncNested
import Derived.OrdersIn
import Derived.TacticsIn
import Derived.LoopNIn
namespace Go.Proofs.Ytcofcojjofkgcaa.Abs
open Go Go.RowKit
set_option linter.unusedVariables false
/-- what the log tells -/
def Logs (st st' : St) : Prop := ∃ L, st'.log = L ++ st.log ∧ st.next ≤ st'.next ∧ ∀ b, b < st.next → b ∉ L → st'.heap.get b = st.heap.get b
theorem Logs.refl (st : St) : Logs st st := ⟨[], rfl, Nat.le_refl _, fun _ _ _ => rfl⟩
theorem Logs.trans {a b c : St} (h : Logs a b) (k : Logs b c) : Logs a c := by
  obtain ⟨L, h1, h2, h3⟩ := h
  obtain ⟨M, k1, k2, k3⟩ := k
  exact ⟨M ++ L, by rw [k1, h1, List.append_assoc], by omega, fun x hx hn => by
    simp only [List.mem_append, not_or] at hn
    rw [k3 x (by omega) hn.1, h3 x hx hn.2]⟩
section
variable {w0 : World} {φ : Phi} {P : Program} {RO : PT AObj}
theorem light_logs {st st' : St} {r : LRes} {v : AVal} (h : doLight RO st r = some (v, st')) : Logs st st' := by
  unfold doLight at h
  split at h
  · cases h; exact .refl _
  · cases h; exact .refl _
  · split at h
    · split at h
      · cases h; exact .refl _
      · cases h
    · cases h
  · cases h
    exact ⟨[], rfl, Nat.le_succ _, fun b hb _ => by
      show (st.heap.set st.next _).get b = _
      rw [PT.get_set, if_neg (by omega)]⟩
  · split at h
    · cases h; exact .refl _
    · cases h
theorem storeA0_logs {st st' : St} {b o : Nat} {vs : List AVal} (h : storeA0 st b o vs = some st') : Logs st st' := by
  unfold storeA0 at h
  split at h
  · split at h
    · cases h
      exact ⟨[b], rfl, Nat.le_refl _, fun x _ hn => by
        show (st.heap.set b _).get x = _
        rw [PT.get_set, if_neg (by simpa using hn)]⟩
    · cases h
  · cases h
theorem putObj_logs {st : St} {b : Nat} {o : AObj} : Logs st (putObj st b o) := ⟨[b], rfl, Nat.le_refl _, fun y _ hn => by
  show (st.heap.set b _).get y = _
  rw [PT.get_set, if_neg (by simpa using hn)]⟩
theorem storeA_logs {st st' : St} {b o : Nat} {vs : List AVal} (h : storeA st b o vs = some st') : Logs st st' := by
  obtain ⟨op, h, _⟩ := got_some h
  unfold storeP at h
  split at h
  · cases h; exact storeA0_logs ‹_›
  · unfold storeS at h
    split at h
    · split at h
      · cases h; exact putObj_logs
      · cases h
    · rename_i k _ _ _ _ _ _
      split at h
      · rename_i j z hz
        cases hk : kindEq j k with
        | false => rw [hk] at h; cases h
        | true => rw [hk] at h; cases h; exact putObj_logs
      · cases h
    · cases h
theorem appendB_logs {st st' : St} {e : TypeId} {s x v : AVal} {op : OP} (h : appendB P RO st e s x = some (op, v, st')) : Logs st st' := by
  have go : ∀ n ob new b o len cap ex z, appendG st e n ob new b o len cap ex z = some (op, v, st') → Logs st st' := fun n ob new b o len cap ex z h => by
    unfold appendG at h
    split at h
    · cases h
    · split at h
      · cases h
      · cases hz : Nat.beq z 1 with
        | false => rw [hz] at h; cases h
        | true =>
          rw [hz] at h; cases h
          exact ⟨[b], rfl, Nat.le_succ _, fun y hy hn => by
            show ((st.heap.set b none).set st.next _).get y = _
            rw [PT.get_set, if_neg (by omega), PT.get_set, if_neg (by simpa using hn)]⟩
  unfold appendB at h
  cases hc : byteT P e with
  | false => rw [hc] at h; cases h
  | true =>
  rw [hc] at h
  simp only [cond_true] at h
  split at h
  · cases h
  · split at h
    · cases h
      exact ⟨[], rfl, Nat.le_succ _, fun y hy _ => by
        show (st.heap.set st.next _).get y = _
        rw [PT.get_set, if_neg (by omega)]⟩
    · exact go _ _ _ _ _ _ _ _ _ h
    · exact go _ _ _ _ _ _ _ _ _ h
    · cases h
theorem appendI_logs {st st' : St} {e : TypeId} {s x v : AVal} {op : OP} (h : appendI P RO st e s x = some (op, v, st')) : Logs st st' := by
  have go : ∀ k n ob new b o len cap ex z, appendJ st e k n ob new b o len cap ex z = some (op, v, st') → Logs st st' := fun k n ob new b o len cap ex z h => by
    unfold appendJ at h
    split at h
    · cases h
    · split at h
      · cases h
      · cases hz : Nat.beq z 1 with
        | false => rw [hz] at h; cases h
        | true =>
          rw [hz] at h; cases h
          exact ⟨[b], rfl, Nat.le_succ _, fun y hy hn => by
            show ((st.heap.set b none).set st.next _).get y = _
            rw [PT.get_set, if_neg (by omega), PT.get_set, if_neg (by simpa using hn)]⟩
  unfold appendI at h
  split at h
  · cases h
  · split at h
    · cases h
    · split at h
      · cases h
        exact ⟨[], rfl, Nat.le_succ _, fun y hy _ => by
          show (st.heap.set st.next _).get y = _
          rw [PT.get_set, if_neg (by omega)]⟩
      · exact go _ _ _ _ _ _ _ _ _ _ h
      · exact go _ _ _ _ _ _ _ _ _ _ h
      · cases h
theorem copyB_logs {st st' : St} {e : TypeId} {s x v : AVal} {op : OP} (h : copyB P RO st e s x = some (op, v, st')) : Logs st st' := by
  have go : ∀ n ob new b o len, copyG st n ob new b o len = some (op, v, st') → Logs st st' := fun n ob new b o len h => by
    unfold copyG at h
    split at h
    · cases h
    · split at h
      · cases h; exact putObj_logs
      · cases h
  unfold copyB at h
  cases hc : byteT P e with
  | false => rw [hc] at h; cases h
  | true =>
  rw [hc] at h
  simp only [cond_true] at h
  split at h
  · cases h
  · split at h
    · exact go _ _ _ _ _ _ h
    · exact go _ _ _ _ _ _ h
    · cases h
theorem growA_logs {st st' : St} {e : TypeId} {size n : Nat} {ex : Bool} {base : Option (Nat × Nat)} {all : List AVal} {v : AVal} (h : growA st e size n ex base all = some (v, st')) : Logs st st' := by
  have plain : ∀ s : St, s = { heap := st.heap.set st.next (some (.cells all e)), next := Nat.succ st.next, log := st.log } → Logs st s := fun s hs => by
    subst hs
    exact ⟨[], rfl, Nat.le_succ _, fun b hb _ => by
      show (st.heap.set st.next _).get b = _
      rw [PT.get_set, if_neg (by omega)]⟩
  unfold growA at h
  split at h
  · split at h
    · cases h
      exact ⟨[_], rfl, Nat.le_succ _, fun x hx hn => by
        refine (PT.get_set _ _ _ _).trans ?_
        rw [if_neg (by omega), PT.get_set, if_neg (by simpa using hn)]⟩
    · cases h
  · cases h; exact plain _ rfl
theorem appendA_logs {st st' : St} {e : TypeId} {s x v : AVal} (h : appendA P RO st e s x = some (v, st')) : Logs st st' := by
  unfold appendA at h
  split at h
  · rename_i size zero base len cap ex z n h1 h2 h3
    cases hb : (Nat.blt 65536 (len + n) || Nat.beq size 0 || Nat.blt 1048576 (P.bytesOf e) || !(ex || Nat.beq z size) || !(Nat.beq (lenL zero.cells 0) size)) with
    | true => rw [hb] at h; cases h
    | false =>
    rw [hb] at h
    simp only [cond_false] at h
    split at h
    · cases h
    · rename_i new hnew
      cases hone : oneA new with
      | false => rw [hone] at h; cases h
      | true =>
      rw [hone] at h
      simp only [Bool.not_true, cond_false] at h
      cases hfit : Nat.ble (len + n) cap with
      | true =>
        rw [hfit] at h
        simp only [cond_true] at h
        unfold putInA at h
        split at h
        · cases hz : Nat.beq (len + n) 0 with
          | false => rw [hz] at h; cases h
          | true => rw [hz] at h; cases h; exact .refl _
        · split at h
          · cases h; exact storeA_logs ‹_›
          · cases h
      | false =>
        rw [hfit] at h
        simp only [cond_false] at h
        split at h
        · cases h
        · exact growA_logs h
  · cases h
theorem copyA_logs {st st' : St} {e : TypeId} {d x v : AVal} (h : copyA P RO st e d x = some (v, st')) : Logs st st' := by
  unfold copyA at h
  split at h
  · dsimp only at h
    split at h
    · cases h
    · split at h
      · cases h; exact .refl _
      · split at h
        · cases h; exact storeA_logs ‹_›
        · cases h
  · cases h
/-- a frame of whatever function, in a round or not -/
def FR (r : Option Nat) : Fence := { fn := fun _ => True, depth := none, alive := false, round := r }
theorem callsFR {f : FuncId} {args : Array Value} {w : World} {R : Ending → World → Prop} (r : Option Nat) (k : Nat) (h : Calls P f args w R) : CallsIn (FR r) k P f args w R :=
  ⟨trivial, fun cs _ => let ⟨e, w', fr, q, s, x⟩ := h cs; ⟨e, w', fr, q, comesIn_wide.2 s, x⟩⟩
theorem wpIn_of {o : Oper} {a : Act} {w : World} {rg : Option Nat} {k : Nat} {K : Act → World → Prop} {Q : Exit → Act → World → Prop} (hnd : ∀ c, o.op ≠ .defer c) (h : o.uponIn (FR rg) k P a K Q ((execOp a.eval o).run P w)) : o.wpIn (FR rg) k P a w K Q := by
  refine ⟨fun _ _ => trivial, ?_⟩
  rw [Oper.semAt_eq _ _ _ hnd]
  exact h
/-- what calls must do -/
def CallOk (P : Program) (w0 : World) (RO : PT AObj) (call : Who → List AVal → St → Option (AVal × St)) : Prop :=
  ∀ who args st v st', call who args st = some (v, st') → Logs st st' ∧ match who with
    | .fn f => (∃ fn, P.funcs[f]? = some fn ∧ fn.body.isNone = false ∧ (fn.name == "runtime.NumGoroutine") = false) ∧
      ∀ φ us w, VRels φ args us → WRel w0 φ st.heap st.next w → RRel w0 φ RO → Calls P f us.toArray w fun e w' => ∃ u, e = .returned u ∧ StepOk w0 φ st w v st' u w'
    | .yield x => ∀ φ us w g b m, φ x = some (g, b, m) → VRels φ args us → WRel w0 φ st.heap st.next w → RRel w0 φ RO → ∃ fn tm asg bd, (Instr.yield g us.toArray).run P w = .ok (.round g fn tm asg bd) w ∧
      ∀ rg k, RoundIn (FR rg) k P g fn tm asg bd w fun e w' => ∃ u, e = .returned u ∧ StepOk w0 φ st w v st' u w'
theorem frz_logs {st st1 : St} {v v' : AVal} {ob : OP} (h : frz st v = some (ob, v', st1)) : Logs st st1 := by
  have kill : ∀ b, Logs st { heap := st.heap.set b none, next := st.next, log := b :: st.log } := fun b => ⟨[b], rfl, Nat.le_refl _, fun y _ hn => by
    show (st.heap.set b none).get y = _
    rw [PT.get_set, if_neg (by simpa using hn)]⟩
  unfold frz at h
  split at h
  · split at h
    · cases hb : (Nat.beq _ 0 && Nat.beq _ 1) with
      | false => rw [hb] at h; cases h
      | true => rw [hb] at h; cases h; exact kill _
    · cases h
  · split at h
    · split at h
      · cases hb : (Nat.beq _ 0 && Nat.beq _ (lenL _ 0)) with
        | false => rw [hb] at h; cases h
        | true => rw [hb] at h; cases h; exact kill _
      · cases h
    · cases h
  all_goals first | (cases h; exact Logs.refl _) | cases h
theorem frzs_logs : ∀ {vs vs' : List AVal} {st st1 : St} {ob : OP}, frzs st vs = some (ob, vs', st1) → Logs st st1
  | [], _, _, _, _, h => by cases h; exact Logs.refl _
  | v :: vs, _, st, st1, ob, h => by
    simp only [frzs] at h
    split at h
    · rename_i h1
      split at h
      · rename_i h2
        cases h
        exact (frz_logs h1).trans (frzs_logs h2)
      · cases h
    · cases h
theorem appendT_logs {st st' : St} {e : TypeId} {s x v : AVal} {op : OP} (h : appendT P st e s x = some (op, v, st')) : Logs st st' := by
  unfold appendT at h
  split at h
  · split at h
    · split at h
      · rename_i ob vs' st1 hfz
        split at h
        · split at h
          · rename_i b _ _ _ _ sb _ _ _ _ _ _ _ _ _ _ _ _ _ _ _ _ _ _ _ _ _ _ _ _ _
            cases hbb : (Nat.beq _ _ && Nat.beq _ 1 && Nat.beq _ 0 && Nat.beq _ 0 && Nat.beq _ _ && Nat.beq _ _ && Nat.blt 0 _ && Nat.ble _ 1048576 && Nat.beq _ _) with
            | false => rw [hbb] at h; cases h
            | true =>
              rw [hbb] at h
              cases h
              refine (frzs_logs hfz).trans ⟨[_, _], rfl, Nat.le_succ _, fun y hy hn => ?_⟩
              show (((st1.heap.set _ none).set _ none).set st1.next _).get y = _
              simp only [List.mem_cons, List.not_mem_nil, or_false, not_or] at hn
              rw [PT.get_set, if_neg (by omega), PT.get_set, if_neg hn.1, PT.get_set, if_neg hn.2]
          · cases h
        · cases h
      · cases h
    · cases h
  · cases h
theorem appendR_logs {st st' : St} {e : TypeId} {s x v : AVal} {op : OP} (h : appendR P RO st e s x = some (op, v, st')) : Logs st st' := by
  unfold appendR at h
  split at h
  · split at h
    · split at h
      · cases hrw : rowsOk P e _ _ _ with
        | false => rw [hrw] at h; cases h
        | true =>
        rw [hrw] at h
        cases h
        refine ⟨[], rfl, Nat.le_succ _, fun y hy hn => ?_⟩
        show (PT.set _ _ _).get y = _
        rw [PT.get_set, if_neg (by omega)]
      · cases hrw : rowsOk P e _ _ _ with
        | false => rw [hrw] at h; cases h
        | true =>
        rw [hrw] at h
        simp only [cond_true] at h
        split at h
        · rename_i n cs tb hb
          cases hcw : Nat.beq (lenL cs 0) _ with
          | false => rw [hcw] at h; cases h
          | true =>
          rw [hcw] at h
          simp only [cond_true] at h
          cases hbb : Nat.beq _ _ with
          | true => rw [hbb] at h; cases h; exact putObj_logs
          | false =>
            rw [hbb] at h
            simp only [cond_false] at h
            split at h
            · cases hi0 : Nat.beq _ 0 with
              | false => rw [hi0] at h; cases h
              | true =>
              rw [hi0] at h
              cases h
              refine ⟨[_], rfl, Nat.le_succ _, fun y hy hn => ?_⟩
              show (PT.set _ _ _).get y = _
              simp only [List.mem_cons, List.not_mem_nil, or_false] at hn
              rw [PT.get_set, if_neg (by omega), PT.get_set, if_neg hn]
            · cases h
        · cases h
      · cases h
    · cases h
  · cases h
theorem clearT_logs {st st' : St} {e : TypeId} {s v : AVal} {op : OP} (h : clearT P st e s = some (op, v, st')) : Logs st st' := by
  unfold clearT at h
  split at h
  · split at h
    · cases hbb : (Nat.beq _ _ && Nat.beq _ _ && Nat.beq _ _ && Nat.blt 0 _ && oneA _) with
      | false => rw [hbb] at h; cases h
      | true => rw [hbb] at h; cases h; exact putObj_logs
    · cases h
  · cases h
theorem storeT_logs {st st' : St} {b i wd c : Nat} {vs : List AVal} {v : AVal} {op : OP} (h : storeT st b i wd c vs = some (op, v, st')) : Logs st st' := by
  unfold storeT at h
  split at h
  · rename_i hfz
    split at h
    · split at h
      · cases hwd : Nat.beq (lenL _ 0) _ with
        | false => rw [hwd] at h; cases h
        | true => rw [hwd] at h; cases h; exact (frzs_logs hfz).trans putObj_logs
      · cases h
    · cases h
  · cases h
theorem appendP_logs {st st' : St} {e : TypeId} {s x v : AVal} (h : got (appendP P RO st e s x) = some (v, st')) : Logs st st' := by
  obtain ⟨op, h, _⟩ := got_some h
  unfold appendP at h
  split at h
  · cases h; exact appendA_logs ‹_›
  · split at h
    · rename_i r hr; cases h; exact appendB_logs hr
    · split at h
      · rename_i r hr; cases h; exact appendI_logs hr
      · split at h
        · rename_i r hr; cases h; exact appendT_logs hr
        · exact appendR_logs h
theorem copyP_logs {st st' : St} {e : TypeId} {s x v : AVal} (h : got (copyP P RO st e s x) = some (v, st')) : Logs st st' := by
  obtain ⟨op, h, _⟩ := got_some h
  unfold copyP at h
  split at h
  · cases h; exact copyA_logs ‹_›
  · exact copyB_logs h
theorem appendP_ok {st st' : St} {w : World} {A : Array TypeId} {t t2 ty e : TypeId} {d : TypeDesc} {s x v : AVal} {us ux : Value} (hA0 : A[0]? = some t) (hA1 : A[1]? = some t2) (ht : P.underlying t = some (.slice e)) (ht2 : P.underlying t2 = some d) (hd : d = .string ∨ ∃ k, d = .slice k)
    (h : got (appendP P RO st e s x) = some (v, st')) (hs : VRel φ s us) (hx : VRel φ x ux) (hw : WRel w0 φ st.heap st.next w) (hr : RRel w0 φ RO) :
    Out w0 φ st w v st' ((Builtin.append_ A ty #[us, ux]).run P w) := by
  obtain ⟨op, h, hop⟩ := got_some h
  unfold appendP at h
  split at h
  · cases h; exact appendA_ok hA0 hA1 ht ht2 hd ‹_› hs hx hw hr
  · split at h
    · rename_i r hr'; cases h; exact appendB_ok hA0 hA1 ht ht2 hd hr' hop hs hx hw hr
    · split at h
      · rename_i r hr'; cases h; exact appendI_ok hA0 hA1 ht ht2 hd hr' hop hs hx hw hr
      · split at h
        · rename_i r hr'; cases h; exact appendT_ok hA0 hA1 ht ht2 hd hr' hop hs hx hw hr
        · exact appendR_ok hA0 hA1 ht ht2 hd h hop hs hx hw hr
theorem copyP_ok {st st' : St} {w : World} {t t2 ty e : TypeId} {dv x v : AVal} {ud ux : Value} (ht : P.underlying t = some (.slice e))
    (h : got (copyP P RO st e dv x) = some (v, st')) (hs : VRel φ dv ud) (hx : VRel φ x ux) (hw : WRel w0 φ st.heap st.next w) (hr : RRel w0 φ RO) (args : Array TypeId) (ha : args[0]? = some t) :
    Out w0 φ st w v st' ((Builtin.copy_ args ty #[ud, ux]).run P w) := by
  obtain ⟨op, h, hop⟩ := got_some h
  unfold copyP at h
  split at h
  · cases h; exact copyA_ok (t2 := t2) ht ‹_› hs hx hw hr args ha
  · exact copyB_ok (t2 := t2) ht h hop hs hx hw hr args ha
theorem clearA_logs {st st' : St} {e : TypeId} {s v : AVal} (h : clearA P st e s = some (v, st')) : Logs st st' := by
  unfold clearA at h
  split at h
  · rename_i base len c ex z
    cases hb : Nat.beq len 0 with
    | true => rw [hb] at h; cases h; exact Logs.refl _
    | false =>
      rw [hb] at h
      simp only [cond_false] at h
      split at h
      · split at h
        · split at h
          · rename_i st1 hst1; cases h; exact storeA_logs hst1
          · cases h
        · cases h
      · cases h
  · cases h
theorem clearA_ok {st st' : St} {w : World} {t ty e : TypeId} {s v : AVal} {us : Value} (ht : P.underlying t = some (.slice e))
    (h : clearA P st e s = some (v, st')) (hs : VRel φ s us) (hw : WRel w0 φ st.heap st.next w) (args : Array TypeId) (ha : args[0]? = some t) :
    Out w0 φ st w v st' ((Builtin.clear_ args ty #[us]).run P w) := by
  unfold clearA at h
  split at h
  · rename_i base len c ex z
    cases hb : Nat.beq len 0 with
    | true =>
      rw [hb] at h
      cases h
      obtain rfl := Nat.eq_of_beq_eq_true hb
      cases hs <;> exact ⟨_, w, by simp [Builtin.clear_, ha, run_und ht], φ, .tuple _ _ .nil, hw, Step.refl _ _ _⟩
    | false =>
      rw [hb] at h
      simp only [cond_false] at h
      have hne : len ≠ 0 := fun h0 => by rw [h0] at hb; cases hb
      split at h
      · rename_i b o z0 hz0
        split at h
        · rename_i z1 hz1
          split at h
          · rename_i st1 hst1
            cases h
            obtain ⟨iz, zv, hi1, hi2, hzr, hzv⟩ := zero_some (P := P) (φ := φ) hz0
            have hcr := cells_rel hzr
            rw [hz1] at hcr
            obtain ⟨u1, hu1, hv1⟩ : ∃ u1, zv.cells.toList = [u1] ∧ VRel φ z1 u1 := by
              generalize zv.cells.toList = l at hcr
              cases hcr with
              | cons _ u _ l2 q1 q2 => cases q2 with
                | nil => exact ⟨u, rfl, q1⟩
            have hzc : (Builtin.zeroCells zv.cells len).toList = List.replicate len u1 := by
              have hzz : zv.cells = #[u1] := by apply Array.toList_inj.1; simpa using hu1
              rw [hzz]
              simp [Builtin.zeroCells]
              apply List.ext_getElem
              · simp
              · intro i h1 h2
                simp [Nat.mod_one]
            have hrel : VRels φ (List.replicate len z1) (List.replicate len u1) := by
              clear hst1 hzc hne hb hs
              induction len with
              | zero => exact .nil
              | succ n ih => exact .cons _ _ _ _ hv1 ih
            cases hs with
            | slice b o _ _ _ g b0 nb cap' _ a hφ hl hcc hex hz haa =>
            obtain ⟨g2, b2, nb2, w', e1, e2, e3, e4⟩ := storeA_ok (P := P) hst1 hw hrel
            obtain ⟨rfl, rfl, rfl⟩ : g = g2 ∧ b0 = b2 ∧ nb = nb2 := by rw [hφ] at e1; simpa using e1
            rcases haa with ⟨rfl, hab⟩ | rfl
            · omega
            · obtain ⟨m, rfl⟩ : ∃ m, len = m + 1 := ⟨len - 1, by omega⟩
              exact ⟨_, w', by simp [Builtin.clear_, ha, run_und ht, hzv, hzc, e2], φ, .tuple _ _ .nil, e3, e4⟩
          · cases h
        · cases h
      · cases h
  · cases h
theorem clearP_logs {st st' : St} {e : TypeId} {s v : AVal} (h : got (clearP P st e s) = some (v, st')) : Logs st st' := by
  obtain ⟨op, h, _⟩ := got_some h
  unfold clearP at h
  split at h
  · cases h; exact clearA_logs ‹_›
  · exact clearT_logs h
theorem clearP_ok {st st' : St} {w : World} {t ty e : TypeId} {s v : AVal} {us : Value} (ht : P.underlying t = some (.slice e))
    (h : got (clearP P st e s) = some (v, st')) (hs : VRel φ s us) (hw : WRel w0 φ st.heap st.next w) (args : Array TypeId) (ha : args[0]? = some t) :
    Out w0 φ st w v st' ((Builtin.clear_ args ty #[us]).run P w) := by
  obtain ⟨op, h, hop⟩ := got_some h
  unfold clearP at h
  split at h
  · cases h; exact clearA_ok ht ‹_› hs hw args ha
  · exact clearT_ok ht h hop hs hw args ha
theorem heavy_logs {call : Who → List AVal → St → Option (AVal × St)} (hc : CallOk P w0 RO call) {st st' : St} {h : Heavy} {v : AVal} (hd : doHeavy P RO call st h = some (v, st')) : Logs st st' := by
  cases h with
  | store t a x =>
    obtain ⟨b, o⟩ := a
    simp only [doHeavy] at hd
    split at hd
    · rename_i n hn
      cases hb : Nat.beq (lenL x.cells 0) n with
      | false => rw [hb] at hd; cases hd
      | true =>
        rw [hb] at hd
        simp only [cond_true] at hd
        cases hs : storeA st b o x.cells with
        | none => rw [hs] at hd; cases hd
        | some s => rw [hs] at hd; cases hd; exact storeA_logs hs
    · cases hd
  | enter f args => exact (hc _ _ _ _ _ hd).1
  | append e s x => exact appendP_logs hd
  | copy e d x => exact copyP_logs hd
  | clear e s => exact clearP_logs hd
  | mapPut t r k v =>
    simp only [doHeavy] at hd
    obtain ⟨ob, hd, _⟩ := got_some hd
    unfold mapPutP at hd
    split at hd
    · rename_i hq
      cases hd
      unfold mapPutA at hq
      split at hq
      · cases hko : keyOk P _ k with
        | false => rw [hko] at hq; cases hq
        | true =>
          rw [hko] at hq
          simp only [cond_true] at hq
          split at hq
          · cases hq; exact putObj_logs
          · cases hq; exact putObj_logs
          · cases hq
      · cases hq
    · unfold mapPutS at hd
      split at hd
      · split at hd
        · split at hd
          · cases hb : (kindEq _ _ && kindEq _ _) with
            | false => rw [hb] at hd; cases hd
            | true => rw [hb] at hd; cases hd; exact putObj_logs
          · cases hd
        · cases hd
      · cases hd
  | mapDel t r k =>
    simp only [doHeavy] at hd
    obtain ⟨ob, hd, _⟩ := got_some hd
    unfold mapDelP at hd
    split at hd
    · rename_i hq
      cases hd
      unfold mapDelA at hq
      split at hq
      · cases hko : keyOk P _ k with
        | false => rw [hko] at hq; cases hq
        | true =>
          rw [hko] at hq
          simp only [cond_true] at hq
          split at hq
          · cases hq; exact putObj_logs
          · cases hq; exact putObj_logs
          · cases hq
      · cases hq
    · unfold mapDelS at hd
      split at hd
      · split at hd
        · cases hb : (kindEq _ _ && kindEq _ _) with
          | false => rw [hb] at hd; cases hd
          | true => rw [hb] at hd; cases hd; exact putObj_logs
        · cases hd
      · cases hd
  | storeT t b i wd c x =>
    simp only [doHeavy] at hd
    split at hd
    · cases hb : Nat.beq (lenL x.cells 0) _ with
      | false => rw [hb] at hd; cases hd
      | true =>
        rw [hb] at hd
        simp only [cond_true] at hd
        obtain ⟨op, hd, _⟩ := got_some hd
        exact storeT_logs hd
    · cases hd
theorem heavy_wp {call : Who → List AVal → St → Option (AVal × St)} (hc : CallOk P w0 RO call) {rg : Option Nat} {kk : Nat} {ev : Operand → Option AVal} {a : Act} {o : Oper} {st st' : St} {w : World} {h : Heavy} {v : AVal} (he : EvOk φ ev a.eval) (hh : heavy P ev o.op = some h) (hd : doHeavy P RO call st h = some (v, st'))
    (hw : WRel w0 φ st.heap st.next w) (hr : RRel w0 φ RO) {K : Act → World → Prop} {Q : Exit → Act → World → Prop} (hK : ∀ u w', StepOk w0 φ st w v st' u w' → K (a.put o.dst u) w') : o.wpIn (FR rg) kk P a w K Q := by
  unfold heavy at hh
  split at hh
  · rename_i t xa xv hop
    split at hh
    · rename_i p v1 hpa hva
      cases hh
      obtain ⟨b, off⟩ := p
      simp only [doHeavy] at hd
      split at hd
      · rename_i n hn
        cases hb : Nat.beq (lenL v1.cells 0) n with
        | false => rw [hb] at hd; cases hd
        | true =>
          rw [hb] at hd
          simp only [cond_true] at hd
          have hb := Nat.eq_of_beq_eq_true hb
          rw [lenL0] at hb
          cases hs : storeA st b off v1.cells with
          | none => rw [hs] at hd; cases hd
          | some s =>
            rw [hs] at hd
            cases hd
            have r1 := he _ _ hpa
            have r2 := he _ _ hva
            have r3 := cells_rel r2
            obtain ⟨g, b0, n1, w', e1, e2, e3, e4⟩ := storeA_ok (P := P) hs hw r3
            generalize hpv : a.eval xa = pv at r1
            cases r1 with
            | ptr _ _ g' b0' n' e1' =>
            obtain ⟨rfl, rfl, rfl⟩ : g' = g ∧ b0' = b0 ∧ n' = n1 := by rw [e1] at e1'; simpa using e1'.symm
            have hsz : (a.eval xv).cells.size = n := by have := r3.length; simp at this; omega
            have hrun : (execOp a.eval o).run P w = .ok .skip w' := by
              simp [execOp, hop, hpv, Instr.storeAt, Instr.sureAddr, storeVar, run_size hn, hsz, e2]
            refine wpIn_of (fun c hc => by rw [hop] at hc; cases hc) ?_
            rw [hrun]
            exact hK undef w' ⟨φ, VRel.undef, e3, e4⟩
      · cases hd
    · rename_i b i wd c v1 hpa hva
      cases hh
      simp only [doHeavy] at hd
      split at hd
      · rename_i n hn
        cases hb : Nat.beq (lenL v1.cells 0) n with
        | false => rw [hb] at hd; cases hd
        | true =>
          rw [hb] at hd
          simp only [cond_true] at hd
          have hb := Nat.eq_of_beq_eq_true hb
          rw [lenL0] at hb
          obtain ⟨op, hd, hopk⟩ := got_some hd
          have r1 := he _ _ hpa
          have r2 := he _ _ hva
          have r3 := cells_rel r2
          obtain ⟨rfl, ψ, g, b0, n1, w', e1, e2, e3, e4⟩ := storeT_ok (P := P) hd hopk hw r3
          generalize hpv : a.eval xa = pv at r1
          cases r1 with
          | tptr _ _ _ _ g' b0' n' e1' =>
          obtain ⟨rfl, rfl, rfl⟩ : g' = g ∧ b0' = b0 ∧ n' = n1 := by rw [e1] at e1'; simpa using e1'.symm
          have hsz : (a.eval xv).cells.size = n := by have := r3.length; simp at this; omega
          have hrun : (execOp a.eval o).run P w = .ok .skip w' := by
            simp [execOp, hop, hpv, Instr.storeAt, Instr.sureAddr, storeVar, run_size hn, hsz, e2]
          refine wpIn_of (fun c hc => by rw [hop] at hc; cases hc) ?_
          rw [hrun]
          exact hK undef w' ⟨ψ, VRel.undef, e3, e4⟩
      · cases hd
    · cases hh
  · rename_i t xm xk xv hop
    split at hh
    · rename_i r k1 v1 hm hkk hvv
      cases hh
      simp only [doHeavy] at hd
      have r1 := he _ _ hm
      have r2 := he _ _ hkk
      have r3 := he _ _ hvv
      generalize hmv : a.eval xm = mv at r1
      cases r1 with
      | map _ g b n hφ =>
      obtain ⟨w', e1, rfl, e3, e4⟩ := mapPutP_ok hd hw r2 r3 hφ
      have hrun : (execOp a.eval o).run P w = .ok .skip w' := by
        simp [execOp, hop, hmv, e1, Result.andThen]
      refine wpIn_of (fun c hc => by rw [hop] at hc; cases hc) ?_
      rw [hrun]
      exact hK undef w' ⟨φ, VRel.undef, e3, e4⟩
    · cases hh
  · rename_i c hop
    split at hh
    · rename_i f hcal
      split at hh
      · rename_i f' first captured vs hf hvs
        cases hh
        obtain ⟨_, ⟨fn, hfn, hbody, hname⟩, hcalls⟩ := hc _ _ _ _ _ hd
        have r1 := he _ _ hf
        have r2 := evs_some he _ _ hvs
        generalize hfv : a.eval f = fv at r1
        cases r1 with
        | func _ _ _ va vb h1 h2 =>
        have hrun : (execOp a.eval o).run P w = .ok (.enter f' (va ++ c.args.map a.eval ++ vb)) w := by
          have hn' : ¬ fn.name = "runtime.NumGoroutine" := by simpa using hname
          have hb' : ¬ fn.body = none := fun e => by rw [e] at hbody; cases hbody
          simp [execOp, hop, resolve, hcal, hfv, Deferred.ofValue, invoke, callFunc, hfn, hb', hn']
        refine wpIn_of (fun c hc => by rw [hop] at hc; cases hc) ?_
        rw [hrun, Oper.uponIn_enter]
        have := hcalls φ _ w ((h1.append r2).append h2) hw hr
        rw [show (va.toList ++ c.args.toList.map a.eval ++ vb.toList).toArray = va ++ c.args.map a.eval ++ vb by apply Array.toList_inj.1; simp] at this
        refine ⟨fun h => (by cases h), (callsFR rg _ this).mono fun e w' hee => ?_⟩
        obtain ⟨u, rfl, hs⟩ := hee
        exact hK u w' hs
      · rename_i x vs hf hvs
        cases hh
        obtain ⟨_, hy⟩ := hc _ _ _ _ _ hd
        have r1 := he _ _ hf
        have r2 := evs_some he _ _ hvs
        generalize hfv : a.eval f = fv at r1
        cases r1 with
        | yield _ g b m hφ =>
        obtain ⟨fn, tm, asg, bd, h1, h2⟩ := hy φ _ w g b m hφ r2 hw hr
        rw [show (c.args.toList.map a.eval).toArray = c.args.map a.eval by apply Array.toList_inj.1; simp] at h1
        have hrun : (execOp a.eval o).run P w = .ok (.round g fn tm asg bd) w := by
          simp [execOp, hop, resolve, hcal, hfv, Deferred.ofValue, invoke, h1]
        refine wpIn_of (fun c hc => by rw [hop] at hc; cases hc) ?_
        rw [hrun, Oper.uponIn_round]
        refine ⟨fun h => (by cases h), (h2 rg _).mono fun e w' hee => ?_⟩
        obtain ⟨u, rfl, hs⟩ := hee
        exact hK u w' hs
      · cases hh
    · rename_i hcal
      split at hh
      · rename_i t t2 s x h0 h1 hvs
        have r2 := evs_some he _ _ hvs
        have hargs : ∃ us ux, c.args.map a.eval = #[us, ux] ∧ VRel φ s us ∧ VRel φ x ux := by
          generalize hl : c.args.toList.map a.eval = l at r2
          cases r2 with
          | cons _ us _ l2 q1 q2 => cases q2 with
            | cons _ ux _ l3 q3 q4 => cases q4 with
              | nil => exact ⟨us, ux, by apply Array.toList_inj.1; simpa using hl, q1, q3⟩
        obtain ⟨us, ux, hau, q1, q2⟩ := hargs
        have fin : ∀ (e : TypeId) (d : TypeDesc), P.underlying t = some (.slice e) → P.underlying t2 = some d → (d = .string ∨ ∃ k, d = .slice k) → got (appendP P RO st e s x) = some (v, st') → o.wpIn (FR rg) kk P a w K Q := fun e d k1 k2 k3 k4 => by
          obtain ⟨u, w', e1, e2⟩ := appendP_ok (ty := o.type) h0 h1 k1 k2 k3 k4 q1 q2 hw hr
          have hrun : (execOp a.eval o).run P w = .ok (.value u) w' := by
            simp [execOp, hop, resolve, hcal, invoke, builtin, hau, e1]
          refine wpIn_of (fun c hc => by rw [hop] at hc; cases hc) ?_
          rw [hrun]
          exact hK u w' e2
        split at hh
        · rename_i e ht
          split at hh
          · rename_i ht2
            cases hh
            exact fin e _ ht ht2 (.inl rfl) hd
          · rename_i k ht2
            cases hh
            exact fin e _ ht ht2 (.inr ⟨k, rfl⟩) hd
          · cases hh
        · cases hh
      · cases hh
    · rename_i hcal
      split at hh
      · rename_i t s x h0 hvs
        have r2 := evs_some he _ _ hvs
        have hargs : ∃ us ux, c.args.map a.eval = #[us, ux] ∧ VRel φ s us ∧ VRel φ x ux := by
          generalize hl : c.args.toList.map a.eval = l at r2
          cases r2 with
          | cons _ us _ l2 q1 q2 => cases q2 with
            | cons _ ux _ l3 q3 q4 => cases q4 with
              | nil => exact ⟨us, ux, by apply Array.toList_inj.1; simpa using hl, q1, q3⟩
        obtain ⟨us, ux, hau, q1, q2⟩ := hargs
        split at hh
        · rename_i e ht
          cases hh
          obtain ⟨u, w', e1, e2⟩ := copyP_ok (ty := o.type) (t2 := t) ht hd q1 q2 hw hr c.argTypes h0
          have hrun : (execOp a.eval o).run P w = .ok (.value u) w' := by
            simp [execOp, hop, resolve, hcal, invoke, builtin, hau, e1]
          refine wpIn_of (fun c hc => by rw [hop] at hc; cases hc) ?_
          rw [hrun]
          exact hK u w' e2
        · cases hh
      · cases hh
    · rename_i hcal
      split at hh
      · rename_i t s h0 hvs
        have r2 := evs_some he _ _ hvs
        have hargs : ∃ us, c.args.map a.eval = #[us] ∧ VRel φ s us := by
          generalize hl : c.args.toList.map a.eval = l at r2
          cases r2 with
          | cons _ us _ l2 q1 q2 => cases q2 with
            | nil => exact ⟨us, by apply Array.toList_inj.1; simpa using hl, q1⟩
        obtain ⟨us, hau, q1⟩ := hargs
        split at hh
        · rename_i e ht
          cases hh
          obtain ⟨u, w', e1, e2⟩ := clearP_ok (ty := o.type) ht hd q1 hw c.argTypes h0
          have hrun : (execOp a.eval o).run P w = .ok (.value u) w' := by
            simp [execOp, hop, resolve, hcal, invoke, builtin, hau, e1]
          refine wpIn_of (fun c hc => by rw [hop] at hc; cases hc) ?_
          rw [hrun]
          exact hK u w' e2
        · cases hh
      · cases hh
    · rename_i hcal
      split at hh
      · rename_i t m k h0 hvs
        split at hh
        · rename_i r
          cases hh
          simp only [doHeavy] at hd
          have r2 := evs_some he _ _ hvs
          have hargs : ∃ us ux, c.args.map a.eval = #[us, ux] ∧ VRel φ (.map (some r)) us ∧ VRel φ k ux := by
            generalize hl : c.args.toList.map a.eval = l at r2
            cases r2 with
            | cons _ us _ l2 q1 q2 => cases q2 with
              | cons _ ux _ l3 q3 q4 => cases q4 with
                | nil => exact ⟨us, ux, by apply Array.toList_inj.1; simpa using hl, q1, q3⟩
          obtain ⟨us, ux, hau, q1, q2⟩ := hargs
          cases q1 with
          | map _ g b n hφ =>
          obtain ⟨w', e1, rfl, e3, e4⟩ := mapDelP_ok hd hw q2 hφ h0 o.type
          have hrun : (execOp a.eval o).run P w = .ok (.value (.tuple #[])) w' := by
            simp [execOp, hop, resolve, hcal, invoke, builtin, hau, e1]
          refine wpIn_of (fun c hc => by rw [hop] at hc; cases hc) ?_
          rw [hrun]
          exact hK (.tuple #[]) w' ⟨φ, .tuple _ _ .nil, e3, e4⟩
        · cases hh
      · cases hh
    · cases hh
  · cases hh
theorem light_defer {P : Program} (ev : Operand → Option AVal) (c : Call) : light P ev (.defer c) = none := rfl
/-- one operation -/
theorem runOp_wp {rg : Option Nat} {kk : Nat} {call : Who → List AVal → St → Option (AVal × St)} (hc : CallOk P w0 RO call) {n : Nat} {τ : PT AVal} {a : Act} {o : Oper} {st st' : St} {w : World} {v : AVal} (hd : runOp P RO call τ st o.op = some (v, st')) :
    Logs st st' ∧ (TRel φ n τ a.tmps → WRel w0 φ st.heap st.next w → RRel w0 φ RO → ∀ {K : Act → World → Prop} {Q : Exit → Act → World → Prop}, (∀ u w', StepOk w0 φ st w v st' u w' → K (a.put o.dst u) w') → o.wpIn (FR rg) kk P a w K Q) := by
  unfold runOp at hd
  split at hd
  · rename_i r hr
    refine ⟨light_logs hd, fun ht hw hro K Q hK => ?_⟩
    have hs := light_ok (P := P) (ev_some hro ht) o r hr
    obtain ⟨u, w', e1, e2⟩ := doLight_ok hd hs hw hro
    refine wpIn_of (fun c hc => by rw [hc] at hr; exact Option.some_ne_none r (hr.symm.trans (light_defer _ _))) ?_
    have e1' : (execOp a.eval o).run P w = .ok (.value u) w' := e1
    rw [e1']
    exact hK u w' e2
  · split at hd
    · rename_i h hh
      exact ⟨heavy_logs hc hd, fun ht hw hro K Q hK => heavy_wp hc (ev_some hro ht) hh hd hw hro hK⟩
    · cases hd
end
end Go.Proofs.Ytcofcojjofkgcaa.Abs
