/- slices.Clone of a table's rows. By an AI agent. -/
import Derived.Test.YtcofcojjofkgcaaNd
import Derived.Test.YtcofcojjofkgcaaProg
import Derived.Maps.AppendAt
import Derived.KernelRfl
namespace Go.Proofs.Ytcofcojjofkgcaa.Scl
open Go Go.RowKit Go.Proofs.Ytcofcojjofkgcaa.Abs
set_option linter.unusedVariables false
abbrev CLONE : FuncId := 28
abbrev ROW : TypeId := 63
abbrev STR : TypeId := 9
theorem eqlIn_nil {P : Program} (w : World) (d : Nat) (t e : TypeId) (a : Option Addr) (l c : Nat) (h : P.underlying t = some (.slice e)) : (Op.equalIn (d + 1) t (.slice a l c) (.slice none 0 0)).run P w = .ok a.isNone w := by
  cases a <;> simp [Op.equalIn, run_underlying h]
theorem eql_nil {P : Program} (w : World) (t e : TypeId) (a : Option Addr) (l c : Nat) (h : P.underlying t = some (.slice e)) : (binOp .eql t (.slice a l c) (.slice none 0 0)).run P w = .ok (.bool a.isNone) w := by
  have h2 : (Op.equal t (.slice a l c) (.slice none 0 0)).run P w = .ok a.isNone w := eqlIn_nil w 9999 t e a l c h
  simp [binOp, h2]
theorem next_up {w0 : World} {φ : Phi} {H : PT AObj} {n m : Nat} {w : World} (h : WRel w0 φ H n w) (hle : n ≤ m) : WRel w0 φ H m w :=
  ⟨⟨h.below, fun x hx => h.fresh x (by omega), h.obj, h.inj, fun x o hx => Nat.lt_of_lt_of_le (h.lt x o hx) hle⟩, h.pool, h.apart⟩
theorem wpList_append_run {P : Program} {w w' : World} {ops : Array Oper} {rest : List Oper} {o : Oper} {a : Act} {Q : Exit → Act → World → Prop} (hgd : o.guard = none) (s x : Operand) (t : TypeId)
    (ho : o.op = .call { callee := .builtin .append, args := #[s, x], argTypes := #[t, t] }) {u v r : Value} (hs : a.eval s = u) (hx : a.eval x = v)
    (hrun : (Builtin.append_ #[t, t] o.type #[u, v]).run P w = .ok r w') (h : wpList P ops Q rest (a.put o.dst r) w') : wpList P ops Q (o :: rest) a w :=
  wpList_plain hgd fun K hK => by
    unfold Oper.wp execOp
    simp only [ho, resolve, invoke, builtin, Sem.run_bind, Sem.run_pure, Result.andThen_ok, List.map_toArray, List.map_cons, List.map_nil, hs, hx, hrun]
    exact hK _ _ h
/-- rows behind an empty row of one's own -/
theorem app_own {w0 : World} {RO : PT AObj} {φ : Phi} {st : St} {w : World} {b i n lo : Nat} {ex : Bool} {n' : Nat} {ds : List TCol} {tb : TypeId} {u : Value} (ty : TypeId) (hrd : rd RO st b = some (.tab n' ds tb)) (hle : i + n ≤ n') (hds : ds.length = 1) (hn : n ≤ 65536)
    (hu : VRel φ (.tslice b i n lo ex 1) u) (hw : WRel w0 φ st.heap st.next w) (hr : RRel w0 φ RO) :
    ∃ r w', (Builtin.append_ #[ROW, ROW] ty #[.slice (some ⟨w.heap.size, 0, none⟩) 0 0, u]).run Try.prog (w.alloc (.cells #[] STR)) = .ok r w' ∧ ∃ ψ, VRel ψ (.tslice (Nat.succ st.next) 0 n n false 1) r ∧
      WRel w0 ψ (st.heap.set (Nat.succ st.next) (some (.tab n (partT i n ds) STR))) (Nat.succ (Nat.succ st.next)) w' ∧ Step φ st.heap w ψ (st.heap.set (Nat.succ st.next) (some (.tab n (partT i n ds) STR))) w' := by
  have hne : st.next ≠ Nat.succ st.next := by omega
  obtain ⟨hw1, hs1⟩ := new_ok (w' := w.alloc (.cells #[] STR)) (x := .cells #[] STR (0, 0)) (n := 0) (o := .cells [] STR) hw rfl rfl rfl rfl (.cells _ _ _ _ _ _ _ rfl (by simp) .nil (.inl rfl))
  have hnone : st.heap.get st.next = none := by
    cases hg : st.heap.get st.next with
    | none => rfl
    | some o => exact absurd (hw.lt _ o hg) (by omega)
  have hle' : φ.le (φ.ext st.next (w.heap.size, 0, 0)) := Phi.ext_le _ (hw.fresh _ (Nat.le_refl _))
  obtain ⟨ie, zv, hie, hiz, hzr, _⟩ := zero_some (φ := φ) (P := Try.prog) (t := STR) (v := .str []) (by kernel_rfl)
  have hsz : sizeA Try.prog STR = some 1 := by kernel_rfl
  have hzc : zv.cells.size = 1 := by
    have h1 : zv.cells.toList.length = 1 := (cells_rel hzr).length
    simpa using h1
  have hby : ie.bytes ≤ 1048576 := by
    have h1 : Try.prog.bytesOf STR ≤ 1048576 := by decide
    unfold Program.bytesOf at h1
    rw [hie] at h1; exact h1
  have hund := Try.underlying63
  generalize hw1e : w.alloc (.cells #[] STR) = w1 at hw1 hs1 ⊢
  obtain ⟨k1, k2⟩ := kill_ok hw1 st.next
  have hc : ∀ x, st.heap.get x = ((st.heap.set st.next (some (.cells [] STR))).set st.next none).get x := fun x => by
    rw [PT.get_set, PT.get_set]
    by_cases h : x = st.next
    · subst h; rw [if_pos rfl]; exact hnone
    · rw [if_neg h, if_neg h]
  have hw2 := k1.cong hc
  have hs2 := (hs1.trans k2).cong hc
  have hrd1 : rd RO (⟨st.heap, Nat.succ st.next, []⟩ : St) b = some (.tab n' ds tb) := hrd
  obtain ⟨hlen, news, n1, n2⟩ := tab_src (P := Try.prog) (st := ⟨st.heap, Nat.succ st.next, []⟩) hrd1 hle hds hw2 (hr.mono hle') (hu.mono hle')
  cases n with
  | zero =>
    have hnn : news = #[] := by cases news with | mk l => cases n1; rfl
    subst hnn
    have hg : w1.heap[w.heap.size]? = some (.cells #[] STR (0, 0)) := by rw [← hw1e]; show (w.heap.push _)[w.heap.size]? = _; rw [Array.getElem?_push_size]
    obtain ⟨i1, i2⟩ := graft_ok (w' := w1) (b := st.next) (b1 := 0) (o' := .tab 0 (partT i 0 ds) STR) hw1 (by rw [PT.get_set, if_pos rfl]) (Phi.ext_at _ _ _) rfl hg (fun _ _ => rfl) rfl rfl rfl (.tab _ _ _ _ _ _ _ _ rfl (by simp) (fun j hj => by omega) (.inl rfl))
    have hc2 : ∀ x, (st.heap.set (Nat.succ st.next) (some (.tab 0 (partT i 0 ds) STR))).get x = (((st.heap.set st.next (some (.cells [] STR))).set st.next none).set (st.next + 1) (some (.tab 0 (partT i 0 ds) STR))).get x := fun x => by
      rw [PT.get_set, PT.get_set, ← hc]
    refine ⟨_, w1, run_append_in (ty := ty) (w' := w1) rfl rfl hund hund (.inr ⟨_, rfl⟩) hsz (hlen w1) n2 (Nat.le_refl _) rfl, _, .tslice _ _ _ _ _ _ _ (.sslice _ _ _ _ _ w.heap.size 0 0 0 _ _ (Phi.ext_at _ _ _) (Nat.le_refl _) (Nat.le_refl _) (fun h => by cases h) (fun _ => by simp) (.inl ⟨rfl, rfl⟩)), i1.cong hc2, (hs1.trans i2).cong hc2⟩
  | succ n =>
    obtain ⟨_, n3⟩ := tab_src (P := Try.prog) (st := ⟨st.heap, Nat.succ st.next, []⟩) hrd1 hle hds hw2.drew (hr.mono hle') (hu.mono hle')
    obtain ⟨r, w', q1, ψ, q2, q3, q4⟩ := growT (P := Try.prog) (ty := ty) (st := ⟨st.heap, Nat.succ st.next, []⟩) (base' := some ⟨w.heap.size, 0, none⟩) (sCap := 0) (len := 0) (n := n + 1) (olds := #[]) (old := []) (A := #[ROW, ROW]) rfl rfl hund hund (.inr ⟨_, rfl⟩) hsz hie hiz hzc (by omega) hby (hlen w1) (by simp [Builtin.firstCells, loadCells, loadCellsFrom]) .nil n3 (by simp) (by rw [flatT_length, hds]) (by omega) hw2 (Step.refl _ _ _)
    rw [List.nil_append] at q3 q4
    obtain ⟨k3, k4⟩ := swap_tab (o' := .tab (n + 1) (partT i (n + 1) ds) STR) (fun h => by have := congrArg List.length h; rw [flatT_length, hds] at this; simp at this) q3 (fun b0 nn x hx => by
      rw [flatT_F, flatF_congr (g := fun j => rowT (i + j) ds) (n + 1) i 0 (fun k hk => by simp)] at hx
      exact tab_F hx (fun j => by rw [rowT_length, partT_len]) fun k us hk hu => by rw [partT_row i (n + 1) hk]; exact hu) q4
    refine ⟨r, w', q1, ψ, .tslice _ _ _ _ _ _ _ ?_, k3, hs2.trans k4⟩
    rw [Nat.zero_mul]
    rw [Nat.zero_add] at q2; exact q2
theorem clone_ok {w0 : World} {RO : PT AObj} {st : St} {b i n lo : Nat} {ex : Bool} {n' : Nat} {ds : List TCol} {tb : TypeId} (hrd : rd RO st b = some (.tab n' ds tb)) (hle : i + n ≤ n') (hds : ds.length = 1) (hn : n ≤ 65536) :
    CallT Try.prog w0 RO CLONE [.tslice b i n lo ex 1] st fun v s => v = .tslice (Nat.succ st.next) 0 n n false 1 ∧ s = ⟨st.heap.set (Nat.succ st.next) (some (.tab n (partT i n ds) STR)), Nat.succ (Nat.succ st.next), st.log⟩ := by
  refine ⟨⟨Try.f28, Try.func28, rfl, by kernel_rfl⟩, fun φ us w hus hw hr => ?_⟩
  obtain ⟨u, rfl, hu⟩ : ∃ u, us = [u] ∧ VRel φ (.tslice b i n lo ex 1) u := by
    cases hus with
    | cons _ u _ us h hs => cases hs; exact ⟨u, rfl, h⟩
  have happ := fun ty => app_own (u := u) ty hrd hle hds hn hu hw hr
  obtain ⟨A, cap, rfl⟩ : ∃ A cap, u = .slice A n cap := by
    cases hu with
    | tslice _ _ _ _ _ _ _ h => cases h <;> exact ⟨_, _, rfl⟩
  cases A with
  | none =>
    have h0 : n = 0 := by
      cases hu with
      | tslice _ _ _ _ _ _ _ h => cases h <;> rfl
    subst h0
    have hnil := fun u => eql_nil (P := Try.prog) u ROW STR none 0 cap Try.underlying63
    simp only [Option.isNone_none] at hnil
    have fin : ∃ u v st', Ending.returned (Value.slice none 0 0) = .returned u ∧ (v = AVal.tslice (Nat.succ st.next) 0 0 0 false 1 ∧ st' = (⟨st.heap.set (Nat.succ st.next) (some (.tab 0 (partT i 0 ds) STR)), Nat.succ (Nat.succ st.next), st.log⟩ : St)) ∧ StepOk w0 φ st w v st' u w := by
      obtain ⟨k1, k2⟩ := nul_ok (o := .tab 0 (partT i 0 ds) STR) (next_up hw (Nat.le_succ st.next)) rfl
      exact ⟨_, _, _, rfl, ⟨rfl, rfl⟩, φ, .tslice _ _ _ _ _ _ _ (.snil _ _ _), k1, k2⟩
    have FIN := Lib.hid fin
    clear fin happ hus hw hr hu hrd hle hds hn
    go_enter Try.func28, Try.ntmps28
    go_wp2
    go_ret
    exact FIN.out
  | some ad =>
    have hnil := fun u => eql_nil (P := Try.prog) u ROW STR (some ad) n cap Try.underlying63
    simp only [Option.isNone_some] at hnil
    obtain ⟨r, w', h1, ψ, h2, h3, h4⟩ := happ ROW
    have fin : ∃ u v st', Ending.returned r = .returned u ∧ (v = AVal.tslice (Nat.succ st.next) 0 n n false 1 ∧ st' = (⟨st.heap.set (Nat.succ st.next) (some (.tab n (partT i n ds) STR)), Nat.succ (Nat.succ st.next), st.log⟩ : St)) ∧ StepOk w0 φ st w v st' u w' := ⟨_, _, _, rfl, ⟨rfl, rfl⟩, ψ, h2, h3, h4⟩
    have FIN := Lib.hid fin
    have H1 := Lib.hid h1
    clear fin h1 h2 h3 h4 happ hus hw hr hu hrd hle hds hn
    go_enter Try.func28, Try.ntmps28
    go_wp2_with (at_builtin; refine wpList_append_run rfl (.tmp 5) (.tmp 6) ROW rfl rfl rfl H1.out ?_)
    go_ret
    exact FIN.out
end Go.Proofs.Ytcofcojjofkgcaa.Scl
