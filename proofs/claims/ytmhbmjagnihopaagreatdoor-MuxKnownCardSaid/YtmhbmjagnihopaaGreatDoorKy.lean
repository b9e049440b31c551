/- The keys of a map, as maps.Keys gives them, in whatever order, each once. By an AI agent. -/
import Derived.Test.YtmhbmjagnihopaaGreatDoorProg
import Derived.Shelf.Abstract
import Derived.RangeFuncGives
import Derived.Maps.RangeRun
import Derived.Maps.AppendAt
import Derived.Sort.MapsRangeIn
import Derived.OwnWalkIn
import Derived.TacticsInMore
import Derived.RegionIn
import Derived.LoopNIn
import Derived.LoopIn
import Derived.WalkKit
import Derived.Below
namespace Go.Proofs.YtmhbmjagnihopaaGreatDoor.Ky
open Go Go.RowKit Go.ChangeMaps
set_option linter.unusedVariables false
set_option maxRecDepth 100000

/-- a map's entries, with the keys in the order of the entries -/
structure MapOk (es : Array MapEntry) (clock : Nat) (ks : List Int) : Prop where
  keys : es.toList.map (·.key) = ks.map (Value.int .u32)
  born : (es.toList.map (·.born)).Nodup
  old : ∀ x ∈ es.toList, x.born < clock
/-- what of its entries has come: with the stamps that the iterator has seen -/
structure Came (es : Array MapEntry) (seen : Array Nat) (done : List MapEntry) (ss : List Int) : Prop where
  sub : ∀ x ∈ done, x ∈ es.toList
  stamps : done.map (·.born) = seen.toList
  nd : seen.toList.Nodup
  keys : done.map (·.key) = ss.map (Value.int .u32)
theorem Came.start (es : Array MapEntry) : Came es #[] [] [] := ⟨by simp, rfl, by simp, rfl⟩
theorem Came.step {es : Array MapEntry} {seen : Array Nat} {done : List MapEntry} {ss : List Int} (h : Came es seen done ss) {e : MapEntry} {x : Int} (he : e ∈ (leftOf es seen).toList) (hx : e.key = .int .u32 x) : Came es (seen.push e.born) (done ++ [e]) (ss ++ [x]) := by
  obtain ⟨h1, h2⟩ := mem_left he
  refine ⟨fun y hy => ?_, by simp [h.stamps], ?_, by simp [h.keys, hx]⟩
  · rcases List.mem_append.1 hy with hy | hy
    · exact h.sub y hy
    · simp at hy; subst hy; exact h1
  · simp only [Array.toList_push]
    refine List.nodup_append.2 ⟨h.nd, by simp, fun a ha b hb => ?_⟩
    simp at hb
    subst hb
    rintro rfl
    have : seen.contains e.born = true := by simpa using ha
    rw [h2] at this
    cases this
theorem nodup_of_map {α β : Type} (f : α → β) {l : List α} (h : (l.map f).Nodup) : l.Nodup := by
  induction l with
  | nil => simp
  | cons x xs ih =>
    simp only [List.map_cons, List.nodup_cons] at h ⊢
    exact ⟨fun hx => h.1 (List.mem_map_of_mem hx), ih h.2⟩
def zOf : Value → Int
  | .int _ z => z
  | _ => 0
theorem perm_keys {l m : List MapEntry} {ks ss : List Int} (h : l.Perm m) (hl : l.map (·.key) = ss.map (Value.int .u32)) (hm : m.map (·.key) = ks.map (Value.int .u32)) : ss.Perm ks := by
  have hp : (ss.map (Value.int .u32)).Perm (ks.map (Value.int .u32)) := by rw [← hl, ← hm]; exact h.map _
  have hq := hp.map zOf
  have e : ∀ l : List Int, (l.map (Value.int .u32)).map zOf = l := fun l => by
    induction l with
    | nil => rfl
    | cons x l ih => simp only [List.map_cons, ih]; rfl
  rwa [e, e] at hq
theorem Came.done {es : Array MapEntry} {clock : Nat} {ks : List Int} {seen : Array Nat} {done : List MapEntry} {ss : List Int} (hm : MapOk es clock ks) (h : Came es seen done ss) (h0 : (leftOf es seen).size = 0) : ss.Perm ks := by
  refine perm_keys ?_ h.keys hm.keys
  have hd : done.Nodup := nodup_of_map (·.born) (by rw [h.stamps]; exact h.nd)
  refine (List.perm_ext_iff_of_nodup hd (nodup_of_map _ hm.born)).2 fun e => ⟨h.sub e, fun he => ?_⟩
  have hc : seen.contains e.born = true := by
    cases hc : seen.contains e.born with
    | true => rfl
    | false =>
      have : e ∈ (leftOf es seen).toList := by simp [leftOf]; exact ⟨by simpa using he, by simpa using hc⟩
      rw [Array.size_eq_zero_iff.1 h0] at this
      simp at this
  have : e.born ∈ done.map (·.born) := by rw [h.stamps]; simpa using hc
  obtain ⟨d, hd1, hd2⟩ := List.mem_map.1 this
  have hnd := hm.born
  have : d = e := by
    have hd3 := h.sub d hd1
    have f1 := Go.find_born d es.toList hnd hd3
    have f2 := Go.find_born e es.toList hnd he
    rw [hd2, f2] at f1
    exact (Option.some.inj f1).symm
  exact this ▸ hd1
theorem Came.few {es : Array MapEntry} {clock : Nat} {ks : List Int} {seen : Array Nat} {done : List MapEntry} {ss : List Int} (hm : MapOk es clock ks) (h : Came es seen done ss) {e : MapEntry} (he : e ∈ (leftOf es seen).toList) : ss.length < ks.length := by
  obtain ⟨h1, h2⟩ := mem_left he
  have hl : ss.length = done.length := by simpa using (congrArg List.length h.keys).symm
  have hk : ks.length = es.toList.length := by simpa using (congrArg List.length hm.keys).symm
  have hd : (done ++ [e]).Nodup := by
    refine nodup_of_map (·.born) ?_
    rw [List.map_append, h.stamps]
    refine List.nodup_append.2 ⟨h.nd, by simp, fun a ha b hb => ?_⟩
    simp at hb
    subst hb
    rintro rfl
    have : seen.contains e.born = true := by simpa using ha
    rw [h2] at this
    cases this
  have := hd.length_le_of_subset (l₂ := es.toList) fun y hy => by
    rcases List.mem_append.1 hy with hy | hy
    · exact h.sub y hy
    · simp at hy; subst hy; exact h1
  simp at this hl hk
  omega
theorem mem_key {es : Array MapEntry} {clock : Nat} {ks : List Int} (hm : MapOk es clock ks) {e : MapEntry} (he : e ∈ es.toList) : ∃ x, e.key = .int .u32 x := by
  have : e.key ∈ es.toList.map (·.key) := List.mem_map_of_mem he
  rw [hm.keys] at this
  obtain ⟨x, _, hx⟩ := List.mem_map.1 this
  exact ⟨x, hx.symm⟩
section
variable {P : Program} {F : Fence} {n : Nat} (w : World) {ops : Array Oper} {rest : List Oper} {o : Oper} {a : Act} {Q : Exit → Act → World → Prop}
/-- 'range m' -/
theorem range_raw (hg : o.guard = none) (m : Operand) (t k e : TypeId) (hop : o.op = Op.range t m) (ht : P.underlying t = some (.map k e)) (b : Nat) (es : Array MapEntry) (clock : Nat) (hm : a.eval m = .map (some b)) (hb : w.heap[b]? = some (.map es clock))
    (hK : wpListIn F n P ops Q rest (a.put o.dst (.pointer (some ⟨w.heap.size, 0, none⟩))) (w.alloc (.mapIter (some b) clock #[] clock))) : wpListIn F n P ops Q (o :: rest) a w := by
  refine wpListIn_plain hg fun K' hK' => ?_
  unfold Oper.wpIn
  refine ⟨by simp [Oper.about, hop], ?_⟩
  rw [Oper.semAt_plain F _ _ (by rw [hop]; intro c hc'; cases hc')]
  have hrun : (Instr.range t (.map (some b))).run P w = .ok (.pointer (some ⟨w.heap.size, 0, none⟩)) (w.alloc (.mapIter (some b) clock #[] clock)) := by
    simp [Instr.range, run_underlying ht, getObj, newObj, Sem.run, hb, Result.andThen]
  simp [execOp, hop, hm, hrun, Result.andThen]
  exact hK' _ _ hK
/-- a step of it: nothing is left, or one that is left comes, whichever -/
theorem next_raw (hg : o.guard = none) (it : Operand) (hop : o.op = Op.next it false) (r b clock : Nat) (seen : Array Nat) (es : Array MapEntry) (hit : a.eval it = .pointer (some ⟨r, 0, none⟩))
    (hr : w.heap[r]? = some (.mapIter (some b) clock seen clock)) (hb : w.heap[b]? = some (.map es clock)) (hold : ∀ x ∈ es.toList, x.born < clock) (hn : (es.toList.map (·.born)).Nodup)
    (hDone : (leftOf es seen).size = 0 → wpListIn F n P ops Q rest (a.put o.dst (.tuple #[.bool false])) w)
    (hMore : ∀ (e : MapEntry) (w' : World), e ∈ (leftOf es seen).toList → w'.heap[r]? = some (.mapIter (some b) clock (seen.push e.born) clock) → w.grownBy w' (some r) → w'.heap.size = w.heap.size →
      (Instr.entry (.pointer (some ⟨r, 0, none⟩))).run P w' = .ok (.tuple #[e.key, e.val]) w' → wpListIn F n P ops Q rest (a.put o.dst (.tuple #[.bool true, e.key, e.val])) w') : wpListIn F n P ops Q (o :: rest) a w := by
  refine wpListIn_plain hg fun K' hK' => ?_
  unfold Oper.wpIn
  refine ⟨by simp [Oper.about, hop], ?_⟩
  rw [Oper.semAt_plain F _ _ (by rw [hop]; intro c hc'; cases hc')]
  have hlt : r < w.heap.size := (Array.getElem?_eq_some_iff.1 hr).1
  have hne : b ≠ r := fun e => by rw [e, hr] at hb; cases hb
  rcases run_next_at (P := P) w o.type r b clock clock seen es clock hr hb hold (Nat.le_refl _) with ⟨h0, hrun⟩ | ⟨e, he, w1, hw1, hrun⟩
  · simp [execOp, hop, hit, hrun, Result.andThen]
    exact hK' _ _ (hDone h0)
  · obtain ⟨w', hw'⟩ : ∃ w', setBlock w1 r (.mapIter (some b) clock (seen.push e.born) clock) = w' := ⟨_, rfl⟩
    rw [hw'] at hrun
    have h1 : w1.heap = w.heap := by rcases hw1 with rfl | rfl <;> rfl
    have hs : w'.heap.size = w.heap.size := by rw [← hw']; simp [setBlock, h1]
    have hr' : w'.heap[r]? = some (.mapIter (some b) clock (seen.push e.born) clock) := by rw [← hw']; simp [setBlock, h1, hlt]
    have hk : ∀ j, j ≠ r → w'.heap[j]? = w.heap[j]? := fun j hj => by rw [← hw']; simp only [setBlock, h1]; exact Array.getElem?_setIfInBounds_ne (Ne.symm hj)
    have hgr : w.grownBy w' (some r) := by
      have ho : w1.os = w.os ∧ w1.tape = w.tape ∧ w1.output = w.output := by rcases hw1 with rfl | rfl <;> exact ⟨rfl, rfl, rfl⟩
      exact ⟨by rw [← hw']; exact ho.1, by rw [← hw']; exact ho.2.1, by rw [← hw']; exact ho.2.2, by omega, fun k _ hkr => hk k fun e => hkr (by rw [e])⟩
    simp [execOp, hop, hit, hrun, Result.andThen]
    exact hK' _ _ (hMore e w' he hr' hgr hs (run_entry_at w' r b clock seen es clock e hr' ((hk b hne).trans hb) (mem_left he).1 hn))
end
abbrev KEYS1 : FuncId := 145
set_option maxRecDepth 100000 in
set_option maxHeartbeats 1000000 in
/-- maps.Keys' iterator gives the keys, each once, in whatever order -/
theorem keys_gives (F : Fence) (n : Nat) (hfn : F.fn KEYS1) (hro : F.round = none) (hn : 1 ≤ n) (Bm Bo b : Nat) (es : Array MapEntry) (clock : Nat) (ks : List Int) (w : World) (hBm : Bm < w.heap.size) (hblt : b < w.heap.size)
    (hm : w.cell? ⟨Bm, Bo, none⟩ = some (.map (some b))) (hb : w.heap[b]? = some (.map es clock)) (hok : MapOk es clock ks) :
    SeqGives F n Tryz.prog KEYS1 #[.pointer (some ⟨Bm, Bo, none⟩)] (Value.int .u32) (fun ss => ss.Perm ks) ks.length w := fun l J W hW hJ hY h0 => by
  have hbW : W.heap[b]? = some (.map es clock) := (hW.block b hblt).trans hb
  have hmW : W.cell? ⟨Bm, Bo, none⟩ = some (.map (some b)) := (hW.cell (p := ⟨Bm, Bo, none⟩) hBm).trans hm
  have hbl : b < W.heap.size := (Array.getElem?_eq_some_iff.1 hbW).1
  have hiw : ∀ (wr : World) (seen : Array Nat), wr.heap[W.heap.size]? = some (.mapIter (some b) clock seen clock) → ∃ o : Obj, wr.heap[W.heap.size]? = some o ∧ o.isWalk = true := fun wr seen h => ⟨_, h, rfl⟩
  refine callsIn_of_wp Tryz.func145 rfl hfn ?_ hro
  simp only [Tryz.ntmps145, List.size_toArray, List.length_cons, List.length_nil, Nat.reduceAdd, Nat.reduceSub, Array.replicate_succ, Array.replicate_zero, List.push_toArray, List.append_toArray, List.nil_append, List.cons_append]
  gi_wp2_with (first
    | (gi_at_range; refine range_raw _ rfl _ 140 68 189 rfl (by kernel_rfl) b es clock rfl hbW ?_)
    | gi_in)
  go_frame
  gi_loopw [3] (fun _ wr => ∃ (seen : Array Nat) (done : List MapEntry) (ss : List Int), wr.heap[W.heap.size]? = some (.mapIter (some b) clock seen clock) ∧ wr.heap[b]? = some (.map es clock) ∧ Came es seen done ss ∧ J ss wr)
    (fun _ wr => match wr.heap[W.heap.size]? with | some (.mapIter _ _ seen _) => ks.length - seen.size | _ => 0)
  case atStart =>
    refine ⟨#[], [], [], World.alloc_heap_new W _, (Below.heap_alloc _ _ b hbl).trans hbW, Came.start es, hJ [] W _ none h0 (World.grownBy_alloc _ _ _) (fun r e => by cases e)⟩
  case round =>
    obtain ⟨seen, done, ss, hr, hb2, hC, hJs⟩ := hrel
    gi_wp2_with (first
      | (gi_at_next; refine next_raw _ rfl _ rfl W.heap.size b clock seen es rfl hr hb2 hok.old hok.born ?_ ?_)
      | gi_in)
    · intro h0
      gi_wp2
      go_end0
      exact ⟨⟨_, rfl⟩, ss, hC.done hok (by rw [h0]; rfl), hJs⟩
    · intro e w2 he hr2 hg2 hs2 hen
      have he : e ∈ (leftOf es seen).toList := by simpa using he
      obtain ⟨x, hx⟩ := mem_key hok (mem_left he).1
      rw [hx] at hen ⊢
      have hlen := hC.few hok he
      have hJ2 : J ss w2 := hJ ss wr w2 (some W.heap.size) hJs hg2 (fun r e => by cases e; exact ⟨Nat.le_refl _, hiw wr seen hr⟩)
      have hb3 : w2.heap[b]? = some (.map es clock) := (hg2.block b (Array.getElem?_eq_some_iff.1 hb2).1 (fun e => by cases e; omega)).trans hb2
      obtain ⟨fn, tmps, assign, body, hy, hR⟩ := hY ss x w2 hJ2 hlen
      clear hs2
      gi_wp2
      refine hR.mono ?_
      rintro e1 W3 ⟨rfl, hJ3, hk3⟩
      gi_wp2
      have hr3 : W3.heap[W.heap.size]? = some (.mapIter (some b) clock (seen.push e.born) clock) := hk3.same _ _ hr2 rfl
      have hb4 : W3.heap[b]? = some (.map es clock) := hk3.same _ _ hb3 rfl
      go_roundw
      case rel => exact ⟨_, _, _, hr3, hb4, hC.step he hx, hJ3⟩
      case measure =>
        rw [hr, hr3]
        have : seen.size = ss.length := by
          have h1 := congrArg List.length hC.stamps
          have h2 := congrArg List.length hC.keys
          simp at h1 h2
          omega
        simp
        omega

end Go.Proofs.YtmhbmjagnihopaaGreatDoor.Ky
