/- A region that draws its order, whatever the order: one duty for each operation, under what those that it waits for have left. By an AI agent. -/
import Derived.Orders
import Derived.WalkKit
namespace Go.Proofs.YtnhomnaamlbnpaaDoor.Ord
open Go
set_option linter.unusedVariables false

section
variable {P : Program} {ops : Array Oper} {Q : Exit → Act → World → Prop} {md : Region.Mode}
def acyc (ops : Array Oper) : Bool := (List.range ops.size).all fun i => ((ops[i]?).map fun o => o.after.all fun e => !Region.binds .any e || decide (e.on < i)).getD true

theorem unlisted_of (hac : acyc ops = true) (listed : Array Bool) (hs : listed.size = ops.size) (hr : Region.ready .any ops listed = []) : ∀ i, i < ops.size → listed.getD i false = true := by
  intro i
  induction i using Nat.strongRecOn with
  | ind i ih =>
    intro hi
    cases hq : listed.getD i true with
    | true =>
      have hl : i < listed.size := by omega
      simp [hl] at hq ⊢
      exact hq
    | false =>
      exfalso
      have hm : i ∈ Region.ready .any ops listed := by
        rw [mem_ready]
        refine ⟨hq, ops[i], by simp [hi], fun e he hb => ?_⟩
        have hlt : e.on < i := by
          unfold acyc at hac
          have := List.all_eq_true.1 hac i (List.mem_range.2 hi)
          simp [hi] at this
          obtain ⟨k, hk, rfl⟩ := Array.mem_iff_getElem.1 he
          have h3 := this k hk
          rw [hb] at h3
          simpa using h3
        exact ih _ hlt (by omega)
      rw [hr] at hm
      cases hm

theorem wpAny_inv (J : Array Bool → Act → World → Prop)
    (step : ∀ listed a w i, J listed a w → listed.size = ops.size → i ∈ Region.ready md ops listed → wpOp P ops Q i (fun a' w' => J (listed.setIfInBounds i true) a' w') a w)
    (done : ∀ listed a w, J listed a w → listed.size = ops.size → Region.ready md ops listed = [] → Q .normal a w) :
    ∀ (fuel : Nat) (listed : Array Bool) (a : Act) (w : World), J listed a w → listed.size = ops.size → listed.toList.count false ≤ fuel → wpAny P md ops Q fuel listed a w
  | 0, listed, a, w, hj, hs, hc => by
    have hr : Region.ready md ops listed = [] := by
      refine List.eq_nil_iff_forall_not_mem.2 fun i hi => ?_
      rw [mem_ready] at hi
      have h0 := List.count_eq_zero.1 (Nat.le_zero.1 hc)
      obtain ⟨h1, o, ho, _⟩ := hi
      have hl : i < listed.size := by have := (Array.getElem?_eq_some_iff.1 ho).1; omega
      simp [hl] at h1
      exact h0 (by rw [← h1]; simp)
    exact ⟨hr, done listed a w hj hs hr⟩
  | fuel + 1, listed, a, w, hj, hs, hc => by
    refine ⟨fun h => done listed a w hj hs h, fun i hi => ?_⟩
    refine wpOp_mono (fun a' w' hJ => wpAny_inv J step done fuel _ a' w' hJ (by simpa using hs) ?_) (step listed a w i hj hs hi)
    rw [mem_ready] at hi
    obtain ⟨h1, o, ho, _⟩ := hi
    have hl : i < listed.size := by have := (Array.getElem?_eq_some_iff.1 ho).1; omega
    simp [hl] at h1
    have : (listed.setIfInBounds i true).toList.count false + 1 = listed.toList.count false := by
      rw [Array.toList_setIfInBounds]
      have hl' : i < listed.toList.length := by simpa using hl
      rw [List.count_set hl']
      have hx : listed.toList[i] = false := by simpa using h1
      have hp : 0 < listed.toList.count false := List.count_pos_iff.2 (by rw [← hx]; exact List.getElem_mem _)
      rw [hx]
      simp only [beq_self_eq_true, if_true, show (true == false) = false from rfl, Bool.false_eq_true, if_false]
      omega
    omega

/-- each operation's temporary filled -/
def fillFrom (X : Nat → Value) : List Oper → Nat → Act → Act
  | [], _, a => a
  | o :: os, j, a => fillFrom X os (j + 1) (a.put o.dst (X j))
def frame (a0 : Act) (ops : Array Oper) (X : Nat → Value) : Act := fillFrom X ops.toList 0 a0
def dsts (ops : Array Oper) : List Tmp := ops.toList.filterMap (·.dst)
def dstOf (ops : Array Oper) (i : Nat) : Option Tmp := (ops[i]?).bind (·.dst)
def oneEach (ops : Array Oper) : Bool := decide (dsts ops).Nodup
theorem put_put (a : Act) (d : Option Tmp) (u v : Value) : (a.put d u).put d v = a.put d v := by
  cases d with
  | none => rfl
  | some d => simp [Act.put]
theorem fill_put (X : Nat → Value) : ∀ (os : List Oper) (j : Nat) (a : Act) (d : Option Tmp) (v : Value), (∀ x, d = some x → x ∉ os.filterMap (·.dst)) → fillFrom X os j (a.put d v) = (fillFrom X os j a).put d v
  | [], _, _, _, _, _ => rfl
  | o :: os, j, a, d, v, h => by
    unfold fillFrom
    rw [Act.put_comm a v (X j) (fun x hx hy => h x hx (by rw [List.filterMap_cons]; rw [hy]; simp)), fill_put X os (j + 1) _ d v (fun x hx hm => h x hx (by rw [List.filterMap_cons]; split <;> simp [hm]))]
def upd (X : Nat → Value) (i : Nat) (v : Value) : Nat → Value := fun j => if j = i then v else X j
theorem fill_upd (X : Nat → Value) (i : Nat) (v : Value) : ∀ (os : List Oper) (j : Nat) (a : Act), (os.filterMap (·.dst)).Nodup → j ≤ i → i < j + os.length →
    fillFrom (upd X i v) os j a = (fillFrom X os j a).put ((os[i - j]?).bind (·.dst)) v
  | [], j, a, _, h1, h2 => by simp at h2; omega
  | o :: os, j, a, hn, h1, h2 => by
    have hn' : (os.filterMap (·.dst)).Nodup := by
      rw [List.filterMap_cons] at hn
      split at hn
      · exact hn
      · exact (List.nodup_cons.1 hn).2
    by_cases hji : j = i
    · subst hji
      unfold fillFrom
      have hsame : ∀ (ps : List Oper) (k : Nat) (b : Act), j < k → fillFrom (upd X j v) ps k b = fillFrom X ps k b := by
        intro ps
        induction ps with
        | nil => intros; rfl
        | cons p ps ih =>
          intro k b hk
          unfold fillFrom
          rw [ih (k + 1) _ (by omega)]
          have : upd X j v k = X k := by unfold upd; rw [if_neg (by omega)]
          rw [this]
      rw [hsame os (j + 1) _ (by omega)]
      have hv : upd X j v j = v := by unfold upd; rw [if_pos rfl]
      rw [hv, Nat.sub_self]
      show fillFrom X os (j + 1) (a.put o.dst v) = (fillFrom X os (j + 1) (a.put o.dst (X j))).put o.dst v
      have hd : ∀ x, o.dst = some x → x ∉ os.filterMap (·.dst) := fun x hx hm => by
        rw [List.filterMap_cons, hx] at hn
        exact (List.nodup_cons.1 hn).1 hm
      rw [← fill_put X os (j + 1) _ _ v hd, put_put]
    · unfold fillFrom
      rw [fill_upd X i v os (j + 1) _ hn' (by omega) (by simp at h2; omega)]
      have h3 : i - j = (i - (j + 1)) + 1 := by omega
      have hv : upd X i v j = X j := by unfold upd; rw [if_neg (by omega)]
      rw [h3, hv]
      rfl
theorem frame_upd (a0 : Act) (hn : oneEach ops = true) (X : Nat → Value) (i : Nat) (v : Value) (hi : i < ops.size) : frame a0 ops (upd X i v) = (frame a0 ops X).put (dstOf ops i) v := by
  unfold frame
  rw [fill_upd X i v ops.toList 0 a0 (of_decide_eq_true hn) (Nat.zero_le _) (by simpa using hi)]
  simp [dstOf]
/-- what stood there -/
def old (a0 : Act) (ops : Array Oper) : Nat → Value := fun j => match dstOf ops j with | some d => a0.tmps.getD d undef | none => undef
theorem fill_old (a0 : Act) (X : Nat → Value) : ∀ (os : List Oper) (j : Nat), (∀ k o d, os[k]? = some o → o.dst = some d → X (j + k) = a0.tmps.getD d undef) → fillFrom X os j a0 = a0
  | [], _, _ => rfl
  | o :: os, j, h => by
    unfold fillFrom
    have hp : a0.put o.dst (X j) = a0 := by
      cases hd : o.dst with
      | none => rfl
      | some d =>
        have := h 0 o d rfl hd
        rw [Nat.add_zero] at this
        rw [this]
        unfold Act.put
        have : a0.tmps.setIfInBounds d (a0.tmps.getD d undef) = a0.tmps := by
          apply Array.ext
          · simp
          · intro k h1 h2
            rw [Array.getElem_setIfInBounds (by simpa using h2)]
            split
            · rename_i hk; subst hk; simp [h2]
            · rfl
        simp only [this]
    rw [hp]
    exact fill_old a0 X os (j + 1) fun k o' d hk hd => by
      have := h (k + 1) o' d hk hd
      rw [show j + 1 + k = j + (k + 1) by omega]; exact this
theorem frame_old (a0 : Act) : frame a0 ops (old a0 ops) = a0 := by
  refine fill_old a0 _ _ 0 fun k o d hk hd => ?_
  rw [Nat.zero_add]
  unfold old dstOf
  have : ops[k]? = some o := by simpa using hk
  rw [this]
  simp [hd]

/-- those that i waits for -/
def deps (ops : Array Oper) (i : Nat) : List Nat := (((ops[i]?).map fun o => (o.after.toList.filter (Region.binds .any)).map (·.on)).getD [])

theorem wp_region_free {id : Nat} {a0 : Act} {w : World} (hm : P.follows .mixedOrders = true) (hac : acyc ops = true) (hnd : oneEach ops = true)
    (S : World → Prop) (E : World → World → Prop) (sp : Nat → Value → World → Prop)
    (hE : ∀ j v w w', sp j v w → S w → S w' → E w w' → sp j v w')
    (h0 : S w.drew)
    (step : ∀ i, i < ops.size → ∀ (X : Nat → Value) (w : World), S w → (∀ j ∈ deps ops i, sp j (X j) w) →
      wpOp P ops Q i (fun a' w' => ∃ v, a' = (frame a0 ops X).put (dstOf ops i) v ∧ sp i v w' ∧ S w' ∧ E w w') (frame a0 ops X) w)
    (done : ∀ (X : Nat → Value) (w : World), S w → (∀ j, j < ops.size → sp j (X j) w) → Q .normal (frame a0 ops X) w) : (Code.region id ops true).wp P Q a0 w := by
  refine wp_region_any hm ?_
  refine wpAny_inv (fun listed a w => S w ∧ ∃ X, a = frame a0 ops X ∧ ∀ j, j < ops.size → listed.getD j false = true → sp j (X j) w) ?_ ?_ _ _ _ _ ⟨h0, old a0 ops, (frame_old a0).symm, fun j hj h => by simp [hj] at h⟩ (by simp) ?_
  · rintro listed a w i ⟨hS, X, rfl, hX⟩ hs hi
    have hi' := hi
    rw [mem_ready] at hi
    obtain ⟨h1, o, ho, hall⟩ := hi
    have hlt : i < ops.size := (Array.getElem?_eq_some_iff.1 ho).1
    refine wpOp_mono ?_ (step i hlt X w hS fun j hj => ?_)
    · rintro a' w' ⟨v, rfl, hv, hS', hE'⟩
      refine ⟨hS', upd X i v, (frame_upd a0 hnd X i v hlt).symm, fun j hj hl => ?_⟩
      unfold upd
      by_cases hji : j = i
      · subst hji; rw [if_pos rfl]; exact hv
      · rw [if_neg hji]
        rw [getD_set_ne false (Ne.symm hji)] at hl
        exact hE _ _ _ _ (hX j hj hl) hS hS' hE'
    · unfold deps at hj
      rw [ho] at hj
      simp only [Option.map_some, Option.getD_some, List.mem_map, List.mem_filter] at hj
      obtain ⟨e, ⟨he, hb⟩, rfl⟩ := hj
      have hl := hall e (by simpa using he) hb
      refine hX _ ?_ hl
      rcases Nat.lt_or_ge e.on ops.size with h | h
      · exact h
      · exfalso; rw [← hs] at h; simp [Array.getElem?_eq_none h] at hl
  · rintro listed a w ⟨hS, X, rfl, hX⟩ hs hr
    exact done X w hS fun j hj => hX j hj (unlisted_of hac listed hs hr j hj)
  · simp
/-- an operation that is wanted -/
theorem step_op {i : Nat} {o : Oper} {a : Act} {w : World} {K : Act → World → Prop} (hi : ops[i]? = some o) (hw : Region.wanted o (yielded ops a.tmps) = true) (h : o.wp P a w K Q) : wpOp P ops Q i K a w := by
  unfold wpOp
  simp only [hi, hw, if_true]
  exact .inl h
/-- one that yields a value, and does nothing else -/
theorem step_is {i : Nat} {o : Oper} {a : Act} {w : World} {K : Act → World → Prop} (hi : ops[i]? = some o) (hw : Region.wanted o (yielded ops a.tmps) = true) (v : Value) (hrun : (execOp a.eval o).run P w = .ok (.value v) w) (h : K (a.put o.dst v) w) : wpOp P ops Q i K a w := by
  refine step_op hi hw ?_
  unfold Oper.wp
  rw [hrun, Oper.upon_value]
  exact h

/-- what is asked of an operation's value, and that it stays -/
structure Spec (E : World → World → Prop) where
  R : Value → World → Prop
  keep : ∀ v w w', R v w → E w w' → R v w'
def Spec.is {E : World → World → Prop} (u : Value) : Spec E := ⟨fun v _ => v = u, fun _ _ _ h _ => h⟩
def Spec.any {E : World → World → Prop} : Spec E := ⟨fun _ _ => True, fun _ _ _ _ _ => trivial⟩
def Each (p : Nat → Prop) : Nat → Nat → Prop
  | 0, _ => True
  | n + 1, k => p k ∧ Each p n (k + 1)
theorem Each.at_ {p : Nat → Prop} : ∀ (n k : Nat), Each p n k → ∀ i, k ≤ i → i < k + n → p i
  | 0, k, _, i, h1, h2 => by omega
  | n + 1, k, h, i, h1, h2 => by
    by_cases hk : i = k
    · subst hk; exact h.1
    · exact Each.at_ n (k + 1) h.2 i (by omega) (by omega)
theorem fill_other (X : Nat → Value) (d : Tmp) : ∀ (os : List Oper) (j : Nat) (a : Act), d ∉ os.filterMap (·.dst) → (fillFrom X os j a).tmps[d]? = a.tmps[d]?
  | [], _, _, _ => rfl
  | o :: os, j, a, h => by
    unfold fillFrom
    have h1 : d ∉ os.filterMap (·.dst) := fun hm => h (by rw [List.filterMap_cons]; split <;> simp [hm])
    rw [fill_other X d os (j + 1) _ h1]
    cases hd : o.dst with
    | none => rfl
    | some e =>
      have hne : e ≠ d := fun he => h (by rw [List.filterMap_cons, hd]; simp [he])
      simp [Act.put, Array.getElem?_setIfInBounds_ne hne]
theorem fill_size (X : Nat → Value) : ∀ (os : List Oper) (j : Nat) (a : Act), (fillFrom X os j a).tmps.size = a.tmps.size
  | [], _, _ => rfl
  | o :: os, j, a => by
    unfold fillFrom
    rw [fill_size X os (j + 1)]
    cases hd : o.dst with
    | none => rfl
    | some e => simp [Act.put]
theorem fill_at (X : Nat → Value) (d : Tmp) : ∀ (os : List Oper) (j i : Nat) (o : Oper) (a : Act), (os.filterMap (·.dst)).Nodup → os[i]? = some o → o.dst = some d → d < a.tmps.size → (fillFrom X os j a).tmps[d]? = some (X (j + i))
  | [], _, _, _, _, _, h, _, _ => by simp at h
  | p :: os, j, i, o, a, hn, h, hd, hs => by
    have hn' : (os.filterMap (·.dst)).Nodup := by
      rw [List.filterMap_cons] at hn
      split at hn
      · exact hn
      · exact (List.nodup_cons.1 hn).2
    unfold fillFrom
    rcases i with _ | i
    · obtain rfl : p = o := by simpa using h
      have hm : d ∉ os.filterMap (·.dst) := fun hm => by
        rw [List.filterMap_cons, hd] at hn
        exact (List.nodup_cons.1 hn).1 hm
      rw [fill_other X d os (j + 1) _ hm, hd]
      simp [Act.put, hs]
    · rw [fill_at X d os (j + 1) i o _ hn' (by simpa using h) hd (by
        cases hp : p.dst with
        | none => exact hs
        | some e => simpa [Act.put] using hs), show j + 1 + i = j + (i + 1) by omega]
/-- operation j has left v -/
def Left (ops : Array Oper) (a : Act) (j : Nat) (v : Value) : Prop := ∀ d, dstOf ops j = some d → d < a.tmps.size → a.tmps[d]? = some v
theorem frame_left (a0 : Act) (hn : oneEach ops = true) (X : Nat → Value) (j : Nat) : Left ops (frame a0 ops X) j (X j) := fun d hd hs => by
  unfold frame at hs ⊢
  rw [fill_size] at hs
  unfold dstOf at hd
  cases ho : ops[j]? with
  | none => rw [ho] at hd; cases hd
  | some o =>
    rw [ho] at hd
    have := fill_at X d ops.toList 0 j o a0 (of_decide_eq_true hn) (by simpa using ho) hd hs
    rwa [Nat.zero_add] at this
/-- a duty's end: the value put, and what stays -/
def Kept (ops : Array Oper) (S : World → Prop) (E : World → World → Prop) (SP : List (Spec E)) (i : Nat) (a : Act) (w : World) : Act → World → Prop :=
  fun a' w' => ∃ v, a' = a.put (dstOf ops i) v ∧ (SP.getD i Spec.any).R v w' ∧ S w' ∧ E w w'
theorem Kept.mk {S : World → Prop} {E : World → World → Prop} {SP : List (Spec E)} {i : Nat} {a : Act} {w w' : World} {d : Option Tmp} (hd : dstOf ops i = d) (v : Value) (h : (SP.getD i Spec.any).R v w') (hS : S w') (hE : E w w') : Kept ops S E SP i a w (a.put d v) w' := by
  subst hd; exact ⟨v, rfl, h, hS, hE⟩
def Duty (P : Program) (ops : Array Oper) (Q : Exit → Act → World → Prop) (a0 : Act) (S : World → Prop) (E : World → World → Prop) (SP : List (Spec E)) (i : Nat) : Prop :=
  ∀ (a : Act) (w : World), S w → (∀ j, j ∈ deps ops i → ∃ v, Left ops a j v ∧ (SP.getD j Spec.any).R v w) → (∀ d, d ∉ dsts ops → a.tmps[d]? = a0.tmps[d]?) → a.tmps.size = a0.tmps.size → wpOp P ops Q i (Kept ops S E SP i a w) a w
theorem wp_region_spec {id : Nat} {a0 : Act} {w : World} (hm : P.follows .mixedOrders = true) (hac : acyc ops = true) (hnd : oneEach ops = true)
    (S : World → Prop) (E : World → World → Prop) (SP : List (Spec E)) (n : Nat) (hn : ops.size = n)
    (h0 : S w.drew) (step : Each (Duty P ops Q a0 S E SP) n 0)
    (done : ∀ (X : Nat → Value) (w : World), S w → (∀ j, j < n → (SP.getD j Spec.any).R (X j) w) → Q .normal (frame a0 ops X) w) : (Code.region id ops true).wp P Q a0 w :=
  wp_region_free hm hac hnd S E (fun j => (SP.getD j Spec.any).R) (fun j v w w' h _ _ e => (SP.getD j Spec.any).keep v w w' h e) h0
    (fun i hi X w hS hd => Each.at_ n 0 step i (Nat.zero_le _) (by omega) (frame a0 ops X) w hS (fun j hj => ⟨X j, frame_left a0 hnd X j, hd j hj⟩) (fun d hd => fill_other X d ops.toList 0 a0 hd) (fill_size X ops.toList 0 a0)) (fun X w hS h => done X w hS fun j hj => h j (by omega))
theorem wanted_none {o : Oper} {tmps : Array Value} (hg : o.guard = none) : Region.wanted o (yielded ops tmps) = true := by unfold Region.wanted; rw [hg]
theorem wanted_guard {o : Oper} {tmps : Array Value} {g d : Nat} {b : Bool} (hg : o.guard = some (g, b)) (hd : dstOf ops g = some d) (hv : tmps[d]? = some (.bool b)) : Region.wanted o (yielded ops tmps) = true := by
  unfold Region.wanted yielded
  unfold dstOf at hd
  rw [hg]
  simp only [hd]
  simp [hv]
theorem duty_is {S : World → Prop} {E : World → World → Prop} {SP : List (Spec E)} {i : Nat} {o : Oper} {a : Act} {w : World} (hi : ops[i]? = some o) (hw : Region.wanted o (yielded ops a.tmps) = true) (v : Value) (hrun : (execOp a.eval o).run P w = .ok (.value v) w)
    (hR : (SP.getD i Spec.any).R v w) (hS : S w) (hE : E w w) : wpOp P ops Q i (Kept ops S E SP i a w) a w :=
  step_is hi hw v hrun (Kept.mk (by unfold dstOf; rw [hi]; rfl) v hR hS hE)
theorem duty_run {S : World → Prop} {E : World → World → Prop} {SP : List (Spec E)} {i : Nat} {o : Oper} {a : Act} {w w' : World} (hi : ops[i]? = some o) (hw : Region.wanted o (yielded ops a.tmps) = true) (v : Value) (hrun : (execOp a.eval o).run P w = .ok (.value v) w')
    (hR : (SP.getD i Spec.any).R v w') (hS : S w') (hE : E w w') : wpOp P ops Q i (Kept ops S E SP i a w) a w := by
  refine step_op hi hw ?_
  unfold Oper.wp
  rw [hrun, Oper.upon_value]
  exact Kept.mk (by unfold dstOf; rw [hi]; rfl) v hR hS hE
theorem duty_call {S : World → Prop} {E : World → World → Prop} {SP : List (Spec E)} {i : Nat} {o : Oper} {a : Act} {w : World} {R : Ending → World → Prop} (hi : ops[i]? = some o) (hw : Region.wanted o (yielded ops a.tmps) = true) (f : FuncId) (args : Array Value)
    (hrun : (execOp a.eval o).run P w = .ok (.enter f args) w) (hc : Calls P f args w R) (hR : ∀ e w', R e w' → ∃ v, e = .returned v ∧ (SP.getD i Spec.any).R v w' ∧ S w' ∧ E w w') : wpOp P ops Q i (Kept ops S E SP i a w) a w := by
  refine step_op hi hw ?_
  unfold Oper.wp
  rw [hrun, Oper.upon_enter]
  refine hc.mono fun e w' hr => ?_
  obtain ⟨v, rfl, h1, h2, h3⟩ := hR e w' hr
  exact Kept.mk (by unfold dstOf; rw [hi]; rfl) v h1 h2 h3
theorem left_ev {a : Act} {j : Nat} {v : Value} (h : Left ops a j v) {d : Tmp} (hd : dstOf ops j = some d) (hs : d < a.tmps.size) : a.eval (.tmp d) = v := by
  have := h d hd hs
  unfold Act.eval
  simp [this]
theorem other_ev {a a0 : Act} (ho : ∀ d, d ∉ dsts ops → a.tmps[d]? = a0.tmps[d]?) {d : Tmp} {v : Value} (hd : d ∉ dsts ops) (hv : a0.tmps[d]? = some v) : a.eval (.tmp d) = v := by
  have := ho d hd
  unfold Act.eval
  rw [hv] at this
  simp [this]
theorem left_at {a : Act} {j : Nat} {v : Value} (h : Left ops a j v) {d : Tmp} (hd : dstOf ops j = some d) (hs : d < a.tmps.size) : a.tmps[d]? = some v := h d hd hs
theorem ev_const (a : Act) (v : Value) : a.eval (.const v) = v := rfl
theorem ev_global (a : Act) (g : Nat) : a.eval (.global g) = .pointer (some ⟨g, 0, none⟩) := rfl
theorem ev_func (a : Act) (f : FuncId) : a.eval (.func f) = .func (.func f) #[] #[] := rfl
end
end Go.Proofs.YtnhomnaamlbnpaaDoor.Ord
