/- What every statement of layer 3 ends with: the chapter's example. By an AI agent. -/
import Derived.Test.YtnhomnaamlbnpaaDoorSeal
import Derived.Lib.SlBytesConst
import Derived.Stop.BytesEq
import Derived.Test.YtnhomnaamlbnpaaDoorM
import Derived.Test.YtnhomnaamlbnpaaDoorAdd
import Derived.Laws.Rows
import Derived.Orders
import Derived.WalkKit
namespace Go.Proofs.YtnhomnaamlbnpaaDoor.Ord
open Go
set_option linter.unusedVariables false

section
variable {P : Program} {ops : Array Oper} {Q : Exit → Act → World → Prop} {md : Region.Mode}
def acyc (ops : Array Oper) : Bool := (List.range ops.size).all fun i => ((ops[i]?).map fun o => o.after.all fun e => !Region.binds .any e || decide (e.on < i)).getD true

theorem unlisted_of (hac : acyc ops = true) (listed : Array Bool) (hs : listed.size = ops.size) (hr : Region.ready .any ops listed = []) : ∀ i, i < ops.size → listed.getD i false = true := by
  intro i
  induction i using Nat.strongRecOn with
  | ind i ih =>
    intro hi
    cases hq : listed.getD i true with
    | true =>
      have hl : i < listed.size := by omega
      simp [hl] at hq ⊢
      exact hq
    | false =>
      exfalso
      have hm : i ∈ Region.ready .any ops listed := by
        rw [mem_ready]
        refine ⟨hq, ops[i], by simp [hi], fun e he hb => ?_⟩
        have hlt : e.on < i := by
          unfold acyc at hac
          have := List.all_eq_true.1 hac i (List.mem_range.2 hi)
          simp [hi] at this
          obtain ⟨k, hk, rfl⟩ := Array.mem_iff_getElem.1 he
          have h3 := this k hk
          rw [hb] at h3
          simpa using h3
        exact ih _ hlt (by omega)
      rw [hr] at hm
      cases hm

theorem wpAny_inv (J : Array Bool → Act → World → Prop)
    (step : ∀ listed a w i, J listed a w → listed.size = ops.size → i ∈ Region.ready md ops listed → wpOp P ops Q i (fun a' w' => J (listed.setIfInBounds i true) a' w') a w)
    (done : ∀ listed a w, J listed a w → listed.size = ops.size → Region.ready md ops listed = [] → Q .normal a w) :
    ∀ (fuel : Nat) (listed : Array Bool) (a : Act) (w : World), J listed a w → listed.size = ops.size → listed.toList.count false ≤ fuel → wpAny P md ops Q fuel listed a w
  | 0, listed, a, w, hj, hs, hc => by
    have hr : Region.ready md ops listed = [] := by
      refine List.eq_nil_iff_forall_not_mem.2 fun i hi => ?_
      rw [mem_ready] at hi
      have h0 := List.count_eq_zero.1 (Nat.le_zero.1 hc)
      obtain ⟨h1, o, ho, _⟩ := hi
      have hl : i < listed.size := by have := (Array.getElem?_eq_some_iff.1 ho).1; omega
      simp [hl] at h1
      exact h0 (by rw [← h1]; simp)
    exact ⟨hr, done listed a w hj hs hr⟩
  | fuel + 1, listed, a, w, hj, hs, hc => by
    refine ⟨fun h => done listed a w hj hs h, fun i hi => ?_⟩
    refine wpOp_mono (fun a' w' hJ => wpAny_inv J step done fuel _ a' w' hJ (by simpa using hs) ?_) (step listed a w i hj hs hi)
    rw [mem_ready] at hi
    obtain ⟨h1, o, ho, _⟩ := hi
    have hl : i < listed.size := by have := (Array.getElem?_eq_some_iff.1 ho).1; omega
    simp [hl] at h1
    have : (listed.setIfInBounds i true).toList.count false + 1 = listed.toList.count false := by
      rw [Array.toList_setIfInBounds]
      have hl' : i < listed.toList.length := by simpa using hl
      rw [List.count_set hl']
      have hx : listed.toList[i] = false := by simpa using h1
      have hp : 0 < listed.toList.count false := List.count_pos_iff.2 (by rw [← hx]; exact List.getElem_mem _)
      rw [hx]
      simp only [beq_self_eq_true, if_true, show (true == false) = false from rfl, Bool.false_eq_true, if_false]
      omega
    omega

/-- each operation's temporary filled -/
def fillFrom (X : Nat → Value) : List Oper → Nat → Act → Act
  | [], _, a => a
  | o :: os, j, a => fillFrom X os (j + 1) (a.put o.dst (X j))
def frame (a0 : Act) (ops : Array Oper) (X : Nat → Value) : Act := fillFrom X ops.toList 0 a0
def dsts (ops : Array Oper) : List Tmp := ops.toList.filterMap (·.dst)
def dstOf (ops : Array Oper) (i : Nat) : Option Tmp := (ops[i]?).bind (·.dst)
def oneEach (ops : Array Oper) : Bool := decide (dsts ops).Nodup
theorem put_put (a : Act) (d : Option Tmp) (u v : Value) : (a.put d u).put d v = a.put d v := by
  cases d with
  | none => rfl
  | some d => simp [Act.put]
theorem fill_put (X : Nat → Value) : ∀ (os : List Oper) (j : Nat) (a : Act) (d : Option Tmp) (v : Value), (∀ x, d = some x → x ∉ os.filterMap (·.dst)) → fillFrom X os j (a.put d v) = (fillFrom X os j a).put d v
  | [], _, _, _, _, _ => rfl
  | o :: os, j, a, d, v, h => by
    unfold fillFrom
    rw [Act.put_comm a v (X j) (fun x hx hy => h x hx (by rw [List.filterMap_cons]; rw [hy]; simp)), fill_put X os (j + 1) _ d v (fun x hx hm => h x hx (by rw [List.filterMap_cons]; split <;> simp [hm]))]
def upd (X : Nat → Value) (i : Nat) (v : Value) : Nat → Value := fun j => if j = i then v else X j
theorem fill_upd (X : Nat → Value) (i : Nat) (v : Value) : ∀ (os : List Oper) (j : Nat) (a : Act), (os.filterMap (·.dst)).Nodup → j ≤ i → i < j + os.length →
    fillFrom (upd X i v) os j a = (fillFrom X os j a).put ((os[i - j]?).bind (·.dst)) v
  | [], j, a, _, h1, h2 => by simp at h2; omega
  | o :: os, j, a, hn, h1, h2 => by
    have hn' : (os.filterMap (·.dst)).Nodup := by
      rw [List.filterMap_cons] at hn
      split at hn
      · exact hn
      · exact (List.nodup_cons.1 hn).2
    by_cases hji : j = i
    · subst hji
      unfold fillFrom
      have hsame : ∀ (ps : List Oper) (k : Nat) (b : Act), j < k → fillFrom (upd X j v) ps k b = fillFrom X ps k b := by
        intro ps
        induction ps with
        | nil => intros; rfl
        | cons p ps ih =>
          intro k b hk
          unfold fillFrom
          rw [ih (k + 1) _ (by omega)]
          have : upd X j v k = X k := by unfold upd; rw [if_neg (by omega)]
          rw [this]
      rw [hsame os (j + 1) _ (by omega)]
      have hv : upd X j v j = v := by unfold upd; rw [if_pos rfl]
      rw [hv, Nat.sub_self]
      show fillFrom X os (j + 1) (a.put o.dst v) = (fillFrom X os (j + 1) (a.put o.dst (X j))).put o.dst v
      have hd : ∀ x, o.dst = some x → x ∉ os.filterMap (·.dst) := fun x hx hm => by
        rw [List.filterMap_cons, hx] at hn
        exact (List.nodup_cons.1 hn).1 hm
      rw [← fill_put X os (j + 1) _ _ v hd, put_put]
    · unfold fillFrom
      rw [fill_upd X i v os (j + 1) _ hn' (by omega) (by simp at h2; omega)]
      have h3 : i - j = (i - (j + 1)) + 1 := by omega
      have hv : upd X i v j = X j := by unfold upd; rw [if_neg (by omega)]
      rw [h3, hv]
      rfl
theorem frame_upd (a0 : Act) (hn : oneEach ops = true) (X : Nat → Value) (i : Nat) (v : Value) (hi : i < ops.size) : frame a0 ops (upd X i v) = (frame a0 ops X).put (dstOf ops i) v := by
  unfold frame
  rw [fill_upd X i v ops.toList 0 a0 (of_decide_eq_true hn) (Nat.zero_le _) (by simpa using hi)]
  simp [dstOf]
/-- what stood there -/
def old (a0 : Act) (ops : Array Oper) : Nat → Value := fun j => match dstOf ops j with | some d => a0.tmps.getD d undef | none => undef
theorem fill_old (a0 : Act) (X : Nat → Value) : ∀ (os : List Oper) (j : Nat), (∀ k o d, os[k]? = some o → o.dst = some d → X (j + k) = a0.tmps.getD d undef) → fillFrom X os j a0 = a0
  | [], _, _ => rfl
  | o :: os, j, h => by
    unfold fillFrom
    have hp : a0.put o.dst (X j) = a0 := by
      cases hd : o.dst with
      | none => rfl
      | some d =>
        have := h 0 o d rfl hd
        rw [Nat.add_zero] at this
        rw [this]
        unfold Act.put
        have : a0.tmps.setIfInBounds d (a0.tmps.getD d undef) = a0.tmps := by
          apply Array.ext
          · simp
          · intro k h1 h2
            rw [Array.getElem_setIfInBounds (by simpa using h2)]
            split
            · rename_i hk; subst hk; simp [h2]
            · rfl
        simp only [this]
    rw [hp]
    exact fill_old a0 X os (j + 1) fun k o' d hk hd => by
      have := h (k + 1) o' d hk hd
      rw [show j + 1 + k = j + (k + 1) by omega]; exact this
theorem frame_old (a0 : Act) : frame a0 ops (old a0 ops) = a0 := by
  refine fill_old a0 _ _ 0 fun k o d hk hd => ?_
  rw [Nat.zero_add]
  unfold old dstOf
  have : ops[k]? = some o := by simpa using hk
  rw [this]
  simp [hd]

/-- those that i waits for -/
def deps (ops : Array Oper) (i : Nat) : List Nat := (((ops[i]?).map fun o => (o.after.toList.filter (Region.binds .any)).map (·.on)).getD [])

def Closed (ops : Array Oper) (listed : Array Bool) : Prop := ∀ j, listed.getD j false = true → ∀ i ∈ deps ops j, listed.getD i false = true
theorem deps_of {i : Nat} {o : Oper} (ho : ops[i]? = some o) {listed : Array Bool} (hs : listed.size = ops.size) (hall : ∀ e ∈ o.after, Region.binds .any e = true → listed.getD e.on false = true) : ∀ j ∈ deps ops i, listed.getD j false = true ∧ j < ops.size := fun j hj => by
  unfold deps at hj
  rw [ho] at hj
  simp only [Option.map_some, Option.getD_some, List.mem_map, List.mem_filter] at hj
  obtain ⟨e, ⟨he, hb⟩, rfl⟩ := hj
  have hl := hall e (by simpa using he) hb
  refine ⟨hl, ?_⟩
  rcases Nat.lt_or_ge e.on ops.size with h | h
  · exact h
  · exfalso; rw [← hs] at h; simp [Array.getElem?_eq_none h] at hl
theorem Closed.set {listed : Array Bool} (hC : Closed ops listed) {i : Nat} (hs : listed.size = ops.size) (hlt : i < ops.size) (hd : ∀ j ∈ deps ops i, listed.getD j false = true ∧ j < ops.size) : Closed ops (listed.setIfInBounds i true) := fun j hj k hk => by
  by_cases hki : i = k
  · subst hki; simp [hs, hlt]
  · rw [getD_set_ne false hki]
    by_cases hji : i = j
    · subst hji; exact (hd k hk).1
    · rw [getD_set_ne false hji] at hj
      exact hC j hj k hk
/-- a slot that no operation has written when i runs -/
def free (ops : Array Oper) (i d : Nat) : Bool := !(dsts ops).contains d || (List.range ops.size).any fun k => (dstOf ops k == some d) && (deps ops k).contains i

theorem wp_region_free {id : Nat} {a0 : Act} {w : World} (hm : P.follows .mixedOrders = true) (hac : acyc ops = true) (hnd : oneEach ops = true)
    (S : World → Prop) (E : World → World → Prop) (sp : Nat → Value → World → Prop)
    (hE : ∀ j v w w', sp j v w → S w → S w' → E w w' → sp j v w')
    (h0 : S w.drew)
    (step : ∀ i, i < ops.size → ∀ (X : Nat → Value) (w : World), S w → (∀ j ∈ deps ops i, sp j (X j) w) → (∀ k, k < ops.size → i ∈ deps ops k → X k = old a0 ops k) →
      wpOp P ops Q i (fun a' w' => ∃ v, a' = (frame a0 ops X).put (dstOf ops i) v ∧ sp i v w' ∧ S w' ∧ E w w') (frame a0 ops X) w)
    (done : ∀ (X : Nat → Value) (w : World), S w → (∀ j, j < ops.size → sp j (X j) w) → Q .normal (frame a0 ops X) w) : (Code.region id ops true).wp P Q a0 w := by
  refine wp_region_any hm ?_
  refine wpAny_inv (fun listed a w => S w ∧ Closed ops listed ∧ ∃ X, a = frame a0 ops X ∧ (∀ j, j < ops.size → listed.getD j false = true → sp j (X j) w) ∧ ∀ j, j < ops.size → listed.getD j false = false → X j = old a0 ops j) ?_ ?_ _ _ _ _
    ⟨h0, fun j h => by
      exfalso
      rcases Nat.lt_or_ge j ops.size with hj | hj <;> simp [hj] at h, old a0 ops, (frame_old a0).symm, fun j hj h => by simp [hj] at h, fun _ _ _ => rfl⟩ (by simp) ?_
  · rintro listed a w i ⟨hS, hC, X, rfl, hX, hU⟩ hs hi
    have hi' := hi
    rw [mem_ready] at hi
    obtain ⟨h1, o, ho, hall⟩ := hi
    have hlt : i < ops.size := (Array.getElem?_eq_some_iff.1 ho).1
    have hdl := deps_of ho hs hall
    have hnot : listed.getD i false = false := by
      have hl : i < listed.size := by omega
      simp [hl] at h1 ⊢; exact h1
    refine wpOp_mono ?_ (step i hlt X w hS (fun j hj => hX j (hdl j hj).2 (hdl j hj).1) (fun k hk hik => hU k hk (by
      cases hq : listed.getD k false with
      | false => rfl
      | true => have := hC k hq i hik; rw [this] at hnot; cases hnot)))
    rintro a' w' ⟨v, rfl, hv, hS', hE'⟩
    refine ⟨hS', hC.set hs hlt hdl, upd X i v, (frame_upd a0 hnd X i v hlt).symm, fun j hj hl => ?_, fun j hj hl => ?_⟩
    · unfold upd
      by_cases hji : j = i
      · subst hji; rw [if_pos rfl]; exact hv
      · rw [if_neg hji]
        rw [getD_set_ne false (Ne.symm hji)] at hl
        exact hE _ _ _ _ (hX j hj hl) hS hS' hE'
    · by_cases hji : j = i
      · subst hji; simp [hs, hlt] at hl
      · unfold upd
        rw [if_neg hji]
        rw [getD_set_ne false (Ne.symm hji)] at hl
        exact hU j hj hl
  · rintro listed a w ⟨hS, hC, X, rfl, hX, hU⟩ hs hr
    exact done X w hS fun j hj => hX j hj (unlisted_of hac listed hs hr j hj)
  · simp
/-- an operation that is wanted -/
theorem step_op {i : Nat} {o : Oper} {a : Act} {w : World} {K : Act → World → Prop} (hi : ops[i]? = some o) (hw : Region.wanted o (yielded ops a.tmps) = true) (h : o.wp P a w K Q) : wpOp P ops Q i K a w := by
  unfold wpOp
  simp only [hi, hw, if_true]
  exact .inl h
/-- one that yields a value, and does nothing else -/
theorem step_is {i : Nat} {o : Oper} {a : Act} {w : World} {K : Act → World → Prop} (hi : ops[i]? = some o) (hw : Region.wanted o (yielded ops a.tmps) = true) (v : Value) (hrun : (execOp a.eval o).run P w = .ok (.value v) w) (h : K (a.put o.dst v) w) : wpOp P ops Q i K a w := by
  refine step_op hi hw ?_
  unfold Oper.wp
  rw [hrun, Oper.upon_value]
  exact h

/-- what is asked of an operation's value, and that it stays -/
structure Spec (E : World → World → Prop) where
  R : Value → World → Prop
  keep : ∀ v w w', R v w → E w w' → R v w'
def Spec.is {E : World → World → Prop} (u : Value) : Spec E := ⟨fun v _ => v = u, fun _ _ _ h _ => h⟩
def Spec.any {E : World → World → Prop} : Spec E := ⟨fun _ _ => True, fun _ _ _ _ _ => trivial⟩
def Each (p : Nat → Prop) : Nat → Nat → Prop
  | 0, _ => True
  | n + 1, k => p k ∧ Each p n (k + 1)
theorem Each.at_ {p : Nat → Prop} : ∀ (n k : Nat), Each p n k → ∀ i, k ≤ i → i < k + n → p i
  | 0, k, _, i, h1, h2 => by omega
  | n + 1, k, h, i, h1, h2 => by
    by_cases hk : i = k
    · subst hk; exact h.1
    · exact Each.at_ n (k + 1) h.2 i (by omega) (by omega)
theorem fill_other (X : Nat → Value) (d : Tmp) : ∀ (os : List Oper) (j : Nat) (a : Act), d ∉ os.filterMap (·.dst) → (fillFrom X os j a).tmps[d]? = a.tmps[d]?
  | [], _, _, _ => rfl
  | o :: os, j, a, h => by
    unfold fillFrom
    have h1 : d ∉ os.filterMap (·.dst) := fun hm => h (by rw [List.filterMap_cons]; split <;> simp [hm])
    rw [fill_other X d os (j + 1) _ h1]
    cases hd : o.dst with
    | none => rfl
    | some e =>
      have hne : e ≠ d := fun he => h (by rw [List.filterMap_cons, hd]; simp [he])
      simp [Act.put, Array.getElem?_setIfInBounds_ne hne]
theorem fill_size (X : Nat → Value) : ∀ (os : List Oper) (j : Nat) (a : Act), (fillFrom X os j a).tmps.size = a.tmps.size
  | [], _, _ => rfl
  | o :: os, j, a => by
    unfold fillFrom
    rw [fill_size X os (j + 1)]
    cases hd : o.dst with
    | none => rfl
    | some e => simp [Act.put]
theorem fill_at (X : Nat → Value) (d : Tmp) : ∀ (os : List Oper) (j i : Nat) (o : Oper) (a : Act), (os.filterMap (·.dst)).Nodup → os[i]? = some o → o.dst = some d → d < a.tmps.size → (fillFrom X os j a).tmps[d]? = some (X (j + i))
  | [], _, _, _, _, _, h, _, _ => by simp at h
  | p :: os, j, i, o, a, hn, h, hd, hs => by
    have hn' : (os.filterMap (·.dst)).Nodup := by
      rw [List.filterMap_cons] at hn
      split at hn
      · exact hn
      · exact (List.nodup_cons.1 hn).2
    unfold fillFrom
    rcases i with _ | i
    · obtain rfl : p = o := by simpa using h
      have hm : d ∉ os.filterMap (·.dst) := fun hm => by
        rw [List.filterMap_cons, hd] at hn
        exact (List.nodup_cons.1 hn).1 hm
      rw [fill_other X d os (j + 1) _ hm, hd]
      simp [Act.put, hs]
    · rw [fill_at X d os (j + 1) i o _ hn' (by simpa using h) hd (by
        cases hp : p.dst with
        | none => exact hs
        | some e => simpa [Act.put] using hs), show j + 1 + i = j + (i + 1) by omega]
/-- operation j has left v -/
def Left (ops : Array Oper) (a : Act) (j : Nat) (v : Value) : Prop := ∀ d, dstOf ops j = some d → d < a.tmps.size → a.tmps[d]? = some v
theorem frame_left (a0 : Act) (hn : oneEach ops = true) (X : Nat → Value) (j : Nat) : Left ops (frame a0 ops X) j (X j) := fun d hd hs => by
  unfold frame at hs ⊢
  rw [fill_size] at hs
  unfold dstOf at hd
  cases ho : ops[j]? with
  | none => rw [ho] at hd; cases hd
  | some o =>
    rw [ho] at hd
    have := fill_at X d ops.toList 0 j o a0 (of_decide_eq_true hn) (by simpa using ho) hd hs
    rwa [Nat.zero_add] at this
/-- a duty's end: the value put, and what stays -/
def Kept (ops : Array Oper) (S : World → Prop) (E : World → World → Prop) (SP : List (Spec E)) (i : Nat) (a : Act) (w : World) : Act → World → Prop :=
  fun a' w' => ∃ v, a' = a.put (dstOf ops i) v ∧ (SP.getD i Spec.any).R v w' ∧ S w' ∧ E w w'
theorem Kept.mk {S : World → Prop} {E : World → World → Prop} {SP : List (Spec E)} {i : Nat} {a : Act} {w w' : World} {d : Option Tmp} (hd : dstOf ops i = d) (v : Value) (h : (SP.getD i Spec.any).R v w') (hS : S w') (hE : E w w') : Kept ops S E SP i a w (a.put d v) w' := by
  subst hd; exact ⟨v, rfl, h, hS, hE⟩
def Duty (P : Program) (ops : Array Oper) (Q : Exit → Act → World → Prop) (a0 : Act) (S : World → Prop) (E : World → World → Prop) (SP : List (Spec E)) (i : Nat) : Prop :=
  ∀ (a : Act) (w : World), S w → (∀ j, j ∈ deps ops i → ∃ v, Left ops a j v ∧ (SP.getD j Spec.any).R v w) → (∀ d, free ops i d = true → a.tmps[d]? = a0.tmps[d]?) → a.tmps.size = a0.tmps.size → wpOp P ops Q i (Kept ops S E SP i a w) a w
theorem free_at (a0 : Act) (hn : oneEach ops = true) (X : Nat → Value) (i d : Nat) (hu : ∀ k, k < ops.size → i ∈ deps ops k → X k = old a0 ops k) (hf : free ops i d = true) : (frame a0 ops X).tmps[d]? = a0.tmps[d]? := by
  unfold free at hf
  rw [Bool.or_eq_true] at hf
  rcases hf with h | h
  · exact fill_other X d ops.toList 0 a0 (show d ∉ dsts ops by simpa using h)
  · obtain ⟨k, hk, h2⟩ := List.any_eq_true.1 h
    rw [Bool.and_eq_true] at h2
    obtain ⟨h3, h4⟩ := h2
    have h3 : dstOf ops k = some d := by simpa using h3
    have hx := hu k (List.mem_range.1 hk) (by simpa using h4)
    rcases Nat.lt_or_ge d a0.tmps.size with hs | hs
    · have := frame_left a0 hn X k d h3 (by unfold frame; rw [fill_size]; exact hs)
      rw [this, hx]
      unfold old
      rw [h3]
      simp [hs]
    · rw [Array.getElem?_eq_none hs, Array.getElem?_eq_none (by unfold frame; rw [fill_size]; exact hs)]
theorem wp_region_spec {id : Nat} {a0 : Act} {w : World} (hm : P.follows .mixedOrders = true) (hac : acyc ops = true) (hnd : oneEach ops = true)
    (S : World → Prop) (E : World → World → Prop) (SP : List (Spec E)) (n : Nat) (hn : ops.size = n)
    (h0 : S w.drew) (step : Each (Duty P ops Q a0 S E SP) n 0)
    (done : ∀ (X : Nat → Value) (w : World), S w → (∀ j, j < n → (SP.getD j Spec.any).R (X j) w) → Q .normal (frame a0 ops X) w) : (Code.region id ops true).wp P Q a0 w :=
  wp_region_free hm hac hnd S E (fun j => (SP.getD j Spec.any).R) (fun j v w w' h _ _ e => (SP.getD j Spec.any).keep v w w' h e) h0
    (fun i hi X w hS hd hu => Each.at_ n 0 step i (Nat.zero_le _) (by omega) (frame a0 ops X) w hS (fun j hj => ⟨X j, frame_left a0 hnd X j, hd j hj⟩) (fun d hd => free_at a0 hnd X i d hu hd) (fill_size X ops.toList 0 a0)) (fun X w hS h => done X w hS fun j hj => h j (by omega))
theorem wanted_none {o : Oper} {tmps : Array Value} (hg : o.guard = none) : Region.wanted o (yielded ops tmps) = true := by unfold Region.wanted; rw [hg]
theorem wanted_guard {o : Oper} {tmps : Array Value} {g d : Nat} {b : Bool} (hg : o.guard = some (g, b)) (hd : dstOf ops g = some d) (hv : tmps[d]? = some (.bool b)) : Region.wanted o (yielded ops tmps) = true := by
  unfold Region.wanted yielded
  unfold dstOf at hd
  rw [hg]
  simp only [hd]
  simp [hv]
theorem duty_is {S : World → Prop} {E : World → World → Prop} {SP : List (Spec E)} {i : Nat} {o : Oper} {a : Act} {w : World} (hi : ops[i]? = some o) (hw : Region.wanted o (yielded ops a.tmps) = true) (v : Value) (hrun : (execOp a.eval o).run P w = .ok (.value v) w)
    (hR : (SP.getD i Spec.any).R v w) (hS : S w) (hE : E w w) : wpOp P ops Q i (Kept ops S E SP i a w) a w :=
  step_is hi hw v hrun (Kept.mk (by unfold dstOf; rw [hi]; rfl) v hR hS hE)
theorem duty_run {S : World → Prop} {E : World → World → Prop} {SP : List (Spec E)} {i : Nat} {o : Oper} {a : Act} {w w' : World} (hi : ops[i]? = some o) (hw : Region.wanted o (yielded ops a.tmps) = true) (v : Value) (hrun : (execOp a.eval o).run P w = .ok (.value v) w')
    (hR : (SP.getD i Spec.any).R v w') (hS : S w') (hE : E w w') : wpOp P ops Q i (Kept ops S E SP i a w) a w := by
  refine step_op hi hw ?_
  unfold Oper.wp
  rw [hrun, Oper.upon_value]
  exact Kept.mk (by unfold dstOf; rw [hi]; rfl) v hR hS hE
theorem duty_call {S : World → Prop} {E : World → World → Prop} {SP : List (Spec E)} {i : Nat} {o : Oper} {a : Act} {w : World} {R : Ending → World → Prop} (hi : ops[i]? = some o) (hw : Region.wanted o (yielded ops a.tmps) = true) (f : FuncId) (args : Array Value)
    (hrun : (execOp a.eval o).run P w = .ok (.enter f args) w) (hc : Calls P f args w R) (hR : ∀ e w', R e w' → ∃ v, e = .returned v ∧ (SP.getD i Spec.any).R v w' ∧ S w' ∧ E w w') : wpOp P ops Q i (Kept ops S E SP i a w) a w := by
  refine step_op hi hw ?_
  unfold Oper.wp
  rw [hrun, Oper.upon_enter]
  refine hc.mono fun e w' hr => ?_
  obtain ⟨v, rfl, h1, h2, h3⟩ := hR e w' hr
  exact Kept.mk (by unfold dstOf; rw [hi]; rfl) v h1 h2 h3
theorem left_ev {a : Act} {j : Nat} {v : Value} (h : Left ops a j v) {d : Tmp} (hd : dstOf ops j = some d) (hs : d < a.tmps.size) : a.eval (.tmp d) = v := by
  have := h d hd hs
  unfold Act.eval
  simp [this]
theorem other_ev {a a0 : Act} {i : Nat} (ho : ∀ d, free ops i d = true → a.tmps[d]? = a0.tmps[d]?) {d : Tmp} {v : Value} (hd : free ops i d = true) (hv : a0.tmps[d]? = some v) : a.eval (.tmp d) = v := by
  have := ho d hd
  unfold Act.eval
  rw [hv] at this
  simp [this]
theorem left_at {a : Act} {j : Nat} {v : Value} (h : Left ops a j v) {d : Tmp} (hd : dstOf ops j = some d) (hs : d < a.tmps.size) : a.tmps[d]? = some v := h d hd hs
theorem ev_const (a : Act) (v : Value) : a.eval (.const v) = v := rfl
theorem ev_global (a : Act) (g : Nat) : a.eval (.global g) = .pointer (some ⟨g, 0, none⟩) := rfl
theorem ev_func (a : Act) (f : FuncId) : a.eval (.func f) = .func (.func f) #[] #[] := rfl
end
end Go.Proofs.YtnhomnaamlbnpaaDoor.Ord
namespace Go.Proofs.YtnhomnaamlbnpaaDoor.Ext
open Go Go.RowKit Go.Proofs.YtnhomnaamlbnpaaDoor.M Go.Proofs.YtnhomnaamlbnpaaDoor.Sha
set_option linter.unusedVariables false

structure Ext (B : Nat) (w w' : World) : Prop where
  os : w'.os = w.os
  tape : w'.tape = w.tape
  output : w'.output = w.output
  size : w.heap.size ≤ w'.heap.size
  block : ∀ k, k < B → w'.heap[k]? = w.heap[k]?
  cells : ∀ (k : Nat) (cs : Array Value) (t : TypeId) (fr : Nat × Nat), w.heap[k]? = some (Obj.cells cs t fr) → ∃ fr' : Nat × Nat, w'.heap[k]? = some (Obj.cells cs t fr')
theorem Ext.refl (B : Nat) (w : World) : Ext B w w := ⟨rfl, rfl, rfl, Nat.le_refl _, fun _ _ => rfl, fun _ _ _ fr h => ⟨fr, h⟩⟩
theorem Ext.trans {B : Nat} {a b c : World} (h : Ext B a b) (k : Ext B b c) : Ext B a c :=
  ⟨k.os.trans h.os, k.tape.trans h.tape, k.output.trans h.output, Nat.le_trans h.size k.size, fun i hi => (k.block i hi).trans (h.block i hi), fun i cs t fr hh => by
    obtain ⟨fr1, h1⟩ := h.cells i cs t fr hh
    exact k.cells i cs t fr1 h1⟩
theorem Ext.of {B : Nat} {w w' : World} (h : Below w.heap.size w w') (hB : B ≤ w.heap.size) : Ext B w w' :=
  ⟨h.os, h.tape, h.output, h.size, fun k hk => h.block k (by omega), fun k cs t fr hh => ⟨fr, (h.block k (by
    rcases Nat.lt_or_ge k w.heap.size with hl | hl
    · exact hl
    · rw [Array.getElem?_eq_none hl] at hh; cases hh)).trans hh⟩⟩
theorem Ext.below {B : Nat} {w w' : World} (h : Ext B w w') : Below B w w' := ⟨h.os, h.tape, h.output, h.size, h.block⟩
theorem Ext.cell {B : Nat} {w w' : World} (h : Ext B w w') {a : Addr} {v : Value} (hc : w.cell? a = some v) : w'.cell? a = some v := by
  unfold World.cell? at hc ⊢
  cases hq : w.heap[a.block]? with
  | none => rw [hq] at hc; cases hc
  | some o =>
    rw [hq] at hc
    cases o with
    | cells cs t fr =>
      obtain ⟨fr', h'⟩ := h.cells _ _ _ _ hq
      rw [h']
      exact hc
    | _ => cases hc
theorem Ext.byts {B : Nat} {w w' : World} {S : Nat → Prop} {v : Value} {l : List UInt8} (e : Ext B w w') (h : Byts w S v l) : Byts w' S v l := by
  obtain ⟨A, n, c, rfl, hl, hnc, hm, h0, hc⟩ := h
  exact ⟨A, n, c, rfl, hl, hnc, hm, h0, fun ad ea hn => ⟨(hc ad ea hn).1, fun j b hb => e.cell ((hc ad ea hn).2 j b hb)⟩⟩
/-- bytes, wherever they lie -/
def Bs (l : List UInt8) (v : Value) (w : World) : Prop := Byts w (fun k => k < w.heap.size) v l
theorem Bs.ext {B : Nat} {w w' : World} {v : Value} {l : List UInt8} (h : Bs l v w) (e : Ext B w w') : Bs l v w' := (e.byts h).sub fun i hi => by have := e.size; omega
theorem Bs.below {w w' : World} {v : Value} {l : List UInt8} (h : Bs l v w) (hb : Below w.heap.size w w') : Bs l v w' := (Byts.same h (same_below hb)).sub fun i hi => by have := hb.size; omega
theorem bel {w w' : World} {g : Nat} {t : TypeId} {cs : Array Value} (h : Blk w g t cs) (hb : Below w.heap.size w w') : Blk w' g t cs := h.same (same_below hb) h.lt
/-- parts, wherever they lie -/
def Ps (ls : List (List UInt8)) (v : Value) (w : World) : Prop := Parts w (fun k => k < w.heap.size) v ls
theorem Ps.ext {B : Nat} {w w' : World} {v : Value} {ls : List (List UInt8)} (h : Ps ls v w) (e : Ext B w w') : Ps ls v w' := by
  obtain ⟨A, c, rfl, h1, h2, h3⟩ := h
  have := e.size
  refine ⟨A, c, rfl, h1, h2, fun i l hl => ?_⟩
  obtain ⟨g, off, u, hA, hg, hc, hb⟩ := h3 i l hl
  exact ⟨g, off, u, hA, by omega, e.cell hc, (e.byts hb).sub fun i hi => by omega⟩
/-- a row of its own, whatever is marked of it -/
def Row (B : Nat) (cs : Array Value) (t : TypeId) (n : Nat) (v : Value) (w : World) : Prop := ∃ g fr, v = .slice (some ⟨g, 0, none⟩) n n ∧ B ≤ g ∧ w.heap[g]? = some (Obj.cells cs t fr)
theorem Row.ext {B : Nat} {w w' : World} {cs : Array Value} {t : TypeId} {n : Nat} {v : Value} (h : Row B cs t n v w) (e : Ext B w w') : Row B cs t n v w' := by
  obtain ⟨g, fr, rfl, hg, hh⟩ := h
  obtain ⟨fr', h'⟩ := e.cells _ _ _ _ hh
  exact ⟨g, fr', rfl, hg, h'⟩
theorem Row.bytes {B : Nat} {w : World} {cs : Array Value} {t : TypeId} {n : Nat} {v : Value} {l : List UInt8} (h : Row B cs t n v w) (hc : cs.toList = l.map fun b => Value.int .u8 (b.toNat : Int)) (hn : l.length = n) (hm : n ≤ maxLen) : Bs l v w := by
  obtain ⟨g, fr, rfl, hg, hh⟩ := h
  refine ⟨_, _, _, rfl, hn, Nat.le_refl _, hm, (fun h0 => by cases h0), ?_⟩
  intro ad h1 _
  cases h1
  refine ⟨(Array.getElem?_eq_some_iff.1 hh).1, fun j b hj => ?_⟩
  rw [Addr.add_lit, cell_of_row w g _ cs t fr hh, ← Array.getElem?_toList, hc]
  simp [hj]
/-- a literal's row, marked -/
theorem row_mark {P : Program} {B : Nat} {w : World} {cs : Array Value} {t e : TypeId} {n : Nat} {v : Value} (h : Row B cs e n v w) (ht : P.underlying t = some (.slice e)) (he : P.underlying e = some (.int .u8)) :
    ∃ w', (convert t t v).run P w = .ok v w' ∧ Ext B w w' ∧ w'.heap.size = w.heap.size := by
  obtain ⟨g, fr, rfl, hg, hh⟩ := h
  have hsh : w.shape? g = some (e, cs.size) := by unfold World.shape?; rw [hh]
  refine ⟨w.freeze ⟨g, cs.size, none⟩ 1, ?_, ?_, ?_⟩
  · simp [convert, run_underlying ht, run_underlying he, markStringish, hsh]
  · unfold World.freeze
    rw [if_neg (by decide)]
    refine ⟨rfl, rfl, rfl, by simp, fun k hk => ?_, fun k cs' t' fr' hk => ?_⟩
    · simp only
      rw [Array.getElem?_modify, if_neg (by show ¬ g = k; omega)]
    · simp only
      rw [Array.getElem?_modify]
      by_cases hkg : g = k
      · subst hkg
        rw [if_pos rfl, hk]
        exact ⟨_, rfl⟩
      · rw [if_neg hkg]
        exact ⟨_, hk⟩
  · unfold World.freeze
    rw [if_neg (by decide)]
    simp
/-- a whole variable read -/
theorem run_load_blk {P : Program} {o : Oper} {a : Act} {w : World} (ty : TypeId) (x : Operand) (ho : o.op = .load ty x) (g : Nat) (hx : a.eval x = .pointer (some ⟨g, 0, none⟩)) (t : TypeId) (cs : Array Value) (d : TypeDesc) (hg : Blk w g t cs)
    (hu : P.underlying ty = some d) (hd : (match d with | .struct _ | .array _ _ => true | _ => false) = true) (hi : (P.info? ty).map (·.size) = some cs.size) : (execOp a.eval o).run P w = .ok (.value (.agg cs)) w := by
  unfold execOp
  simp only [ho, hx, Instr.loadAt, Instr.sureAddr, Sem.run_bind, Sem.run_pure, Result.andThen_ok, run_loadVar_row w g t ty cs (0, 0) d hg hu hd hi]
end Go.Proofs.YtnhomnaamlbnpaaDoor.Ext
namespace Go.Proofs.YtnhomnaamlbnpaaDoor.Seal
open Go.RowKit Go.Proofs.YtnhomnaamlbnpaaDoor.M Go.Proofs.YtnhomnaamlbnpaaDoor.Sha Go.Proofs.YtnhomnaamlbnpaaDoor.Nw Go.Proofs.YtnhomnaamlbnpaaDoor.Ld Go.Proofs.YtnhomnaamlbnpaaDoor.Ord Go.Proofs.YtnhomnaamlbnpaaDoor.Ext
set_option linter.unusedVariables false
set_option maxRecDepth 20000

theorem parts0 (w : World) (S : Nat → Prop) : Parts w S (.slice none 0 0) [] := ⟨none, 0, rfl, Nat.le_refl _, Nat.zero_le _, fun i l h => by simp at h⟩
theorem eql_key (xs ys : List UInt8) (hx : xs.length = 32) (hy : ys.length = 32) (u : World) : (binOp .eql 26 (.agg (xs.map cell8).toArray) (.agg (ys.map cell8).toArray)).run Tryd.prog u = .ok (.bool (xs == ys)) u := by
  obtain ⟨i0, hi0, hs0⟩ := info1
  exact run_eql_bytes u 26 5 32 Tryd.underlying26 Tryd.underlying5 (fun w => by simp [sizeOf, typeInfo, hi0, hs0]) xs ys hx hy
theorem neq_key (xs ys : List UInt8) (hx : xs.length = 32) (hy : ys.length = 32) (u : World) : (binOp .neq 26 (.agg (xs.map cell8).toArray) (.agg (ys.map cell8).toArray)).run Tryd.prog u = .ok (.bool (!(xs == ys))) u := by
  obtain ⟨i0, hi0, hs0⟩ := info1
  have h := run_equalIn_bytes (P := Tryd.prog) (w := u) 9998 26 5 32 Tryd.underlying26 Tryd.underlying5 (fun w => by simp [sizeOf, typeInfo, hi0, hs0]) xs ys hx hy
  have h2 : (Op.equalIn 10000 26 (.agg (xs.map cell8).toArray) (.agg (ys.map cell8).toArray)).run Tryd.prog u = .ok (xs == ys) u := h
  rw [run_neq_struct, h2]
  rfl
theorem guardKeyTy : Tryd.prog.eqGuardType Tryd.prog.depth 26 = false := by kernel_rfl
theorem guard_key (b : BinOp) (x y : Operand) (A B : Array Value) (u : World) : (eqGuard b 26 x y (.agg A) (.agg B)).run Tryd.prog u = .ok () u := by
  simp [eqGuard, guardKeyTy, Sem.run_bind]
def k0 : List UInt8 := hmac [107, 101, 121] (lay [104, 101, 108, 108, 111] [])
theorem k0_ne : (k0 == row8 32) = false := by decide +kernel

set_option maxHeartbeats 1000000 in
theorem wakes_any (w : World) (ht : Tab w) :
    Calls Tryd.prog 15 #[] w fun e w' => e = .returned (.bool true) ∧ Below w.heap.size w w' := by
  have kc := fun (w : World) (C : Array Value) (n c : Nat) => Lib.run_convert_bytes_const (P := Tryd.prog) w 22 5 C n c Tryd.underlying22 Tryd.underlying5
  have htG := ht.1
  go_enter Tryd.func15, Tryd.ntmps15
  go_wp2_with fail
  have hb1 : Below w.heap.size w (w.alloc (.cells #[.int .u8 107, .int .u8 101, .int .u8 121] 5 (3, 4))) := (Below.refl _ _).alloc (Nat.le_refl _) _
  refine (derive_ok _ _ [107, 101, 121] _ [] _ (fun _ => False) _ (byts_new w #[.int .u8 107, .int .u8 101, .int .u8 121] 5 [107, 101, 121] 3 (by simp [maxLen]) rfl) (parts0 _ _) (by rintro i rfl; simp) (fun i hi => hi.elim) (ht.below hb1 htG) (by simp) (by simp) (by decide) (by simp) (by decide)).mono ?_
  rintro e w2 ⟨rfl, hb2⟩
  have hbw2 : Below w.heap.size w w2 := hb1.trans (hb2.mono hb1.size)
  obtain ⟨k, hk⟩ : ∃ k, k = k0 := ⟨_, rfl⟩
  have hke : hmac [107, 101, 121] (lay (⟨#[104, 101, 108, 108, 111]⟩ : ByteArray).data.toList []) = k := by rw [hk]; rfl
  rw [hke]
  have hkl : k.length = 32 := by rw [hk]; exact sha_length _
  have HKL := Lib.hid hkl
  have HK := Lib.hid hk
  have hkn : (k == row8 32) = false := by rw [hk]; exact k0_ne
  have HKN := Lib.hid hkn
  clear hkn
  have HSS := Lib.hid (key_size k hkl)
  have HRS := Lib.hid (row_size k 32 hkl)
  clear hkl hk hke kc hb1 hb2
  go_wp2_with (first | (with_reducible refine wpList_alloc_new rfl 26 rfl _ allocKey ?_; intro g4 w4 n4) | (with_reducible refine wpList_store_all rfl 26 (.tmp 1) (.tmp 7) rfl _ _ rfl rfl _ _ n4.blk HSS.out HRS.out (all_cell8 k) ?_; intro w5 p5) | fail)
  have hbw5 : Below w.heap.size w w5 := below_grown (hbw2.trans (n4.below.mono hbw2.size)) p5.grown (by have := n4.is; have := hbw2.size; omega)
  have hg4 : w.heap.size ≤ g4 := by have := n4.is; have := hbw2.size; omega
  have hB5 := p5.blk
  obtain ⟨B, hB⟩ : ∃ B, B = w5.heap.size := ⟨_, rfl⟩
  have ht5 := ht.below hbw5 htG
  have h0S : Ext B w5 w5.drew := ⟨rfl, rfl, rfl, Nat.le_refl _, fun _ _ => rfl, fun _ _ _ fr h => ⟨fr, h⟩⟩
  refine wp_region_spec (by kernel_rfl) (by kernel_rfl) (by kernel_rfl) (fun u => Ext B w5 u) (Ext B)
    [Spec.is (.int .i64 0), Spec.is (.bool true), Spec.is (.bool true), Spec.is (.agg (k.map cell8).toArray), Spec.is (.agg ((row8 32).map cell8).toArray), Spec.is (.bool true), Spec.is (.bool true), Spec.is (.bool true), Spec.is (.agg (k.map cell8).toArray), ⟨Row B #[.int .u8 107, .int .u8 101, .int .u8 121] 5 3, fun _ _ _ h e => h.ext e⟩, ⟨Bs [107, 101, 121], fun _ _ _ h e => h.ext e⟩, ⟨Row B #[.int .u8 0, .int .u8 5, .int .u8 104, .int .u8 101, .int .u8 108, .int .u8 108, .int .u8 111] 5 7, fun _ _ _ h e => h.ext e⟩, ⟨Bs [0, 5, 104, 101, 108, 108, 111], fun _ _ _ h e => h.ext e⟩, ⟨Ps [[0, 5, 104, 101, 108, 108, 111]], fun _ _ _ h e => h.ext e⟩, Spec.is (.agg (k.map cell8).toArray), Spec.is (.bool true), Spec.is (.bool true), Spec.is (.bool true)] 18 (by kernel_rfl) h0S ⟨?_, ?_, ?_, ?_, ?_, ?_, ?_, ?_, ?_, ?_, ?_, ?_, ?_, ?_, ?_, ?_, ?_, ?_, trivial⟩ ?_
  · intro a w hS hd ho hsz   -- 0: move t2
    have e2 : a.eval (.tmp 2) = .int .i64 0 := other_ev ho (by decide +kernel) rfl
    refine duty_is (by rfl) (wanted_none rfl) (.int .i64 0) ?_ rfl hS (Ext.refl _ _)
    simp only [execOp, List.getElem_toArray, List.getElem_cons_succ, List.getElem_cons_zero, e2, ev_const]
    go_simp
  · intro a w hS hd ho hsz   -- 1: binOp BinOp.eql 27 t9 (const (0:i64)) 27
    obtain ⟨_, l0, rfl⟩ := hd 0 (by decide +kernel)
    have e9 := left_ev l0 (d := 9) (by rfl) (by rw [hsz]; simp)
    refine duty_is (by rfl) (wanted_none rfl) (.bool true) ?_ rfl hS (Ext.refl _ _)
    simp only [execOp, List.getElem_toArray, List.getElem_cons_succ, List.getElem_cons_zero, e9, ev_const]
    go_simp
  · intro a w hS hd ho hsz   -- 2: move t10
    obtain ⟨_, l1, rfl⟩ := hd 1 (by decide +kernel)
    have e10 := left_ev l1 (d := 10) (by rfl) (by rw [hsz]; simp)
    refine duty_is (by rfl) (wanted_none rfl) (.bool true) ?_ rfl hS (Ext.refl _ _)
    simp only [execOp, List.getElem_toArray, List.getElem_cons_succ, List.getElem_cons_zero, e10, ev_const]
    go_simp
  · intro a w hS hd ho hsz   -- 3: load 26 t1
    obtain ⟨_, l2, rfl⟩ := hd 2 (by decide +kernel)
    have e1 : a.eval (.tmp 1) = .pointer (some ⟨g4, 0, none⟩) := other_ev ho (by decide +kernel) rfl
    have hB6 : Blk w g4 26 (k.map cell8).toArray := (hS.block g4 (by rw [hB]; exact hB5.lt)).trans hB5
    refine duty_is (by rfl) (wanted_guard rfl (by rfl) (left_at l2 (d := 11) (by rfl) (by rw [hsz]; simp))) (.agg (k.map cell8).toArray) ?_ rfl hS (Ext.refl _ _)
    exact run_load_blk 26 (.tmp 1) rfl g4 e1 _ _ _ hB6 Tryd.underlying26 rfl HSS.out
  · intro a w hS hd ho hsz   -- 4: build 26 #[]
    obtain ⟨_, l2, rfl⟩ := hd 2 (by decide +kernel)
    refine duty_is (by rfl) (wanted_guard rfl (by rfl) (left_at l2 (d := 11) (by rfl) (by rw [hsz]; simp))) (.agg ((row8 32).map cell8).toArray) ?_ rfl hS (Ext.refl _ _)
    simp only [execOp, List.getElem_toArray, List.getElem_cons_succ, List.getElem_cons_zero, List.map_toArray, List.map_cons, List.map_nil, ev_const]
    go_simp
    rfl
  · intro a w hS hd ho hsz   -- 5: binOp BinOp.neq 26 t12 t13 26
    obtain ⟨_, l2, rfl⟩ := hd 2 (by decide +kernel)
    obtain ⟨_, l3, rfl⟩ := hd 3 (by decide +kernel)
    obtain ⟨_, l4, rfl⟩ := hd 4 (by decide +kernel)
    have e12 := left_ev l3 (d := 12) (by rfl) (by rw [hsz]; simp)
    have e13 := left_ev l4 (d := 13) (by rfl) (by rw [hsz]; simp)
    have hnq := fun u => neq_key k (row8 32) HKL.out (by simp [row8]) u
    rw [HKN.out] at hnq
    have hgd := guard_key
    refine duty_is (by rfl) (wanted_guard rfl (by rfl) (left_at l2 (d := 11) (by rfl) (by rw [hsz]; simp))) (.bool true) ?_ rfl hS (Ext.refl _ _)
    simp only [execOp, List.getElem_toArray, List.getElem_cons_succ, List.getElem_cons_zero, List.map_toArray, List.map_cons, List.map_nil, e12, e13, ev_const]
    go_simp
  · intro a w hS hd ho hsz   -- 6: pick t11 t14 (const (Value.bool false))
    obtain ⟨_, l2, rfl⟩ := hd 2 (by decide +kernel)
    obtain ⟨_, l5, rfl⟩ := hd 5 (by decide +kernel)
    have e11 := left_ev l2 (d := 11) (by rfl) (by rw [hsz]; simp)
    have e14 := left_ev l5 (d := 14) (by rfl) (by rw [hsz]; simp)
    refine duty_is (by rfl) (wanted_none rfl) (.bool true) ?_ rfl hS (Ext.refl _ _)
    simp only [execOp, List.getElem_toArray, List.getElem_cons_succ, List.getElem_cons_zero, e11, e14, ev_const]
    go_simp
  · intro a w hS hd ho hsz   -- 7: move t15
    obtain ⟨_, l6, rfl⟩ := hd 6 (by decide +kernel)
    have e15 := left_ev l6 (d := 15) (by rfl) (by rw [hsz]; simp)
    refine duty_is (by rfl) (wanted_none rfl) (.bool true) ?_ rfl hS (Ext.refl _ _)
    simp only [execOp, List.getElem_toArray, List.getElem_cons_succ, List.getElem_cons_zero, e15, ev_const]
    go_simp
  · intro a w hS hd ho hsz   -- 8: load 26 t1
    obtain ⟨_, l7, rfl⟩ := hd 7 (by decide +kernel)
    have e1 : a.eval (.tmp 1) = .pointer (some ⟨g4, 0, none⟩) := other_ev ho (by decide +kernel) rfl
    have hB6 : Blk w g4 26 (k.map cell8).toArray := (hS.block g4 (by rw [hB]; exact hB5.lt)).trans hB5
    refine duty_is (by rfl) (wanted_guard rfl (by rfl) (left_at l7 (d := 16) (by rfl) (by rw [hsz]; simp))) (.agg (k.map cell8).toArray) ?_ rfl hS (Ext.refl _ _)
    exact run_load_blk 26 (.tmp 1) rfl g4 e1 _ _ _ hB6 Tryd.underlying26 rfl HSS.out
  · intro a w hS hd ho hsz   -- 9: buildSlice 22 3 #[(0, const (107:u8)), (1, const (101:u8)), (2, const (121:u8))]
    obtain ⟨_, l7, rfl⟩ := hd 7 (by decide +kernel)
    have hBw : B ≤ w.heap.size := by rw [hB]; exact hS.size
    have he : Ext B w (w.alloc (.cells #[.int .u8 107, .int .u8 101, .int .u8 121] 5)) := Ext.of ((Below.refl _ _).alloc (Nat.le_refl _) _) hBw
    refine duty_run (by rfl) (wanted_guard rfl (by rfl) (left_at l7 (d := 16) (by rfl) (by rw [hsz]; simp))) (.slice (some ⟨w.heap.size, 0, none⟩) 3 3) (w' := w.alloc (.cells #[.int .u8 107, .int .u8 101, .int .u8 121] 5)) ?_ ⟨_, (0, 0), rfl, hBw, heap_alloc_new w _⟩ (hS.trans he) he
    simp only [execOp, List.getElem_toArray, List.getElem_cons_succ, List.getElem_cons_zero, List.map_toArray, List.map_cons, List.map_nil, ev_const]
    go_simp
  · intro a w hS hd ho hsz   -- 10: convert 22 22 t18
    obtain ⟨_, l7, rfl⟩ := hd 7 (by decide +kernel)
    obtain ⟨v9, l9, q9⟩ := hd 9 (by decide +kernel)
    replace q9 : (Row B #[.int .u8 107, .int .u8 101, .int .u8 121] 5 3) v9 w := q9
    have e18 := left_ev l9 (d := 18) (by rfl) (by rw [hsz]; simp)
    obtain ⟨w', hrun, he, _⟩ := row_mark (P := Tryd.prog) q9 Tryd.underlying22 Tryd.underlying5
    refine duty_run (by rfl) (wanted_guard rfl (by rfl) (left_at l7 (d := 16) (by rfl) (by rw [hsz]; simp))) v9 ?_ ((q9.ext he).bytes (l := [107, 101, 121]) rfl rfl (by simp [maxLen])) (hS.trans he) he
    simp only [execOp, List.getElem_toArray, List.getElem_cons_succ, List.getElem_cons_zero, List.map_toArray, List.map_cons, List.map_nil, e18, ev_const, Sem.run_bind, hrun]
    rfl
  · intro a w hS hd ho hsz   -- 11: buildSlice 22 7 #[(0, const (0:u8)), (1, const (5:u8)), (2, const (104:u8)), (3, const (10
    obtain ⟨_, l7, rfl⟩ := hd 7 (by decide +kernel)
    have hBw : B ≤ w.heap.size := by rw [hB]; exact hS.size
    have he : Ext B w (w.alloc (.cells #[.int .u8 0, .int .u8 5, .int .u8 104, .int .u8 101, .int .u8 108, .int .u8 108, .int .u8 111] 5)) := Ext.of ((Below.refl _ _).alloc (Nat.le_refl _) _) hBw
    refine duty_run (by rfl) (wanted_guard rfl (by rfl) (left_at l7 (d := 16) (by rfl) (by rw [hsz]; simp))) (.slice (some ⟨w.heap.size, 0, none⟩) 7 7) (w' := w.alloc (.cells #[.int .u8 0, .int .u8 5, .int .u8 104, .int .u8 101, .int .u8 108, .int .u8 108, .int .u8 111] 5)) ?_ ⟨_, (0, 0), rfl, hBw, heap_alloc_new w _⟩ (hS.trans he) he
    simp only [execOp, List.getElem_toArray, List.getElem_cons_succ, List.getElem_cons_zero, List.map_toArray, List.map_cons, List.map_nil, ev_const]
    go_simp
  · intro a w hS hd ho hsz   -- 12: convert 22 22 t20
    obtain ⟨_, l7, rfl⟩ := hd 7 (by decide +kernel)
    obtain ⟨v11, l11, q11⟩ := hd 11 (by decide +kernel)
    replace q11 : (Row B #[.int .u8 0, .int .u8 5, .int .u8 104, .int .u8 101, .int .u8 108, .int .u8 108, .int .u8 111] 5 7) v11 w := q11
    have e20 := left_ev l11 (d := 20) (by rfl) (by rw [hsz]; simp)
    obtain ⟨w', hrun, he, _⟩ := row_mark (P := Tryd.prog) q11 Tryd.underlying22 Tryd.underlying5
    refine duty_run (by rfl) (wanted_guard rfl (by rfl) (left_at l7 (d := 16) (by rfl) (by rw [hsz]; simp))) v11 ?_ ((q11.ext he).bytes (l := [0, 5, 104, 101, 108, 108, 111]) rfl rfl (by simp [maxLen])) (hS.trans he) he
    simp only [execOp, List.getElem_toArray, List.getElem_cons_succ, List.getElem_cons_zero, List.map_toArray, List.map_cons, List.map_nil, e20, ev_const, Sem.run_bind, hrun]
    rfl
  · intro a w hS hd ho hsz   -- 13: buildSlice 23 1 #[(0, t21)]
    obtain ⟨_, l7, rfl⟩ := hd 7 (by decide +kernel)
    obtain ⟨v12, l12, q12⟩ := hd 12 (by decide +kernel)
    replace q12 : (Bs [0, 5, 104, 101, 108, 108, 111]) v12 w := q12
    have e21 := left_ev l12 (d := 21) (by rfl) (by rw [hsz]; simp)
    have hBw : B ≤ w.heap.size := by rw [hB]; exact hS.size
    have hpp := parts1 (New.of w 22 #[v12]) q12 (fun i hi => hi)
    obtain ⟨A12, c12, rfl, _⟩ := q12.row
    have he : Ext B w (w.alloc (.cells #[.slice A12 7 c12] 22)) := Ext.of ((Below.refl _ _).alloc (Nat.le_refl _) _) hBw
    refine duty_run (by rfl) (wanted_guard rfl (by rfl) (left_at l7 (d := 16) (by rfl) (by rw [hsz]; simp))) (.slice (some ⟨w.heap.size, 0, none⟩) 1 1) (w' := w.alloc (.cells #[.slice A12 7 c12] 22)) ?_ (hpp.sub fun i hi => by simp; omega) (hS.trans he) he
    simp only [execOp, List.getElem_toArray, List.getElem_cons_succ, List.getElem_cons_zero, List.map_toArray, List.map_cons, List.map_nil, e21, ev_const]
    go_simp
  · intro a w hS hd ho hsz   -- 14: call { value (Operand.func 25), args := #[t19, t22], argTypes := #[22, 23] }
    obtain ⟨_, l7, rfl⟩ := hd 7 (by decide +kernel)
    obtain ⟨v10, l10, q10⟩ := hd 10 (by decide +kernel)
    replace q10 : (Bs [107, 101, 121]) v10 w := q10
    obtain ⟨v13, l13, q13⟩ := hd 13 (by decide +kernel)
    replace q13 : (Ps [[0, 5, 104, 101, 108, 108, 111]]) v13 w := q13
    have e19 := left_ev l10 (d := 19) (by rfl) (by rw [hsz]; simp)
    have e22 := left_ev l13 (d := 22) (by rfl) (by rw [hsz]; simp)
    have hBw : B ≤ w.heap.size := by rw [hB]; exact hS.size
    have ht6 := ht5.below hS.below (by rw [hB]; exact ht5.1)
    refine duty_call (by rfl) (wanted_guard rfl (by rfl) (left_at l7 (d := 16) (by rfl) (by rw [hsz]; simp))) 25 #[v10, v13] ?_ (hmac_any v10 v13 [107, 101, 121] [[0, 5, 104, 101, 108, 108, 111]] _ _ w q10 q13 (fun i hi => hi) (fun i hi => hi) ht6) ?_
    · simp [Act.eval, hsz] at e19 e22
      simp only [execOp, List.getElem_toArray, List.getElem_cons_succ, List.getElem_cons_zero, List.map_toArray, List.map_cons, List.map_nil, e19, e22, ev_const]
      go_simp
    · rintro e w' ⟨rfl, hbl⟩
      have he := Ext.of hbl hBw
      exact ⟨_, rfl, by rw [flat1, HK.out]; rfl, hS.trans he, he⟩
  · intro a w hS hd ho hsz   -- 15: binOp BinOp.eql 26 t17 t23 26
    obtain ⟨_, l7, rfl⟩ := hd 7 (by decide +kernel)
    obtain ⟨_, l8, rfl⟩ := hd 8 (by decide +kernel)
    obtain ⟨_, l14, rfl⟩ := hd 14 (by decide +kernel)
    have e17 := left_ev l8 (d := 17) (by rfl) (by rw [hsz]; simp)
    have e23 := left_ev l14 (d := 23) (by rfl) (by rw [hsz]; simp)
    have hnq := fun u => eql_key k k HKL.out HKL.out u
    simp only [beq_self_eq_true] at hnq
    have hgd := guard_key
    refine duty_is (by rfl) (wanted_guard rfl (by rfl) (left_at l7 (d := 16) (by rfl) (by rw [hsz]; simp))) (.bool true) ?_ rfl hS (Ext.refl _ _)
    simp only [execOp, List.getElem_toArray, List.getElem_cons_succ, List.getElem_cons_zero, List.map_toArray, List.map_cons, List.map_nil, e17, e23, ev_const]
    go_simp
  · intro a w hS hd ho hsz   -- 16: pick t16 t24 (const (Value.bool false))
    obtain ⟨_, l7, rfl⟩ := hd 7 (by decide +kernel)
    obtain ⟨_, l15, rfl⟩ := hd 15 (by decide +kernel)
    have e16 := left_ev l7 (d := 16) (by rfl) (by rw [hsz]; simp)
    have e24 := left_ev l15 (d := 24) (by rfl) (by rw [hsz]; simp)
    refine duty_is (by rfl) (wanted_none rfl) (.bool true) ?_ rfl hS (Ext.refl _ _)
    simp only [execOp, List.getElem_toArray, List.getElem_cons_succ, List.getElem_cons_zero, e16, e24, ev_const]
    go_simp
  · intro a w hS hd ho hsz   -- 17: assign t25
    obtain ⟨_, l16, rfl⟩ := hd 16 (by decide +kernel)
    have e25 := left_ev l16 (d := 25) (by rfl) (by rw [hsz]; simp)
    refine duty_is (by rfl) (wanted_none rfl) (.bool true) ?_ rfl hS (Ext.refl _ _)
    simp only [execOp, List.getElem_toArray, List.getElem_cons_succ, List.getElem_cons_zero, e25, ev_const]
    go_simp

  · intro X w6 hS6 hX
    have x17 : X 17 = .bool true := hX 17 (by omega)
    clear hX
    simp only [frame, fillFrom, Act.put, List.setIfInBounds_toArray, List.set_cons_zero, List.set_cons_succ, x17]
    go_wp2
    go_ret
    exact ⟨rfl, hbw5.trans (hS6.below.mono (by rw [hB]; exact hbw5.size))⟩
end Go.Proofs.YtnhomnaamlbnpaaDoor.Seal
