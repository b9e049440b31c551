/- A region that draws its order and has one operation that writes: what holds ahead of it, and behind it. By an AI agent. -/
import Derived.Test.YtnhomnaamlbnpaaDoorOrd
namespace Go.Proofs.YtnhomnaamlbnpaaDoor.Ord
open Go
set_option linter.unusedVariables false

section
variable {P : Program} {ops : Array Oper} {Q : Exit → Act → World → Prop} {md : Region.Mode}
/-- what is asked of a value, that it stays, and what of it does not speak of the world -/
structure Sp2 (E : World → World → Prop) where
  R : Value → World → Prop
  keep : ∀ v w w', R v w → E w w' → R v w'
  L : Value → Value → Prop
  late : ∀ s v w, R v w → L s v
def Sp2.is {E : World → World → Prop} (u : Value) : Sp2 E := ⟨fun v _ => v = u, fun _ _ _ h _ => h, fun _ v => v = u, fun _ _ _ h => h⟩
def Sp2.of {E : World → World → Prop} (R : Value → World → Prop) (keep : ∀ v w w', R v w → E w w' → R v w') : Sp2 E := ⟨R, keep, fun _ _ => True, fun _ _ _ _ => trivial⟩
def Sp2.any {E : World → World → Prop} : Sp2 E := ⟨fun _ _ => True, fun _ _ _ _ _ => trivial, fun _ _ => True, fun _ _ _ _ => trivial⟩
/-- what the writing itself leaves, and what is a copy of it -/
def Sp2.same {E : World → World → Prop} : Sp2 E := ⟨fun _ _ => False, fun _ _ _ h _ => h, fun s v => v = s, fun _ _ _ h => h.elim⟩
/-- all of A are listed where st is -/
def ahead (ops : Array Oper) (A : List Nat) (st : Nat) : Bool := A.all fun i => (i == st) || A.any fun j => decide (i < j) && (deps ops j).contains i
def Closed (ops : Array Oper) (listed : Array Bool) : Prop := ∀ j, listed.getD j false = true → ∀ i ∈ deps ops j, listed.getD i false = true
theorem ahead_listed {A : List Nat} {st : Nat} (hA : ahead ops A st = true) {listed : Array Bool} (hc : Closed ops listed) (hst : listed.getD st false = true) (hmax : ∀ i ∈ A, i ≤ st) : ∀ (k i : Nat), i ∈ A → st - i ≤ k → listed.getD i false = true := by
  intro k
  induction k with
  | zero => intro i hi hk; have := hmax i hi; obtain rfl : i = st := by omega
            exact hst
  | succ k ih =>
    intro i hi hk
    have h := List.all_eq_true.1 hA i hi
    rw [Bool.or_eq_true] at h
    rcases h with h | h
    · obtain rfl : i = st := by simpa using h
      exact hst
    · obtain ⟨j, hj, h2⟩ := List.any_eq_true.1 h
      rw [Bool.and_eq_true] at h2
      obtain ⟨h3, h4⟩ := h2
      have h3 := of_decide_eq_true h3
      have hjs := hmax j hj
      exact hc j (ih j hj (by omega)) i (by simpa using h4)
/-- a duty's end behind the writing -/
def Kept1 (ops : Array Oper) (S1 : World → Prop) {E : World → World → Prop} (SP : List (Sp2 E)) (i : Nat) (s : Value) (a : Act) : Act → World → Prop :=
  fun a' w' => ∃ v, a' = a.put (dstOf ops i) v ∧ (SP.getD i Sp2.any).L s v ∧ S1 w'
def Kept0 (ops : Array Oper) (S0 : World → Prop) (E : World → World → Prop) (SP : List (Sp2 E)) (i : Nat) (a : Act) (w : World) : Act → World → Prop :=
  fun a' w' => ∃ v, a' = a.put (dstOf ops i) v ∧ (SP.getD i Sp2.any).R v w' ∧ S0 w' ∧ E w w'
def KeptS (ops : Array Oper) (S1 : Value → Value → World → Prop) {E : World → World → Prop} (SP : List (Sp2 E)) (i al : Nat) (u : Value) (a : Act) : Act → World → Prop :=
  fun a' w' => ∃ v, a' = a.put (dstOf ops i) v ∧ (SP.getD i Sp2.any).L v v ∧ S1 v u w'
def Head (ops : Array Oper) (a0 a : Act) : Prop := (∀ d, d ∉ dsts ops → a.tmps[d]? = a0.tmps[d]?) ∧ a.tmps.size = a0.tmps.size
theorem wp_region_two {id : Nat} {a0 : Act} {w : World} (hm : P.follows .mixedOrders = true) (hac : acyc ops = true) (hnd : oneEach ops = true)
    (S0 : World → Prop) (E : World → World → Prop) (SP : List (Sp2 E)) (n : Nat) (hn : ops.size = n)
    (A : List Nat) (st al : Nat) (hA : ahead ops A st = true) (hmax : (A.all fun i => decide (i ≤ st)) = true) (hal : (A.contains al && decide (al < st) && decide (st < n)) = true) (S1 : Value → Value → World → Prop)
    (h0 : S0 w.drew)
    (before : Each (fun i => i = st ∨ ∀ (a : Act) (w : World), S0 w → (∀ j, j ∈ deps ops i → ∃ v, Left ops a j v ∧ (SP.getD j Sp2.any).R v w) → (∀ d, d ∉ dsts ops → a.tmps[d]? = a0.tmps[d]?) → a.tmps.size = a0.tmps.size → wpOp P ops Q i (Kept0 ops S0 E SP i a w) a w) n 0)
    (write : ∀ (a : Act) (w : World) (u : Value), S0 w → Left ops a al u → (SP.getD al Sp2.any).R u w → (∀ j, j ∈ deps ops st → ∃ v, Left ops a j v ∧ (SP.getD j Sp2.any).R v w) → (∀ d, d ∉ dsts ops → a.tmps[d]? = a0.tmps[d]?) → a.tmps.size = a0.tmps.size → wpOp P ops Q st (KeptS ops S1 SP st al u a) a w)
    (behind : Each (fun i => i ∈ A ∨ ∀ (a : Act) (w : World) (v u : Value), S1 v u w → (∀ j, j ∈ deps ops i → ∃ x, Left ops a j x ∧ (SP.getD j Sp2.any).L v x) → (∀ j, j = st → Left ops a j v) → (∀ d, d ∉ dsts ops → a.tmps[d]? = a0.tmps[d]?) → a.tmps.size = a0.tmps.size → wpOp P ops Q i (Kept1 ops (S1 v u) SP i v a) a w) n 0)
    (done : ∀ (X : Nat → Value) (w : World), S1 (X st) (X al) w → (∀ j, j < n → (SP.getD j Sp2.any).L (X st) (X j)) → Q .normal (frame a0 ops X) w) : (Code.region id ops true).wp P Q a0 w := by
  rw [Bool.and_eq_true, Bool.and_eq_true] at hal
  obtain ⟨⟨hal1, hal2⟩, hal3⟩ := hal
  have hal1 : al ∈ A := by simpa using hal1
  have hal2 := of_decide_eq_true hal2
  have hst := of_decide_eq_true hal3
  have hmax : ∀ i ∈ A, i ≤ st := fun i hi => of_decide_eq_true (List.all_eq_true.1 hmax i hi)
  refine wp_region_any hm ?_
  refine wpAny_inv (fun listed a w => Closed ops listed ∧ ∃ X, a = frame a0 ops X ∧
    ((listed.getD st false = false ∧ S0 w ∧ ∀ j, j < ops.size → listed.getD j false = true → (SP.getD j Sp2.any).R (X j) w) ∨
     (listed.getD st false = true ∧ S1 (X st) (X al) w ∧ ∀ j, j < ops.size → listed.getD j false = true → (SP.getD j Sp2.any).L (X st) (X j)))) ?_ ?_ _ _ _ _
    ⟨fun j h => by
      exfalso
      rcases Nat.lt_or_ge j ops.size with hj | hj <;> simp [hj] at h, old a0 ops, (frame_old a0).symm, .inl ⟨by simp [hn, hst], h0, fun j hj h => by simp [hj] at h⟩⟩ (by simp) ?_
  · rintro listed a w i ⟨hC, X, rfl, hX⟩ hs hi
    have hi' := hi
    rw [mem_ready] at hi
    obtain ⟨h1, o, ho, hall⟩ := hi
    have hlt : i < ops.size := (Array.getElem?_eq_some_iff.1 ho).1
    have hnot : listed.getD i false = false := by
      have hl : i < listed.size := by omega
      simp [hl] at h1 ⊢; exact h1
    have hdl : ∀ j ∈ deps ops i, listed.getD j false = true ∧ j < ops.size := fun j hj => by
      unfold deps at hj
      rw [ho] at hj
      simp only [Option.map_some, Option.getD_some, List.mem_map, List.mem_filter] at hj
      obtain ⟨e, ⟨he, hb⟩, rfl⟩ := hj
      have hl := hall e (by simpa using he) hb
      refine ⟨hl, ?_⟩
      rcases Nat.lt_or_ge e.on ops.size with h | h
      · exact h
      · exfalso; rw [← hs] at h; simp [Array.getElem?_eq_none h] at hl
    have hC' : Closed ops (listed.setIfInBounds i true) := fun j hj k hk => by
      by_cases hki : i = k
      · subst hki; simp [hs, hlt]
      · rw [getD_set_ne false hki]
        by_cases hji : i = j
        · subst hji; exact (hdl k hk).1
        · rw [getD_set_ne false hji] at hj
          exact hC j hj k hk
    have hoth : ∀ d, d ∉ dsts ops → (frame a0 ops X).tmps[d]? = a0.tmps[d]? := fun d hd => fill_other X d ops.toList 0 a0 hd
    have hsz := fill_size X ops.toList 0 a0
    have hiu : ∀ v, upd X i v i = v := fun v => by unfold upd; rw [if_pos rfl]
    have hju : ∀ v j, j ≠ i → upd X i v j = X j := fun v j hj => by unfold upd; rw [if_neg hj]
    rcases hX with ⟨hb, hS, hX⟩ | ⟨hb, hS, hX⟩
    · by_cases his : i = st
      · subst his
        have hall : listed.getD al false = true ∨ al = i := by
          have hA' := List.all_eq_true.1 hA al hal1
          rw [Bool.or_eq_true] at hA'
          rcases hA' with h | h
          · exact .inr (by simpa using h)
          · refine .inl ?_
            obtain ⟨j, hj, h2⟩ := List.any_eq_true.1 h
            rw [Bool.and_eq_true] at h2
            have hC2 := ahead_listed hA hC' (by simp [hs, hlt]) hmax (i - al) al hal1 (Nat.le_refl _)
            have hne : i ≠ al := by have := of_decide_eq_true h2.1; have := hmax j hj; omega
            rwa [getD_set_ne false hne] at hC2
        rcases hall with hall | rfl
        · have hne : al ≠ i := fun e => by subst e; rw [hall] at hnot; cases hnot
          refine wpOp_mono ?_ (write (frame a0 ops X) w (X al) hS (frame_left a0 hnd X al) (hX al (by omega) hall) (fun j hj => ⟨X j, frame_left a0 hnd X j, hX j (hdl j hj).2 (hdl j hj).1⟩) hoth hsz)
          rintro a' w' ⟨v, rfl, hv, hS'⟩
          refine ⟨hC', upd X i v, (frame_upd a0 hnd X i v hlt).symm, .inr ⟨by simp [hs, hlt], by rw [hiu, hju v al hne]; exact hS', fun j hj hl => ?_⟩⟩
          rw [hiu]
          by_cases hji : j = i
          · subst hji; rw [hiu]; exact hv
          · rw [hju v j hji]
            rw [getD_set_ne false (Ne.symm hji)] at hl
            exact (SP.getD j Sp2.any).late _ _ _ (hX j hj hl)
        · omega
      · rcases Each.at_ n 0 before i (Nat.zero_le _) (by omega) with rfl | hstep
        · exact absurd rfl his
        · refine wpOp_mono ?_ (hstep (frame a0 ops X) w hS (fun j hj => ⟨X j, frame_left a0 hnd X j, hX j (hdl j hj).2 (hdl j hj).1⟩) hoth hsz)
          rintro a' w' ⟨v, rfl, hv, hS', hE⟩
          refine ⟨hC', upd X i v, (frame_upd a0 hnd X i v hlt).symm, .inl ⟨by rw [getD_set_ne false his]; exact hb, hS', fun j hj hl => ?_⟩⟩
          by_cases hji : j = i
          · subst hji; rw [hiu]; exact hv
          · rw [hju v j hji]
            rw [getD_set_ne false (Ne.symm hji)] at hl
            exact (SP.getD j Sp2.any).keep _ _ _ (hX j hj hl) hE
    · have his : i ≠ st := fun e => by subst e; rw [hb] at hnot; cases hnot
      have hiA : i ∉ A := fun hi => by
        have := ahead_listed hA hC hb hmax (st - i) i hi (Nat.le_refl _)
        rw [this] at hnot; cases hnot
      rcases Each.at_ n 0 behind i (Nat.zero_le _) (by omega) with hi | hstep
      · exact absurd hi hiA
      · refine wpOp_mono ?_ (hstep (frame a0 ops X) w (X st) (X al) hS (fun j hj => ⟨X j, frame_left a0 hnd X j, hX j (hdl j hj).2 (hdl j hj).1⟩) (fun j hj => by subst hj; exact frame_left a0 hnd X j) hoth hsz)
        rintro a' w' ⟨v, rfl, hv, hS'⟩
        refine ⟨hC', upd X i v, (frame_upd a0 hnd X i v hlt).symm, .inr ⟨by rw [getD_set_ne false his]; exact hb, by rw [hju v st (Ne.symm his), hju v al (fun e => hiA (e ▸ hal1))]; exact hS', fun j hj hl => ?_⟩⟩
        rw [hju v st (Ne.symm his)]
        by_cases hji : j = i
        · subst hji; rw [hiu]; exact hv
        · rw [hju v j hji]
          rw [getD_set_ne false (Ne.symm hji)] at hl
          exact hX j hj hl
  · rintro listed a w ⟨hC, X, rfl, hX⟩ hs hr
    have hall := fun j hj => unlisted_of hac listed hs hr j hj
    rcases hX with ⟨hb, _, _⟩ | ⟨hb, hS, hX⟩
    · rw [hall st (by omega)] at hb; cases hb
    · exact done X w hS fun j hj => hX j (by omega) (hall j (by omega))
  · simp

section
variable {S0 S1' : World → Prop} {S1 : Value → Value → World → Prop} {E : World → World → Prop} {SP : List (Sp2 E)} {i al : Nat} {u s : Value} {o : Oper} {a : Act} {w w' : World}
theorem b_run (hi : ops[i]? = some o) (hw : Region.wanted o (yielded ops a.tmps) = true) (v : Value) (hrun : (execOp a.eval o).run P w = .ok (.value v) w') (hR : (SP.getD i Sp2.any).R v w') (hS : S0 w') (hE : E w w') : wpOp P ops Q i (Kept0 ops S0 E SP i a w) a w := by
  refine step_op hi hw ?_
  unfold Oper.wp
  rw [hrun, Oper.upon_value]
  exact ⟨v, by unfold dstOf; rw [hi]; rfl, hR, hS, hE⟩
theorem b_is (hi : ops[i]? = some o) (hw : Region.wanted o (yielded ops a.tmps) = true) (v : Value) (hrun : (execOp a.eval o).run P w = .ok (.value v) w) (hR : (SP.getD i Sp2.any).R v w) (hS : S0 w) (hE : E w w) : wpOp P ops Q i (Kept0 ops S0 E SP i a w) a w := b_run hi hw v hrun hR hS hE
theorem b_call {R : Ending → World → Prop} (hi : ops[i]? = some o) (hw : Region.wanted o (yielded ops a.tmps) = true) (f : FuncId) (args : Array Value)
    (hrun : (execOp a.eval o).run P w = .ok (.enter f args) w) (hc : Calls P f args w R) (hR : ∀ e w', R e w' → ∃ v, e = .returned v ∧ (SP.getD i Sp2.any).R v w' ∧ S0 w' ∧ E w w') : wpOp P ops Q i (Kept0 ops S0 E SP i a w) a w := by
  refine step_op hi hw ?_
  unfold Oper.wp
  rw [hrun, Oper.upon_enter]
  refine hc.mono fun e w' hr => ?_
  obtain ⟨v, rfl, h1, h2, h3⟩ := hR e w' hr
  exact ⟨v, by unfold dstOf; rw [hi]; rfl, h1, h2, h3⟩
theorem s_run (hi : ops[i]? = some o) (hw : Region.wanted o (yielded ops a.tmps) = true) (v : Value) (hrun : (execOp a.eval o).run P w = .ok (.value v) w') (hL : (SP.getD i Sp2.any).L v v) (hS : S1 v u w') : wpOp P ops Q i (KeptS ops S1 SP i al u a) a w := by
  refine step_op hi hw ?_
  unfold Oper.wp
  rw [hrun, Oper.upon_value]
  exact ⟨v, by unfold dstOf; rw [hi]; rfl, hL, hS⟩
theorem s_call {R : Ending → World → Prop} (hi : ops[i]? = some o) (hw : Region.wanted o (yielded ops a.tmps) = true) (f : FuncId) (args : Array Value)
    (hrun : (execOp a.eval o).run P w = .ok (.enter f args) w) (hc : Calls P f args w R) (hR : ∀ e w', R e w' → ∃ v, e = .returned v ∧ (SP.getD i Sp2.any).L v v ∧ S1 v u w') : wpOp P ops Q i (KeptS ops S1 SP i al u a) a w := by
  refine step_op hi hw ?_
  unfold Oper.wp
  rw [hrun, Oper.upon_enter]
  refine hc.mono fun e w' hr => ?_
  obtain ⟨v, rfl, h1, h2⟩ := hR e w' hr
  exact ⟨v, by unfold dstOf; rw [hi]; rfl, h1, h2⟩
theorem k_is (hi : ops[i]? = some o) (hw : Region.wanted o (yielded ops a.tmps) = true) (v : Value) (hrun : (execOp a.eval o).run P w = .ok (.value v) w) (hL : (SP.getD i Sp2.any).L s v) (hS : S1' w) : wpOp P ops Q i (Kept1 ops S1' SP i s a) a w := by
  refine step_op hi hw ?_
  unfold Oper.wp
  rw [hrun, Oper.upon_value]
  exact ⟨v, by unfold dstOf; rw [hi]; rfl, hL, hS⟩
end
end
end Go.Proofs.YtnhomnaamlbnpaaDoor.Ord
