/- hash and its reference, as hooks of the interpreter over bytes known by terms. By an AI agent. -/
import Derived.Test.YtnhomnaamlbnpaaDoorRm
import Derived.Test.YtnhomnaamlbnpaaDoorAbsS
import Derived.Test.YtnhomnaamlbnpaaDoorTells
import Derived.Test.YtnhomnaamlbnpaaDoorLaid
import Derived.ChangeSlices
import Derived.Test.YtnhomnaamlbnpaaDoorCards
namespace Go.Proofs.YtnhomnaamlbnpaaDoor.Ht
open Go Go.RowKit Go.Proofs.YtnhomnaamlbnpaaDoor.Abs Go.Proofs.YtnhomnaamlbnpaaDoor.M Go.Proofs.YtnhomnaamlbnpaaDoor.Sha Go.Proofs.YtnhomnaamlbnpaaDoor.Rs Go.Proofs.YtnhomnaamlbnpaaDoor.Rm
set_option linter.unusedVariables false
/-- bytes of a slice, not of a string -/
noncomputable def srcS (RO : PT AObj) (st : St) : AVal → Option (OP × List UInt8)
  | .str _ => none
  | .sstr _ => none
  | x => srcB RO st x
/-- a slice of one slice of bytes -/
noncomputable def srcOne (RO : PT AObj) (st : St) : AVal → Option (OP × List UInt8)
  | .slice (some (b, 0)) 1 _ _ _ => (match rd RO st b with
    | some (.cells [x] _) => srcS RO st x
    | _ => none)
  | _ => none
section
variable {w0 w : World} {φ : Phi} {RO : PT AObj} {st : St}
theorem srcS_byts {x : AVal} {u : Value} {op : OP} {l : List UInt8} (h : srcS RO st x = some (op, l)) (hop : op.ok) (hx : VRel φ x u) (hw : WRel w0 φ st.heap st.next w) (hr : RRel w0 φ RO) (hm : l.length ≤ maxLen) : Byts w (fun k => k < w.heap.size) u l := by
  unfold srcS at h
  split at h
  · cases h
  · cases h
  · rename_i h1 h2
    exact srcB_byts h hop h1 h2 hx hw hr hm
theorem srcOne_parts {x : AVal} {u : Value} {op : OP} {l : List UInt8} (h : srcOne RO st x = some (op, l)) (hop : op.ok) (hx : VRel φ x u) (hw : WRel w0 φ st.heap st.next w) (hr : RRel w0 φ RO) (hm : l.length ≤ maxLen) : Parts w (fun k => k < w.heap.size) u [l] := by
  unfold srcOne at h
  split at h
  · rename_i b c ex z
    split at h
    · rename_i x1 t hrd
      obtain ⟨g', b', m', xo, e1, e2, e3⟩ := rd_some hrd hw hr rfl
      cases hx with
      | slice _ _ _ _ _ g b0 nb cap _ a hφ hl hc he hz ha =>
      obtain ⟨rfl, rfl, rfl⟩ : g = g' ∧ b0 = b' ∧ nb = m' := by rw [hφ] at e1; simpa using e1
      obtain ⟨us, f1, f2, f3⟩ := orel_row e3 (o := 0) (m := 1) (Nat.le_refl _)
      have f2 : VRels φ [x1] us := f2
      cases f2 with
      | cons _ u1 _ us h1 h2 =>
      cases h2
      refine ⟨some a, cap, rfl, by show 1 ≤ cap; omega, by show 1 ≤ maxLen; unfold maxLen; omega, fun i l' hi => ?_⟩
      have hi0 : i = 0 := by have := (List.getElem?_eq_some_iff.1 hi).1; simpa using this
      subst hi0
      obtain rfl : l = l' := by simpa using hi
      rcases ha with ⟨h0, _⟩ | rfl
      · omega
      · have := f3 w g e2 0 u1 rfl
        rw [add_lit] at this
        exact ⟨g, b0 + 0, u1, rfl, (Array.getElem?_eq_some_iff.1 e2).1, this, srcS_byts h hop h1 hw hr hm⟩
    · cases h
  · cases h
end
variable (RO : PT AObj)
noncomputable def shaL (args : List AVal) (st : St) : Option (OP × AVal × St) := match args with
  | [x] => (match srcOne RO st x with | some (ob, l) => some (andP ob (l.length ≤ 60000), .agg (dig (sha256 l)), st) | none => none)
  | _ => none
noncomputable def macL (args : List AVal) (st : St) : Option (OP × AVal × St) := match args with
  | [k, x] => (match srcS RO st k, srcOne RO st x with | some (o1, kl), some (o2, l) => some (andP (andP o2 (o1.ok ∧ kl.length ≤ 50000)) (l.length ≤ 50000), .agg (dig (hmac kl l)), st) | _, _ => none)
  | _ => none
noncomputable def macR (args : List AVal) (st : St) : Option (OP × AVal × St) := match args with
  | [k, x] => (match srcS RO st k, srcS RO st x with | some (o1, kl), some (o2, l) => some (andP (andP o2 (o1.ok ∧ kl.length ≤ 50000)) (l.length ≤ 50000), .agg (dig (hmac kl l)), st) | _, _ => none)
  | _ => none
noncomputable def tellsL (args : List AVal) (st : St) : Option (OP × AVal × St) := match args with
  | [] => some (none, .bool true, st)
  | _ => none
theorem shaL_ok {w0 : World} (ht : Tab w0) : Call1Ok Tryd.prog w0 RO 37 (fun args st => got (shaL RO args st)) := by
  intro args st v st' h
  obtain ⟨ob, h, hob⟩ := got_some h
  unfold shaL at h
  split at h
  · split at h
    · rename_i x op l hl
      cases h
      obtain ⟨h1, h2⟩ := andP_some hob
      refine ⟨.refl _, ⟨_, rfl, rfl, by kernel_rfl⟩, fun φ us w hus hw hr => ?_⟩
      cases hus with
      | cons _ u _ us e1 e2 => cases e2 with
        | nil =>
        refine (sha_any u _ _ w (srcOne_parts hl h1 e1 hw hr (by unfold maxLen; omega)) (fun i hi => hi) (tabUp ht hw.below)).mono fun e w' he => ?_
        obtain ⟨rfl, hb⟩ := he
        rw [List.flatten_singleton]
        exact ⟨_, rfl, quiet_ok hw hb (dig_rel φ (sha_length l))⟩
    · cases h
  · cases h
theorem macL_ok {w0 : World} (ht : Tab w0) : Call1Ok Tryd.prog w0 RO 25 (fun args st => got (macL RO args st)) := by
  intro args st v st' h
  obtain ⟨ob, h, hob⟩ := got_some h
  unfold macL at h
  split at h
  · split at h
    · rename_i k x o1 kl o2 l hk hl
      cases h
      obtain ⟨h1, h2⟩ := andP_some hob
      obtain ⟨h3, h4, h5⟩ := andP_some h1
      refine ⟨.refl _, ⟨_, rfl, rfl, by kernel_rfl⟩, fun φ us w hus hw hr => ?_⟩
      cases hus with
      | cons _ u _ us e1 e2 => cases e2 with
        | cons _ u2 _ us e3 e4 => cases e4 with
          | nil =>
          refine (hmac_any u u2 _ _ _ _ w (srcS_byts hk h4 e1 hw hr (by unfold maxLen; omega)) (srcOne_parts hl h3 e3 hw hr (by unfold maxLen; omega)) (fun i hi => hi) (fun i hi => hi) (tabUp ht hw.below)).mono fun e w' he => ?_
          obtain ⟨rfl, hb⟩ := he
          rw [List.flatten_singleton]
          exact ⟨_, rfl, quiet_ok hw hb (dig_rel φ (sha_length _))⟩
    · cases h
  · cases h
theorem macR_ok {w0 : World} (hT : FTab w0) : Call1Ok Tryd.prog w0 RO MAC (fun args st => got (macR RO args st)) := by
  intro args st v st' h
  obtain ⟨ob, h, hob⟩ := got_some h
  unfold macR at h
  split at h
  · split at h
    · rename_i k x o1 kl o2 l hk hl
      cases h
      obtain ⟨h1, h2⟩ := andP_some hob
      obtain ⟨h3, h4, h5⟩ := andP_some h1
      refine ⟨.refl _, ⟨_, rfl, rfl, by kernel_rfl⟩, fun φ us w hus hw hr => ?_⟩
      cases hus with
      | cons _ u _ us e1 e2 => cases e2 with
        | cons _ u2 _ us e3 e4 => cases e4 with
          | nil =>
          refine (mac_f (srcS_byts hk h4 e1 hw hr (by unfold maxLen; omega)) (srcS_byts hl h3 e3 hw hr (by unfold maxLen; omega)) (hT.below hw.below) h5 h2).mono fun e w' he => ?_
          obtain ⟨rfl, hb⟩ := he
          exact ⟨_, rfl, quiet_ok hw hb (dig_rel φ (sha_length _))⟩
    · cases h
  · cases h
theorem tellsL_ok {w0 : World} (ht : Tab w0) : Call1Ok Tryd.prog w0 RO 40 (fun args st => got (tellsL args st)) := by
  intro args st v st' h
  obtain ⟨ob, h, hob⟩ := got_some h
  unfold tellsL at h
  split at h
  · cases h
    refine ⟨.refl _, ⟨_, rfl, rfl, by kernel_rfl⟩, fun φ us w hus hw hr => ?_⟩
    cases hus
    refine (tells_any w (tabUp ht hw.below)).mono fun e w' he => ?_
    obtain ⟨rfl, hb⟩ := he
    exact ⟨_, rfl, quiet_ok hw hb (.bool _)⟩
  · cases h
noncomputable def lawHooks (g : FuncId) : Option (List AVal → St → Option (OP × AVal × St)) :=
  bif Nat.beq g SHA then some (shaF RO) else bif Nat.beq g MAC then some (macR RO) else bif Nat.beq g 37 then some (shaL RO) else bif Nat.beq g 25 then some (macL RO) else bif Nat.beq g 40 then some tellsL else none
end Go.Proofs.YtnhomnaamlbnpaaDoor.Ht
namespace Go.Proofs.YtnhomnaamlbnpaaDoor.Ht
open Go Go.RowKit Go.Proofs.YtnhomnaamlbnpaaDoor.Abs Go.Proofs.YtnhomnaamlbnpaaDoor.M Go.Proofs.YtnhomnaamlbnpaaDoor.Sha Go.Proofs.YtnhomnaamlbnpaaDoor.Rs
set_option linter.unusedVariables false
abbrev LAW : FuncId := 8
noncomputable abbrev nL : Nat := tmpsN Tryd.prog LAW
def mn (l : List UInt8) : Nat := Int.toNat (min (l.length : Int) 150)
def same32 (x y : List UInt8) : Bool := (List.range 32).foldr (fun i r => decide (((x.getD i 0).toNat : Int) = ((y.getD i 0).toNat : Int)) && r) true
theorem same32_refl (x : List UInt8) : same32 x x = true := by
  unfold same32
  generalize List.range 32 = l
  induction l with
  | nil => rfl
  | cons i l ih => rw [List.foldr_cons, ih, Bool.and_true]; exact decide_eq_true rfl
def fL (k b : List UInt8) (c1 c2 : Nat) : Prop :=
    List.length k ≤ 9223372036854775807 ∧ (True ∧ 0 ≤ min (↑(List.length k) : Int) 150 ∧ True ∧ 0 ≤ mn k ∧ mn k ≤ c1 ∧ c1 ≤ c1) ∧ List.length b ≤ 9223372036854775807 ∧ (True ∧ 0 ≤ min (↑(List.length b) : Int) 150 ∧ True ∧ 0 ≤ mn b ∧ mn b ≤ c2 ∧ c2 ≤ c2) ∧ (0 + (mn k - 0) ≤ List.length k ∧ mn k ≤ 65536) ∧ (0 + (mn b - 0) ≤ List.length b ∧ mn b ≤ 65536) ∧ (0 + mn b ≤ List.length (List.take (mn b - 0) (List.drop 0 b)) ∧ List.length (List.take (mn b) (List.drop 0 (List.take (mn b - 0) (List.drop 0 b)))) ≤ 60000) ∧ (0 + (mn b - 0) ≤ List.length b ∧ List.length (List.take (mn b - 0) (List.drop 0 b)) ≤ 60000) ∧ (same32 (sha256 (List.take (mn b) (List.drop 0 (List.take (mn b - 0) (List.drop 0 b))))) (sha256 (List.take (mn b - 0) (List.drop 0 b))) = true →
    ((0 + mn b ≤ List.length (List.take (mn b - 0) (List.drop 0 b)) ∧ Nat.le (0 + mn k) (List.length (List.take (mn k - 0) (List.drop 0 k))) ∧ List.length (List.take (mn k) (List.drop 0 (List.take (mn k - 0) (List.drop 0 k)))) ≤ 50000) ∧ List.length (List.take (mn b) (List.drop 0 (List.take (mn b - 0) (List.drop 0 b)))) ≤ 50000) ∧ ((0 + (mn b - 0) ≤ List.length b ∧ Nat.le (0 + (mn k - 0)) (List.length k) ∧ List.length (List.take (mn k - 0) (List.drop 0 k)) ≤ 50000) ∧ List.length (List.take (mn b - 0) (List.drop 0 b)) ≤ 50000) ∧ (same32 (hmac (List.take (mn k) (List.drop 0 (List.take (mn k - 0) (List.drop 0 k)))) (List.take (mn b) (List.drop 0 (List.take (mn b - 0) (List.drop 0 b))))) (hmac (List.take (mn k - 0) (List.drop 0 k)) (List.take (mn b - 0) (List.drop 0 b))) = true →
    0 + mn k ≤ List.length (List.take (mn k - 0) (List.drop 0 k)) ∧ 0 + (mn k - 0) ≤ List.length k ∧
    (decide (List.take (mn k) (List.drop 0 (List.take (mn k - 0) (List.drop 0 k))) = List.take (mn k - 0) (List.drop 0 k)) = true →
    0 + mn b ≤ List.length (List.take (mn b - 0) (List.drop 0 b)) ∧ 0 + (mn b - 0) ≤ List.length b ∧
    (decide (List.take (mn b) (List.drop 0 (List.take (mn b - 0) (List.drop 0 b))) = List.take (mn b - 0) (List.drop 0 b)) = true →
    true = true) ∧
    (decide (List.take (mn b) (List.drop 0 (List.take (mn b - 0) (List.drop 0 b))) = List.take (mn b - 0) (List.drop 0 b)) = false →
    false = true)) ∧
    (decide (List.take (mn k) (List.drop 0 (List.take (mn k - 0) (List.drop 0 k))) = List.take (mn k - 0) (List.drop 0 k)) = false →
    false = true)) ∧ (same32 (hmac (List.take (mn k) (List.drop 0 (List.take (mn k - 0) (List.drop 0 k)))) (List.take (mn b) (List.drop 0 (List.take (mn b - 0) (List.drop 0 b))))) (hmac (List.take (mn k - 0) (List.drop 0 k)) (List.take (mn b - 0) (List.drop 0 b))) = false →
    false = true)) ∧ (same32 (sha256 (List.take (mn b) (List.drop 0 (List.take (mn b - 0) (List.drop 0 b))))) (sha256 (List.take (mn b - 0) (List.drop 0 b))) = false →
    false = true)
theorem fL_ok {k b : List UInt8} {c1 c2 : Nat} (hk : k.length ≤ c1) (hb : b.length ≤ c2) (hmk : k.length ≤ maxLen) (hmb : b.length ≤ maxLen) : fL k b c1 c2 := by
  have e1 : ∀ l : List UInt8, List.take (mn l - 0) (List.drop 0 l) = l.take (mn l) := fun l => by rw [List.drop_zero, Nat.sub_zero]
  have e2 : ∀ l : List UInt8, List.take (mn l) (List.drop 0 (l.take (mn l))) = l.take (mn l) := fun l => by rw [List.drop_zero, List.take_take, Nat.min_self]
  have m1 : ∀ l : List UInt8, mn l ≤ l.length ∧ mn l ≤ 150 := fun l => by unfold mn; omega
  have m2 : ∀ l : List UInt8, (l.take (mn l)).length = mn l := fun l => by rw [List.length_take]; have := m1 l; omega
  have k1 := m1 k
  have b1 := m1 b
  have k2 := m2 k
  have b2 := m2 b
  have hM : maxLen ≤ 9223372036854775807 := by unfold maxLen; omega
  unfold fL
  rw [e1, e1, e2, e2, same32_refl, same32_refl, decide_eq_true rfl, decide_eq_true rfl, k2, b2]
  refine ⟨by omega, ⟨trivial, by omega, trivial, by omega, by omega, by omega⟩, by omega, ⟨trivial, by omega, trivial, by omega, by omega, by omega⟩, ⟨by omega, by omega⟩, ⟨by omega, by omega⟩, ⟨by omega, by omega⟩, ⟨by omega, by omega⟩, fun _ => ⟨⟨⟨by omega, by rw [Nat.zero_add]; exact Nat.le_refl _, by omega⟩, by omega⟩, ⟨⟨by omega, by show 0 + (mn k - 0) ≤ _; omega, by omega⟩, by omega⟩, fun _ => ⟨by omega, by omega, fun _ => ⟨by omega, by omega, fun _ => rfl, fun h => by cases h⟩, fun h => by cases h⟩, fun h => by cases h⟩, fun h => by cases h⟩
theorem lawHooks_ok {w0 : World} {RO : PT AObj} (ht : Tab w0) (hT : FTab w0) : ∀ f h, hookG (lawHooks RO) f = some h → Call1Ok Tryd.prog w0 RO f h := by
  intro f h hh
  unfold hookG lawHooks at hh
  cases h1 : Nat.beq f SHA with
  | true => rw [h1] at hh; cases hh; rw [Nat.eq_of_beq_eq_true h1]; exact shaF_ok hT
  | false =>
  rw [h1] at hh
  cases h2 : Nat.beq f Rm.MAC with
  | true => rw [h2] at hh; cases hh; rw [Nat.eq_of_beq_eq_true h2]; exact macR_ok _ hT
  | false =>
  rw [h2] at hh
  cases h3 : Nat.beq f 37 with
  | true => rw [h3] at hh; cases hh; rw [Nat.eq_of_beq_eq_true h3]; exact shaL_ok _ ht
  | false =>
  rw [h3] at hh
  cases h4 : Nat.beq f 25 with
  | true => rw [h4] at hh; cases hh; rw [Nat.eq_of_beq_eq_true h4]; exact macL_ok _ ht
  | false =>
  rw [h4] at hh
  cases h5 : Nat.beq f 40 with
  | true => rw [h5] at hh; cases hh; rw [Nat.eq_of_beq_eq_true h5]; exact tellsL_ok _ ht
  | false => rw [h5] at hh; cases hh
theorem cap_of {φ : Phi} {a : Nat × Nat} {n c z : Nat} {ex : Bool} {v : Value} (h : VRel φ (.sslice a n c ex z) v) : n ≤ c := by
  cases h with
  | sslice => assumption
  | snil => exact Nat.le_refl _
  | semp => exact Nat.zero_le _
set_option maxRecDepth 20000 in
/-- THE LAW, WALKED. -/
theorem tells_walk {w : World} {v1 v2 : Value} {k b : List UInt8} {S1 S2 : Nat → Prop} (hv1 : Byts w S1 v1 k) (hv2 : Byts w S2 v2 b) (ht : Tab w) (hT : FTab w) : Calls Tryd.prog LAW #[v1, v2] w fun e w' => e = .returned (.bool true) ∧ Below w.heap.size w w' := by
  obtain ⟨g1, c1, m1, hrel1, hobj1⟩ := lay_bytes hv1
  obtain ⟨g2, c2, m2, hrel2, hobj2⟩ := lay_bytes hv2
  have hro : RRel w (Rm.laidPhi g1 g2) (Rm.ro k b) := by
    refine rrel_of fun x o hx => ?_
    simp only [List.mem_cons, List.not_mem_nil, or_false, Prod.mk.injEq] at hx
    rcases hx with ⟨rfl, rfl⟩ | ⟨rfl, rfl⟩
    · rcases hobj1 (Rm.laidPhi g1 g2) 5 with hb | ⟨u, e1, e2, e3⟩
      · exact .inl ⟨hb, Nat.le_refl _⟩
      · exact .inr ⟨g1.1, g1.2.1, g1.2.2, u, rfl, fun h => absurd h (by omega), e1, e2, e3⟩
    · rcases hobj2 (Rm.laidPhi g1 g2) 5 with hb | ⟨u, e1, e2, e3⟩
      · exact .inl ⟨hb, by omega⟩
      · exact .inr ⟨g2.1, g2.2.1, g2.2.2, u, rfl, fun h => absurd h (by omega), e1, e2, e3⟩
  have r1 := hrel1 (Rm.laidPhi g1 g2) 900 rfl
  have r2 := hrel2 (Rm.laidPhi g1 g2) 901 rfl
  have q1 := cap_of r1
  have q2 := cap_of r2
  refine (fn_pure (P := Tryd.prog) (w0 := w) (RO := Rm.ro k b) (hookP := lawHooks (Rm.ro k b)) (ann := fun _ => none) (f := 100) follows named (lawHooks_ok ht hT) (g := LAW) (fn := Tryd.f8) (body := bodyOf Tryd.prog LAW) (by kernel_rfl) (by kernel_rfl) annOk_none
    (args := [.sslice (900, 0) k.length c1 true 1, .sslice (901, 0) b.length c2 true 1]) (next := 1000) (K := fun u _ => isTrue u) ?_ (φ := Rm.laidPhi g1 g2) (Rm.laid_high g1 g2) hro (us := [v1, v2]) (.cons _ _ _ _ r1 (.cons _ _ _ _ r2 .nil))).mono ?_
  · exact Eq.mpr (β := fL k b c1 c2) (by kernel_rfl) (fL_ok q1 q2 m1 m2)
  · rintro e w' ⟨u, a, st', rfl, hu, ψ, k1, k2, _⟩
    exact ⟨congrArg _ (isTrue_rel hu k1), k2.below⟩
end Go.Proofs.YtnhomnaamlbnpaaDoor.Ht
namespace Go.Proofs.YtnhomnaamlbnpaaDoor.Ht
open Go Go.RowKit Go.ChangeShapes Go.Proofs.YtnhomnaamlbnpaaDoor.M Go.Proofs.YtnhomnaamlbnpaaDoor.Sha Go.Proofs.YtnhomnaamlbnpaaDoor.Rs
set_option linter.unusedVariables false
theorem slice_laid {W : World} {name : String} {g : Nat} {t : TypeId} (l : List Nat) {cs : Array Value} {fuel : Nat} {p : List MemPlace} (hg : Tryd.prog.globalNamed name = some g) (ht : Tryd.prog.underlying t = some (.slice 37)) (hvar : W.var? Tryd.prog name = some cs)
    (htr : DataW.trod (fun _ => ()) Tryd.prog W 0 (fun _ => true) false fuel t cs.toList = some (.slice (l.map fun (n : Nat) => .lit (.int .u32 (n : Int))) [], p)) (hne : 0 < l.length) :
    ∃ (R o : Nat) (a : Array Value) (t1 : TypeId) (f1 : Nat × Nat) (t3 : TypeId) (f3 : Nat × Nat), W.heap[g]? = some (.cells #[.slice (some ⟨R, o, none⟩) l.length l.length] t1 f1) ∧ W.heap[R]? = some (.cells a t3 f3) ∧ (a.toList.drop o).take l.length = l.map cell32 := by
  rcases open_ints ht Tryd.underlying37 Open.cellsU32 htr with ⟨_, hx⟩ | ⟨ad, len, cap, zs, hcs, _, hl, hm, hz, hx, hcell, hwz⟩
  · cases hx
  · rw [if_pos rfl] at hz
    have hx1 := congrArg Prod.fst hx
    have e := DataW.slice.inj hx1
    have e2 : zs.drop len = [] := by
      have := e.2
      unfold lits at this
      exact List.map_eq_nil_iff.1 this.symm
    have hlen : zs.length ≤ len := List.drop_eq_nil_iff.1 e2
    have e1 : l.map (fun (n : Nat) => (n : Int)) = zs := by
      have h3 := e.1
      unfold lits at h3
      rw [List.take_of_length_le hlen] at h3
      have h4 : (l.map fun (n : Nat) => (n : Int)).map (fun z => (DataW.lit (.int .u32 z) : DataW Unit)) = zs.map fun z => DataW.lit (.int .u32 z) := by rw [List.map_map]; exact h3
      exact (List.map_inj_right (fun a b hab => by simpa using hab)).1 h4
    have hll : zs.length = l.length := by rw [← e1, List.length_map]
    obtain rfl : len = l.length := by omega
    obtain rfl : cap = l.length := by omega
    obtain rfl : cs = #[.slice (some ad) l.length l.length] := by rw [← Array.toArray_toList (xs := cs), hcs]
    obtain ⟨R, o, spot⟩ := ad
    have hspot : spot = none := by simpa [Addr.add] using World.cell?_spot (hcell 0 (by omega))
    subst hspot
    have hR : ∃ a t3 f3, W.heap[R]? = some (.cells a t3 f3) := by
      have := hcell 0 (by omega)
      rw [Addr.add_lit] at this
      unfold World.cell? at this
      simp only at this
      split at this
      · exact ⟨_, _, _, ‹_›⟩
      all_goals first | (cases this; done) | (simp at this; done)
    obtain ⟨a, t3, f3, hR⟩ := hR
    have hG : ∃ t1 f1, W.heap[g]? = some (.cells #[.slice (some ⟨R, o, none⟩) l.length l.length] t1 f1) := by
      unfold World.var? at hvar
      rw [hg, Option.bind_some] at hvar
      split at hvar
      · rename_i c1 t1 f1 hh
        cases hvar
        exact ⟨_, _, hh⟩
      · cases hvar
    obtain ⟨t1, f1, hG⟩ := hG
    refine ⟨R, o, a, t1, f1, t3, f3, hG, hR, ?_⟩
    have hat : ∀ i, i < l.length → a[o + i]? = some (.int .u32 (zs.getD i 0)) := fun i hi => by
      have := hcell i (by omega)
      rw [Addr.add_lit] at this
      unfold World.cell? at this
      simp only [hR] at this
      simpa using this
    apply List.ext_getElem?
    intro i
    by_cases hi : i < l.length
    · rw [List.getElem?_take_of_lt hi, List.getElem?_drop, Array.getElem?_toList, hat i hi, ← e1, List.getElem?_map, List.getElem?_eq_getElem hi, List.getD_eq_getElem?_getD, List.getElem?_map, List.getElem?_eq_getElem hi]
      rfl
    · have h0 := hat (l.length - 1) (by omega)
      rw [List.getElem?_eq_none (by rw [List.length_take]; omega), List.getElem?_eq_none (by rw [List.length_map]; omega)]
/-- what the three cards' list gives -/
theorem both_of {W : World} (h : laidMet Tryd.prog Rows.hashTellsRow.laid W) : Tab W ∧ FTab W := by
  obtain ⟨ps, ⟨g1, y1, cs1, u1, p1, q1, hg1, hy1, hv1, ht1, ⟨g2, y2, cs2, u2, p2, q2, hg2, hy2, hv2, ht2, hL3, e2⟩, e1⟩, hnd, hc⟩ := h
  have n1 : Tryd.prog.globalNamed "longwire/longwireref02.squares" = some 0 := by kernel_rfl
  have n2 : Tryd.prog.globalNamed "longwire/longwireref02.cubes" = some 1 := by kernel_rfl
  obtain rfl := Option.some.inj (n1.symm.trans hg1)
  obtain rfl := Option.some.inj (n2.symm.trans hg2)
  have m1 : (Tryd.prog.globals[0]?).map (·.type) = some 109 := by kernel_rfl
  have m2 : (Tryd.prog.globals[1]?).map (·.type) = some 109 := by kernel_rfl
  obtain rfl := Option.some.inj (m1.symm.trans hy1)
  obtain rfl := Option.some.inj (m2.symm.trans hy2)
  have hsl : Tryd.prog.underlying 109 = some (.slice 37) := by kernel_rfl
  obtain ⟨R1, o1, a1, t1, f1, t3, f3, k1, k3, k5⟩ := slice_laid init.list n1 hsl hv1 ht1 (by decide)
  obtain ⟨R2, o2, a2, t2, f2, t4, f4, k2, k4, k6⟩ := slice_laid K n2 hsl hv2 ht2 (by decide)
  refine ⟨Open.tab_of (rest := []) ⟨q2, hL3, ?_, fun b off hb => hc b off ?_⟩, R1, o1, R2, o2, a1, a2, t1, t2, t3, t4, f1, f2, f3, f4, k1, k2, k3, k4, k5, k6⟩
  · rw [e1, e2] at hnd
    exact (List.nodup_append.1 (List.nodup_append.1 hnd).2.1).2.1
  · rw [e1, e2]
    exact List.mem_append_right _ (List.mem_append_right _ hb)
theorem tells_l (W : World) (v0 v1 : Value) (l0 l1 : List UInt8) (h0 : Byts W (fun k => k < W.heap.size) v0 l0) (h1 : Byts W (fun k => k < W.heap.size) v1 l1) (ht : Tab W ∧ FTab W) : Calls Tryd.prog LAW #[v0, v1] W fun e W' => e = .returned (.bool true) ∧ Below W.heap.size W W' :=
  tells_walk h0 h1 ht.1 ht.2
/-- A WORLD FOR THE WITNESS: the settled one, the three tables holding their numbers. -/
noncomputable def tabWorld (os : Os) : World :=
  let w := Open.laidWorld os
  { w with heap := (((w.heap.modify 0 fun | .cells _ t fz => .cells #[.slice (some ⟨w.heap.size, 0, none⟩) 8 8] t fz | o => o).modify 1 fun | .cells _ t fz => .cells #[.slice (some ⟨w.heap.size + 1, 0, none⟩) 64 64] t fz | o => o).push (.cells (init.list.map cell32).toArray 37 (0, 0))).push (.cells (K.map cell32).toArray 37 (0, 0)) }
end Go.Proofs.YtnhomnaamlbnpaaDoor.Ht
