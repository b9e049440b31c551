/- Operations on what is known by terms alone: all that read at most one block. By an AI agent. -/
import Derived.Test.YtlnfolgmjfcinaaAbsV
namespace Go.Proofs.Ytlnfolgmjfcinaa.Abs
open Go Go.RowKit
set_option linter.unusedVariables false
section
variable {φ : Phi} {P : Program} {ev : Operand → Option AVal} {ρ : Operand → Value}
theorem eqS_some : ∀ (x y : List AVal) (a b : List Value) (r : Bool), eqS x y = some r → VRels φ x a → VRels φ y b →
    ∃ l : List (IntKind × Int × Int), a = l.map (fun p => .int p.1 p.2.1) ∧ b = l.map (fun p => .int p.1 p.2.2) ∧ r = l.all (fun p => p.2.1 == p.2.2)
  | [], [], a, b, r, h, ha, hb => by cases ha; cases hb; exact ⟨[], rfl, rfl, by simpa [eqS] using h.symm⟩
  | [], _ :: _, _, _, r, h, _, _ => by simp [eqS] at h
  | _ :: _, [], _, _, r, h, _, _ => by simp [eqS] at h
  | x :: xs, y :: ys, a, b, r, h, ha, hb => by
    unfold eqS at h
    split at h
    · rename_i j p k q r' hx hy hr'
      cases ha with
      | cons _ u _ us h1 h1s =>
        cases hb with
        | cons _ u' _ us' h2 h2s =>
          obtain rfl := asZ_rel hx h1
          obtain rfl := asZ_rel hy h2
          cases hk : kindEq j k with
          | false => rw [hk] at h; cases h
          | true =>
            rw [hk] at h
            cases h
            obtain ⟨l, rfl, rfl, rfl⟩ := eqS_some xs ys us us' r' hr' h1s h2s
            obtain rfl := kindEq_eq _ _ hk
            exact ⟨(j, p, q) :: l, rfl, rfl, by simp only [List.all_cons]; congr 1⟩
    · cases h
theorem sEqArr_some {t : TypeId} {x y : List AVal} {r : Bool} (h : sEqArr P t x y = some r) {a b : Array Value} (ha : VRels φ x a.toList) (hb : VRels φ y b.toList) (d : Nat) (w : World) :
    (Op.equalIn (d + 2) t (.agg a) (.agg b)).run P w = .ok r w ∧ ∀ k, P.eqGuardType (k + 2) t = false := by
  unfold sEqArr at h
  split at h
  · rename_i n e ht
    split at h
    · rename_i ke he hs
      cases hc : (Nat.beq (lenL x 0) n && Nat.beq (lenL y 0) n) with
      | false => rw [hc] at h; cases h
      | true =>
        rw [hc] at h
        obtain ⟨l, h1, h2, h3⟩ := eqS_some x y _ _ r h ha hb
        have hx : x.length = n := by rw [Bool.and_eq_true] at hc; rw [← lenL0]; exact Nat.eq_of_beq_eq_true hc.1
        have hla : l.length = n := by rw [← hx, ← ha.length, h1, List.length_map]
        have ea : a = (l.map fun p => Value.int p.1 p.2.1).toArray := by rw [← h1]
        have eb : b = (l.map fun p => Value.int p.1 p.2.2).toArray := by rw [← h2]
        rw [ea, eb, h3]
        exact ⟨run_equal_ints d t e ke n ht he hs l hla w, fun k => by simp [Program.eqGuardType, ht, he]⟩
    · cases h
  · cases h
theorem sEq_good {op : BinOp} {t : TypeId} {x y : AVal} {ob : OP} {r : LRes} (h : sEq P op t x y = some (ob, r)) (hob : ob.ok) {a b : Value} (ha : VRel φ x a) (hb : VRel φ y b) (ox oy : Operand) :
    SGood φ (fun w => (do eqGuard op t ox oy a b; binOp op t a b).run P w) r := by
  unfold sEq at h
  split at h
  · rename_i x y
    split at h
    · rename_i r' hr'
      cases ha with
      | agg _ a ha =>
      cases hb with
      | agg _ b hb =>
      have hq : ∀ w, (Op.equal t (.agg a) (.agg b)).run P w = .ok r' w := fun w => by
        unfold Op.equal
        rw [show Op.maxDepth = 9998 + 2 from rfl]
        exact (sEqArr_some hr' ha hb _ w).1
      have hg := fun k => (sEqArr_some (φ := φ) hr' ha hb 0 default).2 k
      split at h
      · cases h
        refine ⟨_, _, rfl, .sbool _, fun w => ?_⟩
        show Sem.run P _ w = _
        rw [Sem.run_bind, guard_ok (fun _ _ _ _ => hg) (by simp)]
        simp only [Result.andThen_ok]
        rw [bin_eql t (a := .agg _) _ trivial]
        simp [hq]
      · cases h
        refine ⟨_, _, rfl, .sbool _, fun w => ?_⟩
        show Sem.run P _ w = _
        rw [Sem.run_bind, guard_ok (fun _ _ _ _ => hg) (by simp)]
        simp only [Result.andThen_ok]
        rw [bin_neq t (a := .agg _) _ trivial]
        simp [hq]
      · cases h
    · cases h
  · rename_i xo n cap ex z m c ex' z'
    cases hb
    have real : 0 < n → ∃ g, VRel φ (.slice (some xo) n cap ex z) a := fun hn => by
      cases ha with
      | sslice x o len lo z g b n cap ex a h hl hc he hz ha => exact ⟨g, .slice _ _ _ _ _ _ _ _ _ _ _ h hl hc he hz ha⟩
      | snil => omega
      | semp => omega
    split at h
    · rename_i e hu
      cases h
      obtain ⟨_, hr⟩ := real hob
      obtain ⟨u, h1, h2⟩ := binA_some (P := P) (op := .eql) (t := t) (v := .bool false) (by simp [binA, asI, asS, binO, equalA, eqSl, hu]) hr (.slice0 ex' z') ox oy
      cases h1
      exact ⟨_, _, rfl, .bool _, h2⟩
    · rename_i e hu
      cases h
      obtain ⟨_, hr⟩ := real hob
      obtain ⟨u, h1, h2⟩ := binA_some (P := P) (op := .neq) (t := t) (v := .bool true) (by simp [binA, asI, asS, binO, equalA, eqSl, hu]) hr (.slice0 ex' z') ox oy
      cases h1
      exact ⟨_, _, rfl, .bool _, h2⟩
    · cases h
  · cases h
theorem asR_rel {v : AVal} {k : IntKind} {z : Int} {u : Value} (h : asR v = some (k, z)) (hv : VRel φ v u) : u = .int k z ∧ inR k z := by
  unfold asR at h
  split at h
  · rename_i k' z'
    cases hb : (intLe (loI k') z' && intLe z' (hiI k')) with
    | false => rw [hb] at h; cases h
    | true =>
      rw [hb] at h; cases h; cases hv
      rw [Bool.and_eq_true, intLe_eq, intLe_eq, decide_eq_true_iff, decide_eq_true_iff] at hb
      exact ⟨rfl, hb⟩
  · cases h; cases hv; exact ⟨rfl, by assumption⟩
  · cases h
theorem eqGuard_int {op : BinOp} {t : TypeId} {k k' : IntKind} {p q : Int} (ox oy : Operand) (w : World) : (do eqGuard op t ox oy (.int k p) (.int k' q); binOp op t (.int k p) (.int k' q) : Sem Value).run P w = (binOp op t (.int k p) (.int k' q)).run P w := by
  rw [Sem.run_bind, guard_ok (by simp) (by simp)]
  rfl
theorem eqGuard_str {op : BinOp} {t : TypeId} {x y : ByteArray} (ox oy : Operand) (w : World) : (do eqGuard op t ox oy (.string x) (.string y); binOp op t (.string x) (.string y) : Sem Value).run P w = (binOp op t (.string x) (.string y)).run P w := by
  rw [Sem.run_bind, guard_ok (by simp) (by simp)]
  rfl
theorem sbin_ok (he : EvOk φ ev ρ) (o : Oper) (op : BinOp) (t ty : TypeId) (x y : Operand) (ho : o.op = .binOp op t x y ty) (ob : OP) (r : LRes) (h : sBin P ev op t x y = some (ob, r)) (hob : ob.ok) : LSpec φ (fun w => (execOp ρ o).run P w) r := by
  have hrun : SGood φ (fun w => (do eqGuard op t x y (ρ x) (ρ y); binOp op t (ρ x) (ρ y)).run P w) r → LSpec φ (fun w => (execOp ρ o).run P w) r := fun hg =>
    hg.spec fun w u hu => by simp only [execOp, ho]; rw [Sem.run_bind, hu]; rfl
  unfold sBin at h
  split at h
  · rename_i a b hx hy
    have h1 := he _ _ hx
    have h2 := he _ _ hy
    split at h
    · rename_i k p k' q hp hq
      obtain ⟨e1, i1⟩ := asR_rel hp h1
      obtain ⟨e2, i2⟩ := asR_rel hq h2
      refine hrun ?_
      rw [e1, e2]
      have conv : SGood φ (fun w => (binOp op t (.int k p) (.int k' q)).run P w) r → SGood φ (fun w => (do eqGuard op t x y (.int k p) (.int k' q); binOp op t (.int k p) (.int k' q)).run P w) r := fun ⟨v, u, r1, r2, r3⟩ => ⟨v, u, r1, r2, fun w => (eqGuard_int x y w).trans (r3 w)⟩
      refine conv ?_
      split at h
      · exact sShl_good h hob t
      · exact sShr_good h hob t i1
      · cases hk : kindEq k k' with
        | false => rw [hk] at h; cases h
        | true =>
          rw [hk] at h
          obtain rfl := kindEq_eq _ _ hk
          exact sInt_good h hob t i1 i2
    · split at h
      · rename_i p q hp hq
        have e1 := asBo_rel hp h1
        have e2 := asBo_rel hq h2
        refine hrun ?_
        rw [e1, e2]
        cases hu : isBo P t with
        | false => rw [hu] at h; cases h
        | true =>
          rw [hu] at h
          have hu : P.underlying t = some .bool := by unfold isBo at hu; split at hu <;> simp_all
          exact sBool_good h t hu x y
      · split at h
        · rename_i p q hp hq
          obtain ⟨s1, e1, rfl⟩ := asB_rel hp h1
          obtain ⟨s2, e2, rfl⟩ := asB_rel hq h2
          refine hrun ?_
          rw [e1, e2]
          obtain ⟨v, u, r1, r2, r3⟩ := sStr_good (φ := φ) (P := P) h hob t
          exact ⟨v, u, r1, r2, fun w => (eqGuard_str x y w).trans (r3 w)⟩
        · exact hrun (sEq_good h hob h1 h2 x y)
  · cases h
theorem sun_ok (he : EvOk φ ev ρ) (o : Oper) (op : UnOp) (t : TypeId) (x : Operand) (ho : o.op = .unOp op t x) (ob : OP) (r : LRes) (h : sUn ev op x = some (ob, r)) (hob : ob.ok) : LSpec φ (fun w => (execOp ρ o).run P w) r := by
  have hrun : SGood φ (fun w => (Op.unary op (ρ x)).run P w) r → LSpec φ (fun w => (execOp ρ o).run P w) r := fun hg =>
    hg.spec fun w u hu => by simp only [execOp, ho]; rw [Sem.run_bind, hu]; rfl
  unfold sUn at h
  split at h
  · rename_i b hx
    have h1 := he _ _ hx
    refine hrun ?_
    generalize ρ x = q at h1
    cases h1
    cases h
    exact ⟨_, _, rfl, .sbool _, fun w => by simp [Op.unary]⟩
  · rename_i k z hx
    have h1 := he _ _ hx
    refine hrun ?_
    generalize ρ x = q at h1
    cases h1
    exact wrapS_good h hob fun w => by simp [Op.unary, Op.intArith]
  · rename_i k z hx
    have h1 := he _ _ hx
    refine hrun ?_
    generalize ρ x = q at h1
    cases h1 with
    | sint _ _ hr =>
    cases hk : isU k with
    | false => rw [hk] at h; cases h
    | true =>
    rw [hk] at h
    cases h
    have hlo := isU_lo hk
    have hd : inR k (hiI k - z) := ⟨by have := hr.2; omega, by have := hr.1; omega⟩
    refine ⟨_, _, rfl, .sint _ _ hd, fun w => ?_⟩
    have hun : unA .xor (.int k z) = some (.int k (hiI k - z)) := by
      have hz0 : 0 ≤ z := by have := hr.1; omega
      have hz := hr.2
      have hsg : k.signed = false := by cases k <;> first | rfl | cases hk
      have hmx : k.max = hiI k := by cases k <;> first | rfl | cases hk
      have hin : inR k (hiI k) := ⟨by omega, Int.le_refl _⟩
      show mk k (.ofNat (Nat.xor (bits k (bif k.signed then -1 else k.max)) (bits k z))) = _
      rw [hsg, cond_false, mk_eq, hmx, bits_nat hin (by omega), bits_nat hr hz0]
      have hx : Nat.xor (hiI k).toNat z.toNat = (hiI k).toNat - z.toNat := by
        have key : ∀ n : Nat, (2 ^ n - 1) ^^^ z.toNat = 2 ^ n - 1 - z.toNat ∨ ¬ z.toNat < 2 ^ n := fun n => by
          by_cases hlt : z.toNat < 2 ^ n
          · left
            apply Nat.eq_of_testBit_eq
            intro i
            rw [Nat.testBit_xor, Nat.testBit_two_pow_sub_one, show 2 ^ n - 1 - z.toNat = 2 ^ n - (z.toNat + 1) by omega, Nat.testBit_two_pow_sub_succ hlt]
            by_cases hi : i < n
            · simp [hi]
            · have : z.toNat.testBit i = false := Nat.testBit_lt_two_pow (Nat.lt_of_lt_of_le hlt (Nat.pow_le_pow_right (by omega) (by omega)))
              simp [hi, this]
          · exact .inr hlt
        show (hiI k).toNat ^^^ z.toNat = _
        cases k <;> (first | (cases hk; done) | skip) <;> simp only [hiI] at hz ⊢
        · have := key 8; simp at this ⊢; omega
        · have := key 16; simp at this ⊢; omega
        · have := key 32; simp at this ⊢; omega
        · have := key 64; simp at this ⊢; omega
      show some (AVal.int k (k.wrap ((Nat.xor (hiI k).toNat z.toNat : Nat) : Int))) = _
      rw [hx]
      have he : (((hiI k).toNat - z.toNat : Nat) : Int) = hiI k - z := by omega
      rw [he, wrap_inR hd]
    obtain ⟨u, h1, h2⟩ := unA_some (P := P) (φ := φ) hun (.int _ _)
    cases h1; exact h2 w
  · cases h
theorem spick_ok (he : EvOk φ ev ρ) (o : Oper) (c a b : Operand) (ho : o.op = .pick c a b) (ob : OP) (r : LRes) (h : sPick ev c a b = some (ob, r)) (hob : ob.ok) : LSpec φ (fun w => (execOp ρ o).run P w) r := by
  unfold sPick at h
  split at h
  · rename_i cb hc
    have h0 := he _ _ hc
    generalize hρ : ρ c = qc at h0
    cases h0
    cases cb with
    | true =>
      simp only [cond_true] at h
      split at h
      · rename_i v hv
        cases h
        exact ⟨_, he _ _ hv, fun w => by simp [execOp, ho, hρ, asBool]⟩
      · cases h
    | false =>
      simp only [cond_false] at h
      split at h
      · rename_i v hv
        cases h
        exact ⟨_, he _ _ hv, fun w => by simp [execOp, ho, hρ, asBool]⟩
      · cases h
  · cases h
end
end Go.Proofs.Ytlnfolgmjfcinaa.Abs
