/- Closed functions run by an interpreter: numbers and texts. By an AI agent. -/
import Derived.Test.YtcofcojjofkgcaaAbsR
import Derived.WalkKit
namespace Go.Proofs.Ytcofcojjofkgcaa.Abs
open Go Go.RowKit
set_option linter.unusedVariables false

theorem wrapN_eq (k : IntKind) (m : Nat) (h : m < modN k) : wrapN k m = k.wrap m := by
  unfold wrapN IntKind.wrap
  cases k <;> simp only [maxN, modN, IntKind.bits, IntKind.signed] at * <;>
  (cases hb : Nat.ble m _ with
   | true => have := Nat.le_of_ble_eq_true hb; simp; omega
   | false =>
     have hn : ¬ _ := fun hle => by rw [Nat.ble_eq_true_of_le hle] at hb; cases hb
     simp [Int.subNatNat_eq_coe]; omega)
theorem wrap_mod (k : IntKind) (z : Int) : k.wrap (z % (modN k : Int)) = k.wrap z := by
  unfold IntKind.wrap
  cases k <;> simp [modN, IntKind.bits, Int.emod_emod_of_dvd]
theorem wrapA_eq (k : IntKind) (z : Int) : wrapA k z = k.wrap z := by
  have hpos : 0 < modN k := by cases k <;> simp [modN]
  cases z with
  | ofNat n =>
    unfold wrapA
    simp only
    cases hb : Nat.ble n (maxN k) with
    | true =>
      have := Nat.le_of_ble_eq_true hb
      have h2 : wrapN k n = k.wrap n := wrapN_eq k n (by cases k <;> simp [maxN, modN] at * <;> omega)
      unfold wrapN at h2
      rw [hb] at h2
      exact h2
    | false =>
      show wrapN k (n % modN k) = _
      rw [wrapN_eq k _ (Nat.mod_lt _ hpos)]
      rw [← wrap_mod k (Int.ofNat n)]
      rfl
  | negSucc n =>
    show wrapN k (modN k - 1 - n % modN k) = _
    rw [wrapN_eq k _ (by have := Nat.mod_lt n hpos; omega), ← wrap_mod k (Int.negSucc n)]
    congr 1
    have := Nat.mod_lt n hpos
    rw [Int.negSucc_emod _ (by omega)]
    omega
theorem bits_eq (k : IntKind) (x : Int) : (BitVec.ofInt k.bits x).toNat = bits k x := by
  rw [BitVec.toNat_ofInt]
  have hm : (2 ^ k.bits : Nat) = modN k := by cases k <;> rfl
  have hpos : 0 < modN k := by cases k <;> simp [modN]
  rw [hm]
  cases x with
  | ofNat n => rfl
  | negSucc n =>
    show (Int.negSucc n % (modN k : Int)).toNat = modN k - 1 - n % modN k
    have := Nat.mod_lt n hpos
    rw [Int.negSucc_emod _ (by omega)]
    omega
theorem intBeq_eq (a b : Int) : intBeq a b = (a == b) := by
  rw [Bool.eq_iff_iff, beq_iff_eq]
  cases a <;> cases b <;> simp [intBeq, Nat.beq_eq]
  omega
theorem intLe_eq (a b : Int) : intLe a b = decide (a ≤ b) := by
  rw [Bool.eq_iff_iff, decide_eq_true_iff]
  cases a <;> cases b <;> simp [intLe, Nat.ble_eq, Int.negSucc_eq] <;> omega
theorem addI_eq (a b : Int) : addI a b = a + b := by
  cases a <;> cases b <;> rfl
theorem kindEq_eq (j k : IntKind) (h : kindEq j k = true) : j = k := by
  cases j <;> cases k <;> first | rfl | (simp [kindEq, kindN] at h)
section
variable {φ : Phi} {P : Program}
theorem mk_some {k : IntKind} {z : Int} {v : AVal} (h : mk k z = some v) : v = .int k (k.wrap z) := by
  unfold mk at h; rw [wrapA_eq] at h; exact (Option.some.inj h).symm
theorem same_some {k k' : IntKind} {r : Option AVal} {v : AVal} (h : same k k' r = some v) : k = k' ∧ r = some v := by
  unfold same at h
  cases hk : kindEq k k' with
  | true => rw [hk] at h; exact ⟨kindEq_eq _ _ hk, h⟩
  | false => rw [hk] at h; cases h
theorem intOp_some (op : BinOp) (t : TypeId) (k k' : IntKind) (a b : Int) (v : AVal) (h : intOp op k k' a b = some v) :
    ∃ u, VRel φ v u ∧ ∀ w, (binOp op t (.int k a) (.int k' b)).run P w = .ok u w := by
  cases op <;> simp only [intOp] at h <;> (try (obtain ⟨hk, h2⟩ := same_some h; clear h; subst hk; have h := h2; clear h2))
  case add => rw [mk_some h]; exact ⟨_, .int _ _, fun w => by simp [binOp, Op.intArith, addI_eq]⟩
  case sub => rw [mk_some h]; exact ⟨_, .int _ _, fun w => by simp [binOp, Op.intArith]; rfl⟩
  case mul => rw [mk_some h]; exact ⟨_, .int _ _, fun w => by simp [binOp, Op.intArith]⟩
  case quo =>
    unfold quoA at h
    cases hb : intBeq b 0 with
    | true => rw [hb] at h; cases h
    | false =>
      rw [hb] at h
      rw [mk_some h]
      have hb0 : b ≠ 0 := by rw [intBeq_eq] at hb; simpa using hb
      exact ⟨_, .int _ _, fun w => by simp [binOp, Op.intDiv, hb0]⟩
  case rem =>
    unfold remA at h
    cases hb : intBeq b 0 with
    | true => rw [hb] at h; cases h
    | false =>
      rw [hb] at h
      cases h
      have hb0 : b ≠ 0 := by rw [intBeq_eq] at hb; simpa using hb
      exact ⟨_, .int _ _, fun w => by simp [binOp, Op.intDiv, hb0]⟩
  case and => rw [mk_some h]; exact ⟨_, .int _ _, fun w => by simp only [binOp, Op.intBits, ne_eq, not_true, if_false, Sem.run_pure, BitVec.toNat_and, bits_eq]; rfl⟩
  case or => rw [mk_some h]; exact ⟨_, .int _ _, fun w => by simp only [binOp, Op.intBits, ne_eq, not_true, if_false, Sem.run_pure, BitVec.toNat_or, bits_eq]; rfl⟩
  case xor => rw [mk_some h]; exact ⟨_, .int _ _, fun w => by simp only [binOp, Op.intBits, ne_eq, not_true, if_false, Sem.run_pure, BitVec.toNat_xor, bits_eq]; rfl⟩
  case andNot => cases h
  case shl =>
    unfold shl natOf at h
    cases b with
    | negSucc n => cases h
    | ofNat n =>
      simp only at h
      rw [mk_some h]
      refine ⟨_, .int _ _, fun w => ?_⟩
      simp only [binOp, Op.shift]
      rw [Sem.run_ite, if_neg (by simp)]
      simp only [Sem.run_pure]
      congr 3
      have hm : (bif Nat.ble n k.bits then n else k.bits) = min (Int.ofNat n).toNat k.bits := by
        cases hb : Nat.ble n k.bits with
        | true => have := Nat.le_of_ble_eq_true hb; simp; omega
        | false => have : ¬ n ≤ k.bits := fun hle => by rw [Nat.ble_eq_true_of_le hle] at hb; cases hb
                   simp; omega
      rw [hm]
      show _ = a * _
      simp
  case shr =>
    unfold shr natOf at h
    cases b with
    | negSucc n => cases h
    | ofNat n =>
      simp only at h
      cases h
      refine ⟨_, .int _ _, fun w => ?_⟩
      simp only [binOp, Op.shift]
      rw [Sem.run_ite, if_neg (by simp)]
      simp only [Sem.run_pure]
      congr 3
      have hm : (bif Nat.ble n k.bits then n else k.bits) = min (Int.ofNat n).toNat k.bits := by
        cases hb : Nat.ble n k.bits with
        | true => have := Nat.le_of_ble_eq_true hb; simp; omega
        | false => have : ¬ n ≤ k.bits := fun hle => by rw [Nat.ble_eq_true_of_le hle] at hb; cases hb
                   simp; omega
      rw [hm]
      simp
  all_goals (unfold boolA at h; cases h; exact ⟨_, .bool _, fun w => by simp [binOp, Op.intCmp, intBeq_eq, intLe_eq] <;> first | done | rfl | (rw [Bool.eq_iff_iff]; simp; done) | (rw [Bool.eq_iff_iff]; simp; omega)⟩)
theorem beqL_eq : ∀ (x y : List UInt8), beqL (x.map UInt8.toNat) (y.map UInt8.toNat) = (x == y)
  | [], [] => rfl
  | [], _ :: _ => rfl
  | _ :: _, [] => rfl
  | a :: x, b :: y => by
    simp only [List.map_cons, beqL, beqL_eq x y, List.cons_beq_cons]
    congr 1
    rw [Bool.eq_iff_iff, beq_iff_eq, Nat.beq_eq]
    exact UInt8.toNat_inj
theorem lessL_eq : ∀ (x y : List UInt8), lessL (x.map UInt8.toNat) (y.map UInt8.toNat) = Op.bytesLess x y
  | [], [] => rfl
  | [], _ :: _ => rfl
  | _ :: _, [] => rfl
  | a :: x, b :: y => by
    simp only [List.map_cons, lessL, Op.bytesLess, lessL_eq x y]
    congr 1
    · rw [Bool.eq_iff_iff, Nat.blt_eq, decide_eq_true_iff]; exact UInt8.lt_iff_toNat_lt.symm
    · congr 1
      rw [Bool.eq_iff_iff, beq_iff_eq, Nat.beq_eq]
      exact UInt8.toNat_inj
theorem strOp_some (op : BinOp) (t : TypeId) (x y : ByteArray) (v : AVal) (h : strOp op (x.data.toList.map UInt8.toNat) (y.data.toList.map UInt8.toNat) = some v) :
    ∃ u, VRel φ v u ∧ ∀ w, (binOp op t (.string x) (.string y)).run P w = .ok u w := by
  have e1 : x.toList = x.data.toList := ByteArray.toList_eq x
  have e2 : y.toList = y.data.toList := ByteArray.toList_eq y
  cases op <;> simp only [strOp, beqL_eq, lessL_eq, lenL0, List.length_map, Array.length_toList] at h <;> (try cases h)
  case add =>
    cases hb : Nat.ble (x.data.size + y.data.size) 9223372036854775807 with
    | false => rw [hb] at h; cases h
    | true =>
      rw [hb] at h
      cases h
      have hle := Nat.le_of_ble_eq_true hb
      refine ⟨.string (x ++ y), ?_, fun w => ?_⟩
      · have := VRel.str (φ := φ) (x ++ y)
        rw [ByteArray.data_append, Array.toList_append, List.map_append] at this
        exact this
      · have hx : x.size = x.data.size := rfl
        have hy : y.size = y.data.size := rfl
        simp only [binOp, Op.stringOp, Sem.run_ite]
        rw [if_neg (by show ¬ (((x.size + y.size : Nat) : Int) > IntKind.i64.max); rw [hx, hy]; simp [IntKind.max, IntKind.bits, IntKind.signed]; omega)]
        rfl
  all_goals exact ⟨_, .bool _, fun w => by simp [binOp, Op.stringOp, e1, e2]⟩
theorem asI_some {x : AVal} {k : IntKind} {a : Int} (h : asI x = some (k, a)) : x = .int k a := by
  unfold asI at h; split at h <;> cases h; rfl
theorem eqFlat_some : ∀ (x y : List AVal) (a b : List Value) (r : Bool), eqFlat x y = some r → VRels φ x a → VRels φ y b →
    ∃ l : List (IntKind × Int × Int), a = l.map (fun p => .int p.1 p.2.1) ∧ b = l.map (fun p => .int p.1 p.2.2) ∧ r = l.all (fun p => p.2.1 == p.2.2)
  | [], [], a, b, r, h, ha, hb => by cases ha; cases hb; exact ⟨[], rfl, rfl, by simpa [eqFlat] using h.symm⟩
  | [], _ :: _, _, _, r, h, _, _ => by simp [eqFlat] at h
  | _ :: _, [], _, _, r, h, _, _ => by simp [eqFlat] at h
  | x :: xs, y :: ys, a, b, r, h, ha, hb => by
    unfold eqFlat at h
    split at h
    · rename_i j p k q r' hx hy hr'
      have hx := asI_some hx
      have hy := asI_some hy
      subst hx
      subst hy
      cases ha with
      | cons _ u _ us h1 h1s =>
        cases hb with
        | cons _ u' _ us' h2 h2s =>
          cases h1; cases h2
          cases hk : kindEq j k with
          | false => rw [hk] at h; cases h
          | true =>
            rw [hk] at h
            cases h
            obtain ⟨l, rfl, rfl, rfl⟩ := eqFlat_some xs ys us us' r' hr' h1s h2s
            obtain rfl := kindEq_eq _ _ hk
            exact ⟨(j, p, q) :: l, rfl, rfl, by rw [intBeq_eq]; rfl⟩
    · cases h
theorem run_und {t : TypeId} {d : TypeDesc} (h : P.underlying t = some d) (w : World) : (underlying t).run P w = .ok d w := by simp [underlying, h]
theorem run_size {t : TypeId} {n : Nat} (h : sizeA P t = some n) (w : World) : (sizeOf t).run P w = .ok n w := by
  unfold sizeA at h
  split at h
  · cases h; rename_i hi; simp [sizeOf, typeInfo, hi]
  · cases h
theorem run_part_int {e : TypeId} {ke : IntKind} (he : P.underlying e = some (.int ke)) (cs : Array Value) (i : Nat) (v : Value) (hv : cs[i]? = some v) (w : World) : (part e cs i).run P w = .ok v w := by
  simp [part, isAgg, run_und he, hv]
theorem run_equal_ints (d : Nat) (t e : TypeId) (ke : IntKind) (n : Nat) (ht : P.underlying t = some (.array n e)) (he : P.underlying e = some (.int ke)) (hsz : sizeA P e = some 1)
    (l : List (IntKind × Int × Int)) (hl : l.length = n) (w : World) :
    (Op.equalIn (d + 2) t (.agg (l.map fun p => Value.int p.1 p.2.1).toArray) (.agg (l.map fun p => Value.int p.1 p.2.2).toArray)).run P w = .ok (l.all fun p => p.2.1 == p.2.2) w := by
  have hall : (l.all fun p => p.2.1 == p.2.2) = (List.range' 0 n 1).all fun i => (match l[i]? with | some p => p.2.1 == p.2.2 | none => true) := by
    rw [Bool.eq_iff_iff, List.all_eq_true, List.all_eq_true]
    constructor
    · intro h i hi
      cases hq : l[i]? with
      | none => rfl
      | some p => exact h p (List.mem_of_getElem? hq)
    · intro h p hp
      obtain ⟨i, hi, rfl⟩ := List.mem_iff_getElem.1 hp
      have := h i (List.mem_range'_1.2 ⟨by omega, by omega⟩)
      rw [List.getElem?_eq_getElem hi] at this
      exact this
  rw [hall, Op.equalIn]
  simp only [Sem.run_bind, run_und ht, Result.andThen_ok, run_size hsz, Std.Legacy.Range.forIn_eq_forIn_range', Std.Legacy.Range.size, Nat.sub_zero, Nat.add_sub_cancel, Nat.div_one]
  have hm : ∀ i ∈ List.range' 0 n 1, i < n := fun i hi => by have := (List.mem_range'_1.1 hi).2; omega
  generalize List.range' 0 n 1 = r at hm ⊢
  induction r with
  | nil => simp
  | cons i r ih =>
    have hi : i < l.length := by have := hm i (by simp); omega
    have px := run_part_int he (l.map fun p => Value.int p.1 p.2.1).toArray (i * 1) (Value.int l[i].1 l[i].2.1) (by simp [hi]) w
    have py := run_part_int he (l.map fun p => Value.int p.1 p.2.2).toArray (i * 1) (Value.int l[i].1 l[i].2.2) (by simp [hi]) w
    have pe : (Op.equalIn (d + 1) e (Value.int l[i].1 l[i].2.1) (Value.int l[i].1 l[i].2.2)).run P w = .ok (l[i].2.1 == l[i].2.2) w := by
      simp [Op.equalIn, run_und he]
    simp only [List.forIn_cons, Sem.run_bind, px, py, pe, Result.andThen_ok, List.all_cons, List.getElem?_eq_getElem hi]
    cases hb : (l[i].2.1 == l[i].2.2)
    · simp
    · simp only [Bool.not_true, Bool.false_eq_true, if_false, Sem.run_pure, Result.andThen_ok, Bool.true_and]
      exact ih fun j hj => hm j (by simp [hj])
theorem eqArr_some {t : TypeId} {x y : List AVal} {r : Bool} (h : eqArr P t x y = some r) {a b : Array Value} (ha : VRels φ x a.toList) (hb : VRels φ y b.toList) (d : Nat) (w : World) :
    (Op.equalIn (d + 2) t (.agg a) (.agg b)).run P w = .ok r w ∧ ∀ k, P.eqGuardType (k + 2) t = false := by
  unfold eqArr at h
  split at h
  · rename_i n e ht
    split at h
    · rename_i ke he hs
      cases hc : (Nat.beq (lenL x 0) n && Nat.beq (lenL y 0) n) with
      | false => rw [hc] at h; cases h
      | true =>
        rw [hc] at h
        obtain ⟨l, h1, h2, h3⟩ := eqFlat_some x y _ _ r h ha hb
        have hx : x.length = n := by rw [Bool.and_eq_true] at hc; rw [← lenL0]; exact Nat.eq_of_beq_eq_true hc.1
        have hla : l.length = n := by rw [← hx, ← ha.length, h1, List.length_map]
        have ea : a = (l.map fun p => Value.int p.1 p.2.1).toArray := by rw [← h1]
        have eb : b = (l.map fun p => Value.int p.1 p.2.2).toArray := by rw [← h2]
        rw [ea, eb, h3]
        exact ⟨run_equal_ints d t e ke n ht he hs l hla w, fun k => by simp [Program.eqGuardType, ht, he]⟩
    · cases h
  · cases h
theorem depth_eq : P.depth = (2 * (P.types.size + Made.depth)) + 2 := rfl
theorem run_if {c : Prop} [Decidable c] {x y : Sem Unit} {w : World} (hx : x.run P w = .ok () w) (hy : y.run P w = .ok () w) : (if c then x else y).run P w = .ok () w := by split <;> assumption
theorem guard_ok {op : BinOp} {t : TypeId} {x y : Operand} {a b : Value} (h : ∀ p q, a = .agg p → b = .agg q → ∀ k, P.eqGuardType (k + 2) t = false) (hn : a ≠ .nilIface) (w : World) : (eqGuard op t x y a b).run P w = .ok () w := by
  unfold eqGuard
  refine run_if rfl ?_
  split
  · exact absurd rfl hn
  · rename_i p q
    have := h p q rfl rfl (2 * (P.types.size + Made.depth))
    simp [depth_eq, this]
  · rfl
def Plain : Value → Prop
  | .nilIface | .int _ _ | .string _ | .float _ _ | .complex _ _ _ => False
  | _ => True
set_option maxHeartbeats 2000000 in
theorem equalA_some {t : TypeId} {x y : AVal} {r : Bool} (h : equalA P t x y = some r) {a b : Value} (ha : VRel φ x a) (hb : VRel φ y b) (w : World) :
    (Op.equal t a b).run P w = .ok r w ∧ (∀ p q, a = .agg p → b = .agg q → ∀ k, P.eqGuardType (k + 2) t = false) ∧ Plain a := by
  unfold Op.equal
  rw [show Op.maxDepth = 9998 + 2 from rfl]
  generalize 9998 = d
  have hB : ∀ {c : Bool}, eqBool P t c = some r → P.underlying t = some .bool ∧ r = c := fun h => by unfold eqBool at h; split at h <;> simp_all
  have hP : ∀ {c : Bool}, eqPtr P t c = some r → ∃ e, P.underlying t = some (.pointer e) ∧ r = c := fun h => by unfold eqPtr at h; split at h <;> simp_all
  have hS : ∀ {c : Bool}, eqSl P t c = some r → ∃ e, P.underlying t = some (.slice e) ∧ r = c := fun h => by unfold eqSl at h; split at h <;> simp_all
  have hM : ∀ {c : Bool}, eqMap P t c = some r → ∃ k e, P.underlying t = some (.map k e) ∧ r = c := fun h => by unfold eqMap at h; split at h <;> simp_all
  have hF : ∀ {c : Bool}, eqFun P t c = some r → ∃ i j k, P.underlying t = some (.func i j k) ∧ r = c := fun h => by unfold eqFun at h; split at h <;> simp_all
  unfold equalA at h
  cases ha <;> (try cases h) <;> cases hb <;> (try cases h) <;> simp only at h
  case bool.bool => obtain ⟨hu, rfl⟩ := hB h; exact ⟨by simp [Op.equalIn, run_und hu], by simp, trivial⟩
  case ptr0.ptr0 => obtain ⟨e, hu, rfl⟩ := hP h; exact ⟨by simp [Op.equalIn, run_und hu, isNone], by simp, trivial⟩
  case ptr0.ptr => obtain ⟨e, hu, rfl⟩ := hP h; exact ⟨by simp [Op.equalIn, run_und hu, isNone], by simp, trivial⟩
  case ptr.ptr0 => obtain ⟨e, hu, rfl⟩ := hP h; exact ⟨by simp [Op.equalIn, run_und hu], by simp, trivial⟩
  case slice0.slice0 => obtain ⟨e, hu, rfl⟩ := hS h; exact ⟨by simp [Op.equalIn, run_und hu, isNone], by simp, trivial⟩
  case slice0.slice => obtain ⟨e, hu, rfl⟩ := hS h; exact ⟨by simp [Op.equalIn, run_und hu, isNone], by simp, trivial⟩
  case slice.slice0 => obtain ⟨e, hu, rfl⟩ := hS h; exact ⟨by simp [Op.equalIn, run_und hu], by simp, trivial⟩
  case map0.map0 => obtain ⟨k, e, hu, rfl⟩ := hM h; exact ⟨by simp [Op.equalIn, run_und hu, isNone], by simp, trivial⟩
  case map0.map => obtain ⟨k, e, hu, rfl⟩ := hM h; exact ⟨by simp [Op.equalIn, run_und hu, isNone], by simp, trivial⟩
  case map.map0 => obtain ⟨k, e, hu, rfl⟩ := hM h; exact ⟨by simp [Op.equalIn, run_und hu], by simp, trivial⟩
  case nilFunc.nilFunc => obtain ⟨i, j, k, hu, rfl⟩ := hF h; exact ⟨by simp [Op.equalIn, run_und hu], by simp, trivial⟩
  case nilFunc.func => obtain ⟨i, j, k, hu, rfl⟩ := hF h; exact ⟨by simp [Op.equalIn, run_und hu], by simp, trivial⟩
  case func.nilFunc => obtain ⟨i, j, k, hu, rfl⟩ := hF h; exact ⟨by simp [Op.equalIn, run_und hu], by simp, trivial⟩
  case agg.agg =>
    rename_i l c h1 l' c' h2
    obtain ⟨e1, e2⟩ := eqArr_some h h1 h2 d w
    exact ⟨e1, fun _ _ _ _ => e2, trivial⟩
theorem bin_eql (t : TypeId) {a : Value} (b : Value) (h : Plain a) : binOp .eql t a b = (do pure (.bool (← Op.equal t a b))) := by cases a <;> first | exact h.elim | (cases b <;> rfl)
theorem bin_neq (t : TypeId) {a : Value} (b : Value) (h : Plain a) : binOp .neq t a b = (do pure (.bool (!(← Op.equal t a b)))) := by cases a <;> first | exact h.elim | (cases b <;> rfl)
theorem binA_some {op : BinOp} {t : TypeId} {x y : AVal} {v : AVal} (h : binA P op t x y = some v) {a b : Value} (ha : VRel φ x a) (hb : VRel φ y b) (ox oy : Operand) :
    ∃ u, VRel φ v u ∧ ∀ w, (do eqGuard op t ox oy a b; binOp op t a b).run P w = .ok u w := by
  have hsome : ∀ {z : AVal} {l : List Nat}, asS z = some l → z = .str l := fun h => by unfold asS at h; split at h <;> cases h; rfl
  unfold binA at h
  split at h
  · rename_i k p hx
    obtain rfl := asI_some hx
    cases ha
    split at h
    · rename_i k' q hy
      obtain rfl := asI_some hy
      cases hb
      obtain ⟨u, h1, h2⟩ := intOp_some (φ := φ) (P := P) op t k k' p q v h
      exact ⟨u, h1, fun w => by rw [Sem.run_bind, guard_ok (by simp) (by simp)]; exact h2 w⟩
    · cases h
  · split at h
    · rename_i l hx
      obtain rfl := hsome hx
      cases ha
      split at h
      · rename_i l' hy
        obtain rfl := hsome hy
        cases hb
        obtain ⟨u, h1, h2⟩ := strOp_some (φ := φ) (P := P) op t _ _ v h
        exact ⟨u, h1, fun w => by rw [Sem.run_bind, guard_ok (by simp) (by simp)]; exact h2 w⟩
      · cases h
    · unfold binO at h
      split at h
      all_goals (try cases h)
      all_goals
        split at h
        · rename_i r hr
          cases h
          refine ⟨_, .bool _, fun w => ?_⟩
          obtain ⟨e1, e2, e3⟩ := equalA_some hr ha hb w
          rw [Sem.run_bind, guard_ok e2 (by rintro rfl; exact e3)]
          simp only [Result.andThen_ok]
          first | rw [bin_eql t _ e3] | rw [bin_neq t _ e3]
          simp [e1]
        · cases h
theorem unA_some {op : UnOp} {x : AVal} {v : AVal} (h : unA op x = some v) {a : Value} (ha : VRel φ x a) :
    ∃ u, VRel φ v u ∧ ∀ w, (Op.unary op a).run P w = .ok u w := by
  unfold unA at h
  split at h
  · cases ha; rw [mk_some h]; exact ⟨_, .int _ _, fun w => by simp [Op.unary, Op.intArith]⟩
  · cases ha; unfold xorA at h; rw [mk_some h]
    rename_i k n
    refine ⟨_, .int _ _, fun w => ?_⟩
    simp only [Op.unary, Op.intBits, Sem.run_pure, BitVec.toNat_xor, bits_eq]
    cases k.signed <;> rfl
  · cases ha; cases h; exact ⟨_, .bool _, fun w => by simp [Op.unary]⟩
  · cases h
end
end Go.Proofs.Ytcofcojjofkgcaa.Abs
