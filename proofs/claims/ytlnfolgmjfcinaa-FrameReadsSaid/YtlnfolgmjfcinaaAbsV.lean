/- Operations on what is known by terms alone: ints, bools, strings. By an AI agent. -/
import Derived.Test.YtlnfolgmjfcinaaAbsL4
namespace Go.Proofs.Ytlnfolgmjfcinaa.Abs
open Go Go.RowKit
set_option linter.unusedVariables false
section
variable {φ : Phi} {P : Program} {ev : Operand → Option AVal} {ρ : Operand → Value}
theorem wrap_inR {k : IntKind} {z : Int} (h : inR k z) : k.wrap z = z := by
  obtain ⟨h1, h2⟩ := h
  cases k <;> simp only [loI, hiI] at h1 h2 <;> simp only [IntKind.wrap, IntKind.signed, IntKind.bits] <;> (try simp) <;> omega
theorem wrap_mod_inR {k : IntKind} (hk : isU k = true) (z : Int) : k.wrap z = z % modI k ∧ inR k (z % modI k) := by
  cases k <;> (first | (cases hk; done) | skip) <;> (refine ⟨?_, ?_, ?_⟩ <;> simp only [loI, hiI, modI] <;> (try simp only [IntKind.wrap, IntKind.signed, IntKind.bits]) <;> (try simp) <;> omega)
theorem asZ_rel {v : AVal} {k : IntKind} {z : Int} {u : Value} (h : asZ v = some (k, z)) (hv : VRel φ v u) : u = .int k z := by
  unfold asZ at h
  split at h
  · cases h; cases hv; rfl
  · cases h; cases hv; rfl
  · cases h
theorem asBo_rel {v : AVal} {b : Bool} {u : Value} (h : asBo v = some b) (hv : VRel φ v u) : u = .bool b := by
  unfold asBo at h
  split at h
  · cases h; cases hv; rfl
  · cases h; cases hv; rfl
  · cases h
theorem toNat_ofNat_map (l : List UInt8) : (l.map UInt8.toNat).map UInt8.ofNat = l := by
  rw [List.map_map]
  have e : UInt8.ofNat ∘ UInt8.toNat = id := by funext c; simp
  rw [e]; simp
theorem asB_rel {v : AVal} {l : List UInt8} {u : Value} (h : asB v = some l) (hv : VRel φ v u) : ∃ s : ByteArray, u = .string s ∧ s.data.toList = l := by
  unfold asB at h
  split at h
  · cases h
    cases hv with
    | str s => exact ⟨s, rfl, (toNat_ofNat_map _).symm⟩
  · cases h; cases hv with
    | sstr s => exact ⟨s, rfl, rfl⟩
  · cases h
theorem asN_rel {v : AVal} {z : Int} {n : Nat} {u : Value} (h : asN v = some (z, n)) (hv : VRel φ v u) : ∃ k, u = .int k z ∧ (0 ≤ z → z = (n : Int)) := by
  unfold asN at h
  split at h
  · cases h; cases hv; exact ⟨_, rfl, fun _ => rfl⟩
  · cases h; cases hv; exact ⟨_, rfl, fun h => by omega⟩
  · cases h
theorem isU_lo {k : IntKind} (h : isU k = true) : loI k = 0 := by cases k <;> first | rfl | cases h
theorem kindEq_self (k : IntKind) : kindEq k k = true := by cases k <;> rfl
theorem lo_neg (k : IntKind) : loI k ≤ 0 := by cases k <;> simp [loI]
/-- what a kind's greatest is -/
theorem hi_pow (k : IntKind) : ∃ j, hiI k + 1 = ((2 ^ j : Nat) : Int) ∧ (2 ^ j : Nat) ≤ modN k := by
  cases k
  · exact ⟨7, rfl, by decide⟩
  · exact ⟨15, rfl, by decide⟩
  · exact ⟨31, rfl, by decide⟩
  · exact ⟨63, rfl, by decide⟩
  · exact ⟨8, rfl, by decide⟩
  · exact ⟨16, rfl, by decide⟩
  · exact ⟨32, rfl, by decide⟩
  · exact ⟨64, rfl, by decide⟩
theorem bits_nat {k : IntKind} {a : Int} (h : inR k a) (h0 : 0 ≤ a) : bits k a = a.toNat := by
  obtain ⟨j, h1, h2⟩ := hi_pow k
  obtain ⟨n, rfl⟩ := Int.eq_ofNat_of_zero_le h0
  have := h.2
  show Nat.mod n (modN k) = n
  exact Nat.mod_eq_of_lt (by omega)
theorem pow_bits (k : IntKind) : modN k = 2 ^ k.bits := by cases k <;> rfl
theorem mod_bits {k : IntKind} (h : isU k = true) : modI k = ((2 ^ k.bits : Nat) : Int) := by cases k <;> first | rfl | cases h
theorem hi_lt_bits (k : IntKind) : hiI k < ((2 ^ k.bits : Nat) : Int) := by cases k <;> decide
/-- a result that ints give -/
def SGood (φ : Phi) (run : World → Result Value) (r : LRes) : Prop := ∃ v u, r = .pure v ∧ VRel φ v u ∧ ∀ w, run w = .ok u w
theorem SGood.spec {run : World → Result Value} {r : LRes} {run' : World → Result Next} (h : SGood φ run r) (hr : ∀ w u, run w = .ok u w → run' w = .ok (.value u) w) : LSpec φ run' r := by
  obtain ⟨v, u, rfl, h1, h2⟩ := h
  exact ⟨u, h1, fun w => hr w u (h2 w)⟩
/-- what holds of the ints' own operation -/
theorem int_run {op : BinOp} {k k' k2 : IntKind} {a b z : Int} (h : intOp op k k' a b = some (.int k2 z)) (t : TypeId) (w : World) : (binOp op t (.int k a) (.int k' b)).run P w = .ok (.int k2 z) w := by
  obtain ⟨u, h1, h2⟩ := intOp_some (φ := fun _ => none) (P := P) op t k k' a b _ h
  cases h1
  exact h2 w
theorem bool_run {op : BinOp} {k k' : IntKind} {a b : Int} {c : Bool} (h : intOp op k k' a b = some (.bool c)) (t : TypeId) (w : World) : (binOp op t (.int k a) (.int k' b)).run P w = .ok (.bool c) w := by
  obtain ⟨u, h1, h2⟩ := intOp_some (φ := fun _ => none) (P := P) op t k k' a b _ h
  cases h1
  exact h2 w
theorem mk_eq (k : IntKind) (z : Int) : mk k z = some (.int k (k.wrap z)) := by unfold mk; rw [wrapA_eq]
theorem same_eq (k : IntKind) (r : Option AVal) : same k k r = r := by unfold same; rw [kindEq_self]; rfl
theorem wrapS_good {k : IntKind} {z : Int} {ob : OP} {r : LRes} (h : wrapS k z = some (ob, r)) (hob : ob.ok) {run : World → Result Value} (hr : ∀ w, run w = .ok (.int k (k.wrap z)) w) : SGood φ run r := by
  unfold wrapS pureS at h
  cases hk : isU k with
  | true =>
    rw [hk] at h
    cases h
    obtain ⟨h1, h2⟩ := wrap_mod_inR hk z
    exact ⟨_, _, rfl, .sint _ _ h2, fun w => by rw [hr w, h1]⟩
  | false =>
    rw [hk] at h
    cases h
    have hob : inR k z := hob
    exact ⟨_, _, rfl, .sint _ _ hob, fun w => by rw [hr w, wrap_inR hob]⟩
theorem nat_bits_lt {k : IntKind} {a b : Int} (ha : inR k a) (hb : inR k b) (h0 : 0 ≤ a) (h1 : 0 ≤ b) : ∃ j, a.toNat < 2 ^ j ∧ b.toNat < 2 ^ j ∧ ∀ n : Nat, n < 2 ^ j → inR k (n : Int) := by
  obtain ⟨j, h2, h3⟩ := hi_pow k
  have := ha.2
  have := hb.2
  exact ⟨j, by omega, by omega, fun n hn => ⟨by have := lo_neg k; omega, by omega⟩⟩
theorem sInt_good {op : BinOp} {k : IntKind} {a b : Int} {ob : OP} {r : LRes} (h : sInt op k a b = some (ob, r)) (hob : ob.ok) (t : TypeId) (ha : inR k a) (hb : inR k b) : SGood φ (fun w => (binOp op t (.int k a) (.int k b)).run P w) r := by
  unfold sInt at h
  split at h
  · exact wrapS_good h hob fun w => int_run (by simp only [intOp, same_eq, mk_eq, addI_eq]) t w
  · exact wrapS_good h hob fun w => int_run (by simp only [intOp, same_eq, mk_eq]; rfl) t w
  · exact wrapS_good h hob fun w => int_run (by simp only [intOp, same_eq, mk_eq]; rfl) t w
  · cases h
    obtain ⟨h0, h1⟩ : 0 ≤ a ∧ 0 < b := hob
    have hd : inR k (a / b) := ⟨by have := lo_neg k; have := Int.ediv_nonneg h0 (Int.le_of_lt h1); omega, by have := Int.ediv_le_self b h0; have := ha.2; omega⟩
    refine ⟨_, _, rfl, .sint _ _ hd, fun w => int_run ?_ t w⟩
    simp only [intOp, same_eq, quoA, intBeq_eq]
    rw [show (b == 0) = false by simp; omega, cond_false, mk_eq, Int.tdiv_eq_ediv_of_nonneg h0, wrap_inR hd]
  · cases h
    obtain ⟨h0, h1⟩ : 0 ≤ a ∧ 0 < b := hob
    have hd : inR k (a % b) := ⟨by have := lo_neg k; have := Int.emod_nonneg a (show b ≠ 0 by omega); omega, by have := Int.emod_lt_of_pos a h1; have := hb.2; omega⟩
    refine ⟨_, _, rfl, .sint _ _ hd, fun w => int_run ?_ t w⟩
    simp only [intOp, same_eq, remA, intBeq_eq]
    rw [show (b == 0) = false by simp; omega, cond_false, Int.tmod_eq_emod_of_nonneg h0]
  · cases h
    obtain ⟨h0, h1⟩ : 0 ≤ a ∧ 0 ≤ b := hob
    obtain ⟨j, e1, e2, e3⟩ := nat_bits_lt ha hb h0 h1
    have hd := e3 (a.toNat &&& b.toNat) (Nat.lt_of_le_of_lt Nat.and_le_left e1)
    refine ⟨_, _, rfl, .sint _ _ hd, fun w => int_run ?_ t w⟩
    simp only [intOp, same_eq, landA, mk_eq, bits_nat ha h0, bits_nat hb h1]
    exact congrArg (fun z => some (AVal.int k z)) (wrap_inR hd)
  · cases h
    obtain ⟨h0, h1⟩ : 0 ≤ a ∧ 0 ≤ b := hob
    obtain ⟨j, e1, e2, e3⟩ := nat_bits_lt ha hb h0 h1
    have hd := e3 (a.toNat ||| b.toNat) (Nat.or_lt_two_pow e1 e2)
    refine ⟨_, _, rfl, .sint _ _ hd, fun w => int_run ?_ t w⟩
    simp only [intOp, same_eq, lorA, mk_eq, bits_nat ha h0, bits_nat hb h1]
    exact congrArg (fun z => some (AVal.int k z)) (wrap_inR hd)
  · cases h
    obtain ⟨h0, h1⟩ : 0 ≤ a ∧ 0 ≤ b := hob
    obtain ⟨j, e1, e2, e3⟩ := nat_bits_lt ha hb h0 h1
    have hd := e3 (a.toNat ^^^ b.toNat) (Nat.xor_lt_two_pow e1 e2)
    refine ⟨_, _, rfl, .sint _ _ hd, fun w => int_run ?_ t w⟩
    simp only [intOp, same_eq, xorA, mk_eq, bits_nat ha h0, bits_nat hb h1]
    exact congrArg (fun z => some (AVal.int k z)) (wrap_inR hd)
  · cases h
    refine ⟨_, _, rfl, .sbool _, fun w => bool_run ?_ t w⟩
    simp only [intOp, same_eq, boolA, intBeq_eq]; congr 2
  · cases h
    refine ⟨_, _, rfl, .sbool _, fun w => bool_run ?_ t w⟩
    simp only [intOp, same_eq, boolA, intBeq_eq]; congr 2; rw [Bool.eq_iff_iff]; simp
  · cases h
    refine ⟨_, _, rfl, .sbool _, fun w => bool_run ?_ t w⟩
    simp only [intOp, same_eq, boolA, intLe_eq]; congr 2; rw [Bool.eq_iff_iff]; simp
  · cases h
    refine ⟨_, _, rfl, .sbool _, fun w => bool_run ?_ t w⟩
    simp only [intOp, same_eq, boolA, intLe_eq]
  · cases h
    refine ⟨_, _, rfl, .sbool _, fun w => bool_run ?_ t w⟩
    simp only [intOp, same_eq, boolA, intLe_eq]; congr 2; rw [Bool.eq_iff_iff]; simp
  · cases h
    refine ⟨_, _, rfl, .sbool _, fun w => bool_run ?_ t w⟩
    simp only [intOp, same_eq, boolA, intLe_eq]
  · cases h
theorem sShl_good {k k' : IntKind} {a b : Int} {ob : OP} {r : LRes} (h : sShl k a b = some (ob, r)) (hob : ob.ok) (t : TypeId) : SGood φ (fun w => (binOp .shl t (.int k a) (.int k' b)).run P w) r := by
  unfold sShl pureS at h
  cases hk : isU k with
  | false => rw [hk] at h; cases h
  | true =>
  rw [hk] at h
  cases h
  have h0 : 0 ≤ b := hob
  obtain ⟨n, rfl⟩ := Int.eq_ofNat_of_zero_le h0
  obtain ⟨h1, h2⟩ := wrap_mod_inR hk (a * 2 ^ (n : Int).toNat)
  refine ⟨_, _, rfl, .sint _ _ h2, fun w => int_run ?_ t w⟩
  have hn : natOf (n : Int) = some n := rfl
  simp only [intOp, shl, hn, mk_eq]
  have hw : ∀ z, k.wrap z = z % modI k := fun z => (wrap_mod_inR hk z).1
  rw [hw, Int.toNat_natCast]
  congr 2
  have hc : ((Int.ofNat (Nat.pow 2 (bif Nat.ble n k.bits then n else k.bits))) : Int) = ((2 ^ (min n k.bits) : Nat) : Int) := by
    cases hb : Nat.ble n k.bits with
    | true => have := Nat.le_of_ble_eq_true hb; rw [Nat.min_eq_left this]; rfl
    | false => have : ¬ n ≤ k.bits := fun hle => by rw [Nat.ble_eq_true_of_le hle] at hb; cases hb
               rw [Nat.min_eq_right (by omega)]; rfl
  show Int.mul a _ % _ = _
  rw [hc, mod_bits hk]
  show a * _ % _ = _
  by_cases hle : n ≤ k.bits
  · rw [Nat.min_eq_left hle]; simp
  · rw [Nat.min_eq_right (by omega), Int.mul_emod_left]
    have : (2 : Int) ^ n = ((2 ^ k.bits : Nat) : Int) * 2 ^ (n - k.bits) := by
      have e : n = k.bits + (n - k.bits) := by omega
      conv => lhs; rw [e]
      rw [Int.pow_add]; simp
    rw [this, ← Int.mul_assoc, Int.mul_assoc, Int.mul_comm a, Int.mul_assoc, Int.mul_emod_right]
theorem sShr_good {k k' : IntKind} {a b : Int} {ob : OP} {r : LRes} (h : sShr k a b = some (ob, r)) (hob : ob.ok) (t : TypeId) (ha : inR k a) : SGood φ (fun w => (binOp .shr t (.int k a) (.int k' b)).run P w) r := by
  unfold sShr pureS at h
  cases h
  obtain ⟨ha0, h0⟩ : 0 ≤ a ∧ 0 ≤ b := hob
  obtain ⟨n, rfl⟩ := Int.eq_ofNat_of_zero_le h0
  have hd : inR k (a / 2 ^ (n : Int).toNat) := by
    have hp : (0 : Int) < 2 ^ n := by have := Int.pow_pos (n := 2) (m := n) (by omega); exact this
    rw [Int.toNat_natCast]
    exact ⟨by have := lo_neg k; have := Int.ediv_nonneg ha0 (Int.le_of_lt hp); omega, by have := Int.ediv_le_self (2 ^ n) ha0; have := ha.2; omega⟩
  refine ⟨_, _, rfl, .sint _ _ hd, fun w => int_run ?_ t w⟩
  have hn : natOf (n : Int) = some n := rfl
  simp only [intOp, shr, hn]
  rw [Int.toNat_natCast]
  congr 2
  have hc : ((Int.ofNat (Nat.pow 2 (bif Nat.ble n k.bits then n else k.bits))) : Int) = ((2 ^ (min n k.bits) : Nat) : Int) := by
    cases hb : Nat.ble n k.bits with
    | true => have := Nat.le_of_ble_eq_true hb; rw [Nat.min_eq_left this]; rfl
    | false => have : ¬ n ≤ k.bits := fun hle => by rw [Nat.ble_eq_true_of_le hle] at hb; cases hb
               rw [Nat.min_eq_right (by omega)]; rfl
  rw [hc, Int.fdiv_eq_ediv_of_nonneg _ (Int.natCast_nonneg _)]
  by_cases hle : n ≤ k.bits
  · rw [Nat.min_eq_left hle]; simp
  · rw [Nat.min_eq_right (by omega)]
    have h1 := hi_lt_bits k
    have h2 := ha.2
    rw [Int.ediv_eq_zero_of_lt ha0 (by omega), Int.ediv_eq_zero_of_lt ha0]
    have h3 : (2 ^ k.bits : Nat) ≤ 2 ^ n := Nat.pow_le_pow_right (by omega) (by omega)
    have h4 : ((2 ^ n : Nat) : Int) = 2 ^ n := by simp
    rw [← h4]; omega
theorem sBool_good {op : BinOp} {a b : Bool} {ob : OP} {r : LRes} (h : sBool op a b = some (ob, r)) (t : TypeId) (ht : P.underlying t = some .bool) (ox oy : Operand) : SGood φ (fun w => (do eqGuard op t ox oy (.bool a) (.bool b); binOp op t (.bool a) (.bool b)).run P w) r := by
  have hb : ∀ op, (op = .eql ∨ op = .neq) → binA P op t (.bool a) (.bool b) = some (.bool (if op = .eql then a == b else !(a == b))) := fun op hop => by
    rcases hop with rfl | rfl <;> simp [binA, asI, asS, binO, equalA, eqBool, ht]
  unfold sBool at h
  split at h
  · cases h
    obtain ⟨u, h1, h2⟩ := binA_some (φ := φ) (hb _ (.inl rfl)) (.bool a) (.bool b) ox oy
    cases h1
    exact ⟨_, _, rfl, .sbool _, h2⟩
  · cases h
    obtain ⟨u, h1, h2⟩ := binA_some (φ := φ) (hb _ (.inr rfl)) (.bool a) (.bool b) ox oy
    cases h1
    exact ⟨_, _, rfl, .sbool _, fun w => (h2 w).trans rfl⟩
  · cases h
theorem sStr_good {op : BinOp} {x y : ByteArray} {ob : OP} {r : LRes} (h : sStr op x.data.toList y.data.toList = some (ob, r)) (hob : ob.ok) (t : TypeId) : SGood φ (fun w => (binOp op t (.string x) (.string y)).run P w) r := by
  unfold sStr at h
  split at h
  · cases h
    have hob : x.data.toList.length + y.data.toList.length ≤ 9223372036854775807 := hob
    have hs : strOp .add (x.data.toList.map UInt8.toNat) (y.data.toList.map UInt8.toNat) = some (.str (x.data.toList.map UInt8.toNat ++ y.data.toList.map UInt8.toNat)) := by
      unfold strOp
      simp only [lenL0, List.length_map]
      rw [Nat.ble_eq_true_of_le hob]; rfl
    obtain ⟨u, h1, h2⟩ := strOp_some (φ := φ) (P := P) .add t x y _ hs
    generalize hq : x.data.toList.map UInt8.toNat ++ y.data.toList.map UInt8.toNat = q at h1
    cases h1 with
    | str s =>
    have h3 := congrArg (List.map UInt8.ofNat) hq
    rw [List.map_append, toNat_ofNat_map, toNat_ofNat_map, toNat_ofNat_map] at h3
    exact ⟨_, .string s, rfl, by rw [h3]; exact .sstr s, h2⟩
  · cases h
    obtain ⟨u, h1, h2⟩ := strOp_some (φ := φ) (P := P) .eql t x y (.bool (beqL (x.data.toList.map UInt8.toNat) (y.data.toList.map UInt8.toNat))) rfl
    cases h1
    refine ⟨_, _, rfl, .sbool _, fun w => (h2 w).trans ?_⟩
    rw [beqL_eq]
    congr 2; rw [Bool.eq_iff_iff]; simp
  · cases h
    obtain ⟨u, h1, h2⟩ := strOp_some (φ := φ) (P := P) .neq t x y (.bool (!beqL (x.data.toList.map UInt8.toNat) (y.data.toList.map UInt8.toNat))) rfl
    cases h1
    refine ⟨_, _, rfl, .sbool _, fun w => (h2 w).trans ?_⟩
    rw [beqL_eq]
    congr 2; rw [Bool.eq_iff_iff]; simp
  · cases h
end
end Go.Proofs.Ytlnfolgmjfcinaa.Abs
