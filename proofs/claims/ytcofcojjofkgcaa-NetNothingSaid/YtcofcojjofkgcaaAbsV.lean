/- Operations on what is known by terms alone: ints, bools, strings. By an AI agent. -/
import Derived.Test.YtcofcojjofkgcaaAbsL
namespace Go.Proofs.Ytcofcojjofkgcaa.Abs
open Go Go.RowKit
set_option linter.unusedVariables false
section
variable {φ : Phi} {P : Program} {ev : Operand → Option AVal} {ρ : Operand → Value}
theorem wrap_inR {k : IntKind} {z : Int} (h : inR k z) : k.wrap z = z := by
  obtain ⟨h1, h2⟩ := h
  cases k <;> simp only [loI, hiI] at h1 h2 <;> simp only [IntKind.wrap, IntKind.signed, IntKind.bits] <;> (try simp) <;> omega
theorem wrap_mod_inR {k : IntKind} (hk : isU k = true) (z : Int) : k.wrap z = z % modI k ∧ inR k (z % modI k) := by
  cases k <;> (first | (cases hk; done) | skip) <;> (refine ⟨?_, ?_, ?_⟩ <;> simp only [loI, hiI, modI] <;> (try simp only [IntKind.wrap, IntKind.signed, IntKind.bits]) <;> (try simp) <;> omega)
theorem asZ_rel {v : AVal} {k : IntKind} {z : Int} {u : Value} (h : asZ v = some (k, z)) (hv : VRel φ v u) : u = .int k z := by
  unfold asZ at h
  split at h
  · cases h; cases hv; rfl
  · cases h; cases hv; rfl
  · cases h
theorem asBo_rel {v : AVal} {b : Bool} {u : Value} (h : asBo v = some b) (hv : VRel φ v u) : u = .bool b := by
  unfold asBo at h
  split at h
  · cases h; cases hv; rfl
  · cases h; cases hv; rfl
  · cases h
theorem toNat_ofNat_map (l : List UInt8) : (l.map UInt8.toNat).map UInt8.ofNat = l := by
  rw [List.map_map]
  have e : UInt8.ofNat ∘ UInt8.toNat = id := by funext c; simp
  rw [e]; simp
theorem asB_rel {v : AVal} {l : List UInt8} {u : Value} (h : asB v = some l) (hv : VRel φ v u) : ∃ s : ByteArray, u = .string s ∧ s.data.toList = l := by
  unfold asB at h
  split at h
  · cases h
    cases hv with
    | str s => exact ⟨s, rfl, (toNat_ofNat_map _).symm⟩
  · cases h; cases hv with
    | sstr s => exact ⟨s, rfl, rfl⟩
  · cases h
theorem asN_rel {v : AVal} {z : Int} {n : Nat} {u : Value} (h : asN v = some (z, n)) (hv : VRel φ v u) : ∃ k, u = .int k z ∧ (0 ≤ z → z = (n : Int)) := by
  unfold asN at h
  split at h
  · cases h; cases hv; exact ⟨_, rfl, fun _ => rfl⟩
  · cases h; cases hv; exact ⟨_, rfl, fun h => by omega⟩
  · cases h
theorem isU_lo {k : IntKind} (h : isU k = true) : loI k = 0 := by cases k <;> first | rfl | cases h
theorem kindEq_self (k : IntKind) : kindEq k k = true := by cases k <;> rfl
theorem lo_neg (k : IntKind) : loI k ≤ 0 := by cases k <;> simp [loI]
/-- what a kind's greatest is -/
theorem hi_pow (k : IntKind) : ∃ j, hiI k + 1 = ((2 ^ j : Nat) : Int) ∧ (2 ^ j : Nat) ≤ modN k := by
  cases k
  · exact ⟨7, rfl, by decide⟩
  · exact ⟨15, rfl, by decide⟩
  · exact ⟨31, rfl, by decide⟩
  · exact ⟨63, rfl, by decide⟩
  · exact ⟨8, rfl, by decide⟩
  · exact ⟨16, rfl, by decide⟩
  · exact ⟨32, rfl, by decide⟩
  · exact ⟨64, rfl, by decide⟩
theorem bits_nat {k : IntKind} {a : Int} (h : inR k a) (h0 : 0 ≤ a) : bits k a = a.toNat := by
  obtain ⟨j, h1, h2⟩ := hi_pow k
  obtain ⟨n, rfl⟩ := Int.eq_ofNat_of_zero_le h0
  have := h.2
  show Nat.mod n (modN k) = n
  exact Nat.mod_eq_of_lt (by omega)
theorem mod_bits {k : IntKind} (h : isU k = true) : modI k = ((2 ^ k.bits : Nat) : Int) := by cases k <;> first | rfl | cases h
theorem hi_lt_bits (k : IntKind) : hiI k < ((2 ^ k.bits : Nat) : Int) := by cases k <;> decide
/-- a result that ints give -/
def SGood (φ : Phi) (run : World → Result Value) (r : LRes) : Prop := ∃ v u, r = .pure v ∧ VRel φ v u ∧ ∀ w, run w = .ok u w
theorem SGood.spec {run : World → Result Value} {r : LRes} {run' : World → Result Next} (h : SGood φ run r) (hr : ∀ w u, run w = .ok u w → run' w = .ok (.value u) w) : LSpec φ run' r := by
  obtain ⟨v, u, rfl, h1, h2⟩ := h
  exact ⟨u, h1, fun w => hr w u (h2 w)⟩
/-- what holds of the ints' own operation -/
theorem int_run {op : BinOp} {k k' k2 : IntKind} {a b z : Int} (h : intOp op k k' a b = some (.int k2 z)) (t : TypeId) (w : World) : (binOp op t (.int k a) (.int k' b)).run P w = .ok (.int k2 z) w := by
  obtain ⟨u, h1, h2⟩ := intOp_some (φ := fun _ => none) (P := P) op t k k' a b _ h
  cases h1
  exact h2 w
theorem bool_run {op : BinOp} {k k' : IntKind} {a b : Int} {c : Bool} (h : intOp op k k' a b = some (.bool c)) (t : TypeId) (w : World) : (binOp op t (.int k a) (.int k' b)).run P w = .ok (.bool c) w := by
  obtain ⟨u, h1, h2⟩ := intOp_some (φ := fun _ => none) (P := P) op t k k' a b _ h
  cases h1
  exact h2 w
theorem mk_eq (k : IntKind) (z : Int) : mk k z = some (.int k (k.wrap z)) := by unfold mk; rw [wrapA_eq]
theorem same_eq (k : IntKind) (r : Option AVal) : same k k r = r := by unfold same; rw [kindEq_self]; rfl
theorem wrapS_good {k : IntKind} {z : Int} {ob : OP} {r : LRes} (h : wrapS k z = some (ob, r)) (hob : ob.ok) {run : World → Result Value} (hr : ∀ w, run w = .ok (.int k (k.wrap z)) w) : SGood φ run r := by
  unfold wrapS pureS at h
  cases hk : isU k with
  | true =>
    rw [hk] at h
    cases h
    obtain ⟨h1, h2⟩ := wrap_mod_inR hk z
    exact ⟨_, _, rfl, .sint _ _ h2, fun w => by rw [hr w, h1]⟩
  | false =>
    rw [hk] at h
    cases h
    have hob : inR k z := hob
    exact ⟨_, _, rfl, .sint _ _ hob, fun w => by rw [hr w, wrap_inR hob]⟩
theorem nat_bits_lt {k : IntKind} {a b : Int} (ha : inR k a) (hb : inR k b) (h0 : 0 ≤ a) (h1 : 0 ≤ b) : ∃ j, a.toNat < 2 ^ j ∧ b.toNat < 2 ^ j ∧ ∀ n : Nat, n < 2 ^ j → inR k (n : Int) := by
  obtain ⟨j, h2, h3⟩ := hi_pow k
  have := ha.2
  have := hb.2
  exact ⟨j, by omega, by omega, fun n hn => ⟨by have := lo_neg k; omega, by omega⟩⟩
theorem sInt_good {op : BinOp} {k : IntKind} {a b : Int} {ob : OP} {r : LRes} (h : sInt op k a b = some (ob, r)) (hob : ob.ok) (t : TypeId) (ha : inR k a) (hb : inR k b) : SGood φ (fun w => (binOp op t (.int k a) (.int k b)).run P w) r := by
  unfold sInt at h
  split at h
  · exact wrapS_good h hob fun w => int_run (by simp only [intOp, same_eq, mk_eq, addI_eq]) t w
  · exact wrapS_good h hob fun w => int_run (by simp only [intOp, same_eq, mk_eq]; rfl) t w
  · exact wrapS_good h hob fun w => int_run (by simp only [intOp, same_eq, mk_eq]; rfl) t w
  · cases h
    obtain ⟨h0, h1⟩ : 0 ≤ a ∧ 0 < b := hob
    have hd : inR k (a / b) := ⟨by have := lo_neg k; have := Int.ediv_nonneg h0 (Int.le_of_lt h1); omega, by have := Int.ediv_le_self b h0; have := ha.2; omega⟩
    refine ⟨_, _, rfl, .sint _ _ hd, fun w => int_run ?_ t w⟩
    simp only [intOp, same_eq, quoA, intBeq_eq]
    rw [show (b == 0) = false by simp; omega, cond_false, mk_eq, Int.tdiv_eq_ediv_of_nonneg h0, wrap_inR hd]
  · cases h
    obtain ⟨h0, h1⟩ : 0 ≤ a ∧ 0 < b := hob
    have hd : inR k (a % b) := ⟨by have := lo_neg k; have := Int.emod_nonneg a (show b ≠ 0 by omega); omega, by have := Int.emod_lt_of_pos a h1; have := hb.2; omega⟩
    refine ⟨_, _, rfl, .sint _ _ hd, fun w => int_run ?_ t w⟩
    simp only [intOp, same_eq, remA, intBeq_eq]
    rw [show (b == 0) = false by simp; omega, cond_false, Int.tmod_eq_emod_of_nonneg h0]
  · cases h
    obtain ⟨h0, h1⟩ : 0 ≤ a ∧ 0 ≤ b := hob
    obtain ⟨j, e1, e2, e3⟩ := nat_bits_lt ha hb h0 h1
    have hd := e3 (a.toNat &&& b.toNat) (Nat.lt_of_le_of_lt Nat.and_le_left e1)
    refine ⟨_, _, rfl, .sint _ _ hd, fun w => int_run ?_ t w⟩
    simp only [intOp, same_eq, landA, mk_eq, bits_nat ha h0, bits_nat hb h1]
    exact congrArg (fun z => some (AVal.int k z)) (wrap_inR hd)
  · cases h
    obtain ⟨h0, h1⟩ : 0 ≤ a ∧ 0 ≤ b := hob
    obtain ⟨j, e1, e2, e3⟩ := nat_bits_lt ha hb h0 h1
    have hd := e3 (a.toNat ||| b.toNat) (Nat.or_lt_two_pow e1 e2)
    refine ⟨_, _, rfl, .sint _ _ hd, fun w => int_run ?_ t w⟩
    simp only [intOp, same_eq, lorA, mk_eq, bits_nat ha h0, bits_nat hb h1]
    exact congrArg (fun z => some (AVal.int k z)) (wrap_inR hd)
  · cases h
    obtain ⟨h0, h1⟩ : 0 ≤ a ∧ 0 ≤ b := hob
    obtain ⟨j, e1, e2, e3⟩ := nat_bits_lt ha hb h0 h1
    have hd := e3 (a.toNat ^^^ b.toNat) (Nat.xor_lt_two_pow e1 e2)
    refine ⟨_, _, rfl, .sint _ _ hd, fun w => int_run ?_ t w⟩
    simp only [intOp, same_eq, xorA, mk_eq, bits_nat ha h0, bits_nat hb h1]
    exact congrArg (fun z => some (AVal.int k z)) (wrap_inR hd)
  · cases h
    refine ⟨_, _, rfl, .sbool _, fun w => bool_run ?_ t w⟩
    simp only [intOp, same_eq, boolA, intBeq_eq]; congr 2
  · cases h
    refine ⟨_, _, rfl, .sbool _, fun w => bool_run ?_ t w⟩
    simp only [intOp, same_eq, boolA, intBeq_eq]; congr 2; rw [Bool.eq_iff_iff]; simp
  · cases h
    refine ⟨_, _, rfl, .sbool _, fun w => bool_run ?_ t w⟩
    simp only [intOp, same_eq, boolA, intLe_eq]; congr 2; rw [Bool.eq_iff_iff]; simp
  · cases h
    refine ⟨_, _, rfl, .sbool _, fun w => bool_run ?_ t w⟩
    simp only [intOp, same_eq, boolA, intLe_eq]
  · cases h
    refine ⟨_, _, rfl, .sbool _, fun w => bool_run ?_ t w⟩
    simp only [intOp, same_eq, boolA, intLe_eq]; congr 2; rw [Bool.eq_iff_iff]; simp
  · cases h
    refine ⟨_, _, rfl, .sbool _, fun w => bool_run ?_ t w⟩
    simp only [intOp, same_eq, boolA, intLe_eq]
  · cases h
theorem sShl_good {k k' : IntKind} {a b : Int} {ob : OP} {r : LRes} (h : sShl k a b = some (ob, r)) (hob : ob.ok) (t : TypeId) : SGood φ (fun w => (binOp .shl t (.int k a) (.int k' b)).run P w) r := by
  unfold sShl pureS at h
  cases hk : isU k with
  | false =>
    rw [hk] at h
    cases h
    obtain ⟨⟨h0, h1⟩, h2⟩ : (0 ≤ b ∧ b ≤ maxSh k) ∧ inR k (a * 2 ^ b.toNat) := hob
    obtain ⟨n, rfl⟩ := Int.eq_ofNat_of_zero_le h0
    refine ⟨_, _, rfl, .sint _ _ h2, fun w => int_run ?_ t w⟩
    have hn : natOf (n : Int) = some n := rfl
    simp only [intOp, shl, hn, mk_eq]
    have hle : Nat.ble n k.bits = true := Nat.ble_eq_true_of_le (by cases k <;> (simp only [maxSh] at h1; show n ≤ _; simp only [IntKind.bits]; omega))
    rw [hle, cond_true]
    have he : Int.mul a (Int.ofNat (Nat.pow 2 n)) = a * 2 ^ (n : Int).toNat := by
      show a * ((2 ^ n : Nat) : Int) = _
      simp
    rw [he, wrap_inR h2]
  | true =>
  rw [hk] at h
  cases h
  have h0 : 0 ≤ b := hob
  obtain ⟨n, rfl⟩ := Int.eq_ofNat_of_zero_le h0
  obtain ⟨h1, h2⟩ := wrap_mod_inR hk (a * 2 ^ (n : Int).toNat)
  refine ⟨_, _, rfl, .sint _ _ h2, fun w => int_run ?_ t w⟩
  have hn : natOf (n : Int) = some n := rfl
  simp only [intOp, shl, hn, mk_eq]
  have hw : ∀ z, k.wrap z = z % modI k := fun z => (wrap_mod_inR hk z).1
  rw [hw, Int.toNat_natCast]
  congr 2
  have hc : ((Int.ofNat (Nat.pow 2 (bif Nat.ble n k.bits then n else k.bits))) : Int) = ((2 ^ (min n k.bits) : Nat) : Int) := by
    cases hb : Nat.ble n k.bits with
    | true => have := Nat.le_of_ble_eq_true hb; rw [Nat.min_eq_left this]; rfl
    | false => have : ¬ n ≤ k.bits := fun hle => by rw [Nat.ble_eq_true_of_le hle] at hb; cases hb
               rw [Nat.min_eq_right (by omega)]; rfl
  show Int.mul a _ % _ = _
  rw [hc, mod_bits hk]
  show a * _ % _ = _
  by_cases hle : n ≤ k.bits
  · rw [Nat.min_eq_left hle]; simp
  · rw [Nat.min_eq_right (by omega), Int.mul_emod_left]
    have : (2 : Int) ^ n = ((2 ^ k.bits : Nat) : Int) * 2 ^ (n - k.bits) := by
      have e : n = k.bits + (n - k.bits) := by omega
      conv => lhs; rw [e]
      rw [Int.pow_add]; simp
    rw [this, ← Int.mul_assoc, Int.mul_assoc, Int.mul_comm a, Int.mul_assoc, Int.mul_emod_right]
theorem sShr_good {k k' : IntKind} {a b : Int} {ob : OP} {r : LRes} (h : sShr k a b = some (ob, r)) (hob : ob.ok) (t : TypeId) (ha : inR k a) : SGood φ (fun w => (binOp .shr t (.int k a) (.int k' b)).run P w) r := by
  unfold sShr pureS at h
  cases h
  obtain ⟨ha0, h0⟩ : 0 ≤ a ∧ 0 ≤ b := hob
  obtain ⟨n, rfl⟩ := Int.eq_ofNat_of_zero_le h0
  have hd : inR k (a / 2 ^ (n : Int).toNat) := by
    have hp : (0 : Int) < 2 ^ n := by have := Int.pow_pos (n := 2) (m := n) (by omega); exact this
    rw [Int.toNat_natCast]
    exact ⟨by have := lo_neg k; have := Int.ediv_nonneg ha0 (Int.le_of_lt hp); omega, by have := Int.ediv_le_self (2 ^ n) ha0; have := ha.2; omega⟩
  refine ⟨_, _, rfl, .sint _ _ hd, fun w => int_run ?_ t w⟩
  have hn : natOf (n : Int) = some n := rfl
  simp only [intOp, shr, hn]
  rw [Int.toNat_natCast]
  congr 2
  have hc : ((Int.ofNat (Nat.pow 2 (bif Nat.ble n k.bits then n else k.bits))) : Int) = ((2 ^ (min n k.bits) : Nat) : Int) := by
    cases hb : Nat.ble n k.bits with
    | true => have := Nat.le_of_ble_eq_true hb; rw [Nat.min_eq_left this]; rfl
    | false => have : ¬ n ≤ k.bits := fun hle => by rw [Nat.ble_eq_true_of_le hle] at hb; cases hb
               rw [Nat.min_eq_right (by omega)]; rfl
  rw [hc, Int.fdiv_eq_ediv_of_nonneg _ (Int.natCast_nonneg _)]
  by_cases hle : n ≤ k.bits
  · rw [Nat.min_eq_left hle]; simp
  · rw [Nat.min_eq_right (by omega)]
    have h1 := hi_lt_bits k
    have h2 := ha.2
    rw [Int.ediv_eq_zero_of_lt ha0 (by omega), Int.ediv_eq_zero_of_lt ha0]
    have h3 : (2 ^ k.bits : Nat) ≤ 2 ^ n := Nat.pow_le_pow_right (by omega) (by omega)
    have h4 : ((2 ^ n : Nat) : Int) = 2 ^ n := by simp
    rw [← h4]; omega
theorem sBool_good {op : BinOp} {a b : Bool} {ob : OP} {r : LRes} (h : sBool op a b = some (ob, r)) (t : TypeId) (ht : P.underlying t = some .bool) (ox oy : Operand) : SGood φ (fun w => (do eqGuard op t ox oy (.bool a) (.bool b); binOp op t (.bool a) (.bool b)).run P w) r := by
  have hb : ∀ op, (op = .eql ∨ op = .neq) → binA P op t (.bool a) (.bool b) = some (.bool (if op = .eql then a == b else !(a == b))) := fun op hop => by
    rcases hop with rfl | rfl <;> simp [binA, asI, asS, binO, equalA, eqBool, ht]
  unfold sBool at h
  split at h
  · cases h
    obtain ⟨u, h1, h2⟩ := binA_some (φ := φ) (hb _ (.inl rfl)) (.bool a) (.bool b) ox oy
    cases h1
    exact ⟨_, _, rfl, .sbool _, h2⟩
  · cases h
    obtain ⟨u, h1, h2⟩ := binA_some (φ := φ) (hb _ (.inr rfl)) (.bool a) (.bool b) ox oy
    cases h1
    exact ⟨_, _, rfl, .sbool _, fun w => (h2 w).trans rfl⟩
  · cases h
theorem sStr_good {op : BinOp} {x y : ByteArray} {ob : OP} {r : LRes} (h : sStr op x.data.toList y.data.toList = some (ob, r)) (hob : ob.ok) (t : TypeId) : SGood φ (fun w => (binOp op t (.string x) (.string y)).run P w) r := by
  unfold sStr at h
  split at h
  · cases h
    have hob : x.data.toList.length + y.data.toList.length ≤ 9223372036854775807 := hob
    have hs : strOp .add (x.data.toList.map UInt8.toNat) (y.data.toList.map UInt8.toNat) = some (.str (x.data.toList.map UInt8.toNat ++ y.data.toList.map UInt8.toNat)) := by
      unfold strOp
      simp only [lenL0, List.length_map]
      rw [Nat.ble_eq_true_of_le hob]; rfl
    obtain ⟨u, h1, h2⟩ := strOp_some (φ := φ) (P := P) .add t x y _ hs
    generalize hq : x.data.toList.map UInt8.toNat ++ y.data.toList.map UInt8.toNat = q at h1
    cases h1 with
    | str s =>
    have h3 := congrArg (List.map UInt8.ofNat) hq
    rw [List.map_append, toNat_ofNat_map, toNat_ofNat_map, toNat_ofNat_map] at h3
    exact ⟨_, .string s, rfl, by rw [h3]; exact .sstr s, h2⟩
  · cases h
    obtain ⟨u, h1, h2⟩ := strOp_some (φ := φ) (P := P) .eql t x y (.bool (beqL (x.data.toList.map UInt8.toNat) (y.data.toList.map UInt8.toNat))) rfl
    cases h1
    refine ⟨_, _, rfl, .sbool _, fun w => (h2 w).trans ?_⟩
    rw [beqL_eq]
    congr 2; rw [Bool.eq_iff_iff]; simp
  · cases h
    obtain ⟨u, h1, h2⟩ := strOp_some (φ := φ) (P := P) .neq t x y (.bool (!beqL (x.data.toList.map UInt8.toNat) (y.data.toList.map UInt8.toNat))) rfl
    cases h1
    refine ⟨_, _, rfl, .sbool _, fun w => (h2 w).trans ?_⟩
    rw [beqL_eq]
    congr 2; rw [Bool.eq_iff_iff]; simp
  · cases h
end
end Go.Proofs.Ytcofcojjofkgcaa.Abs
namespace Go.Proofs.Ytcofcojjofkgcaa.Abs
open Go Go.RowKit
set_option linter.unusedVariables false
section
variable {φ : Phi} {P : Program} {ev : Operand → Option AVal} {ρ : Operand → Value}
theorem eqS_some : ∀ (x y : List AVal) (a b : List Value) (r : Bool), eqS x y = some r → VRels φ x a → VRels φ y b →
    ∃ l : List (IntKind × Int × Int), a = l.map (fun p => .int p.1 p.2.1) ∧ b = l.map (fun p => .int p.1 p.2.2) ∧ r = l.all (fun p => p.2.1 == p.2.2)
  | [], [], a, b, r, h, ha, hb => by cases ha; cases hb; exact ⟨[], rfl, rfl, by simpa [eqS] using h.symm⟩
  | [], _ :: _, _, _, r, h, _, _ => by simp [eqS] at h
  | _ :: _, [], _, _, r, h, _, _ => by simp [eqS] at h
  | x :: xs, y :: ys, a, b, r, h, ha, hb => by
    unfold eqS at h
    split at h
    · rename_i j p k q r' hx hy hr'
      cases ha with
      | cons _ u _ us h1 h1s =>
        cases hb with
        | cons _ u' _ us' h2 h2s =>
          obtain rfl := asZ_rel hx h1
          obtain rfl := asZ_rel hy h2
          cases hk : kindEq j k with
          | false => rw [hk] at h; cases h
          | true =>
            rw [hk] at h
            cases h
            obtain ⟨l, rfl, rfl, rfl⟩ := eqS_some xs ys us us' r' hr' h1s h2s
            obtain rfl := kindEq_eq _ _ hk
            exact ⟨(j, p, q) :: l, rfl, rfl, by simp only [List.all_cons]; congr 1⟩
    · cases h
theorem sEqArr_some {t : TypeId} {x y : List AVal} {r : Bool} (h : sEqArr P t x y = some r) {a b : Array Value} (ha : VRels φ x a.toList) (hb : VRels φ y b.toList) (d : Nat) (w : World) :
    (Op.equalIn (d + 2) t (.agg a) (.agg b)).run P w = .ok r w ∧ ∀ k, P.eqGuardType (k + 2) t = false := by
  unfold sEqArr at h
  split at h
  · rename_i n e ht
    split at h
    · rename_i ke he hs
      cases hc : (Nat.beq (lenL x 0) n && Nat.beq (lenL y 0) n) with
      | false => rw [hc] at h; cases h
      | true =>
        rw [hc] at h
        obtain ⟨l, h1, h2, h3⟩ := eqS_some x y _ _ r h ha hb
        have hx : x.length = n := by rw [Bool.and_eq_true] at hc; rw [← lenL0]; exact Nat.eq_of_beq_eq_true hc.1
        have hla : l.length = n := by rw [← hx, ← ha.length, h1, List.length_map]
        have ea : a = (l.map fun p => Value.int p.1 p.2.1).toArray := by rw [← h1]
        have eb : b = (l.map fun p => Value.int p.1 p.2.2).toArray := by rw [← h2]
        rw [ea, eb, h3]
        exact ⟨run_equal_ints d t e ke n ht he hs l hla w, fun k => by simp [Program.eqGuardType, ht, he]⟩
    · cases h
  · cases h
theorem sEq_good {op : BinOp} {t : TypeId} {x y : AVal} {ob : OP} {r : LRes} (h : sEq P op t x y = some (ob, r)) (hob : ob.ok) {a b : Value} (ha : VRel φ x a) (hb : VRel φ y b) (ox oy : Operand) :
    SGood φ (fun w => (do eqGuard op t ox oy a b; binOp op t a b).run P w) r := by
  unfold sEq at h
  split at h
  · rename_i x y
    split at h
    · rename_i r' hr'
      cases ha with
      | agg _ a ha =>
      cases hb with
      | agg _ b hb =>
      have hq : ∀ w, (Op.equal t (.agg a) (.agg b)).run P w = .ok r' w := fun w => by
        unfold Op.equal
        rw [show Op.maxDepth = 9998 + 2 from rfl]
        exact (sEqArr_some hr' ha hb _ w).1
      have hg := fun k => (sEqArr_some (φ := φ) hr' ha hb 0 default).2 k
      split at h
      · cases h
        refine ⟨_, _, rfl, .sbool _, fun w => ?_⟩
        show Sem.run P _ w = _
        rw [Sem.run_bind, guard_ok (fun _ _ _ _ => hg) (by simp)]
        simp only [Result.andThen_ok]
        rw [bin_eql t (a := .agg _) _ trivial]
        simp [hq]
      · cases h
        refine ⟨_, _, rfl, .sbool _, fun w => ?_⟩
        show Sem.run P _ w = _
        rw [Sem.run_bind, guard_ok (fun _ _ _ _ => hg) (by simp)]
        simp only [Result.andThen_ok]
        rw [bin_neq t (a := .agg _) _ trivial]
        simp [hq]
      · cases h
    · cases h
  · rename_i xo n cap ex z m c ex' z'
    cases hb
    have real : 0 < n → ∃ g, VRel φ (.slice (some xo) n cap ex z) a := fun hn => by
      cases ha with
      | sslice x o len lo z g b n cap ex a h hl hc he hz ha => exact ⟨g, .slice _ _ _ _ _ _ _ _ _ _ _ h hl hc he hz ha⟩
      | snil => omega
      | semp => omega
    split at h
    · rename_i e hu
      cases h
      obtain ⟨_, hr⟩ := real hob
      obtain ⟨u, h1, h2⟩ := binA_some (P := P) (op := .eql) (t := t) (v := .bool false) (by simp [binA, asI, asS, binO, equalA, eqSl, hu]) hr (.slice0 ex' z') ox oy
      cases h1
      exact ⟨_, _, rfl, .bool _, h2⟩
    · rename_i e hu
      cases h
      obtain ⟨_, hr⟩ := real hob
      obtain ⟨u, h1, h2⟩ := binA_some (P := P) (op := .neq) (t := t) (v := .bool true) (by simp [binA, asI, asS, binO, equalA, eqSl, hu]) hr (.slice0 ex' z') ox oy
      cases h1
      exact ⟨_, _, rfl, .bool _, h2⟩
    · cases h
  · cases h
theorem asR_rel {v : AVal} {k : IntKind} {z : Int} {u : Value} (h : asR v = some (k, z)) (hv : VRel φ v u) : u = .int k z ∧ inR k z := by
  unfold asR at h
  split at h
  · rename_i k' z'
    cases hb : (intLe (loI k') z' && intLe z' (hiI k')) with
    | false => rw [hb] at h; cases h
    | true =>
      rw [hb] at h; cases h; cases hv
      rw [Bool.and_eq_true, intLe_eq, intLe_eq, decide_eq_true_iff, decide_eq_true_iff] at hb
      exact ⟨rfl, hb⟩
  · cases h; cases hv; exact ⟨rfl, by assumption⟩
  · cases h
theorem eqGuard_int {op : BinOp} {t : TypeId} {k k' : IntKind} {p q : Int} (ox oy : Operand) (w : World) : (do eqGuard op t ox oy (.int k p) (.int k' q); binOp op t (.int k p) (.int k' q) : Sem Value).run P w = (binOp op t (.int k p) (.int k' q)).run P w := by
  rw [Sem.run_bind, guard_ok (by simp) (by simp)]
  rfl
theorem eqGuard_str {op : BinOp} {t : TypeId} {x y : ByteArray} (ox oy : Operand) (w : World) : (do eqGuard op t ox oy (.string x) (.string y); binOp op t (.string x) (.string y) : Sem Value).run P w = (binOp op t (.string x) (.string y)).run P w := by
  rw [Sem.run_bind, guard_ok (by simp) (by simp)]
  rfl
theorem sbin_ok (he : EvOk φ ev ρ) (o : Oper) (op : BinOp) (t ty : TypeId) (x y : Operand) (ho : o.op = .binOp op t x y ty) (ob : OP) (r : LRes) (h : sBin P ev op t x y = some (ob, r)) (hob : ob.ok) : LSpec φ (fun w => (execOp ρ o).run P w) r := by
  have hrun : SGood φ (fun w => (do eqGuard op t x y (ρ x) (ρ y); binOp op t (ρ x) (ρ y)).run P w) r → LSpec φ (fun w => (execOp ρ o).run P w) r := fun hg =>
    hg.spec fun w u hu => by simp only [execOp, ho]; rw [Sem.run_bind, hu]; rfl
  unfold sBin at h
  split at h
  · rename_i a b hx hy
    have h1 := he _ _ hx
    have h2 := he _ _ hy
    split at h
    · rename_i k p k' q hp hq
      obtain ⟨e1, i1⟩ := asR_rel hp h1
      obtain ⟨e2, i2⟩ := asR_rel hq h2
      refine hrun ?_
      rw [e1, e2]
      have conv : SGood φ (fun w => (binOp op t (.int k p) (.int k' q)).run P w) r → SGood φ (fun w => (do eqGuard op t x y (.int k p) (.int k' q); binOp op t (.int k p) (.int k' q)).run P w) r := fun ⟨v, u, r1, r2, r3⟩ => ⟨v, u, r1, r2, fun w => (eqGuard_int x y w).trans (r3 w)⟩
      refine conv ?_
      split at h
      · exact sShl_good h hob t
      · exact sShr_good h hob t i1
      · cases hk : kindEq k k' with
        | false => rw [hk] at h; cases h
        | true =>
          rw [hk] at h
          obtain rfl := kindEq_eq _ _ hk
          exact sInt_good h hob t i1 i2
    · split at h
      · rename_i p q hp hq
        have e1 := asBo_rel hp h1
        have e2 := asBo_rel hq h2
        refine hrun ?_
        rw [e1, e2]
        cases hu : isBo P t with
        | false => rw [hu] at h; cases h
        | true =>
          rw [hu] at h
          have hu : P.underlying t = some .bool := by unfold isBo at hu; split at hu <;> simp_all
          exact sBool_good h t hu x y
      · split at h
        · rename_i p q hp hq
          obtain ⟨s1, e1, rfl⟩ := asB_rel hp h1
          obtain ⟨s2, e2, rfl⟩ := asB_rel hq h2
          refine hrun ?_
          rw [e1, e2]
          obtain ⟨v, u, r1, r2, r3⟩ := sStr_good (φ := φ) (P := P) h hob t
          exact ⟨v, u, r1, r2, fun w => (eqGuard_str x y w).trans (r3 w)⟩
        · exact hrun (sEq_good h hob h1 h2 x y)
  · cases h
theorem sun_ok (he : EvOk φ ev ρ) (o : Oper) (op : UnOp) (t : TypeId) (x : Operand) (ho : o.op = .unOp op t x) (ob : OP) (r : LRes) (h : sUn ev op x = some (ob, r)) (hob : ob.ok) : LSpec φ (fun w => (execOp ρ o).run P w) r := by
  have hrun : SGood φ (fun w => (Op.unary op (ρ x)).run P w) r → LSpec φ (fun w => (execOp ρ o).run P w) r := fun hg =>
    hg.spec fun w u hu => by simp only [execOp, ho]; rw [Sem.run_bind, hu]; rfl
  unfold sUn at h
  split at h
  · rename_i b hx
    have h1 := he _ _ hx
    refine hrun ?_
    generalize ρ x = q at h1
    cases h1
    cases h
    exact ⟨_, _, rfl, .sbool _, fun w => by simp [Op.unary]⟩
  · rename_i k z hx
    have h1 := he _ _ hx
    refine hrun ?_
    generalize ρ x = q at h1
    cases h1
    exact wrapS_good h hob fun w => by simp [Op.unary, Op.intArith]
  · rename_i k z hx
    have h1 := he _ _ hx
    refine hrun ?_
    generalize ρ x = q at h1
    cases h1 with
    | sint _ _ hr =>
    cases hk : isU k with
    | false => rw [hk] at h; cases h
    | true =>
    rw [hk] at h
    cases h
    have hlo := isU_lo hk
    have hd : inR k (hiI k - z) := ⟨by have := hr.2; omega, by have := hr.1; omega⟩
    refine ⟨_, _, rfl, .sint _ _ hd, fun w => ?_⟩
    have hun : unA .xor (.int k z) = some (.int k (hiI k - z)) := by
      have hz0 : 0 ≤ z := by have := hr.1; omega
      have hz := hr.2
      have hsg : k.signed = false := by cases k <;> first | rfl | cases hk
      have hmx : k.max = hiI k := by cases k <;> first | rfl | cases hk
      have hin : inR k (hiI k) := ⟨by omega, Int.le_refl _⟩
      show mk k (.ofNat (Nat.xor (bits k (bif k.signed then -1 else k.max)) (bits k z))) = _
      rw [hsg, cond_false, mk_eq, hmx, bits_nat hin (by omega), bits_nat hr hz0]
      have hx : Nat.xor (hiI k).toNat z.toNat = (hiI k).toNat - z.toNat := by
        have key : ∀ n : Nat, (2 ^ n - 1) ^^^ z.toNat = 2 ^ n - 1 - z.toNat ∨ ¬ z.toNat < 2 ^ n := fun n => by
          by_cases hlt : z.toNat < 2 ^ n
          · left
            apply Nat.eq_of_testBit_eq
            intro i
            rw [Nat.testBit_xor, Nat.testBit_two_pow_sub_one, show 2 ^ n - 1 - z.toNat = 2 ^ n - (z.toNat + 1) by omega, Nat.testBit_two_pow_sub_succ hlt]
            by_cases hi : i < n
            · simp [hi]
            · have : z.toNat.testBit i = false := Nat.testBit_lt_two_pow (Nat.lt_of_lt_of_le hlt (Nat.pow_le_pow_right (by omega) (by omega)))
              simp [hi, this]
          · exact .inr hlt
        show (hiI k).toNat ^^^ z.toNat = _
        cases k <;> (first | (cases hk; done) | skip) <;> simp only [hiI] at hz ⊢
        · have := key 8; simp at this ⊢; omega
        · have := key 16; simp at this ⊢; omega
        · have := key 32; simp at this ⊢; omega
        · have := key 64; simp at this ⊢; omega
      show some (AVal.int k (k.wrap ((Nat.xor (hiI k).toNat z.toNat : Nat) : Int))) = _
      rw [hx]
      have he : (((hiI k).toNat - z.toNat : Nat) : Int) = hiI k - z := by omega
      rw [he, wrap_inR hd]
    obtain ⟨u, h1, h2⟩ := unA_some (P := P) (φ := φ) hun (.int _ _)
    cases h1; exact h2 w
  · cases h
theorem spick_ok (he : EvOk φ ev ρ) (o : Oper) (c a b : Operand) (ho : o.op = .pick c a b) (ob : OP) (r : LRes) (h : sPick ev c a b = some (ob, r)) (hob : ob.ok) : LSpec φ (fun w => (execOp ρ o).run P w) r := by
  unfold sPick at h
  split at h
  · rename_i cb hc
    have h0 := he _ _ hc
    generalize hρ : ρ c = qc at h0
    cases h0
    cases cb with
    | true =>
      simp only [cond_true] at h
      split at h
      · rename_i v hv
        cases h
        exact ⟨_, he _ _ hv, fun w => by simp [execOp, ho, hρ, asBool]⟩
      · cases h
    | false =>
      simp only [cond_false] at h
      split at h
      · rename_i v hv
        cases h
        exact ⟨_, he _ _ hv, fun w => by simp [execOp, ho, hρ, asBool]⟩
      · cases h
  · cases h
end
end Go.Proofs.Ytcofcojjofkgcaa.Abs
namespace Go.Proofs.Ytcofcojjofkgcaa.Abs
open Go Go.RowKit
set_option linter.unusedVariables false
section
variable {φ : Phi} {P : Program} {ev : Operand → Option AVal} {ρ : Operand → Value}
theorem subK_some {j k : IntKind} (h : subK j k = true) {z : Int} (hz : inR j z) : inR k z := by
  unfold subK at h
  rw [Bool.and_eq_true, intLe_eq, intLe_eq, decide_eq_true_iff, decide_eq_true_iff] at h
  exact ⟨Int.le_trans h.1 hz.1, Int.le_trans hz.2 h.2⟩
theorem sbytes_new {l : List UInt8} (e : TypeId) {c : Array Value} (hc : c.toList = l.map fun b => Value.int .u8 (b.toNat : Int)) : ORel φ (.sbytes l e) 0 c.size (.cells c e (0, 0)) := by
  refine .sbytes _ _ _ _ _ (cells_new e ?_)
  rw [hc]
  induction l generalizing c with
  | nil => exact .nil
  | cons b l ih => exact .cons _ _ _ _ (.int _ _) (ih (c := (l.map fun b => Value.int .u8 (b.toNat : Int)).toArray) (by simp))
theorem sidx_ok (he : EvOk φ ev ρ) (o : Oper) (t : TypeId) (x i : Operand) (ho : o.op = .indexAddr t x i) (ob : OP) (r : LRes) (h : sIndexAddr P ev t x i = some (ob, r)) (hob : ob.ok) : LSpec φ (fun w => (execOp ρ o).run P w) r := by
  unfold sIndexAddr at h
  split at h
  · rename_i len e b off v hu hx hi
    split at h
    · rename_i s z n hs hn
      cases h
      obtain ⟨h0, h3⟩ : 0 ≤ z ∧ z < (len : Int) := hob
      have h1 := he _ _ hx
      obtain ⟨k, e1, e2⟩ := asN_rel hn (he _ _ hi)
      have e2 := e2 h0
      subst e2
      have hlt : n < len := by omega
      generalize hρ : ρ x = q at h1
      cases h1 with
      | ptr _ _ g b0 m hφ =>
      refine ⟨_, .ptr _ _ _ _ _ hφ, fun w => ?_⟩
      simp [execOp, ho, hρ, e1, Instr.indexAt, asIntOf, run_und hu, Instr.sureAddr, run_size hs, add_lit, hlt, Nat.add_assoc]
    · cases h
  · rename_i e b off len c ex z' v hu hx hi
    split at h
    · rename_i s z n hs hn
      cases h
      obtain ⟨h0, h3⟩ : 0 ≤ z ∧ z < (len : Int) := hob
      have h1 := he _ _ hx
      obtain ⟨k, e1, e2⟩ := asN_rel hn (he _ _ hi)
      have e2 := e2 h0
      subst e2
      have hlt : n < len := by omega
      generalize hρ : ρ x = q at h1
      cases h1 with
      | slice _ _ _ _ _ g b0 m cap _ a hφ hl hc hex hz ha =>
      rcases ha with ⟨rfl, _⟩ | rfl
      · omega
      · refine ⟨_, .ptr _ _ _ _ _ hφ, fun w => ?_⟩
        simp [execOp, ho, hρ, e1, Instr.indexAt, asIntOf, run_und hu, Instr.sureAddr, run_size hs, add_lit, hlt, Nat.add_assoc]
    · cases h
  · rename_i e b off len c ex z' v hu hx hi
    split at h
    · rename_i s z n hs hn
      cases h
      obtain ⟨h0, h3⟩ : 0 ≤ z ∧ z < (len : Int) := hob
      have h1 := he _ _ hx
      obtain ⟨k, e1, e2⟩ := asN_rel hn (he _ _ hi)
      have e2 := e2 h0
      subst e2
      have hlt : n < len := by omega
      generalize hρ : ρ x = q at h1
      cases h1 with
      | snil => omega
      | semp => omega
      | sslice _ _ _ _ _ g b0 m cap _ a hφ hl hc hex hz ha =>
      rcases ha with ⟨rfl, _⟩ | rfl
      · omega
      · refine ⟨_, .ptr _ _ _ _ _ hφ, fun w => ?_⟩
        simp [execOp, ho, hρ, e1, Instr.indexAt, asIntOf, run_und hu, Instr.sureAddr, run_size hs, add_lit, hlt, Nat.add_assoc]
    · cases h
  · cases h
theorem sindex_ok (he : EvOk φ ev ρ) (o : Oper) (t : TypeId) (x i : Operand) (ho : o.op = .index t x i) (ob : OP) (r : LRes) (h : sIndex P ev t x i = some (ob, r)) (hob : ob.ok) : LSpec φ (fun w => (execOp ρ o).run P w) r := by
  unfold sIndex at h
  split at h
  · rename_i xv v hu hx hi
    split at h
    · rename_i l z n hl hn
      cases h
      obtain ⟨h0, h3⟩ : 0 ≤ z ∧ z < (l.length : Int) := hob
      obtain ⟨s, e3, rfl⟩ := asB_rel hl (he _ _ hx)
      obtain ⟨k, e1, e2⟩ := asN_rel hn (he _ _ hi)
      have e2 := e2 h0
      subst e2
      have hlt : n < s.data.toList.length := by omega
      have hsb : s[n]? = some s.data.toList[n] := by
        have hlt' : n < s.data.size := by simpa using hlt
        rw [getElem?_pos s n (show n < s.size from hlt')]
        simp; rfl
      rw [List.getD, List.getElem?_eq_getElem hlt]
      exact ⟨_, .sint _ _ (inR_u8 _ (UInt8.toNat_lt _)), fun w => by simp [execOp, ho, e3, e1, Instr.index, asIntOf, run_und hu, hsb]⟩
    · cases h
  · cases h
theorem bnd_rel {v : Option AVal} {x : Option Operand} (r : ORl φ ρ x v) {d : Nat} {p : Prop} {n : Nat} (h : bnd v d = some (p, n)) (hp : p) : (x = none ∧ v = none ∧ n = d) ∨ ∃ y k, x = some y ∧ isNone v = false ∧ ρ y = .int k (n : Int) := by
  unfold bnd at h
  cases r with
  | none => cases h; exact .inl ⟨rfl, rfl, rfl⟩
  | some y v hv =>
    simp only at h
    split at h
    · rename_i z m hz
      cases h
      obtain ⟨k, e1, e2⟩ := asN_rel hz hv
      exact .inr ⟨y, k, rfl, rfl, by rw [e1, e2 hp]⟩
    · cases h
/-- the bounds of a slice expression, whatever they are -/
theorem sbounds {len lo cap m h l : Nat} {pm ph pl : Prop} {xlo xhi xmx : Option Operand} {vlo vhi vmx : Option AVal} (s : Bool) (r1 : ORl φ ρ xlo vlo) (r2 : ORl φ ρ xhi vhi) (r3 : ORl φ ρ xmx vmx)
    (e1 : bnd vmx lo = some (pm, m)) (e2 : bnd vhi len = some (ph, h)) (e3 : bnd vlo 0 = some (pl, l)) (q1 : pm) (q2 : ph) (q3 : pl) (e4 : (isNone vhi && !isNone vmx) = false) (h1 : l ≤ h) (h2 : h ≤ m) (h3 : m ≤ lo) (hl : len ≤ lo) (hc : lo ≤ cap) :
    ∃ mc, m ≤ mc ∧ mc ≤ cap ∧ (isNone vmx = true → mc = cap ∧ m = lo) ∧ (isNone vmx = false → mc = m) ∧ ∀ w, (Instr.sliceBounds s len cap (xlo.map ρ) (xhi.map ρ) (xmx.map ρ)).run P w = .ok (l, h, mc) w := by
  have one : ∀ (k : IntKind) (n y : Nat) code w, n ≤ y → (Instr.sliceBound (.int k (n : Int)) y code).run P w = .ok n w := fun k n y code w hle => by
    have := run_sliceBound (P := P) (w := w) k (n : Int) y code (by omega) (by omega)
    simpa using this
  rcases bnd_rel r3 e1 q1 with ⟨rfl, rfl, rfl⟩ | ⟨y3, k3, rfl, i3, f3⟩
  · refine ⟨cap, hc, Nat.le_refl _, fun _ => ⟨rfl, rfl⟩, fun h => by simp [isNone] at h, fun w => ?_⟩
    rcases bnd_rel r2 e2 q2 with ⟨rfl, rfl, rfl⟩ | ⟨y2, k2, rfl, i2, f2⟩ <;> rcases bnd_rel r1 e3 q3 with ⟨rfl, rfl, rfl⟩ | ⟨y1, k1, rfl, i1, f1⟩
    · simp [Instr.sliceBounds]
    · simp [Instr.sliceBounds, f1, one _ _ _ _ _ h1]
    · simp [Instr.sliceBounds, f2, one _ _ _ _ _ (Nat.le_trans h2 hc)]
    · simp [Instr.sliceBounds, f1, f2, one _ _ _ _ _ h1, one _ _ _ _ _ (Nat.le_trans h2 hc)]
  · refine ⟨m, Nat.le_refl _, by omega, fun h => (by rw [i3] at h; cases h), fun _ => rfl, fun w => ?_⟩
    rcases bnd_rel r2 e2 q2 with ⟨rfl, rfl, rfl⟩ | ⟨y2, k2, rfl, i2, f2⟩
    · rw [i3] at e4; simp [isNone] at e4
    · rcases bnd_rel r1 e3 q3 with ⟨rfl, rfl, rfl⟩ | ⟨y1, k1, rfl, i1, f1⟩
      · simp [Instr.sliceBounds, f2, f3, one _ _ _ _ _ h2, one _ _ _ _ _ (Nat.le_trans h3 hc)]
      · simp [Instr.sliceBounds, f1, f2, f3, one _ _ _ _ _ h1, one _ _ _ _ _ h2, one _ _ _ _ _ (Nat.le_trans h3 hc)]
theorem sslice_rel {x o g b0 nb n lo cap m mc h l : Nat} {ex nx : Bool} {a : Addr} (hφ : φ x = some (g, b0, nb)) (hex : ex = true → cap = lo) (hz : ex = false → b0 + o + cap * n ≤ nb) (ha : (cap = 0 ∧ a.block = g) ∨ a = ⟨g, b0 + o, none⟩)
    (h1 : l ≤ h) (h2 : h ≤ m) (h3 : m ≤ mc) (h4 : mc ≤ cap) (h5 : nx = true → mc = cap ∧ m = lo) (h6 : nx = false → mc = m) :
    VRel φ (.sslice (x, o + l * n) (h - l) (m - l) (bif nx then ex else true) n) (.slice (some (if mc = l then a else a.add (l * n))) (h - l) (mc - l)) := by
  have := slice_rel (n := n) (nx := nx) hφ hex hz ha h1 h2 h3 h4 h5 h6
  cases this with
  | slice _ _ _ _ _ g b n cap ex a h hl hc he hz ha => exact .sslice _ _ _ _ _ _ _ _ _ _ _ h hl hc he hz ha
theorem sSliceP_parts {n len cap : Nat} {ex : Bool} {a : Nat × Nat} {lo hi mx : Option AVal} {ob : OP} {r : LRes} (hs : sSliceP n len cap ex a lo hi mx = some (ob, r)) (hob : ob.ok) :
    ∃ pm m ph h pl l, bnd mx cap = some (pm, m) ∧ bnd hi len = some (ph, h) ∧ bnd lo 0 = some (pl, l) ∧ pm ∧ ph ∧ pl ∧ l ≤ h ∧ h ≤ m ∧ m ≤ cap ∧ (isNone hi && !isNone mx) = false ∧ r = .pure (.sslice (a.1, a.2 + l * n) (h - l) (m - l) (bif isNone mx then ex else true) n) := by
  unfold sSliceP at hs
  split at hs
  · rename_i pm m ph h pl l e1 e2 e3
    cases hb : (isNone hi && !isNone mx) with
    | true => rw [hb] at hs; cases hs
    | false =>
      rw [hb] at hs
      cases hs
      obtain ⟨q1, q2, q3, q4, q5, q6⟩ : pm ∧ ph ∧ pl ∧ l ≤ h ∧ h ≤ m ∧ m ≤ cap := hob
      exact ⟨pm, m, ph, h, pl, l, e1, e2, e3, q1, q2, q3, q4, q5, q6, rfl, rfl⟩
  · cases hs
theorem sslice_ok (he : EvOk φ ev ρ) (o : Oper) (t : TypeId) (x : Operand) (lo hi mx : Option Operand) (ho : o.op = .slice t x lo hi mx) (ob : OP) (r : LRes) (h : sSlice P ev t x lo hi mx = some (ob, r)) (hob : ob.ok) : LSpec φ (fun w => (execOp ρ o).run P w) r := by
  unfold sSlice at h
  split at h
  · rename_i v vl vh vm hx hlo hhi hmx
    have rl := evo_some he hlo
    have rh := evo_some he hhi
    have rm := evo_some he hmx
    have h1 := he _ _ hx
    generalize hρ : ρ x = q at h1
    suffices hh : ∃ v' u, r = .pure v' ∧ VRel φ v' u ∧ ∀ w, (Instr.sliceAt t q (lo.map ρ) (hi.map ρ) (mx.map ρ)).run P w = .ok u w by
      obtain ⟨v', u, rfl, h2, h3⟩ := hh
      exact ⟨u, h2, fun w => by simp only [execOp, ho, hρ, Sem.run_bind, h3 w]; rfl⟩
    split at h
    · rename_i hu
      split at h
      · rename_i s pl l hb hbl
        split at h
        · rename_i ph hh hbh
          cases h
          obtain ⟨q1, q2, q3, q4⟩ : ph ∧ pl ∧ l ≤ hh ∧ hh ≤ s.length := hob
          obtain ⟨s', rfl, hs'⟩ := asB_rel hb h1
          subst hs'
          cases rm
          have hsz : s'.data.toList.length = s'.size := by rw [Array.length_toList]; rfl
          rw [hsz] at q4 hbh
          obtain ⟨mc, b4, b5, b6, b7, b8⟩ := sbounds (P := P) (φ := φ) (ρ := ρ) false (len := s'.size) (lo := s'.size) (cap := s'.size) (m := s'.size) (pm := True) rl rh .none rfl hbh hbl trivial q1 q2 (by cases vh <;> rfl) q3 q4 (Nat.le_refl _) (Nat.le_refl _) (Nat.le_refl _)
          refine ⟨_, .string (s'.extract l hh), rfl, ?_, fun w => ?_⟩
          · have := VRel.sstr (φ := φ) (s'.extract l hh)
            have e : (s'.extract l hh).data.toList = (s'.data.toList.take hh).drop l := by
              rw [ByteArray.data_extract, Array.toList_extract, List.extract_eq_take_drop, List.drop_take]
            rw [e] at this
            exact this
          · have hb := b8 w
            simp [Instr.sliceAt, run_und hu, Instr.slice] at hb ⊢
            rw [hb]
            rfl
        · cases h
      · cases h
    · rename_i e hu
      split at h
      · rename_i n a len cap ex z hn
        cases hzz : (ex || Nat.beq z n) with
        | false => rw [hzz] at h; cases h
        | true =>
          rw [hzz] at h
          obtain ⟨pm, m, ph, hh, pl, l, e1, e2, e3, q1, q2, q3, q4, q5, q6, e4, rfl⟩ := sSliceP_parts h hob
          cases h1 with
          | slice x' o' _ _ _ g b0 nb cap' _ a' hφ hl hc hex hz ha =>
            obtain ⟨mc, b4, b5, b6, b7, b8⟩ := sbounds (P := P) (φ := φ) (ρ := ρ) true (cap := cap') rl rh rm e1 e2 e3 q1 q2 q3 e4 q4 q5 q6 hl hc
            have hz' : ex = false → b0 + o' + cap' * n ≤ nb := fun he' => by
              rw [he'] at hzz
              have : z = n := Nat.eq_of_beq_eq_true (by simpa using hzz)
              subst this
              exact hz he'
            refine ⟨_, _, rfl, sslice_rel (nx := isNone vm) hφ hex hz' ha q4 q5 b4 b5 b6 b7, fun w => ?_⟩
            have hb := b8 w
            simp [Instr.sliceAt, run_und hu, Instr.slice, run_size hn] at hb ⊢
            rw [hb]
            simp []
            split <;> rfl
      · rename_i n a len cap ex z hn
        cases hzz : Nat.beq z n with
        | false => rw [hzz] at h; cases h
        | true =>
          rw [hzz] at h
          obtain rfl : z = n := Nat.eq_of_beq_eq_true hzz
          obtain ⟨pm, m, ph, hh, pl, l, e1, e2, e3, q1, q2, q3, q4, q5, q6, e4, rfl⟩ := sSliceP_parts h hob
          cases h1 with
          | snil =>
            obtain ⟨mc, b4, b5, b6, b7, b8⟩ := sbounds (P := P) (φ := φ) (ρ := ρ) true (cap := 0) rl rh rm e1 e2 e3 q1 q2 q3 e4 q4 q5 q6 (Nat.le_refl _) (Nat.le_refl _)
            have hl0 : l = 0 := by omega
            have hh0 : hh = 0 := by omega
            have hm0 : m = 0 := by omega
            have hc0 : mc = 0 := by omega
            subst hl0 hh0 hm0 hc0
            refine ⟨_, .slice none 0 0, rfl, .snil _ _ _, fun w => ?_⟩
            have hb := b8 w
            simp [Instr.sliceAt, run_und hu, Instr.slice, run_size hn] at hb ⊢
            rw [hb]
            simp []
          | semp _ A c _ =>
            obtain ⟨mc, b4, b5, b6, b7, b8⟩ := sbounds (P := P) (φ := φ) (ρ := ρ) true (cap := c) rl rh rm e1 e2 e3 q1 q2 q3 e4 q4 q5 q6 (Nat.le_refl _) (Nat.zero_le _)
            have hl0 : l = 0 := by omega
            have hh0 : hh = 0 := by omega
            have hm0 : m = 0 := by omega
            subst hl0 hh0 hm0
            have hx : (bif isNone vm then true else true) = true := by cases isNone vm <;> rfl
            have hb : ∀ w, _ := b8
            cases A with
            | none =>
              refine ⟨_, .slice none 0 mc, rfl, by rw [hx]; exact .semp _ _ _ _, fun w => ?_⟩
              have hb := b8 w
              simp [Instr.sliceAt, run_und hu, Instr.slice, run_size hn] at hb ⊢
              rw [hb]
              simp []
            | some a' =>
              refine ⟨_, .slice (some (if mc = 0 then a' else a'.add (0 * z))) 0 mc, rfl, by rw [hx]; exact .semp _ _ _ _, fun w => ?_⟩
              have hb := b8 w
              simp [Instr.sliceAt, run_und hu, Instr.slice, run_size hn] at hb ⊢
              rw [hb]
              simp []
              split <;> rfl
          | sslice x' o' _ _ _ g b0 nb cap' _ a' hφ hl hc hex hz ha =>
            obtain ⟨mc, b4, b5, b6, b7, b8⟩ := sbounds (P := P) (φ := φ) (ρ := ρ) true (cap := cap') rl rh rm e1 e2 e3 q1 q2 q3 e4 q4 q5 q6 hl hc
            refine ⟨_, _, rfl, sslice_rel (nx := isNone vm) hφ hex hz ha q4 q5 b4 b5 b6 b7, fun w => ?_⟩
            have hb := b8 w
            simp [Instr.sliceAt, run_und hu, Instr.slice, run_size hn] at hb ⊢
            rw [hb]
            simp []
            split <;> rfl
      · cases h
    · rename_i k e hu
      split at h
      · rename_i n a hn
        obtain ⟨pm, m, ph, hh, pl, l, e1, e2, e3, q1, q2, q3, q4, q5, q6, e4, rfl⟩ := sSliceP_parts h hob
        cases h1 with
        | ptr x' o' g b0 nb hφ =>
          obtain ⟨mc, b4, b5, b6, b7, b8⟩ := sbounds (P := P) (φ := φ) (ρ := ρ) false (cap := k) rl rh rm e1 e2 e3 q1 q2 q3 e4 q4 q5 q6 (Nat.le_refl _) (Nat.le_refl _)
          have hr := sslice_rel (φ := φ) (nx := isNone vm) (ex := true) (n := n) (o := o') (a := ⟨g, b0 + o', none⟩) hφ (fun _ => rfl) (by simp) (.inr rfl) q4 q5 b4 b5 b6 b7
          refine ⟨_, _, rfl, hr, fun w => ?_⟩
          have hb := b8 w
          simp [Instr.sliceAt, run_und hu, Instr.sureAddr] at hb ⊢
          rw [hb]
          simp [run_size hn]
      · cases h
    · cases h
  · cases h
theorem smake_ok (he : EvOk φ ev ρ) (o : Oper) (t : TypeId) (l c : Operand) (ho : o.op = .makeSlice t l c) (ob : OP) (r : LRes) (h : sMake P ev t l c = some (ob, r)) (hob : ob.ok) : LSpec φ (fun w => (execOp ρ o).run P w) r := by
  unfold sMake at h
  split at h
  · rename_i e lv cv hu hl hc
    split at h
    · rename_i x n y m k hn hm hk hs
      have key : ∀ (hob : 0 ≤ x ∧ x ≤ y ∧ y ≤ 1048576) (z : Value), (∃ i, P.info? e = some i ∧ i.zero = some z ∧ i.bytes ≤ 1048576) → x = (n : Int) ∧ y = (m : Int) ∧ n ≤ m ∧ ∀ w, (execOp ρ o).run P w = .ok (.value (.slice (some ⟨w.heap.size, 0, none⟩) n m)) (w.alloc (.cells (madeCells z.cells (m * 1)) e)) := fun hob z hz => by
        obtain ⟨i, hi, hiz, hib⟩ := hz
        obtain ⟨h0, h1, h2⟩ := hob
        obtain ⟨k1, e1, f1⟩ := asN_rel hn (he _ _ hl)
        obtain ⟨k2, e2, f2⟩ := asN_rel hm (he _ _ hc)
        have f1 := f1 h0
        have f2 := f2 (by omega)
        subst f1 f2
        refine ⟨rfl, rfl, by omega, fun w => ?_⟩
        have hsz : i.size = 1 := by unfold sizeA at hs; rw [hi] at hs; simpa using hs
        have hbm : (i.bytes : Int) * (m : Int) ≤ 281474976710656 := by
          have : i.bytes * m ≤ 1048576 * 1048576 := Nat.mul_le_mul hib (by omega)
          have h3 : ((i.bytes * m : Nat) : Int) ≤ 281474976710656 := by omega
          rwa [Int.natCast_mul] at h3
        have hr := run_make (P := P) w t e i z hu hi hiz k1 k2 (n : Int) (m : Int) (by omega) (by omega) hbm (by omega)
        rw [hsz] at hr
        simp [execOp, ho, e1, e2]
        simp at hr
        rw [hr]
        simp
      cases hz : zeroA P e with
      | none => rw [hz] at h; cases h
      | some zv =>
      rw [hz] at h
      simp only at h
      cases hzb : (zeroIs k zv && Nat.ble (P.bytesOf e) 1048576) with
      | false => rw [hzb] at h; cases h
      | true =>
      rw [hzb] at h
      simp only [cond_true] at h
      rw [Bool.and_eq_true] at hzb
      obtain ⟨ie, z, hie, hiz, hzr, _⟩ := zero_some (φ := φ) hz
      have hby : P.bytesOf e = ie.bytes := by unfold Program.bytesOf; rw [hie]; rfl
      have hib := Nat.le_of_ble_eq_true hzb.2
      rw [hby] at hib
      have hz0 : z = .int k 0 := by
        have h1 := hzb.1
        unfold zeroIs at h1
        split at h1
        · rename_i k2 z2
          cases hzr
          rw [Bool.and_eq_true, intBeq_eq] at h1
          obtain rfl := kindEq_eq _ _ h1.1
          have : z2 = 0 := by simpa using h1.2
          rw [this]
        · cases h1
      subst hz0
      have hcells : (madeCells (Value.int k 0).cells (m * 1)).toList = List.replicate m (Value.int k 0) := by
        have hml : (madeCells (Value.int k 0).cells (m * 1)).size = m := by rw [size_madeCells]; simp
        apply List.ext_getElem?
        intro i
        by_cases hi : i < m
        · rw [List.getElem?_replicate, if_pos hi]
          have hg := made_rel (φ := fun _ => none) (z := [AVal.int k 0]) (c := #[Value.int k 0]) (.cons _ _ _ _ (.int _ _) .nil) (by simp) m (m * 1) (by simp)
          have h3 : (repL [AVal.int k 0] m)[i]? = some (.int k 0) := by rw [rep_get _ (by simp) _ _ (by simpa using hi)]; simp [Nat.mod_one]
          obtain ⟨u, h4, h5⟩ := hg.get h3
          cases h5
          exact h4
        · rw [List.getElem?_eq_none (by rw [Array.length_toList, hml]; omega), List.getElem?_eq_none (by simpa using hi)]
      cases hu8 : isU8 P e with
      | true =>
        rw [hu8] at h
        cases h
        obtain ⟨h1, h2, h3, h4⟩ := key hob _ ⟨ie, hie, hiz, hib⟩
        have hk8 := u8_some hu8
        rw [hk] at hk8
        obtain rfl : k = .u8 := by simpa using hk8
        intro w
        have hsz : (madeCells (Value.int .u8 0).cells (m * 1)).size = m := by rw [size_madeCells]; simp
        have hr := sbytes_new (φ := φ) (l := List.replicate m 0) e (c := madeCells (Value.int .u8 0).cells (m * 1)) (by rw [hcells, List.map_replicate]; rfl)
        exact ⟨_, _, _, _, h4 w, rfl, rfl, rfl, rfl, hr, fun ψ r hle hr => .sslice r 0 n m 1 w.heap.size 0 _ m true _ hr h3 (Nat.le_refl _) (fun _ => rfl) (by simp) (.inr rfl)⟩
      | false =>
        rw [hu8] at h
        cases h
        obtain ⟨h1, h2, h3, h4⟩ := key hob _ ⟨ie, hie, hiz, hib⟩
        intro w
        have hin : inR k 0 := ⟨lo_neg k, by cases k <;> simp [hiI]⟩
        have hr : ORel φ (.sints k (List.replicate m 0) e) 0 (madeCells (Value.int k 0).cells (m * 1)).size (.cells (madeCells (Value.int k 0).cells (m * 1)) e (0, 0)) := by
          refine .sints _ _ _ _ _ _ (fun z hz => by rw [List.eq_of_mem_replicate hz]; exact hin) (cells_new e ?_)
          rw [hcells, List.map_replicate]
          clear key h4 hcells
          induction m with
          | zero => exact .nil
          | succ m ih => exact .cons _ _ _ _ (.int _ _) (by
              have : ∀ m, VRels φ (List.replicate m (AVal.int k 0)) (List.replicate m (Value.int k 0)) := fun m => by
                induction m with
                | zero => exact .nil
                | succ m ih => exact .cons _ _ _ _ (.int _ _) ih
              exact this m)
        exact ⟨_, _, _, _, h4 w, rfl, rfl, rfl, rfl, hr, fun ψ r hle hr => .sslice r 0 n m 1 w.heap.size 0 _ m true _ hr h3 (Nat.le_refl _) (fun _ => rfl) (by simp) (.inr rfl)⟩
    · cases h
  · cases h
theorem scall_ok (he : EvOk φ ev ρ) (o : Oper) (c : Call) (ho : o.op = .call c) (ob : OP) (r : LRes) (h : sCall P ev c = some (ob, r)) (hob : ob.ok) : LSpec φ (fun w => (execOp ρ o).run P w) r := by
  unfold sCall at h
  split at h
  · rename_i hcal
    split at h
    · rename_i t x ht hxa
      have hrun : ∀ w u, (Builtin.len_ c.argTypes o.type (c.args.map ρ)).run P w = .ok u w → (execOp ρ o).run P w = .ok (.value u) w := fun w u hu => by
        simp [execOp, ho, resolve, hcal, invoke, builtin, hu]
      split at h
      · rename_i l hu hx
        cases h
        have h1 := he _ _ hx
        generalize hρ : ρ x = q at h1
        cases h1 with
        | sstr s =>
        have hob : s.data.toList.length ≤ 9223372036854775807 := hob
        refine ⟨_, .sint _ _ ⟨by show (-9223372036854775808 : Int) ≤ _; omega, by show _ ≤ (9223372036854775807 : Int); omega⟩, fun w => hrun w _ ?_⟩
        unfold Builtin.len_
        simp [ht, hxa, hρ, run_und hu, goInt]
      · rename_i e a n c' ex z hu hx
        cases h
        have h1 := he _ _ hx
        generalize hρ : ρ x = q at h1
        have hob : n ≤ 9223372036854775807 := hob
        refine ⟨_, .sint _ _ ⟨by show (-9223372036854775808 : Int) ≤ _; omega, by show _ ≤ (9223372036854775807 : Int); omega⟩, fun w => hrun w _ ?_⟩
        cases h1 <;> (unfold Builtin.len_; simp [ht, hxa, hρ, run_und hu, goInt])
      · cases h
    · cases h
  · rename_i hcal
    split at h
    · rename_i x y hargs
      split at h
      · rename_i k a k' b hx hy
        cases hk : kindEq k k' with
        | false => rw [hk] at h; cases h
        | true =>
        rw [hk] at h
        obtain rfl := kindEq_eq _ _ hk
        cases h
        have h1 := evs_some he _ _ hargs
        generalize hL : c.args.toList.map ρ = L at h1
        cases h1 with | cons _ u1 _ us hu1 hr => cases hr with | cons _ u2 _ us hu2 hr2 =>
        cases hr2
        obtain ⟨rfl, i1⟩ := asR_rel hx hu1
        obtain ⟨rfl, i2⟩ := asR_rel hy hu2
        have hin : inR k (min a b) := by by_cases hab : a ≤ b; (rw [Int.min_eq_left hab]; exact i1); (rw [Int.min_eq_right (by omega)]; exact i2)
        refine ⟨_, .sint _ _ hin, fun w => ?_⟩
        have hv : min a b = if b < a then b else a := by omega
        rw [hv]
        simp [execOp, ho, resolve, hcal, invoke, builtin, Builtin.min_, hL, Builtin.min2]
      · cases h
    · cases h
  · rename_i hcal
    split at h
    · rename_i x y hargs
      split at h
      · rename_i k a k' b hx hy
        cases hk : kindEq k k' with
        | false => rw [hk] at h; cases h
        | true =>
        rw [hk] at h
        obtain rfl := kindEq_eq _ _ hk
        cases h
        have h1 := evs_some he _ _ hargs
        generalize hL : c.args.toList.map ρ = L at h1
        cases h1 with | cons _ u1 _ us hu1 hr => cases hr with | cons _ u2 _ us hu2 hr2 =>
        cases hr2
        obtain ⟨rfl, i1⟩ := asR_rel hx hu1
        obtain ⟨rfl, i2⟩ := asR_rel hy hu2
        have hin : inR k (max a b) := by by_cases hab : a ≤ b; (rw [Int.max_eq_right hab]; exact i2); (rw [Int.max_eq_left (by omega)]; exact i1)
        refine ⟨_, .sint _ _ hin, fun w => ?_⟩
        have hv : max a b = if a < b then b else a := by omega
        rw [hv]
        simp [execOp, ho, resolve, hcal, invoke, builtin, Builtin.max_, hL, Builtin.max2]
      · cases h
    · cases h
  · cases h
theorem sconv_ok (he : EvOk φ ev ρ) (o : Oper) (s d : TypeId) (x : Operand) (ho : o.op = .convert s d x) (ob : OP) (r : LRes) (h : sConv P ev s d x = some (ob, r)) (hob : ob.ok) : LSpec φ (fun w => (execOp ρ o).run P w) r := by
  have hrun : ∀ w u w', (convert s d (ρ x)).run P w = .ok u w' → (execOp ρ o).run P w = .ok (.value u) w' := fun w u w' hu => by simp [execOp, ho, hu]
  unfold sConv at h
  split at h
  · rename_i d' k j z hs hd hx
    have h1 := he _ _ hx
    generalize ρ x = q at h1 hrun
    cases h1 with
    | sint _ _ hin =>
    have hr : ∀ w, (execOp ρ o).run P w = .ok (.value (.int k (k.wrap z))) w := fun w => hrun w _ _ (by simp [convert, run_und hs, run_und hd, Conv.intToInt])
    cases hsub : subK j k with
    | true =>
      rw [hsub] at h
      cases h
      have := subK_some hsub hin
      exact ⟨_, .sint _ _ this, fun w => (hr w).trans (by rw [wrap_inR this])⟩
    | false =>
      rw [hsub] at h
      simp only [cond_false] at h
      cases hk : isU k with
      | true =>
        rw [hk] at h
        cases h
        obtain ⟨h1, h2⟩ := wrap_mod_inR hk z
        exact ⟨_, .sint _ _ h2, fun w => (hr w).trans (by rw [h1])⟩
      | false =>
        rw [hk] at h
        cases h
        have hob : inR k z := hob
        exact ⟨_, .sint _ _ hob, fun w => (hr w).trans (by rw [wrap_inR hob])⟩
  · rename_i l hs hd hx
    cases h
    have h1 := he _ _ hx
    generalize ρ x = q at h1 hrun
    cases h1
    exact ⟨_, .sstr _, fun w => hrun w _ _ (by simp [convert, run_und hs, run_und hd])⟩
  · rename_i e l hs hd hx
    cases hb : isU8 P e with
    | false => rw [hb] at h; cases h
    | true =>
    rw [hb] at h
    cases h
    have hu8 := u8_some hb
    have hob : l.length ≤ 1048576 := hob
    have h1 := he _ _ hx
    generalize ρ x = q at h1 hrun
    cases h1 with
    | sstr t =>
    obtain ⟨r0, hr0⟩ : ∃ r0, lConvert P (fun _ => some (.str (t.data.toList.map UInt8.toNat))) s d x = some r0 := ⟨_, by unfold lConvert; rw [hs, hd]; simp only [cvBytes, hb, cond_true]; rfl⟩
    have hc := conv_ok (φ := φ) (P := P) (ev := fun _ => some (.str (t.data.toList.map UInt8.toNat))) (ρ := fun _ => .string t) (fun y v hy => by cases hy; exact .str t) o s d x ho r0 hr0
    unfold lConvert at hr0
    rw [hs, hd] at hr0
    simp only [cvBytes, hb, cond_true] at hr0
    cases hr0
    intro w
    obtain ⟨x', n, u, w', e1, e2, e3, e4, e5, e6, e7⟩ := hc w
    have e1' : (execOp ρ o).run P w = .ok (.value u) w' := by
      have h9 : (execOp (fun _ => Value.string t) o).run P w = .ok (.value u) w' := e1
      simp only [execOp, ho, Sem.run_bind] at h9
      cases hcv : (convert s d (.string t)).run P w with
      | ok u2 w2 =>
        rw [hcv] at h9
        simp at h9
        obtain ⟨rfl, rfl⟩ := h9
        exact hrun w _ _ hcv
      | _ => rw [hcv] at h9; simp at h9
    refine ⟨x', n, u, w', e1', e2, e3, e4, e5, .sbytes _ _ _ _ _ (by rw [List.map_map] at e6; exact e6), fun ψ r hle hr => ?_⟩
    have h8 := e7 ψ r hle hr
    rw [lenL0, List.length_map] at h8
    cases h8 with
    | slice _ _ _ _ _ g b n cap ex a h hl hc he hz ha => exact .sslice _ _ _ _ _ _ _ _ _ _ _ h hl hc he hz ha
  · rename_i e a n cap ex z hs hd hx
    split at h
    · rename_i r' hr'
      cases h
      have h1 := he _ _ hx
      have hu8 : P.underlying e = some (.int .u8) := by
        cases hb : isU8 P e with
        | true => exact u8_some hb
        | false => unfold cvText at hr'; rw [hb] at hr'; cases hr'
      generalize ρ x = q at h1 hrun
      cases h1 with
      | snil => exact cvText_ok hs hd hu8 hrun hr' (.inr ⟨none, 0, rfl, rfl⟩)
      | semp _ A c _ => exact cvText_ok hs hd hu8 hrun hr' (.inr ⟨A, c, rfl, rfl⟩)
      | sslice x2 o2 _ _ _ g2 b2 nb2 cap _ a2 hφ2 hl hc hex hz ha => exact cvText_ok (a := (x2, o2)) hs hd hu8 hrun hr' (.inl ⟨g2, b2, nb2, cap, a2, hφ2, rfl, by omega, ha⟩)
    · cases h
  · cases h
theorem sym_ok (he : EvOk φ ev ρ) (o : Oper) (ob : OP) (r : LRes) (h : sym P ev o.op = some (ob, r)) (hob : ob.ok) : LSpec φ (fun w => (execOp ρ o).run P w) r := by
  unfold sym at h
  split at h
  · exact spick_ok he o _ _ _ ‹_› ob r h hob
  · exact sbin_ok he o _ _ _ _ _ ‹_› ob r h hob
  · exact sun_ok he o _ _ _ ‹_› ob r h hob
  · exact sconv_ok he o _ _ _ ‹_› ob r h hob
  · exact smake_ok he o _ _ _ ‹_› ob r h hob
  · exact sslice_ok he o _ _ _ _ _ ‹_› ob r h hob
  · exact sidx_ok he o _ _ _ ‹_› ob r h hob
  · exact sindex_ok he o _ _ _ ‹_› ob r h hob
  · exact scall_ok he o _ ‹_› ob r h hob
  · cases h
/-- bytes' relation does not ask where anything lies -/
theorem bytes_any {ψ : Phi} : ∀ {L : List UInt8} {us : List Value}, VRels φ (L.map fun c => AVal.int .u8 (c.toNat : Int)) us → VRels ψ (L.map fun c => AVal.int .u8 (c.toNat : Int)) us
  | [], _, .nil => .nil
  | _ :: L, _, .cons _ _ _ _ (.int _ _) h => .cons _ _ _ _ (.int _ _) (bytes_any (L := L) h)
theorem sbytes_any {ψ : Phi} {L : List UInt8} {t : TypeId} {b n : Nat} {x : Obj} (h : ORel φ (.sbytes L t) b n x) : ORel ψ (.sbytes L t) b n x := by
  cases h with
  | sbytes _ _ _ _ _ h =>
    cases h with
    | cells _ _ t' _ _ c fz i0 i1 i2 i3 => exact .sbytes _ _ _ _ _ (.cells _ _ _ _ _ _ _ i0 i1 (bytes_any i2) i3)
theorem str_unique {ψ : Phi} {l : List UInt8} {u v : Value} (h : VRel φ (.sstr l) u) (k : VRel ψ (.sstr l) v) : u = v := by
  generalize hq : AVal.sstr l = q at h
  cases h with
  | sstr s =>
    generalize hq2 : AVal.sstr l = q2 at k
    cases k with
    | sstr s' =>
      cases hq
      have h1 : s.data.toList = s'.data.toList := by simpa using hq2
      have h2 := Array.toList_inj.1 h1
      cases s; cases s'; simp only at h2; rw [h2]
    | _ => cases hq2
  | _ => cases hq
theorem sstr_rel (l : List UInt8) : VRel φ (.sstr l) (.string ⟨l.toArray⟩) := by
  have := VRel.sstr (φ := φ) ⟨l.toArray⟩
  simpa using this
theorem tidx_ok (he : EvOk φ ev ρ) (o : Oper) (t : TypeId) (x i : Operand) (ho : o.op = .indexAddr t x i) (ob : OP) (r : LRes) (h : tIndexAddr P ev t x i = some (ob, r)) (hob : ob.ok) : LSpec φ (fun w => (execOp ρ o).run P w) r := by
  unfold tIndexAddr at h
  split at h
  · rename_i e b i0 len c ex wd v hu hx hi
    split at h
    · rename_i s z n hs hn
      cases hsw : Nat.beq s wd with
      | false => rw [hsw] at h; cases h
      | true =>
      rw [hsw] at h
      obtain rfl := Nat.eq_of_beq_eq_true hsw
      cases h
      obtain ⟨h0, h3⟩ : 0 ≤ z ∧ z < (len : Int) := hob
      have h1 := he _ _ hx
      obtain ⟨k, e1, e2⟩ := asN_rel hn (he _ _ hi)
      have e2 := e2 h0
      subst e2
      have hlt : n < len := by omega
      generalize hρ : ρ x = q at h1
      cases h1 with
      | tslice _ _ _ _ _ _ _ h1 =>
      cases h1 with
      | snil => omega
      | semp => omega
      | sslice _ _ _ _ _ g b0 m cap _ a hφ hl hc hex hz ha =>
      rcases ha with ⟨rfl, _⟩ | rfl
      · omega
      · refine ⟨_, .tptr _ (i0 + n) s 0 _ _ _ hφ, fun w => ?_⟩
        simp [execOp, ho, hρ, e1, Instr.indexAt, asIntOf, run_und hu, Instr.sureAddr, run_size hs, add_lit, hlt, Nat.add_assoc, Nat.add_mul]
    · cases h
  · rename_i e l v hu hx hi
    split at h
    · rename_i s z n hs hn
      cases hsw : Nat.beq s 1 with
      | false => rw [hsw] at h; cases h
      | true =>
      rw [hsw] at h
      obtain rfl := Nat.eq_of_beq_eq_true hsw
      cases h
      obtain ⟨h0, h3⟩ : 0 ≤ z ∧ z < (l.length : Int) := hob
      have h1 := he _ _ hx
      obtain ⟨k, e1, e2⟩ := asN_rel hn (he _ _ hi)
      have e2 := e2 h0
      subst e2
      have hlt : n < l.length := by omega
      generalize hρ : ρ x = q at h1
      cases h1 with
      | pemp => simp at hlt
      | pbytes _ L oo g b m c hφ hl hlo hc =>
        refine ⟨_, .pptr _ L oo n g b m hφ hl hlo, fun w => ?_⟩
        simp [execOp, ho, hρ, e1, Instr.indexAt, asIntOf, run_und hu, Instr.sureAddr, run_size hs, add_lit, hlt, Nat.add_assoc]
    · cases h
  · cases h
theorem tfaddr_ok (he : EvOk φ ev ρ) (o : Oper) (s : TypeId) (x : Operand) (f : Nat) (ho : o.op = .fieldAddr s x f) (ob : OP) (r : LRes) (h : tFieldAddr P ev s x f = some (ob, r)) : LSpec φ (fun w => (execOp ρ o).run P w) r := by
  unfold tFieldAddr at h
  split at h
  · rename_i fs b i wd off hu hx
    split at h
    · rename_i fl hf
      split at h
      · rename_i n hn
        cases hb : Nat.beq n 0 with
        | true => rw [hb] at h; cases h
        | false =>
          rw [hb] at h; cases h
          have hn0 : n ≠ 0 := by intro h0; subst h0; simp at hb
          have h1 := he _ _ hx
          generalize hρ : ρ x = q at h1
          cases h1 with
          | tptr _ _ _ _ g b0 m hφ =>
          refine ⟨_, .tptr _ i wd (off + fl.offset) g b0 m hφ, fun w => ?_⟩
          simp [execOp, ho, hρ, Instr.fieldAt, run_und hu, hf, Instr.sureAddr, fieldPlace, run_size hn, hn0, add_lit, Nat.add_assoc]
      · cases h
    · cases h
  · cases h
theorem tload_ok (he : EvOk φ ev ρ) (o : Oper) (t : TypeId) (a : Operand) (ho : o.op = .load t a) (ob : OP) (r : LRes) (h : tLoad P ev t a = some (ob, r)) (hob : ob.ok) : LSpec φ (fun w => (execOp ρ o).run P w) r := by
  unfold tLoad at h
  split at h
  · rename_i b i wd c hv
    cases h
    have h1 := he _ _ hv
    generalize hρ : ρ a = q at h1
    cases h1 with
    | tptr _ _ _ _ g b0 n hφ =>
    have key : ∀ ob v, got ((fun | .tab n cs _ => bif Nat.beq (lenL cs 0) wd then (match partA P t (rowT i cs) c with | some v => some (some (i < n), v) | none => none) else none | _ => none : AObj → Option (OP × AVal)) ob) = some v → ∃ m cs t', ob = .tab m cs t' ∧ cs.length = wd ∧ i < m ∧ partA P t (rowT i cs) c = some v := fun ob v hk => by
      obtain ⟨op, h1, h2⟩ := got_some hk
      simp only at h1
      split at h1
      · rename_i m cs t'
        cases hw : Nat.beq (lenL cs 0) wd with
        | false => rw [hw] at h1; cases h1
        | true =>
          rw [hw] at h1
          simp only [cond_true] at h1
          have hw := Nat.eq_of_beq_eq_true hw
          rw [lenL0] at hw
          split at h1
          · cases h1
            exact ⟨_, _, _, rfl, hw, h2, ‹_›⟩
          · cases h1
      · cases h1
    refine ⟨fun ob v hk g' b0' n' x hφ' hx => ?_, fun ob v hk hn => ?_⟩
    · obtain ⟨rfl, rfl, rfl⟩ : g = g' ∧ b0 = b0' ∧ n = n' := by rw [hφ] at hφ'; simpa using hφ'
      obtain ⟨m, cs, t', rfl, rfl, him, hp⟩ := key ob v hk
      obtain ⟨u, h2, h3⟩ := loadVar_some hp (tab_cells hx him)
      refine ⟨u, h2, fun w hg => ?_⟩
      have h5 := h3 w g hg
      rw [Nat.add_assoc] at h5
      simp [execOp, ho, hρ, Instr.loadAt, Instr.sureAddr, h5]
    · obtain ⟨m, cs, t', rfl, rfl, him, hp⟩ := key ob v hk
      cases m with
      | zero => omega
      | succ m => cases hn
  · rename_i l i hv
    split at h
    · rename_i hu
      cases h
      have hi : i < l.length := hob
      have h1 := he _ _ hv
      generalize hρ : ρ a = q at h1
      refine ⟨.int .u8 ((l.getD i 0).toNat : Int), .sint _ _ ⟨by show (0 : Int) ≤ _; omega, by have := (l.getD i 0).toNat_lt; show _ ≤ (255 : Int); omega⟩, fun w hw => ?_⟩
      cases h1 with
      | pptr _ L oo _ g b n hφ hl hlo =>
      obtain ⟨n', x, e1, e2, e3⟩ := hw g b L _ hφ
      have hoi : oo + i < L.length := by omega
      have hload : got (loadB P t L (oo + i)) = some (.sint .u8 ((L.getD (oo + i) 0).toNat : Int)) := by
        unfold loadB
        rw [hu]
        exact if_pos hoi
      obtain ⟨u, h2, h3⟩ := loadB_some hload e3
      have h5 := h3 w g e2
      have hval : L.getD (oo + i) 0 = l.getD i 0 := by
        rw [hl, List.getD_eq_getElem?_getD, List.getD_eq_getElem?_getD, List.getElem?_take_of_lt hi, List.getElem?_drop]
      rw [hval] at h2
      have hu2 : u = .int .u8 ((l.getD i 0).toNat : Int) := by cases h2; rfl
      rw [← Nat.add_assoc] at h5
      simp [execOp, ho, hρ, Instr.loadAt, Instr.sureAddr, h5, hu2]
    · cases h
  · cases h
theorem tnil_ok (he : EvOk φ ev ρ) (o : Oper) (x : Operand) (ho : o.op = .nilCheck x) (ob : OP) (r : LRes) (h : tNilCheck ev x = some (ob, r)) : LSpec φ (fun w => (execOp ρ o).run P w) r := by
  unfold tNilCheck at h
  split at h
  · rename_i hv
    cases h
    have h1 := he _ _ hv
    generalize hρ : ρ x = q at h1
    refine ⟨q, h1, fun w => ?_⟩
    cases h1
    simp [execOp, ho, hρ]
  · cases h
theorem tconv_ok (he : EvOk φ ev ρ) (o : Oper) (s d : TypeId) (x : Operand) (ho : o.op = .convert s d x) (ob : OP) (r : LRes) (h : tConv P ev s d x = some (ob, r)) : LSpec φ (fun w => (execOp ρ o).run P w) r := by
  unfold tConv at h
  split at h
  · rename_i e l hs hd hx
    cases hb : isU8 P e with
    | false => rw [hb] at h; cases h
    | true =>
    rw [hb] at h
    cases h
    have hu8 := u8_some hb
    have h1 := he _ _ hx
    have hrun : ∀ w u w', (convert s d (ρ x)).run P w = .ok u w' → (execOp ρ o).run P w = .ok (.value u) w' := fun w u w' hc => by simp [execOp, ho, hc]
    generalize ρ x = q at h1 hrun
    refine ⟨.string ⟨l.toArray⟩, sstr_rel l, fun w hw => ?_⟩
    have htext : ∀ (a : Nat × Nat) (n : Nat), cvText P e (some a) n = some (.read a.1 fun | .cells l _ => (match slicedL l a.2 n with | some r => (match bytesOf r with | some q => some (none, .str q) | none => (match bytesY r with | some q => some (none, .sstr q) | none => none)) | none => none) | .sbytes l _ => some (some (a.2 + n ≤ l.length), .sstr ((l.drop a.2).take n)) | _ => none) := fun a n => by
      unfold cvText; rw [hb]; rfl
    cases h1 with
    | pemp A c =>
      have := cvText_ok (φ := fun _ => none) (a := (0, 0)) (n := 0) hs hd hu8 hrun (htext (0, 0) 0) (.inr ⟨A, c, rfl, rfl⟩)
      obtain ⟨u, h2, h3⟩ := this.2 (.sbytes [] 0) (.sstr []) (if_pos (Nat.le_refl _)) rfl
      rw [str_unique (sstr_rel (φ := φ) []) h2]
      exact h3 w
    | pbytes _ L oo g b n c hφ hl hlo hc =>
      obtain ⟨n', x, e1, e2, e3⟩ := hw g b L _ hφ
      have := cvText_ok (φ := fun _ => some (g, b, n')) (a := (0, oo)) (n := l.length) hs hd hu8 hrun (htext (0, oo) l.length) (.inl ⟨g, b, n', c, _, rfl, rfl, hc, .inr rfl⟩)
      obtain ⟨u, h2, h3⟩ := this.1 (.sbytes L 0) (.sstr ((L.drop oo).take l.length)) (if_pos hlo) g b n' x rfl (sbytes_any e3)
      rw [← hl] at h2
      rw [str_unique (sstr_rel (φ := φ) l) h2]
      exact h3 w e2
  · cases h
theorem tslice_ok (he : EvOk φ ev ρ) (o : Oper) (t : TypeId) (x : Operand) (lo hi mx : Option Operand) (ho : o.op = .slice t x lo hi mx) (ob : OP) (r : LRes) (h : tSlice P ev t x lo hi mx = some (ob, r)) (hob : ob.ok) : LSpec φ (fun w => (execOp ρ o).run P w) r := by
  unfold tSlice at h
  split at h
  · rename_i e s vl vh hu hx hlo hhi
    have rl := evo_some he hlo
    have rh := evo_some he hhi
    have h1 := he _ _ hx
    generalize hρ : ρ x = q at h1
    split at h
    · rename_i pl l ph hh hn e3 e2
      cases h
      obtain ⟨q2, q3, q4, q5⟩ : ph ∧ pl ∧ l ≤ hh ∧ hh ≤ s.length := hob
      suffices hg : ∃ u, VRel φ (.pbytes ((s.take hh).drop l)) u ∧ ∀ w, (Instr.sliceAt t q (lo.map ρ) (hi.map ρ) none).run P w = .ok u w by
        obtain ⟨u, h2, h3⟩ := hg
        exact ⟨u, h2, fun w => by simp only [execOp, ho, hρ, Sem.run_bind, Option.map_none, h3 w]; rfl⟩
      cases h1 with
      | pemp A c =>
        obtain ⟨mc, b4, b5, b6, b7, b8⟩ := sbounds (P := P) (φ := φ) (ρ := ρ) true (cap := c) (lo := 0) rl rh .none rfl e2 e3 trivial q2 q3 (by cases vh <;> rfl) q4 q5 (Nat.le_refl _) (Nat.le_refl _) (Nat.zero_le _)
        have hl0 : l = 0 := by simp at q5; omega
        have hh0 : hh = 0 := by simp at q5; omega
        subst hl0 hh0
        cases A with
        | none =>
          refine ⟨.slice none 0 mc, .pemp _ _, fun w => ?_⟩
          have hb := b8 w
          simp [Instr.sliceAt, run_und hu, Instr.slice, run_size hn] at hb ⊢
          rw [hb]
          simp []
        | some a' =>
          refine ⟨.slice (some (if mc = 0 then a' else a'.add (0 * 1))) 0 mc, .pemp _ _, fun w => ?_⟩
          have hb := b8 w
          simp [Instr.sliceAt, run_und hu, Instr.slice, run_size hn] at hb ⊢
          rw [hb]
          simp []
          split <;> rfl
      | pbytes _ L oo g b n c hφ hl hlo hc =>
        obtain ⟨mc, b4, b5, b6, b7, b8⟩ := sbounds (P := P) (φ := φ) (ρ := ρ) true (len := s.length) (cap := c) (lo := s.length) rl rh .none rfl e2 e3 trivial q2 q3 (by cases vh <;> rfl) q4 q5 (Nat.le_refl _) (Nat.le_refl _) hc
        refine ⟨.slice (some (if mc = l then ⟨g, b + oo, none⟩ else (⟨g, b + oo, none⟩ : Addr).add (l * 1))) (hh - l) (mc - l), ?_, fun w => ?_⟩
        · by_cases hz : hh - l = 0
          · have : (s.take hh).drop l = [] := by apply List.drop_eq_nil_of_le; simp; omega
            rw [this, hz]
            exact .pemp _ _
          · have hlen : ((s.take hh).drop l).length = hh - l := by simp; omega
            have hne : mc ≠ l := by omega
            rw [if_neg hne]
            have hv := VRel.pbytes (φ := φ) ((s.take hh).drop l) L (oo + l) g b n (mc - l) hφ (by
              rw [hlen]
              have e5 : (L.drop (oo + l)).take (hh - l) = ((L.drop oo).take hh).drop l := by
                rw [List.drop_take, List.drop_drop]
              rw [e5]
              conv => lhs; rw [hl]
              rw [List.take_take, Nat.min_eq_left q5]) (by rw [hlen]; omega) (by rw [hlen]; omega)
            rw [hlen] at hv
            simpa [add_lit, Nat.add_assoc] using hv
        · have hb := b8 w
          simp [Instr.sliceAt, run_und hu, Instr.slice, run_size hn] at hb ⊢
          rw [hb]
          simp []
          split <;> rfl
    · cases h
  · cases h
theorem tSliceP_parts {wd i0 len cap b : Nat} {ex : Bool} {lo hi mx : Option AVal} {ob : OP} {r : LRes} (hs : tSliceP wd i0 len cap ex b lo hi mx = some (ob, r)) (hob : ob.ok) :
    ∃ pm m ph h pl l, bnd mx cap = some (pm, m) ∧ bnd hi len = some (ph, h) ∧ bnd lo 0 = some (pl, l) ∧ pm ∧ ph ∧ pl ∧ l ≤ h ∧ h ≤ m ∧ m ≤ cap ∧ (isNone hi && !isNone mx) = false ∧ r = .pure (.tslice b (i0 + l) (h - l) (m - l) (bif isNone mx then ex else true) wd) := by
  unfold tSliceP at hs
  split at hs
  · rename_i pm m ph h pl l e1 e2 e3
    cases hb : (isNone hi && !isNone mx) with
    | true => rw [hb] at hs; cases hs
    | false =>
      rw [hb] at hs
      cases hs
      obtain ⟨q1, q2, q3, q4, q5, q6⟩ : pm ∧ ph ∧ pl ∧ l ≤ h ∧ h ≤ m ∧ m ≤ cap := hob
      exact ⟨pm, m, ph, h, pl, l, e1, e2, e3, q1, q2, q3, q4, q5, q6, rfl, rfl⟩
  · cases hs
theorem tslicet_ok (he : EvOk φ ev ρ) (o : Oper) (t : TypeId) (x : Operand) (lo hi mx : Option Operand) (ho : o.op = .slice t x lo hi mx) (ob : OP) (r : LRes) (h : tSliceT P ev t x lo hi mx = some (ob, r)) (hob : ob.ok) : LSpec φ (fun w => (execOp ρ o).run P w) r := by
  unfold tSliceT at h
  split at h
  · rename_i e b i0 len cap ex wd vl vh vm hu hx hlo hhi hmx
    have rl := evo_some he hlo
    have rh := evo_some he hhi
    have rm := evo_some he hmx
    have h1 := he _ _ hx
    generalize hρ : ρ x = q at h1
    suffices hh : ∃ v' u, r = .pure v' ∧ VRel φ v' u ∧ ∀ w, (Instr.sliceAt t q (lo.map ρ) (hi.map ρ) (mx.map ρ)).run P w = .ok u w by
      obtain ⟨v', u, rfl, h2, h3⟩ := hh
      exact ⟨u, h2, fun w => by simp only [execOp, ho, hρ, Sem.run_bind, h3 w]; rfl⟩
    split at h
    · rename_i z hn
      cases hsw : Nat.beq z wd with
      | false => rw [hsw] at h; cases h
      | true =>
      rw [hsw] at h
      obtain rfl := Nat.eq_of_beq_eq_true hsw
      obtain ⟨pm, m, ph, hh, pl, l, e1, e2, e3, q1, q2, q3, q4, q5, q6, e4, rfl⟩ := tSliceP_parts h hob
      cases h1 with
      | tslice _ _ _ _ _ _ _ h1 =>
      cases h1 with
      | snil =>
        obtain ⟨mc, b4, b5, b6, b7, b8⟩ := sbounds (P := P) (φ := φ) (ρ := ρ) true (cap := 0) rl rh rm e1 e2 e3 q1 q2 q3 e4 q4 q5 q6 (Nat.le_refl _) (Nat.le_refl _)
        have hl0 : l = 0 := by omega
        have hh0 : hh = 0 := by omega
        have hm0 : m = 0 := by omega
        have hc0 : mc = 0 := by omega
        subst hl0 hh0 hm0 hc0
        refine ⟨_, .slice none 0 0, rfl, .tslice _ _ _ _ _ _ _ (.snil _ _ _), fun w => ?_⟩
        have hb := b8 w
        simp [Instr.sliceAt, run_und hu, Instr.slice, run_size hn] at hb ⊢
        rw [hb]
        simp []
      | semp _ A c _ =>
        obtain ⟨mc, b4, b5, b6, b7, b8⟩ := sbounds (P := P) (φ := φ) (ρ := ρ) true (cap := c) rl rh rm e1 e2 e3 q1 q2 q3 e4 q4 q5 q6 (Nat.le_refl _) (Nat.zero_le _)
        have hl0 : l = 0 := by omega
        have hh0 : hh = 0 := by omega
        have hm0 : m = 0 := by omega
        subst hl0 hh0 hm0
        have hx : (bif isNone vm then true else true) = true := by cases isNone vm <;> rfl
        have hb : ∀ w, _ := b8
        cases A with
        | none =>
          refine ⟨_, .slice none 0 mc, rfl, by rw [hx]; exact .tslice _ _ _ _ _ _ _ (.semp _ _ _ _), fun w => ?_⟩
          have hb := b8 w
          simp [Instr.sliceAt, run_und hu, Instr.slice, run_size hn] at hb ⊢
          rw [hb]
          simp []
        | some a' =>
          refine ⟨_, .slice (some (if mc = 0 then a' else a'.add (0 * z))) 0 mc, rfl, by rw [hx]; exact .tslice _ _ _ _ _ _ _ (.semp _ _ _ _), fun w => ?_⟩
          have hb := b8 w
          simp [Instr.sliceAt, run_und hu, Instr.slice, run_size hn] at hb ⊢
          rw [hb]
          simp []
          split <;> rfl
      | sslice x' o' _ _ _ g b0 nb cap' _ a' hφ hl hc hex hz ha =>
        obtain ⟨mc, b4, b5, b6, b7, b8⟩ := sbounds (P := P) (φ := φ) (ρ := ρ) true (cap := cap') rl rh rm e1 e2 e3 q1 q2 q3 e4 q4 q5 q6 hl hc
        refine ⟨_, _, rfl, .tslice _ _ _ _ _ _ _ (by rw [Nat.add_mul]; exact sslice_rel (nx := isNone vm) hφ hex hz ha q4 q5 b4 b5 b6 b7), fun w => ?_⟩
        have hb := b8 w
        simp [Instr.sliceAt, run_und hu, Instr.slice, run_size hn] at hb ⊢
        rw [hb]
        simp []
        split <;> rfl
    · cases h
  · cases h
theorem tcall_ok (he : EvOk φ ev ρ) (o : Oper) (c : Call) (ho : o.op = .call c) (ob : OP) (r : LRes) (h : tCall P ev c = some (ob, r)) (hob : ob.ok) : LSpec φ (fun w => (execOp ρ o).run P w) r := by
  unfold tCall at h
  split at h
  · rename_i hcal
    split at h
    · rename_i t x ht hxa
      have hrun : ∀ w u, (Builtin.len_ c.argTypes o.type (c.args.map ρ)).run P w = .ok u w → (execOp ρ o).run P w = .ok (.value u) w := fun w u hu => by
        simp [execOp, ho, resolve, hcal, invoke, builtin, hu]
      split at h
      · rename_i l hu hx
        cases h
        have h1 := he _ _ hx
        generalize hρ : ρ x = q at h1
        have hob : _ ≤ 9223372036854775807 := hob
        refine ⟨_, .sint _ _ ⟨by show (-9223372036854775808 : Int) ≤ _; omega, by show _ ≤ (9223372036854775807 : Int); omega⟩, fun w => hrun w _ ?_⟩
        cases h1 <;> (unfold Builtin.len_; simp [ht, hxa, hρ, run_und hu, goInt])
      · rename_i n c' ex z hu hx
        cases h
        have h1 := he _ _ hx
        generalize hρ : ρ x = q at h1
        have hob : _ ≤ 9223372036854775807 := hob
        refine ⟨_, .sint _ _ ⟨by show (-9223372036854775808 : Int) ≤ _; omega, by show _ ≤ (9223372036854775807 : Int); omega⟩, fun w => hrun w _ ?_⟩
        cases h1 with
        | tslice _ _ _ _ _ _ _ h1 => cases h1 <;> (unfold Builtin.len_; simp [ht, hxa, hρ, run_und hu, goInt])
      · cases h
    · cases h
  · cases h
theorem tlookup_ok (he : EvOk φ ev ρ) (o : Oper) (t : TypeId) (x i : Operand) (ok : Bool) (ho : o.op = .lookup t x i ok) (ob : OP) (r : LRes) (h : tLookup P ev t x i ok = some (ob, r)) : LSpec φ (fun w => (execOp ρ o).run P w) r := by
  unfold tLookup at h
  split at h
  · rename_i kt et m j q ht hx hi
    split at h
    · rename_i z j' hz hkt
      cases hb : kindEq j j' with
      | false => rw [hb] at h; cases h
      | true =>
      rw [hb] at h
      cases h
      obtain rfl := kindEq_eq _ _ hb
      have r1 := he _ _ hx
      have r2 := he _ _ hi
      refine ⟨fun o1 v hv g b0 n x1 hφ hor => ?_, fun o1 v hv hnul => ?_⟩
      · obtain ⟨ob, hv, hob⟩ := got_some hv
        unfold lookM at hv
        split at hv
        · rename_i kk ks cs one
          generalize hxv : ρ x = xv at r1
          cases r1 with
          | map _ g' b' n' h' =>
          obtain ⟨rfl, _, _⟩ : g' = g ∧ _ ∧ _ := by rw [hφ] at h'; simpa using h'.symm
          generalize hiv : ρ i = iv at r2
          cases r2
          exact lookS_ok ho ht hkt hz hiv hxv hor (.inr rfl) (got_of hv hob)
        · rename_i es hv9
          cases es with
          | nil =>
            cases hv
            obtain ⟨ms, clock, e1, e2, e3, e4, e5⟩ := map_entries hor
            obtain rfl : x1 = .map ms clock := by
              cases x1 <;> first | exact e1 | cases e1
            obtain rfl : ms = #[] := by
              have : ms.toList = [] := List.eq_nil_of_length_eq_zero e2
              exact Array.toList_inj.1 this
            obtain ⟨zi, zv, z1, z2, z3, z4⟩ := zero_some (φ := φ) hz
            generalize hxv : ρ x = xv at r1
            cases r1 with
            | map _ g' b' n' h' =>
            obtain ⟨rfl, _, _⟩ : g' = g ∧ _ ∧ _ := by rw [hφ] at h'; simpa using h'.symm
            generalize hiv : ρ i = iv at r2
            cases r2
            have hgo : ∀ w : World, w.heap[g']? = some (.map #[] clock) → (getObj g').run P w = .ok (.map #[] clock) w := fun w hw => by simp [getObj, Sem.run, hw]
            have hko : keyOk P kt (.int j q) = true := by unfold keyOk; rw [hkt]; exact kindEq_refl j
            refine ⟨_, lookV_rel z3, fun w hw => ?_⟩
            simp [execOp, ho, hxv, hiv, Instr.lookup, run_und ht, hgo w hw, run_checkKey_of hko (VRel.int (φ := φ) j q), Result.andThen, run_findKey_of hkt (show Instr.findNow (.int j) (.int j q) [] 0 = some none from rfl), z4]
          | cons e es =>
            simp only [findM] at hv
            cases h0 : keyEq (.sint j q) e.1 with
            | none => rw [h0] at hv; cases hv
            | some _ => cases h0
        · cases hv
      · obtain ⟨ob, hv, hob⟩ := got_some hv
        unfold lookM at hv
        split at hv <;> first | (cases hnul; done) | cases hv
    · cases h
  · cases h
theorem tabs_ok (he : EvOk φ ev ρ) (o : Oper) (ob : OP) (r : LRes) (h : tabs P ev o.op = some (ob, r)) (hob : ob.ok) : LSpec φ (fun w => (execOp ρ o).run P w) r := by
  unfold tabs at h
  split at h
  · exact tidx_ok he o _ _ _ ‹_› ob r h hob
  · exact tfaddr_ok he o _ _ _ ‹_› ob r h
  · exact tload_ok he o _ _ ‹_› ob r h hob
  · exact tnil_ok he o _ ‹_› ob r h
  · exact tconv_ok he o _ _ _ ‹_› ob r h
  · split at h
    · rename_i r' hr'
      cases h
      exact tslice_ok he o _ _ _ _ _ ‹_› ob r hr' hob
    · exact tslicet_ok he o _ _ _ _ _ ‹_› ob r h hob
  · exact tlookup_ok he o _ _ _ _ ‹_› ob r h
  · exact tcall_ok he o _ ‹_› ob r h hob
  · cases h
/-- ALL OF THEM, symbolic ones too -/
theorem light_ok (he : EvOk φ ev ρ) (o : Oper) (r : LRes) (h : light P ev o.op = some r) : LSpec φ (fun w => (execOp ρ o).run P w) r := by
  unfold light at h
  obtain ⟨ob, h1, h2⟩ := got_some h
  unfold lightP at h1
  split at h1
  · cases h1; exact light0_ok he o r ‹_›
  · split at h1
    · cases h1; exact sym_ok he o ob r ‹_› h2
    · exact tabs_ok he o ob r h1 h2
end
end Go.Proofs.Ytcofcojjofkgcaa.Abs
