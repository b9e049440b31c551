/- The check tells two rows apart that differ within 32 bits: the register is linear, and loses nothing. By an AI agent. -/
import Derived.Test.YtlnfolgmjfcinaaCrc
namespace Go.Proofs.Ytlnfolgmjfcinaa.Crc
open Go.RowKit Go.Proofs.Ytlnfolgmjfcinaa.M
set_option linter.unusedVariables false

theorem xor_mod2 (x y : Nat) : (x ^^^ y) % 2 = (x % 2) ^^^ (y % 2) := by
  have := Nat.xor_mod_two_pow (a := x) (b := y) (n := 1)
  simpa using this
theorem xor_half (x y : Nat) : (x ^^^ y) / 2 = (x / 2) ^^^ (y / 2) := by
  have := Nat.xor_div_two_pow (a := x) (b := y) (n := 1)
  simpa using this
theorem step_eq (x : Nat) : step x = (x / 2) ^^^ (x % 2 * 3988292384) := by
  unfold step
  rcases Nat.mod_two_eq_zero_or_one x with h | h <;> simp [h]
theorem bit_mul (a b : Nat) (ha : a < 2) (hb : b < 2) (c : Nat) : (a ^^^ b) * c = (a * c) ^^^ (b * c) := by
  have h1 : a = 0 ∨ a = 1 := by omega
  have h2 : b = 0 ∨ b = 1 := by omega
  rcases h1 with rfl | rfl <;> rcases h2 with rfl | rfl <;> simp
theorem xor4 (a b c d : Nat) : (a ^^^ b) ^^^ (c ^^^ d) = (a ^^^ c) ^^^ (b ^^^ d) := by
  rw [Nat.xor_assoc, ← Nat.xor_assoc b c d, Nat.xor_comm b c, Nat.xor_assoc c b d, ← Nat.xor_assoc]
theorem step_xor (x y : Nat) : step (x ^^^ y) = step x ^^^ step y := by
  rw [step_eq, step_eq, step_eq, xor_half, xor_mod2, bit_mul _ _ (Nat.mod_lt _ (by omega)) (Nat.mod_lt _ (by omega)), xor4]
theorem steps_xor (x y : Nat) : ∀ k, steps k (x ^^^ y) = steps k x ^^^ steps k y
  | 0 => rfl
  | k + 1 => by show step (steps k (x ^^^ y)) = _; rw [steps_xor x y k, step_xor]; rfl
theorem step_zero {x : Nat} (hx : x < 4294967296) (h : step x = 0) : x = 0 := by
  unfold step at h
  split at h
  · have h2 : x / 2 ^^^ 3988292384 ^^^ 3988292384 = 0 ^^^ 3988292384 := by rw [h]
    rw [Nat.xor_assoc, Nat.xor_self, Nat.xor_zero, Nat.zero_xor] at h2
    omega
  · omega
theorem steps_zero {x : Nat} (hx : x < 4294967296) : ∀ k, steps k x = 0 → x = 0
  | 0, h => h
  | k + 1, h => steps_zero hx k (step_zero (steps_lt hx k) h)
theorem step_double (x : Nat) : step (x * 2) = x := by
  unfold step
  rw [if_neg (by omega)]
  omega
theorem steps_shift (x : Nat) : steps 8 (x * 256) = x := by
  have e : x * 256 = x * 2 * 2 * 2 * 2 * 2 * 2 * 2 * 2 := by omega
  rw [e]
  simp only [steps, step_double]
theorem one_xor (r e b d : Nat) : steps 8 ((r ^^^ e) ^^^ (b ^^^ d)) = steps 8 (r ^^^ b) ^^^ steps 8 (e ^^^ d) := by
  rw [xor4, steps_xor]
/-- four bytes that differ: the registers differ by the word of the differences, 32 steps on -/
theorem four (d0 d1 d2 d3 : Nat) : steps 8 (steps 8 (steps 8 (steps 8 d0 ^^^ d1) ^^^ d2) ^^^ d3) = steps 8 (steps 8 (steps 8 (steps 8 (d0 ^^^ d1 * 256 ^^^ d2 * 65536 ^^^ d3 * 16777216)))) := by
  have e1 : steps 8 (d1 * 256) = d1 := steps_shift d1
  have e2 : steps 8 (steps 8 (d2 * 65536)) = d2 := by rw [show d2 * 65536 = d2 * 256 * 256 from by omega, steps_shift, steps_shift]
  have e3 : steps 8 (steps 8 (steps 8 (d3 * 16777216))) = d3 := by rw [show d3 * 16777216 = d3 * 256 * 256 * 256 from by omega, steps_shift, steps_shift, steps_shift]
  simp only [steps_xor]
  rw [e1, e2, e3]
theorem mul_xor (a b k : Nat) : (a ^^^ b) * 2 ^ k = (a * 2 ^ k) ^^^ (b * 2 ^ k) := by
  rw [← Nat.shiftLeft_eq, ← Nat.shiftLeft_eq, ← Nat.shiftLeft_eq, Nat.shiftLeft_xor_distrib]
theorem word_zero {d0 d1 d2 d3 : Nat} (h0 : d0 < 256) (h1 : d1 < 256) (h2 : d2 < 256) (h3 : d3 < 256) (h : d0 ^^^ d1 * 256 ^^^ d2 * 65536 ^^^ d3 * 16777216 = 0) : d0 = 0 ∧ d1 = 0 ∧ d2 = 0 ∧ d3 = 0 := by
  have e : d0 ^^^ d1 * 256 ^^^ d2 * 65536 ^^^ d3 * 16777216 = d0 + 256 * (d1 + 256 * (d2 + 256 * d3)) := by
    have j1 : ∀ a b k : Nat, a < 2 ^ k → a ^^^ (b * 2 ^ k) = a + b * 2 ^ k := by
      intro a b k ha
      have h1 : (b * 2 ^ k) ||| a = b * 2 ^ k + a := nat_join k _ a (by simp) ha
      have h2 : a &&& (b * 2 ^ k) = 0 := by
        apply Nat.eq_of_testBit_eq
        intro i
        simp only [Nat.testBit_and, Nat.testBit_mul_two_pow, Nat.zero_testBit]
        by_cases hi : k ≤ i
        · have : a.testBit i = false := Nat.testBit_lt_two_pow (Nat.lt_of_lt_of_le ha (Nat.pow_le_pow_right (by omega) hi))
          simp [this]
        · simp [hi]
      have h3 : (a ^^^ (b * 2 ^ k)) = a ||| (b * 2 ^ k) := by
        apply Nat.eq_of_testBit_eq
        intro i
        have h4 := congrArg (fun z => z.testBit i) h2
        simp only [Nat.testBit_and, Nat.zero_testBit] at h4
        simp only [Nat.testBit_xor, Nat.testBit_or]
        revert h4
        cases a.testBit i <;> cases (b * 2 ^ k).testBit i <;> simp
      rw [h3, Nat.or_comm, h1, Nat.add_comm]
    rw [show (256 : Nat) = 2 ^ 8 from rfl, show (65536 : Nat) = 2 ^ 16 from rfl, show (16777216 : Nat) = 2 ^ 24 from rfl, j1 d0 d1 8 (by omega), j1 _ d2 16 (by omega), j1 _ d3 24 (by omega)]
    omega
  rw [e] at h
  omega

/-- the register behind what stands behind them -/
theorem fold_diff : ∀ (z : List UInt8) (r e : Nat), z.foldl one (r ^^^ e) = z.foldl one r ^^^ (z.foldl (fun e _ => steps 8 e) e)
  | [], r, e => rfl
  | b :: z, r, e => by
    simp only [List.foldl_cons]
    have : one (r ^^^ e) b = one r b ^^^ steps 8 e := by
      unfold one
      have := one_xor r e b.toNat 0
      simpa using this
    rw [this, fold_diff z]
theorem fold_nz : ∀ (z : List UInt8) (e : Nat), e < 4294967296 → z.foldl (fun e _ => steps 8 e) e = 0 → e = 0
  | [], e, _, h => h
  | b :: z, e, he, h => by
    simp only [List.foldl_cons] at h
    exact steps_zero he 8 (fold_nz z _ (steps_lt he 8) h)
theorem xor_self_eq (a b : Nat) (h : a = a ^^^ b) : b = 0 := by
  have h2 : a ^^^ a = a ^^^ (a ^^^ b) := by rw [← h]
  rw [Nat.xor_self, ← Nat.xor_assoc, Nat.xor_self, Nat.zero_xor] at h2
  exact h2.symm
theorem toNat_xor (b d : UInt8) : (b ^^^ d).toNat = b.toNat ^^^ d.toNat := UInt8.toNat_xor b d
/-- two rows that differ within four bytes one behind the other have one check only if they are one -/
theorem crc_differs (a z : List UInt8) (b0 b1 b2 b3 d0 d1 d2 d3 : UInt8) (h : crc (a ++ ([b0, b1, b2, b3] ++ z)) = crc (a ++ ([b0 ^^^ d0, b1 ^^^ d1, b2 ^^^ d2, b3 ^^^ d3] ++ z))) :
    d0 = 0 ∧ d1 = 0 ∧ d2 = 0 ∧ d3 = 0 := by
  have hr : reg (a ++ ([b0, b1, b2, b3] ++ z)) = reg (a ++ ([b0 ^^^ d0, b1 ^^^ d1, b2 ^^^ d2, b3 ^^^ d3] ++ z)) := by
    have h1 := reg_lt (a ++ ([b0, b1, b2, b3] ++ z))
    have h2 := reg_lt (a ++ ([b0 ^^^ d0, b1 ^^^ d1, b2 ^^^ d2, b3 ^^^ d3] ++ z))
    unfold crc at h
    omega
  unfold reg at hr
  simp only [List.foldl_append, List.foldl_cons, List.foldl_nil] at hr
  generalize hR : a.foldl one 4294967295 = r at hr
  have s1 : one r (b0 ^^^ d0) = one r b0 ^^^ steps 8 d0.toNat := by
    unfold one; rw [toNat_xor]
    have := one_xor r 0 b0.toNat d0.toNat
    simpa using this
  have s2 : ∀ r e (b d : UInt8), one (r ^^^ e) (b ^^^ d) = one r b ^^^ steps 8 (e ^^^ d.toNat) := by
    intro r e b d
    unfold one; rw [toNat_xor]; exact one_xor r e b.toNat d.toNat
  rw [s1, s2, s2, s2, fold_diff] at hr
  have hz := xor_self_eq _ _ hr
  have l0 := d0.toNat_lt
  have l1 := d1.toNat_lt
  have l2 := d2.toNat_lt
  have l3 := d3.toNat_lt
  rw [four] at hz
  have hW : d0.toNat ^^^ d1.toNat * 256 ^^^ d2.toNat * 65536 ^^^ d3.toNat * 16777216 < 4294967296 :=
    Nat.xor_lt_two_pow (n := 32) (Nat.xor_lt_two_pow (n := 32) (Nat.xor_lt_two_pow (n := 32) (by omega) (by omega)) (by omega)) (by omega)
  have hs := fold_nz z _ (steps_lt (steps_lt (steps_lt (steps_lt hW 8) 8) 8) 8) hz
  have h0 := steps_zero hW 8 (steps_zero (steps_lt hW 8) 8 (steps_zero (steps_lt (steps_lt hW 8) 8) 8 (steps_zero (steps_lt (steps_lt (steps_lt hW 8) 8) 8) 8 hs)))
  obtain ⟨k0, k1, k2, k3⟩ := word_zero l0 l1 l2 l3 h0
  exact ⟨UInt8.toNat_inj.1 k0, UInt8.toNat_inj.1 k1, UInt8.toNat_inj.1 k2, UInt8.toNat_inj.1 k3⟩
end Go.Proofs.Ytlnfolgmjfcinaa.Crc
