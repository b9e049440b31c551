/- seq: SeqMasks holds. By an AI agent. -/
import Derived.Test.YtghhdjhobidbcaaSqM
namespace Go.Proofs.Ytghhdjhobidbcaa.Sq
open Go Go.RowKit Go.Proofs.Ytghhdjhobidbcaa.Abs Go.Proofs.Ytghhdjhobidbcaa.M
set_option linter.unusedVariables false
set_option linter.unusedSimpArgs false

theorem told_at {a m : Int} {x : Nat} (h : (x : Int) < ((toldI a m 32).length : Int)) : ∃ j : Nat, j < 32 ∧ m.toNat.testBit j = true ∧ a + 1 + j ≤ 4294967295 ∧ (toldI a m 32).getD x 0 = a + 1 + j := told_mem.1 (getD_mem (by omega))
theorem el1 {a m : Int} {x : Nat} (h : (x : Int) < ((toldI a m 32).length : Int)) (h2 : (toldI a m 32).getD x 0 ≤ a) : False := by
  obtain ⟨j, h3, _, _, h4⟩ := told_at h
  omega
theorem el2 {a m z : Int} {x : Nat} (h : (x : Int) < ((toldI a m 32).length : Int)) (h2 : z = ((toldI a m 32).getD x 0 - a) % 4294967296) (h3 : 32 < z) : False := by
  obtain ⟨j, h5, _, _, h4⟩ := told_at h
  omega
theorem el3 {m : Int} (hm : 0 ≤ m) (k : Nat) : 0 ≤ m / 2 ^ k := Int.ediv_nonneg hm (Int.le_of_lt (Int.pow_pos (by decide)))
theorem div_nat {m : Int} (hm : 0 ≤ m) (k : Nat) : (m / 2 ^ k).toNat = m.toNat / 2 ^ k := by
  obtain ⟨n, rfl⟩ := Int.eq_ofNat_of_zero_le hm
  have : ((2 : Int) ^ k) = ((2 ^ k : Nat) : Int) := by simp
  rw [this]
  rfl
theorem el4 {a m z w : Int} {x : Nat} (hm : 0 ≤ m ∧ m ≤ 4294967295) (h : (x : Int) < ((toldI a m 32).length : Int)) (h2 : z = ((toldI a m 32).getD x 0 - a) % 4294967296) (h3 : w = (z - 1) % 4294967296) (h4 : (((m / 2 ^ w.toNat).toNat &&& 1 : Nat) : Int) = 0) : False := by
  obtain ⟨j, h5, h6, _, h7⟩ := told_at h
  have hw : w.toNat = j := by omega
  rw [div_nat hm.1, hw, Nat.and_one_is_mod] at h4
  rw [Nat.testBit_eq_decide_div_mod_eq] at h6
  have := of_decide_eq_true h6
  omega
theorem ex_succ {p : Nat → Prop} {k : Nat} {z : Int} (h : z = (k : Int) + 1) (hp : p (k + 1)) : ExT Nat p := ⟨_, hp⟩
theorem told_in {a m z : Int} {k : Nat} (ha : 0 ≤ a ∧ a ≤ 4294967295) (hk : k ≤ 32 ∧ a + k ≤ 4294967295) (hk2 : (k : Int) < 32) (hz : z = (a + k + 1) % 4294967296) (h0 : ¬ z = 0) (hb : ((m.toNat &&& ((1 : Int) * (2 : Int) ^ k % 4294967296).toNat : Nat) : Int) ≠ 0) : toldI a m (k + 1) = toldI a m k ++ [z] := by
  have hb := (bit_iff (by omega)).1 hb
  simp only [toldI]
  rw [if_pos ⟨hb, by omega⟩, show a + 1 + (k : Int) = z by omega]
theorem told_out {a m : Int} {k : Nat} (hk2 : (k : Int) < 32) (hb : ¬ ((m.toNat &&& ((1 : Int) * (2 : Int) ^ k % 4294967296).toNat : Nat) : Int) ≠ 0) : toldI a m (k + 1) = toldI a m k := by
  simp only [toldI]
  rw [if_neg (fun h => hb ((bit_iff (by omega)).2 h.1)), List.append_nil]
theorem mask_in {h : Int → Bool} {a z : Int} {k : Nat} (ha : 0 ≤ a ∧ a ≤ 4294967295) (hk : k ≤ 32 ∧ a + k ≤ 4294967295) (hk2 : (k : Int) < 32) (hz : z = (a + k + 1) % 4294967296) (h0 : ¬ z = 0) (hb : h z = true) : maskI h a (k + 1) = ((Int.toNat (maskI h a k) ||| ((1 : Int) * (2 : Int) ^ k % 4294967296).toNat : Nat) : Int) := by
  rw [mask_or (by omega)]
  have e : a + 1 + (k : Int) = z := by omega
  simp only [maskI]
  rw [if_pos ⟨by rw [e]; exact hb, by omega⟩]
theorem mask_out {h : Int → Bool} {a z : Int} {k : Nat} (ha : 0 ≤ a ∧ a ≤ 4294967295) (hk : k ≤ 32 ∧ a + k ≤ 4294967295) (hz : z = (a + k + 1) % 4294967296) (h0 : ¬ z = 0) (hb : ¬ h z = true) : maskI h a (k + 1) = maskI h a k := by
  have e : a + 1 + (k : Int) = z := by omega
  simp only [maskI]
  rw [if_neg (fun hh => hb (by rw [← e]; exact hh.1))]
theorem isIn_iff {T : List Int} {z : Int} : isIn T z = true ↔ z ∈ T := decide_eq_true_iff
theorem yes_low {a m z : Int} (hm : 0 ≤ m ∧ m ≤ 4294967295) (ha : 0 ≤ a ∧ a ≤ 4294967295) (h1 : z = (4294967295 - a) % 4294967296) (h2 : z < 32) : (maskI yes a 32).toNat &&& (m.toNat &&& (2 ^ z.toNat - 1)) = m.toNat &&& (2 ^ z.toNat - 1) := by
  refine yes_bit fun j hj => ?_
  rw [Nat.testBit_and, Nat.testBit_two_pow_sub_one, Bool.and_eq_true] at hj
  have := of_decide_eq_true hj.2
  omega
theorem yes_all {a m z : Int} (hm : 0 ≤ m ∧ m ≤ 4294967295) (ha : 0 ≤ a ∧ a ≤ 4294967295) (h1 : z = (4294967295 - a) % 4294967296) (h2 : ¬ z < 32) : (maskI yes a 32).toNat &&& m.toNat = m.toNat := by
  refine yes_bit fun j hj => ?_
  have : j < 32 := by
    refine Nat.lt_of_not_le fun hle => ?_
    rw [Nat.testBit_lt_two_pow] at hj
    · cases hj
    · have h3 : (2 : Nat) ^ 32 ≤ 2 ^ j := Nat.pow_le_pow_right (by decide) hle
      omega
  omega
theorem ex_zero {p : Nat → Prop} (hp : p 0) : ExT Nat p := ⟨_, hp⟩
theorem told_zero (a m : Int) : toldI a m 0 = [] := rfl
theorem told_zero_len (a m : Int) : (toldI a m 0).length = 0 := rfl
theorem told_same_len {a m : Int} {k : Nat} (hk : k ≤ 32) (h : k = 32 ∨ 4294967295 ≤ a + k) : (toldI a m 32).length = (toldI a m k).length := congrArg List.length (told_same hk h)
theorem mask_zero (h : Int → Bool) (a : Int) : maskI h a 0 = 0 := rfl
set_option maxHeartbeats 8000000 in
theorem masfS_ok {a m : Int} (ha : 0 ≤ a ∧ a ≤ 4294967295) (hm : 0 ≤ m ∧ m ≤ 4294967295) : masfS a m := by
  have hL := told_len a m 32
  unfold masfS
  simp only [Int.toNat_natCast, Atom.zOf, Atom.zsOf, List.drop_zero, List.take_length, Nat.zero_add, Nat.mul_one]
  repeat' (first
    | (with_reducible refine And.intro ?_ ?_)
    | (intro (h : false = true); cases h)
    | (intro (h : true = false); cases h)
    | (intro h; first | (replace h := of_decide_eq_true h) | (replace h := of_decide_eq_false h) | skip)
    | (with_reducible exact trivial)
    | (with_reducible rfl)
    | (with_reducible exact ⟨(), trivial, trivial, trivial, trivial⟩)
    | (with_reducible refine told_same ?_ ?_)
    | (with_reducible refine told_same_len ?_ ?_)
    | (with_reducible refine mask_same ?_ ?_)
    | (with_reducible exact (mask_bound _ _ _).1)
    | (with_reducible exact told_sorted _ _ _ _ h)
    | (with_reducible exact Nat.le_trans (told_len _ _ _) (by omega))
    | (with_reducible exact el3 hm.1 _)
    | (with_reducible exact el4 hm (by assumption) (by assumption) (by assumption) h)
    | (with_reducible refine ex_succ h ?_)
    | (with_reducible refine ex_zero ?_)
    | (with_reducible exact told_zero _ _)
    | (with_reducible exact told_zero_len _ _)
    | (with_reducible exact mask_zero _ _)
    | (simp only [mask_zero, in_u32]; omega)
    | (with_reducible exact absurd (mask_no _ _) h)
    | omega
    | (with_reducible refine decide_eq_true ?_; omega)
    | (with_reducible refine decide_eq_false ?_; omega)
    | (simp only [in_u8, in_u16, in_u32, in_u64, in_i64, Nat.le_eq]; omega)
    | (exfalso; omega))
  · rename_i k h1 h2 z h3 h4 h5
    have := told_len a m k
    omega
  · simp
  · rename_i k h1 h2 z h3 h4 h5 h6 l h7 y
    rw [told_in ha h1 h2 h3 h4 h5, List.length_append]; rfl
  · rename_i k h1 h2 z h3 h4 h5 h6 l h7 y
    rw [told_in ha h1 h2 h3 h4 h5, List.length_append]; rfl
  · rename_i k h1 h2 z h3 h4 h5 h6 l h7 y
    rw [told_in ha h1 h2 h3 h4 h5, h7]; rfl
  · rename_i k h1 h2 z h3 h4 h5 y
    rw [told_out h2 h5]
  · rename_i k h1 h2 z h3 h4 h5 y
    rw [told_out h2 h5]
  · rename_i k h1 h2 z h3 h4 h5 y
    rw [told_out h2 h5]
  · rename_i k h1 h2 z h3 h4 h5 z2 h6 y
    rw [mask_in ha h1 h2 h3 h4 (isIn_iff.2 h5), h6]
  · rename_i k h1 h2 z h3 h4 h5 y
    exact mask_out ha h1 h3 h4 fun hh => h5 (isIn_iff.1 hh)
  · rename_i z h1 h2 z2 h3
    apply h
    rw [mask_some hm ha (by omega), h3, low_pow (by omega), show z.toNat = (4294967295 - a).toNat by omega]
  · exact told_sorted a m 32 _ h
  · rename_i h1
    exact el1 h1 h
  · rename_i h1 h2 z h3
    exact el2 h1 h3 h
  · rename_i k h1 h2 z h3 h4 z2 h6 y
    rw [mask_in ha h1 h2 h3 h4 rfl, h6]
  · rename_i k h1 h2 z h3 h4 y
    exact mask_out ha h1 h3 h4 (by simp [no])
  · rename_i z h1 h2 z2 h3 h4 h5 h6
    apply h
    rw [h3, low_pow (by omega), yes_low hm ha h1 h2]
  · rename_i z h1 h2
    exact h (mask_all hm (by omega))
  · exact told_sorted a m 32 _ h
  · rename_i h1
    exact el1 h1 h
  · rename_i h1 h2 z h3
    exact el2 h1 h3 h
  · rename_i k h1 h2 z h3 h4 z2 h6 y
    rw [mask_in ha h1 h2 h3 h4 rfl, h6]
  · rename_i k h1 h2 z h3 h4 y
    exact mask_out ha h1 h3 h4 (by simp [no])
  · rename_i z h1 h2 h4 h5 h6
    apply h
    rw [yes_all hm ha h1 h2]
    omega
theorem sqHooks_ok {w0 : World} {RO : PT AObj} : HooksOk Try.prog w0 RO (sqHooks RO) := hkAdd_ok (trueH_ok ⟨_, rfl, rfl, by kernel_rfl⟩ fun w _ => wakes_any w) (hkAdd_ok conH_ok (hkAdd_ok sorH_ok (hkAdd_ok equH_ok hkNone_ok)))
theorem masks_law (W : World) (v0 v1 : Value) (w0 : Open.InNat .u32 4294967296 v0) (w1 : Open.InNat .u32 4294967296 v1) : Calls Try.prog MASKS #[v0, v1] W fun e w' => e = .returned (.bool true) ∧ Below W.heap.size W w' := by
  obtain ⟨a, rfl, ha⟩ := w0
  obtain ⟨m, rfl, hm⟩ := w1
  have hin : InAs W 0 [.one (.int .u32), .one (.int .u32)] [.z (a : Int), .z (m : Int)] [.int .u32 (a : Int), .int .u32 (m : Int)] :=
    .one _ _ _ _ _ _ _ (inB_int (by rw [in_u32]; omega)) (.one _ _ _ _ _ _ _ (inB_int (by rw [in_u32]; omega)) (.nil _))
  refine law_run (t := 0) (by decide) hin fun caps φs h hf hro hus => ?_
  exact nest_run follows named sqHooks_ok (rolow_of (entries := []) rfl) ((masf_eq (a : Int) (m : Int)).mpr (masf_of _ _ (masfS_ok (by omega) (by omega)))) hf hro hus
end Go.Proofs.Ytghhdjhobidbcaa.Sq
