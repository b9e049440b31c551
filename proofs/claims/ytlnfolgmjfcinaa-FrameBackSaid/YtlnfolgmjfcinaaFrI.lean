/- Frames that are signed alike are the same. By an AI agent. -/
import Derived.Test.YtlnfolgmjfcinaaFrM
namespace Go.Proofs.Ytlnfolgmjfcinaa.Fr
open Go Go.RowKit Go.Proofs.Ytlnfolgmjfcinaa.Abs Go.Proofs.Ytlnfolgmjfcinaa.M
set_option linter.unusedVariables false
theorem u8_inj {x y : Int} (hx : 0 ≤ x ∧ x < 256) (hy : 0 ≤ y ∧ y < 256) (h : u8 x = u8 y) : x = y := by
  unfold u8 at h
  have := congrArg UInt8.toNat h
  rw [UInt8.toNat_ofNat', UInt8.toNat_ofNat'] at this
  omega
theorem be4_inj {x y : Int} (hx : 0 ≤ x ∧ x ≤ 4294967295) (hy : 0 ≤ y ∧ y ≤ 4294967295) (h : be4 x = be4 y) : x = y := by
  unfold be4 at h
  simp only [List.cons.injEq, and_true] at h
  obtain ⟨h1, h2, h3, h4⟩ := h
  have h1 := u8_inj (by omega) (by omega) h1
  have h2 := u8_inj (by omega) (by omega) h2
  have h3 := u8_inj (by omega) (by omega) h3
  have h4 := u8_inj (by omega) (by omega) h4
  omega
theorem be8_inj {x y : Int} (hx : 0 ≤ x ∧ x ≤ 18446744073709551615) (hy : 0 ≤ y ∧ y ≤ 18446744073709551615) (h : be8 x = be8 y) : x = y := by
  unfold be8 at h
  obtain ⟨h1, h2⟩ := List.append_inj h rfl
  have h1 := be4_inj (by omega) (by omega) h1
  have h2 := be4_inj (by omega) (by omega) h2
  omega
theorem sgn_inj {k s e n a m : Int} {P : List UInt8} {k' s' e' n' a' m' : Int} {Q : List UInt8} (hk : 0 ≤ k ∧ k ≤ 255) (hs : 0 ≤ s ∧ s ≤ 4294967295) (he : 0 ≤ e ∧ e ≤ 4294967295) (hn : 0 ≤ n ∧ n ≤ 4294967295) (ha : 0 ≤ a ∧ a ≤ 4294967295) (hm : 0 ≤ m ∧ m ≤ 4294967295)
    (hk' : 0 ≤ k' ∧ k' ≤ 255) (hs' : 0 ≤ s' ∧ s' ≤ 4294967295) (he' : 0 ≤ e' ∧ e' ≤ 4294967295) (hn' : 0 ≤ n' ∧ n' ≤ 4294967295) (ha' : 0 ≤ a' ∧ a' ≤ 4294967295) (hm' : 0 ≤ m' ∧ m' ≤ 4294967295) :
    decide (sgn k s e n a m P = sgn k' s' e' n' a' m' Q) = sameB k s e n a m P k' s' e' n' a' m' Q := by
  rw [Bool.eq_iff_iff]
  unfold sameB
  simp only [Bool.and_eq_true, decide_eq_true_eq]
  constructor
  · intro h
    unfold sgn at h
    rw [List.cons.injEq] at h
    obtain ⟨h0, h⟩ := h
    obtain ⟨h1, h⟩ := List.append_inj h rfl
    obtain ⟨h2, h⟩ := List.append_inj h rfl
    obtain ⟨h3, h⟩ := List.append_inj h rfl
    obtain ⟨h4, h⟩ := List.append_inj h rfl
    obtain ⟨h5, h⟩ := List.append_inj h rfl
    obtain ⟨_, h7⟩ := List.append_inj h rfl
    exact ⟨u8_inj (by omega) (by omega) h0, be4_inj hs hs' h1, be4_inj he he' h2, be4_inj hn hn' h3, be4_inj ha ha' h4, be4_inj hm hm' h5, h7⟩
  · rintro ⟨rfl, rfl, rfl, rfl, rfl, rfl, rfl⟩
    rfl
theorem enc_tag {k s e n a m : Int} {P : List UInt8} {t u : Int} (ht : 0 ≤ t ∧ t ≤ 18446744073709551615) (hu : 0 ≤ u ∧ u ≤ 18446744073709551615) : decide (enc k s e n a m P t = enc k s e n a m P u) = decide (t = u) := by
  rw [Bool.eq_iff_iff]
  simp only [decide_eq_true_eq]
  constructor
  · intro h
    unfold enc at h
    obtain ⟨h1, _⟩ := List.append_inj h (by rw [tagd_length, tagd_length])
    unfold tagd at h1
    obtain ⟨_, h2⟩ := List.append_inj h1 rfl
    exact be8_inj ht hu h2
  · rintro rfl; rfl
theorem enc_front (k s e n a m : Int) (P : List UInt8) (t : Int) : List.take (sgn k s e n a m P).length (enc k s e n a m P t) = sgn k s e n a m P := by
  unfold enc tagd
  rw [List.append_assoc, List.take_left']
  rfl
end Go.Proofs.Ytlnfolgmjfcinaa.Fr
