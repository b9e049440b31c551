/- There and back: what is read of what was laid; plain facts on lists. By an AI agent. -/
import Derived.Test.YtbpkpkellnldmaaIs
import Derived.Test.YtbpkpkellnldmaaLaysW
namespace Go.Proofs.Ytbpkpkellnldmaa.Is
open Go.RowKit Go.Proofs.Ytbpkpkellnldmaa.M Go.Proofs.Ytbpkpkellnldmaa.Pc Go.Proofs.Ytbpkpkellnldmaa.Rd Go.Proofs.Ytbpkpkellnldmaa.Wr Go.Proofs.Ytbpkpkellnldmaa.Walks
set_option linter.unusedVariables false

theorem numOf_be : ∀ (m n : Nat), numOf (be m n) = n % 256 ^ m
  | 0, n => by simp [be, numOf, Nat.mod_one]
  | m + 1, n => by
    unfold be
    rw [numOf_snoc, numOf_be m (n / 256), UInt8.toNat_ofNat']
    have h : n % 256 ^ (m + 1) = n % 256 + 256 * (n / 256 % 256 ^ m) := by rw [Nat.pow_succ, Nat.mul_comm, Nat.mod_mul]
    rw [h]
    omega
theorem next_app (x r : List UInt8) : nextOf (x ++ r) false x.length = (x, r, false) := by simp [nextOf]
theorem next_app' {x r : List UInt8} {n : Nat} (h : x.length = n) : nextOf (x ++ r) false n = (x, r, false) := by subst h; exact next_app x r
theorem text_app (t r : List UInt8) (ht : t.length ≤ 65535) : textOf (be2 t.length ++ t ++ r) false = (t, r, false) := by
  unfold textOf
  rw [List.append_assoc, next_app' (x := be2 t.length) (n := 2) rfl]
  simp only []
  rw [be2_eq, numOf_be, Nat.mod_eq_of_lt (by omega)]
  exact next_app t r
theorem toList_eq (s : ByteArray) : s.toList = s.data.toList := Lib.toList_data s
/-- what was laid is read as it was -/
theorem read_whole (p : P) (r : List UInt8) (hp : p.Ok) (ht : p.text.size ≤ 65535) : (readOf p (formOf p ++ r) false).2 = (r, false) ∧ sameOf p (readOf p (formOf p ++ r) false).1 = true := by
  obtain ⟨p1, p2, p3, p4⟩ := hp
  have hs : p.text.data.toList.length = p.text.size := toList_size p.text
  unfold readOf sameOf formOf
  by_cases h1 : p.what = 1
  · simp only [if_pos h1]; rw [next_app' (be_length 1 _)]; simp [numOf_be]
  by_cases h2 : p.what = 2
  · simp only [if_neg h1, if_pos h2]; rw [next_app' (be_length 2 _)]; simp [numOf_be]
  by_cases h3 : p.what = 3
  · simp only [if_neg h1, if_neg h2, if_pos h3]; rw [next_app' (be_length 4 _)]; simp [numOf_be]
  by_cases h4 : p.what = 4
  · simp only [if_neg h1, if_neg h2, if_neg h3, if_pos h4]; rw [next_app' (be_length 8 _)]; simp [numOf_be]; omega
  by_cases h5 : p.what = 5
  · simp only [if_neg h1, if_neg h2, if_neg h3, if_neg h4, if_pos h5]
    rw [← hs, text_app _ _ (by omega), toList_eq]
    simp
  · simp only [if_neg h1, if_neg h2, if_neg h3, if_neg h4, if_neg h5]
    rw [next_app' hs, toList_eq]
    simp
theorem next_short (l : List UInt8) (s : Bool) (n : Nat) (h : l.length < n) : nextOf l s n = ([], [], true) := by unfold nextOf; rw [if_neg (by omega)]
theorem next_none (n : Nat) : nextOf [] true n = ([], [], true) := by unfold nextOf; split <;> simp
/-- who is short stays so -/
theorem read_short (p : P) : (readOf p [] true).2 = ([], true) := by
  unfold readOf textOf
  repeat' split
  all_goals simp [next_none]
/-- what the cut goes through is short -/
theorem read_cut (p : P) (n : Nat) (hp : p.Ok) (ht : p.text.size ≤ 65535) (hn : n < (formOf p).length) : (readOf p ((formOf p).take n) false).2 = ([], true) := by
  have hs : p.text.data.toList.length = p.text.size := toList_size p.text
  have hl : ((formOf p).take n).length = n := by rw [List.length_take]; omega
  unfold readOf
  by_cases h1 : p.what = 1
  · have e : formOf p = be 1 p.n := by unfold formOf; rw [if_pos h1]
    rw [if_pos h1, next_short _ _ _ (by rw [hl]; rw [e, be_length] at hn; exact hn)]
  by_cases h2 : p.what = 2
  · have e : formOf p = be 2 p.n := by unfold formOf; rw [if_neg h1, if_pos h2]
    rw [if_neg h1, if_pos h2, next_short _ _ _ (by rw [hl]; rw [e, be_length] at hn; exact hn)]
  by_cases h3 : p.what = 3
  · have e : formOf p = be 4 p.n := by unfold formOf; rw [if_neg h1, if_neg h2, if_pos h3]
    rw [if_neg h1, if_neg h2, if_pos h3, next_short _ _ _ (by rw [hl]; rw [e, be_length] at hn; exact hn)]
  by_cases h4 : p.what = 4
  · have e : formOf p = be 8 p.n := by unfold formOf; rw [if_neg h1, if_neg h2, if_neg h3, if_pos h4]
    rw [if_neg h1, if_neg h2, if_neg h3, if_pos h4, next_short _ _ _ (by rw [hl]; rw [e, be_length] at hn; exact hn)]
  by_cases h5 : p.what = 5
  · have e : formOf p = be2 p.text.size ++ p.text.data.toList := by unfold formOf; rw [if_neg h1, if_neg h2, if_neg h3, if_neg h4, if_pos h5]
    rw [if_neg h1, if_neg h2, if_neg h3, if_neg h4, if_pos h5]
    rw [e] at hn hl ⊢
    rw [List.length_append, be2_length, hs] at hn
    unfold textOf
    by_cases h6 : n < 2
    · rw [next_short _ false 2 (by rw [hl]; exact h6)]
      simp [next_none]
    · obtain ⟨m, rfl⟩ : ∃ m, n = 2 + m := ⟨n - 2, by omega⟩
      have e2 : (be2 p.text.size ++ p.text.data.toList).take (2 + m) = be2 p.text.size ++ p.text.data.toList.take m := by
        rw [List.take_append, be2_length, List.take_of_length_le (by rw [be2_length]; omega)]
        congr 2; omega
      rw [e2, next_app' (x := be2 p.text.size) (n := 2) rfl]
      simp only []
      rw [be2_eq, numOf_be, Nat.mod_eq_of_lt (by omega), next_short _ _ _ (by rw [List.length_take]; omega)]
  · have e : formOf p = p.text.data.toList := by unfold formOf; rw [if_neg h1, if_neg h2, if_neg h3, if_neg h4, if_neg h5]
    rw [if_neg h1, if_neg h2, if_neg h3, if_neg h4, if_neg h5, next_short _ _ _ (by rw [hl]; rw [e, hs] at hn; exact hn)]
end Go.Proofs.Ytbpkpkellnldmaa.Is
