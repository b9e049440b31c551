/- 'form' and 'lay', whatever the piece. By an AI agent. -/
import Derived.Test.YtbpkpkellnldmaaText
namespace Go.Proofs.Ytbpkpkellnldmaa.Pc
open Go.RowKit Go.Proofs.Ytbpkpkellnldmaa.M Go.Proofs.Ytbpkpkellnldmaa.Wr
set_option linter.unusedVariables false

set_option maxHeartbeats 1600000 in
theorem form_5 (n : Nat) (t : ByteArray) (w : World) (ht : t.size ≤ 65535) :
    Calls Try.prog 11 #[.agg #[.int .i64 5, .int .u64 (n : Int), .string t]] w fun e w' => ∃ v, e = .returned v ∧ Byts w' (fun k => w.heap.size ≤ k ∧ k < w'.heap.size) v (be2 t.size ++ t.data.toList) ∧ Below w.heap.size w w' := by
  go_enter Try.func11, Try.ntmps11
  go_wp2_with fail
  have hz0 : (w.alloc (.cells #[.int .i64 5, .int .u64 (n : Int), .string t] 31)).heap.size = w.heap.size + 1 := by simp
  have hb0 : Below w.heap.size w (w.alloc (.cells #[.int .i64 5, .int .u64 (n : Int), .string t] 31)) := (Below.refl _ _).alloc (Nat.le_refl _) _
  generalize w.alloc (.cells #[.int .i64 5, .int .u64 (n : Int), .string t] 31) = wa at *
  refine (refText_any t wa ht).mono ?_
  rintro e w1 ⟨v, rfl, hown, hbel⟩
  go_wp2
  go_ret
  refine ⟨_, rfl, (ownsRow_byts hown).sub (fun i hi => ⟨?_, hi.2⟩), hb0.trans (hbel.mono (by omega))⟩
  have h1 : wa.heap.size ≤ i := hi.1
  omega

set_option maxHeartbeats 1600000 in
theorem form_0 (q : Int) (n : Nat) (t : ByteArray) (w : World) (hq1 : -9223372036854775808 ≤ q) (hq2 : q ≤ 9223372036854775807) (h1 : (q == 1) = false) (h2 : (q == 2) = false) (h3 : (q == 3) = false) (h4 : (q == 4) = false) (h5 : (q == 5) = false) (ht : t.size ≤ 65535) :
    Calls Try.prog 11 #[.agg #[.int .i64 q, .int .u64 (n : Int), .string t]] w fun e w' => ∃ v, e = .returned v ∧ Byts w' (fun k => w.heap.size ≤ k ∧ k < w'.heap.size) v t.data.toList ∧ Below w.heap.size w w' := by
  obtain ⟨c, w2, hrun, hB, hbel, hz⟩ := conv_bytes (w.alloc (.cells #[.int .i64 q, .int .u64 (n : Int), .string t] 31)) _ _ _ t Try.underlying9 Try.underlying27 Try.underlying5 (by unfold maxLen; omega)
  go_enter Try.func11, Try.ntmps11
  go_wp2
  go_ret
  have e0 : (w.alloc (.cells #[.int .i64 q, .int .u64 (n : Int), .string t] 31)).heap.size = w.heap.size + 1 := by simp
  rw [e0] at hB hz
  refine ⟨_, rfl, hB.sub (by rintro i rfl; exact ⟨by omega, by omega⟩), ((Below.refl _ _).alloc (Nat.le_refl _) _).trans (hbel.mono (by simp))⟩

theorem beqf {q k : Int} (h : ¬ q = k) : (q == k) = false := by simpa using h
theorem form_any (p : P) (w : World) (hp : p.Ok) (ht : p.text.size ≤ 65535) :
    Calls Try.prog 11 #[.agg #[.int .i64 p.what, .int .u64 (p.n : Int), .string p.text]] w fun e w' => ∃ v, e = .returned v ∧ Byts w' (fun k => w.heap.size ≤ k ∧ k < w'.heap.size) v (formOf p) ∧ Below w.heap.size w w' := by
  obtain ⟨p1, p2, p3, p4⟩ := hp
  unfold formOf
  by_cases h1 : p.what = 1
  · rw [if_pos h1, h1]; exact form_1 _ _ _ p3
  by_cases h2 : p.what = 2
  · rw [if_neg h1, if_pos h2, h2]; exact form_2 _ _ _ p3
  by_cases h3 : p.what = 3
  · rw [if_neg h1, if_neg h2, if_pos h3, h3]; exact form_3 _ _ _ p3
  by_cases h4 : p.what = 4
  · rw [if_neg h1, if_neg h2, if_neg h3, if_pos h4, h4]; exact form_4 _ _ _ p3
  by_cases h5 : p.what = 5
  · rw [if_neg h1, if_neg h2, if_neg h3, if_neg h4, if_pos h5, h5]; exact form_5 _ _ _ ht
  · rw [if_neg h1, if_neg h2, if_neg h3, if_neg h4, if_neg h5]
    exact form_0 _ _ _ _ p1 p2 (beqf h1) (beqf h2) (beqf h3) (beqf h4) (beqf h5) ht

theorem be1_eq (n : Nat) : be 1 n = [UInt8.ofNat n] := rfl
theorem be4_eq (n : Nat) : be4 n = be 4 n := by
  simp [be4, be, Nat.div_div_eq_div_mul]
theorem be8_eq (n : Nat) : be8 n = be 8 n := by
  simp only [be8, be4, be, Nat.div_div_eq_div_mul, List.nil_append, List.cons_append, List.cons.injEq, and_true]
  have h : ∀ a b : Nat, a % 256 = b % 256 → UInt8.ofNat a = UInt8.ofNat b := fun a b h => by
    apply UInt8.toNat_inj.1; simp [UInt8.toNat_ofNat', h]
  repeat' (first | trivial | (refine h _ _ ?_; omega) | apply And.intro)

theorem ofNat_mod (a b : Nat) (h : a % 256 = b % 256) : UInt8.ofNat a = UInt8.ofNat b := by
  apply UInt8.toNat_inj.1; simp [UInt8.toNat_ofNat', h]
theorem be_mod : ∀ (m n k : Nat), k = 256 ^ m → be m (n % k) = be m n
  | 0, _, _, _ => rfl
  | m + 1, n, k, h => by
    unfold be
    have e : n % k / 256 = n / 256 % 256 ^ m := by rw [h, Nat.pow_succ, Nat.mul_comm, Nat.mod_mul_right_div_self]
    have e2 : n % k % 256 = n % 256 := by rw [h, Nat.pow_succ]; exact Nat.mod_mul_left_mod _ _ _
    rw [e, be_mod m _ _ rfl, ofNat_mod _ _ e2]

section
variable (b : Nat) (X : Nat → Prop) (l : List UInt8) (n : Nat) (t : ByteArray) (w : World)
def LayPost (b : Nat) (X : Nat → Prop) (l x : List UInt8) (w : World) (e : Ending) (w' : World) : Prop := e = .returned (.pointer (some ⟨b, 0, none⟩)) ∧ IsW w' b X (l ++ x) ∧ w.grownBy w' (some b)
set_option maxHeartbeats 1600000 in
theorem lay_1 (hX : ∀ k, w.heap.size ≤ k → ¬ X k) (hw : IsW w b X l) (hn : n < 18446744073709551616) (hl : l.length ≤ 1000000) :
    Calls Try.prog 10 #[.pointer (some ⟨b, 0, none⟩), .agg #[.int .i64 1, .int .u64 (n : Int), .string t]] w (LayPost b X l (be 1 n) w) := by
  go_enter Try.func10, Try.ntmps10
  go_wp2_with fail
  refine (byte_any b X l (be 1 n) _ _ _ (xAlloc (xAlloc hX _) _) ((hw.alloc _).alloc _) (byts_new_at _ _ (by simp) _ _ (be 1 n) _ (by simp [be, maxLen]) ?_) (by simp [be]; omega)).mono ?_
  · simp [be, UInt8.toNat_ofNat']
  rintro e w1 ⟨rfl, h1, h2⟩
  go_wp2
  go_ret
  exact ⟨rfl, h1, grown_alloc_left (grown_alloc_left h2)⟩
set_option maxHeartbeats 1600000 in
theorem lay_2 (hX : ∀ k, w.heap.size ≤ k → ¬ X k) (hw : IsW w b X l) (hn : n < 18446744073709551616) (hl : l.length ≤ 1000000) :
    Calls Try.prog 10 #[.pointer (some ⟨b, 0, none⟩), .agg #[.int .i64 2, .int .u64 (n : Int), .string t]] w (LayPost b X l (be 2 n) w) := by
  go_enter Try.func10, Try.ntmps10
  go_wp2_with fail
  rw [IntKind.wrap_u16, show ((n : Int) % 65536) = ((n % 65536 : Nat) : Int) from by omega]
  refine (two_any b X l _ _ (xAlloc hX _) (hw.alloc _) (by omega) (by omega)).mono ?_
  rintro e w1 ⟨rfl, h1, h2⟩
  go_wp2
  go_ret
  refine ⟨rfl, ?_, grown_alloc_left h2⟩
  rw [be2_eq] at h1
  have e : be 2 (n % 65536) = be 2 n := be_mod 2 n 65536 (by decide)
  rwa [e] at h1
set_option maxHeartbeats 1600000 in
theorem lay_3 (hX : ∀ k, w.heap.size ≤ k → ¬ X k) (hw : IsW w b X l) (hn : n < 18446744073709551616) (hl : l.length ≤ 1000000) :
    Calls Try.prog 10 #[.pointer (some ⟨b, 0, none⟩), .agg #[.int .i64 3, .int .u64 (n : Int), .string t]] w (LayPost b X l (be 4 n) w) := by
  go_enter Try.func10, Try.ntmps10
  go_wp2_with fail
  rw [show ((n : Int) % 4294967296) = ((n % 4294967296 : Nat) : Int) from by omega]
  refine (four_any b X l _ _ (xAlloc hX _) (hw.alloc _) (by omega) (by omega)).mono ?_
  rintro e w1 ⟨rfl, h1, h2⟩
  go_wp2
  go_ret
  refine ⟨rfl, ?_, grown_alloc_left h2⟩
  rw [be4_eq] at h1
  have e : be 4 (n % 4294967296) = be 4 n := be_mod 4 n 4294967296 (by decide)
  rwa [e] at h1
set_option maxHeartbeats 1600000 in
theorem lay_4 (hX : ∀ k, w.heap.size ≤ k → ¬ X k) (hw : IsW w b X l) (hn : n < 18446744073709551616) (hl : l.length ≤ 1000000) :
    Calls Try.prog 10 #[.pointer (some ⟨b, 0, none⟩), .agg #[.int .i64 4, .int .u64 (n : Int), .string t]] w (LayPost b X l (be 8 n) w) := by
  go_enter Try.func10, Try.ntmps10
  go_wp2_with fail
  refine (eight_any b X l _ _ (xAlloc hX _) (hw.alloc _) hn (by omega)).mono ?_
  rintro e w1 ⟨rfl, h1, h2⟩
  go_wp2
  go_ret
  refine ⟨rfl, ?_, grown_alloc_left h2⟩
  rwa [be8_eq] at h1
set_option maxHeartbeats 1600000 in
theorem lay_5 (hX : ∀ k, w.heap.size ≤ k → ¬ X k) (hw : IsW w b X l) (ht : t.size ≤ 65535) (hl : l.length ≤ 1000000) :
    Calls Try.prog 10 #[.pointer (some ⟨b, 0, none⟩), .agg #[.int .i64 5, .int .u64 (n : Int), .string t]] w (LayPost b X l (be2 t.size ++ t.data.toList) w) := by
  go_enter Try.func10, Try.ntmps10
  go_wp2_with fail
  refine (text_any b X l _ _ (xAlloc hX _) (hw.alloc _) ht (by omega)).mono ?_
  rintro e w1 ⟨rfl, h1, h2⟩
  go_wp2
  go_ret
  exact ⟨rfl, h1, grown_alloc_left h2⟩
set_option maxHeartbeats 1600000 in
theorem lay_0 (q : Int) (hX : ∀ k, w.heap.size ≤ k → ¬ X k) (hw : IsW w b X l) (hq1 : -9223372036854775808 ≤ q) (hq2 : q ≤ 9223372036854775807) (h1 : (q == 1) = false) (h2 : (q == 2) = false) (h3 : (q == 3) = false) (h4 : (q == 4) = false) (h5 : (q == 5) = false) (ht : t.size ≤ 65535) (hl : l.length ≤ 1000000) :
    Calls Try.prog 10 #[.pointer (some ⟨b, 0, none⟩), .agg #[.int .i64 q, .int .u64 (n : Int), .string t]] w (LayPost b X l t.data.toList w) := by
  obtain ⟨c, w2, hrun, hB, hbel, hz⟩ := conv_bytes (w.alloc (.cells #[.int .i64 q, .int .u64 (n : Int), .string t] 31)) _ _ _ t Try.underlying9 Try.underlying27 Try.underlying5 (by unfold maxLen; omega)
  have hsl : t.data.toList.length = t.size := by rw [Array.length_toList]; rfl
  go_enter Try.func10, Try.ntmps10
  go_wp2_with fail
  have e0 : (w.alloc (.cells #[.int .i64 q, .int .u64 (n : Int), .string t] 31)).heap.size = w.heap.size + 1 := by simp
  have hb : Below (w.alloc (.cells #[.int .i64 q, .int .u64 (n : Int), .string t] 31)).heap.size (w.alloc (.cells #[.int .i64 q, .int .u64 (n : Int), .string t] 31)) w2 := hbel
  rw [e0] at hB
  refine (byte_any b X l _ _ _ w2 (xLe (xAlloc hX _) hb.size) ((hw.alloc _).below hb) hB (by omega)).mono ?_
  rintro e w3 ⟨rfl, g1, g2⟩
  go_wp2
  go_ret
  exact ⟨rfl, g1, grown_alloc_left (grown_trans (grown_below hb _) g2)⟩
end
theorem lay_any (b : Nat) (X : Nat → Prop) (l : List UInt8) (p : P) (w : World) (hX : ∀ k, w.heap.size ≤ k → ¬ X k) (hw : IsW w b X l) (hp : p.Ok) (ht : p.text.size ≤ 65535) (hl : l.length ≤ 1000000) :
    Calls Try.prog 10 #[.pointer (some ⟨b, 0, none⟩), .agg #[.int .i64 p.what, .int .u64 (p.n : Int), .string p.text]] w (LayPost b X l (formOf p) w) := by
  obtain ⟨p1, p2, p3, p4⟩ := hp
  unfold formOf
  by_cases h1 : p.what = 1
  · rw [if_pos h1, h1]; exact lay_1 _ _ _ _ _ _ hX hw p3 hl
  by_cases h2 : p.what = 2
  · rw [if_neg h1, if_pos h2, h2]; exact lay_2 _ _ _ _ _ _ hX hw p3 hl
  by_cases h3 : p.what = 3
  · rw [if_neg h1, if_neg h2, if_pos h3, h3]; exact lay_3 _ _ _ _ _ _ hX hw p3 hl
  by_cases h4 : p.what = 4
  · rw [if_neg h1, if_neg h2, if_neg h3, if_pos h4, h4]; exact lay_4 _ _ _ _ _ _ hX hw p3 hl
  by_cases h5 : p.what = 5
  · rw [if_neg h1, if_neg h2, if_neg h3, if_neg h4, if_pos h5, h5]; exact lay_5 _ _ _ _ _ _ hX hw ht hl
  · rw [if_neg h1, if_neg h2, if_neg h3, if_neg h4, if_neg h5]
    exact lay_0 _ _ _ _ _ _ _ hX hw p1 p2 (beqf h1) (beqf h2) (beqf h3) (beqf h4) (beqf h5) ht hl
end Go.Proofs.Ytbpkpkellnldmaa.Pc
