/- seq: SeqAsked holds. By an AI agent. -/
import Derived.Test.YtghhdjhobidbcaaSqA
namespace Go.Proofs.Ytghhdjhobidbcaa.Sq
open Go Go.RowKit Go.Proofs.Ytghhdjhobidbcaa.Abs Go.Proofs.Ytghhdjhobidbcaa.M
set_option linter.unusedVariables false
set_option linter.unusedSimpArgs false

theorem rng_len (f : Int) : ∀ k, (rngI f k).length = k
  | 0 => rfl
  | k + 1 => by simp only [rngI, List.length_append, rng_len f k, List.length_cons, List.length_nil]
theorem rng_get (f : Int) : ∀ (k : Nat) (x : Nat), x < k → (rngI f k).getD x 0 = f + x
  | 0, x, h => absurd h (Nat.not_lt_zero _)
  | k + 1, x, h => by
    have hl := rng_len f k
    simp only [rngI, List.getD_eq_getElem?_getD]
    by_cases hx : x < k
    · rw [List.getElem?_append_left (by omega), ← List.getD_eq_getElem?_getD]
      exact rng_get f k x hx
    · obtain rfl : x = k := by omega
      rw [List.getElem?_append_right (by omega), hl]
      simp
theorem miss_len (h f : Int) : ∀ k, (missI h f k).length ≤ k
  | 0 => Nat.le_refl _
  | k + 1 => by
    have := miss_len h f k
    simp only [missI, List.length_append]
    split <;> simp <;> omega
theorem bit_had {h f z : Int} {x : Nat} (hh : 0 ≤ h) (hx : x < 64) (hz : z = (f + (x : Int) - f) % 4294967296) : (((h / (2 : Int) ^ Int.toNat (z % 64)).toNat &&& 1 : Nat) : Int) = if h.toNat.testBit x = true then 1 else 0 := by
  have : Int.toNat (z % 64) = x := by omega
  rw [this, div_nat hh, Nat.and_one_is_mod, Nat.testBit_eq_decide_div_mod_eq]
  simp only [decide_eq_true_eq]
  split <;> omega
theorem miss_in {h f z : Int} {x : Nat} (hh : 0 ≤ h) (hx : x < 64) (hz : z = (f + (x : Int) - f) % 4294967296) (hb : ¬ (((h / (2 : Int) ^ Int.toNat (z % 64)).toNat &&& 1 : Nat) : Int) = 1) : missI h f (x + 1) = missI h f x ++ [f + (x : Int)] := by
  rw [bit_had hh hx hz] at hb
  simp only [missI]
  split <;> simp_all
theorem miss_out {h f z : Int} {x : Nat} (hh : 0 ≤ h) (hx : x < 64) (hz : z = (f + (x : Int) - f) % 4294967296) (hb : (((h / (2 : Int) ^ Int.toNat (z % 64)).toNat &&& 1 : Nat) : Int) = 1) : missI h f (x + 1) = missI h f x := by
  rw [bit_had hh hx hz] at hb
  simp only [missI]
  split <;> simp_all
theorem not_one {h f z : Int} {x : Nat} (hh : 0 ≤ h) (hx : x < 64) (hz : z = (f + (x : Int) - f) % 4294967296) : ¬ (((h / (2 : Int) ^ Int.toNat (z % 64)).toNat &&& 1 : Nat) : Int) = 0 ↔ (((h / (2 : Int) ^ Int.toNat (z % 64)).toNat &&& 1 : Nat) : Int) = 1 := by
  rw [bit_had hh hx hz]
  split <;> simp
theorem EndQ.uniq {h f s : Int} {c q r : Nat} (a : EndQ h f s c q) (b : EndQ h f s c r) : q = r := by
  obtain ⟨a1, a2, a3⟩ := a
  obtain ⟨b1, b2, b3⟩ := b
  rcases Nat.lt_trichotomy q r with hl | hl | hl
  · have := b2 q hl
    omega
  · exact hl
  · have := a2 r hl
    omega
theorem OkQ.zero {h f s : Int} {c : Nat} (hs : 0 ≤ s) : OkQ h f s c 0 := ⟨Nat.zero_le _, fun i hi => by
  obtain rfl : i = 0 := by omega
  exact hs⟩
theorem OkQ.next {h f s : Int} {c x : Nat} (a : OkQ h f s c x) (hx : x < c) (hl : ((missI h f (x + 1)).length : Int) ≤ s) : OkQ h f s c (x + 1) := ⟨hx, fun i hi => by
  rcases Nat.lt_or_ge i (x + 1) with h1 | h1
  · exact a.few i (by omega)
  · obtain rfl : i = x + 1 := by omega
    exact hl⟩
theorem OkQ.stop {h f s : Int} {c x : Nat} (a : OkQ h f s c x) (hx : x < c) (hl : s < ((missI h f (x + 1)).length : Int)) : EndQ h f s c (x + 1) := ⟨hx, fun i hi => a.few i (by omega), .inr hl⟩
theorem OkQ.done {h f s : Int} {c x : Nat} (a : OkQ h f s c x) (hx : ¬ x < c) : EndQ h f s c x := ⟨a.le, fun i hi => a.few i (by omega), .inl (by have := a.le; omega)⟩
theorem ex_next {p : Nat → Prop} {k : Nat} {f z : Int} (h : z = (f + (k : Int) + 1) % 4294967296) (hp : p (k + 1)) : ExT Nat p := ⟨_, hp⟩
theorem miss_zero (h f : Int) : missI h f 0 = [] := rfl
theorem rng_zero (f : Int) : rngI f 0 = [] := rfl
theorem rng_take (f : Int) (k : Nat) : (rngI f k).take k = rngI f k := List.take_of_length_le (by rw [rng_len]; exact Nat.le_refl _)
theorem take_one (a : Int) : List.take 1 [a] = [a] := rfl
theorem ok_zero {h f s : Int} {c : Nat} (hs : 0 ≤ s) : OkQ h f s c 0 := OkQ.zero hs
theorem has_in {h f s : Int} {c x : Nat} {l l2 : List Int} (hl : l = rngI f x ++ [f + (x : Int)]) (hl2 : l2 = missI h f x ++ [f + (x : Int)]) (e : missI h f (x + 1) = missI h f x ++ [f + (x : Int)]) : (missI h f (x + 1)).length = (missI h f x).length + 1 ∧ rngI f (x + 1) = l ∧ missI h f (x + 1) = l2 := ⟨by rw [e]; simp, hl ▸ rfl, by rw [e, hl2]⟩
set_option maxHeartbeats 8000000 in
theorem askfS_ok {f m hd s : Int} (hf : 0 ≤ f ∧ f ≤ 4294967295) (hm : 0 ≤ m ∧ m ≤ 255) (hh : 0 ≤ hd) (hs : 0 ≤ s ∧ s ≤ 255) : askfS f m hd s := by
  unfold askfS
  generalize hF : f % (2147483648 : Int) = F
  generalize hS : s % (20 : Int) = S
  generalize hM : m % (61 : Int) = M
  generalize hC : Int.toNat M = C
  have hS0 : 0 ≤ S := by omega
  simp only [rng_len, List.length_cons, List.length_nil, Nat.zero_add, Nat.mul_one, rng_take, take_one, List.take_length]
  repeat' (first
    | (with_reducible refine And.intro ?_ ?_)
    | (intro (h : false = true); cases h)
    | (intro (h : true = false); cases h)
    | (intro h; first | (replace h := of_decide_eq_true h) | (replace h := of_decide_eq_false h) | skip)
    | (with_reducible exact trivial)
    | (with_reducible rfl)
    | (with_reducible exact ⟨(), trivial, trivial, trivial, trivial⟩)
    | (with_reducible exact el3 hh _)
    | omega
    | (with_reducible refine decide_eq_true ?_; omega)
    | (with_reducible refine decide_eq_false ?_; omega)
    | (simp only [in_u8, in_u16, in_u32, in_u64, in_i64, Nat.le_eq]; omega)
    | (exfalso; omega))
  · exact ⟨0, OkQ.zero hS0, by simp [missI, rngI]⟩
  · rename_i z hz x a hx l hl w hw
    have := miss_len hd F x
    have := a.le
    omega
  · rename_i z hz x a hx l hl w hw hb l2
    have := miss_len hd F x
    have := a.le
    omega
  · rename_i z hz x a hx l hl w hw hb l2 hl2
    have := a.le
    obtain ⟨e1, e2, e3⟩ := has_in (s := S) (c := C) hl hl2 (miss_in hh (by omega) hw hb)
    exact ⟨x + 1, a.stop (by omega) (by omega), ⟨rfl, rfl⟩, ⟨e1, e1⟩, e2, e3⟩
  · rename_i z hz x a hx l hl w hw hb l2 hl2 hn y
    have := a.le
    obtain ⟨e1, e2, e3⟩ := has_in (s := S) (c := C) hl hl2 (miss_in hh (by omega) hw hb)
    exact ⟨x + 1, ⟨by omega, a.next (by omega) (by omega)⟩, by omega, ⟨rfl, rfl⟩, ⟨e1, e1⟩, e2, e3⟩
  · rename_i z hz x a hx l hl w hw hb y
    have := a.le
    have e := miss_out hh (by omega) hw hb
    exact ⟨x + 1, ⟨by omega, a.next (by omega) (by rw [e]; exact a.few x (Nat.le_refl _))⟩, by omega, ⟨rfl, rfl⟩, ⟨by rw [e], by rw [e]⟩, hl ▸ rfl, e⟩
  · rename_i z hz x a
    have := a.le
    obtain rfl : x = C := by omega
    exact a.done (by omega)
  · rename_i z hz x a
    have := a.le
    omega
  · rename_i z hz x a
    have := a.le
    omega
  · rename_i z hz x a
    have := a.le
    obtain rfl : x = C := by omega
    rfl
  · rename_i z hz x a
    have := a.le
    obtain rfl : x = C := by omega
    rfl
  · rename_i z hz x a
    have := a.le
    obtain rfl : x = C := by omega
    rfl
  · rename_i z hz x a
    have := a.le
    obtain rfl : x = C := by omega
    rfl
  · exact ⟨_, h, ⟨rfl, rfl⟩, ⟨rfl, rfl⟩, rfl, rfl⟩
  · exact ⟨_, h, ⟨rfl, rfl⟩, ⟨rfl, rfl⟩, rfl, rfl⟩
  · exact ⟨0, OkQ.zero hS0, by simp [missI, rngI]⟩
  · rename_i z hz q hq x a hx w hw
    have := miss_len hd F x
    have := a.le
    omega
  · rename_i z hz q hq x a hx w hw hb l2
    have := miss_len hd F x
    have := a.le
    omega
  · rename_i z hz q hq x a hx w hw hb l2 hl2 hn y
    have := a.le
    have e := miss_in hh (by omega) hw (by omega)
    have e1 : (missI hd F (x + 1)).length = (missI hd F x).length + 1 := by rw [e]; simp
    exact ⟨x + 1, a.stop (by omega) (by omega), ⟨⟨e1, e1⟩, by omega⟩, by rw [e, hl2]⟩
  · rename_i z hz q hq x a hx w hw hb l2 hl2 hn y
    have := a.le
    have e := miss_in hh (by omega) hw (by omega)
    have e1 : (missI hd F (x + 1)).length = (missI hd F x).length + 1 := by rw [e]; simp
    exact ⟨x + 1, ⟨by omega, a.next (by omega) (by omega)⟩, ⟨⟨e1, e1⟩, by omega⟩, by rw [e, hl2]⟩
  · rename_i z hz q hq x a hx w hw hb y
    have := a.le
    have e := miss_out hh (by omega) hw ((not_one hh (by omega) hw).1 hb)
    exact ⟨x + 1, ⟨by omega, a.next (by omega) (by rw [e]; exact a.few x (Nat.le_refl _))⟩, ⟨⟨by rw [e], by rw [e]⟩, by omega⟩, e⟩
  · rename_i z hz q hq x a
    have := a.le
    obtain rfl : x = C := by omega
    exact ⟨_, a.done (by omega), ⟨⟨rfl, rfl⟩, rfl⟩, rfl⟩
  · rename_i z hz q hq x
    have := miss_len hd F q
    have := hq.le
    omega
  · rename_i z hz q hq x
    have := miss_len hd F x
    have := h.le
    omega
  · rename_i z hz q hq x a
    exact h (by rw [hq.uniq a])
  · rename_i z hz q hq x a
    have := hq.le
    omega
  · rename_i z hz q hq x a hb w hw
    have := hq.uniq a
    have := hq.le
    omega
  · exact ⟨0, by omega, rfl, by rw [in_i64]; omega⟩
  · rename_i z hz q hq r a hb w hw hn h1 h2 x hx hx2 y hy
    have := hq.le
    rw [rng_get F q x (by omega)] at h
    omega
  · rename_i z hz q hq r a hb w hw hn h1 h2 x hx hx2 y hy h3 h4
    have := hq.le
    rw [rng_get F q x (by omega)] at h
    omega
  · rename_i z hz q hq r a hb w hw hn h1 h2 x hx hx2 y hy h3
    have := hq.le
    rw [rng_get F q x (by omega)] at h
    omega
  · exact ⟨0, by omega, rfl, by rw [in_i64]; omega⟩
  · rename_i z hz q hq r a hb w hw hn h1 v hv h2 x hx hx2 y hy
    have := hq.le
    rw [rng_get F q x (by omega)] at h
    omega
  · rename_i z hz q hq r a hb w hw hn h1 v hv h2 x hx hx2 y hy h3 h4
    have := hq.le
    rw [rng_get F q x (by omega)] at h
    omega
  · rename_i z hz q hq r a hb w hw hn h1 v hv h2 x hx hx2 y hy h3 h4 h5 u
    exact ⟨x + 1, ⟨by omega, by omega⟩, by omega⟩
  · rename_i z hz q hq r a hb w hw hn h1 v hv h2 x hx hx2 y hy h3
    have := hq.le
    rw [rng_get F q x (by omega)] at h
    omega
theorem asked_law (W : World) (v0 v1 v2 v3 : Value) (w0 : Open.InNat .u32 4294967296 v0) (w1 : Open.InNat .u8 256 v1) (w2 : Open.InNat .u64 18446744073709551616 v2) (w3 : Open.InNat .u8 256 v3) : Calls Try.prog ASKED #[v0, v1, v2, v3] W fun e w' => e = .returned (.bool true) ∧ Below W.heap.size W w' := by
  obtain ⟨f, rfl, hf⟩ := w0
  obtain ⟨m, rfl, hm⟩ := w1
  obtain ⟨hd, rfl, hh⟩ := w2
  obtain ⟨s, rfl, hs⟩ := w3
  have hin : InAs W 0 [.one (.int .u32), .one (.int .u8), .one (.int .u64), .one (.int .u8)] [.z (f : Int), .z (m : Int), .z (hd : Int), .z (s : Int)] [.int .u32 (f : Int), .int .u8 (m : Int), .int .u64 (hd : Int), .int .u8 (s : Int)] :=
    .one _ _ _ _ _ _ _ (inB_int (by rw [in_u32]; omega)) (.one _ _ _ _ _ _ _ (inB_int (by rw [in_u8]; omega)) (.one _ _ _ _ _ _ _ (inB_int (by rw [in_u64]; omega)) (.one _ _ _ _ _ _ _ (inB_int (by rw [in_u8]; omega)) (.nil _))))
  refine law_run (t := 0) (by decide) hin fun caps φs h hf' hro hus => ?_
  exact nest_run follows named sqHooks_ok (rolow_of (entries := []) rfl) ((askf_eq (f : Int) (m : Int) (hd : Int) (s : Int)).mpr (askf_of _ _ _ _ (askfS_ok (by omega) (by omega) (by omega) (by omega)))) hf' hro hus
end Go.Proofs.Ytghhdjhobidbcaa.Sq
