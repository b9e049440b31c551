/- credit: CreditBounded's formula holds. By an AI agent. -/
import Derived.Test.YtacfalpoimjemaaCc
namespace Go.Proofs.Ytacfalpoimjemaa.Cr
open Go Go.RowKit Go.Proofs.Ytacfalpoimjemaa.Abs Go.Proofs.Ytacfalpoimjemaa.M
set_option linter.unusedVariables false
set_option linter.unusedSimpArgs false
--forms
theorem gtD_true {us L gg : Int} (h : max (L / 2) 1 ≤ us + L - gg) : gtD us L gg = true := decide_eq_true h
theorem gtD_false {us L gg : Int} (h : ¬ max (L / 2) 1 ≤ us + L - gg) : gtD us L gg = false := decide_eq_false h
set_option maxHeartbeats 40000000 in
set_option maxRecDepth 100000 in
theorem bf_ok {l L : Int} {Q N : List Int} {n c : Nat} {ty : TypeId} (hl : 0 ≤ l ∧ l ≤ 255) (hL : L = 1 + l) (hn : n ≤ 9223372036854775807) (hQ : ∀ x, 0 ≤ aQ Q x ∧ aQ Q x ≤ 255) (hN : ∀ x, 0 ≤ aQ N x ∧ aQ N x ≤ 255) : bf l L Q N n c ty := by
  refine bf_of _ _ _ _ _ _ _ ?_
  unfold bfS
  refine ⟨by rw [in_i64]; omega, fun z0 hz0 => ⟨?_, ?_, hn, ?_, fun x hx => ?_, fun z hz => ?_⟩⟩
  rotate_left 2
  · exact ⟨⟨0, 0, L, 0, 0, L, [], 0, 0, []⟩, ⟨⟨Nat.zero_le _, Nat.zero_le _⟩, ⟨einv0 (by omega)⟩⟩, ⟨rfl, by simp [in_i64]⟩, ⟨⟨rfl, rfl⟩, ⟨rfl, rfl⟩, ⟨rfl, by simp [in_i64]⟩, rfl, by simp [in_i64]⟩, ⟨by omega, rfl, by dsimp only; omega⟩, ⟨by omega, rfl, rfl, by dsimp only; omega⟩, rfl, rfl⟩
  obtain ⟨⟨hk, hk2⟩, ⟨e⟩⟩ := hx
  have f := e.lin
  have e2 := einv_step (show 1 ≤ L by omega) e (hQ x).1 (hN x)
  have f2 := e2.lin
  have rf := e.rf
  have qa := hQ x
  have na := hN x
  have h8 := e.told (N := aQ N x)
  rotate_left 1
  obtain ⟨hk2, ⟨e⟩⟩ := hz
  have f := e.lin
  have rf := e.rf
  have hs := e.sum
  have hsum : z.tk + sumT z.R z.o z.w = z.sp := by omega
  have hu : uZ z = z.sp := by unfold uZ; omega
  have e4 := einv_step (show 1 ≤ L by omega) e.all (a := 7) (N := 0) (by omega) (by omega)
  have hmx := e4.mx
  have f4 := e4.glen
  have f2 : True := trivial
  simp only [hu, hsum]
  all_goals clear hQ hN
  repeat' (first
    | (with_reducible refine And.intro ?_ ?_)
    | (intro (h : false = true); cases h)
    | (intro (h : true = false); cases h)
    | (refine tkI rf2 fun j j1 j2 j3 j4 => ?_)
    | (refine tkI rf fun j j1 j2 j3 j4 => ?_)
    | (refine tkE' rf2 fun j j1 j2 j5 j3 => ?_)
    | (refine tkE' rf fun j j1 j2 j5 j3 => ?_)
    | (refine flI rf fun y y1 y3 rf2 => ?_)
    | (refine us1 fun q q1 => ?_)
    | (refine rgI e4 fun i i1 i2 i3 => ?_)
    | (intro h; first | (replace h := gtD_of h) | (replace h := gtD_not h) | (replace h := of_decide_eq_true h) | (replace h := of_decide_eq_false h) | skip)
    | (with_reducible exact trivial)
    | (with_reducible rfl)
    | (with_reducible exact ⟨(), trivial, trivial, trivial, trivial⟩)
    | (refine exn (by omega) (by omega) (by omega) e2)
    | (exact exe hk2 e)
    | (exact tx0 (by omega))
    | (exact tx0')
    | (refine txn' (by omega) (by clear f2; omega) (by omega) ?_)
    | (refine txn (by omega) (by clear f2; omega) (by omega) ?_)
    | (refine txe ⟨⟨by omega, by omega⟩, by clear f2; omega⟩)
    | (simp only [spE_dec na.1, bne_self_eq_false] at h; cases h; done)
    | (rw [dG_same (by clear f2; ((try simp only [spE, spN, tkE, tkN, usE, usN, grE, grN, gtR, gtN, dSp, dUs, dGg, in_u64, in_i64, ne_eq, Nat.add_zero, Nat.zero_add, Nat.mul_one, Nat.le_eq, List.length_cons, List.length_nil, true_and, and_true, false_and, and_false, true_or, or_true, false_or, or_false, not_true_eq_false, not_false_eq_true, ite_true, ite_false, ↓reduceIte] at *) <;> omega))]; done)
    | (exact dG_len (by clear f2; ((try simp only [spE, spN, tkE, tkN, usE, usN, grE, grN, gtR, gtN, dSp, dUs, dGg, in_u64, in_i64, ne_eq, Nat.add_zero, Nat.zero_add, Nat.mul_one, Nat.le_eq, List.length_cons, List.length_nil, true_and, and_true, false_and, and_false, true_or, or_true, false_or, or_false, not_true_eq_false, not_false_eq_true, ite_true, ite_false, ↓reduceIte] at *) <;> omega)))
    | (exact dG_row (by clear f2; ((try simp only [spE, spN, tkE, tkN, usE, usN, grE, grN, gtR, gtN, dSp, dUs, dGg, in_u64, in_i64, ne_eq, Nat.add_zero, Nat.zero_add, Nat.mul_one, Nat.le_eq, List.length_cons, List.length_nil, true_and, and_true, false_and, and_false, true_or, or_true, false_or, or_false, not_true_eq_false, not_false_eq_true, ite_true, ite_false, ↓reduceIte] at *) <;> omega)) (by assumption))
    | (exact dR_same (by clear f2; ((try simp only [spE, spN, tkE, tkN, usE, usN, grE, grN, gtR, gtN, dSp, dUs, dGg, in_u64, in_i64, ne_eq, Nat.add_zero, Nat.zero_add, Nat.mul_one, Nat.le_eq, List.length_cons, List.length_nil, true_and, and_true, false_and, and_false, true_or, or_true, false_or, or_false, not_true_eq_false, not_false_eq_true, ite_true, ite_false, ↓reduceIte] at *) <;> omega)))
    | (exact dR_row (by clear f2; ((try simp only [spE, spN, tkE, tkN, usE, usN, grE, grN, gtR, gtN, dSp, dUs, dGg, in_u64, in_i64, ne_eq, Nat.add_zero, Nat.zero_add, Nat.mul_one, Nat.le_eq, List.length_cons, List.length_nil, true_and, and_true, false_and, and_false, true_or, or_true, false_or, or_false, not_true_eq_false, not_false_eq_true, ite_true, ite_false, ↓reduceIte] at *) <;> omega)) (by assumption))
    | (exact dGr_same (by clear f2; ((try simp only [spE, spN, tkE, tkN, usE, usN, grE, grN, gtR, gtN, dSp, dUs, dGg, in_u64, in_i64, ne_eq, Nat.add_zero, Nat.zero_add, Nat.mul_one, Nat.le_eq, List.length_cons, List.length_nil, true_and, and_true, false_and, and_false, true_or, or_true, false_or, or_false, not_true_eq_false, not_false_eq_true, ite_true, ite_false, ↓reduceIte] at *) <;> omega)))
    | (exact dGr_told (by clear f2; ((try simp only [spE, spN, tkE, tkN, usE, usN, grE, grN, gtR, gtN, dSp, dUs, dGg, in_u64, in_i64, ne_eq, Nat.add_zero, Nat.zero_add, Nat.mul_one, Nat.le_eq, List.length_cons, List.length_nil, true_and, and_true, false_and, and_false, true_or, or_true, false_or, or_false, not_true_eq_false, not_false_eq_true, ite_true, ite_false, ↓reduceIte] at *) <;> omega)) (by clear f2; ((try simp only [spE, spN, tkE, tkN, usE, usN, grE, grN, gtR, gtN, dSp, dUs, dGg, in_u64, in_i64, ne_eq, Nat.add_zero, Nat.zero_add, Nat.mul_one, Nat.le_eq, List.length_cons, List.length_nil, true_and, and_true, false_and, and_false, true_or, or_true, false_or, or_false, not_true_eq_false, not_false_eq_true, ite_true, ite_false, ↓reduceIte] at *) <;> omega)) (by clear f2; ((try simp only [spE, spN, tkE, tkN, usE, usN, grE, grN, gtR, gtN, dSp, dUs, dGg, in_u64, in_i64, ne_eq, Nat.add_zero, Nat.zero_add, Nat.mul_one, Nat.le_eq, List.length_cons, List.length_nil, true_and, and_true, false_and, and_false, true_or, or_true, false_or, or_false, not_true_eq_false, not_false_eq_true, ite_true, ite_false, ↓reduceIte] at *) <;> omega)))
    | (exact dTk_same (took_0 (by clear f2; ((try simp only [spE, spN, tkE, tkN, usE, usN, grE, grN, gtR, gtN, dSp, dUs, dGg, in_u64, in_i64, ne_eq, Nat.add_zero, Nat.zero_add, Nat.mul_one, Nat.le_eq, List.length_cons, List.length_nil, true_and, and_true, false_and, and_false, true_or, or_true, false_or, or_false, not_true_eq_false, not_false_eq_true, ite_true, ite_false, ↓reduceIte] at *) <;> omega))))
    | (exact dTk_at (took_n (by clear f2; ((try simp only [spE, spN, tkE, tkN, usE, usN, grE, grN, gtR, gtN, dSp, dUs, dGg, in_u64, in_i64, ne_eq, Nat.add_zero, Nat.zero_add, Nat.mul_one, Nat.le_eq, List.length_cons, List.length_nil, true_and, and_true, false_and, and_false, true_or, or_true, false_or, or_false, not_true_eq_false, not_false_eq_true, ite_true, ite_false, ↓reduceIte] at *) <;> omega)) (by clear f2; ((try simp only [spE, spN, tkE, tkN, usE, usN, grE, grN, gtR, gtN, dSp, dUs, dGg, in_u64, in_i64, ne_eq, Nat.add_zero, Nat.zero_add, Nat.mul_one, Nat.le_eq, List.length_cons, List.length_nil, true_and, and_true, false_and, and_false, true_or, or_true, false_or, or_false, not_true_eq_false, not_false_eq_true, ite_true, ite_false, ↓reduceIte] at *) <;> omega))))
    | (exact dO_app (by clear f2; ((try simp only [spE, spN, tkE, tkN, usE, usN, grE, grN, gtR, gtN, dSp, dUs, dGg, in_u64, in_i64, ne_eq, Nat.add_zero, Nat.zero_add, Nat.mul_one, Nat.le_eq, List.length_cons, List.length_nil, true_and, and_true, false_and, and_false, true_or, or_true, false_or, or_false, not_true_eq_false, not_false_eq_true, ite_true, ite_false, ↓reduceIte] at *) <;> omega)))
    | (exact dO_same (by clear f2; ((try simp only [spE, spN, tkE, tkN, usE, usN, grE, grN, gtR, gtN, dSp, dUs, dGg, in_u64, in_i64, ne_eq, Nat.add_zero, Nat.zero_add, Nat.mul_one, Nat.le_eq, List.length_cons, List.length_nil, true_and, and_true, false_and, and_false, true_or, or_true, false_or, or_false, not_true_eq_false, not_false_eq_true, ite_true, ite_false, ↓reduceIte] at *) <;> omega)) (took_0 (by clear f2; ((try simp only [spE, spN, tkE, tkN, usE, usN, grE, grN, gtR, gtN, dSp, dUs, dGg, in_u64, in_i64, ne_eq, Nat.add_zero, Nat.zero_add, Nat.mul_one, Nat.le_eq, List.length_cons, List.length_nil, true_and, and_true, false_and, and_false, true_or, or_true, false_or, or_false, not_true_eq_false, not_false_eq_true, ite_true, ite_false, ↓reduceIte] at *) <;> omega))))
    | (exact dO_at (by clear f2; ((try simp only [spE, spN, tkE, tkN, usE, usN, grE, grN, gtR, gtN, dSp, dUs, dGg, in_u64, in_i64, ne_eq, Nat.add_zero, Nat.zero_add, Nat.mul_one, Nat.le_eq, List.length_cons, List.length_nil, true_and, and_true, false_and, and_false, true_or, or_true, false_or, or_false, not_true_eq_false, not_false_eq_true, ite_true, ite_false, ↓reduceIte] at *) <;> omega)) (took_n (by clear f2; ((try simp only [spE, spN, tkE, tkN, usE, usN, grE, grN, gtR, gtN, dSp, dUs, dGg, in_u64, in_i64, ne_eq, Nat.add_zero, Nat.zero_add, Nat.mul_one, Nat.le_eq, List.length_cons, List.length_nil, true_and, and_true, false_and, and_false, true_or, or_true, false_or, or_false, not_true_eq_false, not_false_eq_true, ite_true, ite_false, ↓reduceIte] at *) <;> omega)) (by clear f2; ((try simp only [spE, spN, tkE, tkN, usE, usN, grE, grN, gtR, gtN, dSp, dUs, dGg, in_u64, in_i64, ne_eq, Nat.add_zero, Nat.zero_add, Nat.mul_one, Nat.le_eq, List.length_cons, List.length_nil, true_and, and_true, false_and, and_false, true_or, or_true, false_or, or_false, not_true_eq_false, not_false_eq_true, ite_true, ite_false, ↓reduceIte] at *) <;> omega))))
    | (exact dW_app (by clear f2; ((try simp only [spE, spN, tkE, tkN, usE, usN, grE, grN, gtR, gtN, dSp, dUs, dGg, in_u64, in_i64, ne_eq, Nat.add_zero, Nat.zero_add, Nat.mul_one, Nat.le_eq, List.length_cons, List.length_nil, true_and, and_true, false_and, and_false, true_or, or_true, false_or, or_false, not_true_eq_false, not_false_eq_true, ite_true, ite_false, ↓reduceIte] at *) <;> omega)))
    | (exact dW_same (by clear f2; ((try simp only [spE, spN, tkE, tkN, usE, usN, grE, grN, gtR, gtN, dSp, dUs, dGg, in_u64, in_i64, ne_eq, Nat.add_zero, Nat.zero_add, Nat.mul_one, Nat.le_eq, List.length_cons, List.length_nil, true_and, and_true, false_and, and_false, true_or, or_true, false_or, or_false, not_true_eq_false, not_false_eq_true, ite_true, ite_false, ↓reduceIte] at *) <;> omega)) (took_0 (by clear f2; ((try simp only [spE, spN, tkE, tkN, usE, usN, grE, grN, gtR, gtN, dSp, dUs, dGg, in_u64, in_i64, ne_eq, Nat.add_zero, Nat.zero_add, Nat.mul_one, Nat.le_eq, List.length_cons, List.length_nil, true_and, and_true, false_and, and_false, true_or, or_true, false_or, or_false, not_true_eq_false, not_false_eq_true, ite_true, ite_false, ↓reduceIte] at *) <;> omega))))
    | (exact dW_at (by clear f2; ((try simp only [spE, spN, tkE, tkN, usE, usN, grE, grN, gtR, gtN, dSp, dUs, dGg, in_u64, in_i64, ne_eq, Nat.add_zero, Nat.zero_add, Nat.mul_one, Nat.le_eq, List.length_cons, List.length_nil, true_and, and_true, false_and, and_false, true_or, or_true, false_or, or_false, not_true_eq_false, not_false_eq_true, ite_true, ite_false, ↓reduceIte] at *) <;> omega)) (took_n (by clear f2; ((try simp only [spE, spN, tkE, tkN, usE, usN, grE, grN, gtR, gtN, dSp, dUs, dGg, in_u64, in_i64, ne_eq, Nat.add_zero, Nat.zero_add, Nat.mul_one, Nat.le_eq, List.length_cons, List.length_nil, true_and, and_true, false_and, and_false, true_or, or_true, false_or, or_false, not_true_eq_false, not_false_eq_true, ite_true, ite_false, ↓reduceIte] at *) <;> omega)) (by clear f2; ((try simp only [spE, spN, tkE, tkN, usE, usN, grE, grN, gtR, gtN, dSp, dUs, dGg, in_u64, in_i64, ne_eq, Nat.add_zero, Nat.zero_add, Nat.mul_one, Nat.le_eq, List.length_cons, List.length_nil, true_and, and_true, false_and, and_false, true_or, or_true, false_or, or_false, not_true_eq_false, not_false_eq_true, ite_true, ite_false, ↓reduceIte] at *) <;> omega))))
    | (exact fl0)
    | (exact us0 (by omega))
    | (exact rg0)
    | (have tk4 : took 3 4 (z.w - y) = min (z.w - y) (Int.toNat (4 % 5)) := took_n (.inl rfl) rfl; refine ⟨y + took 3 4 (z.w - y), ?_⟩; dsimp only)
    | (refine ⟨q + 1, ?_⟩; dsimp only)
    | (refine ⟨i + 1, ?_⟩; dsimp only)
    | (rw [dO_at (by clear f2; ((try simp only [spE, spN, tkE, tkN, usE, usN, grE, grN, gtR, gtN, dSp, dUs, dGg, in_u64, in_i64, ne_eq, Nat.add_zero, Nat.zero_add, Nat.mul_one, Nat.le_eq, List.length_cons, List.length_nil, true_and, and_true, false_and, and_false, true_or, or_true, false_or, or_false, not_true_eq_false, not_false_eq_true, ite_true, ite_false, ↓reduceIte] at *) <;> omega)) rfl]; omega)
    | (rw [dW_at (by clear f2; ((try simp only [spE, spN, tkE, tkN, usE, usN, grE, grN, gtR, gtN, dSp, dUs, dGg, in_u64, in_i64, ne_eq, Nat.add_zero, Nat.zero_add, Nat.mul_one, Nat.le_eq, List.length_cons, List.length_nil, true_and, and_true, false_and, and_false, true_or, or_true, false_or, or_false, not_true_eq_false, not_false_eq_true, ite_true, ite_false, ↓reduceIte] at *) <;> omega)) rfl]; omega)
    | (rw [sumT_add]; unfold dTk; omega)
    | (exact (dR_same (by clear f2; ((try simp only [spE, spN, tkE, tkN, usE, usN, grE, grN, gtR, gtN, dSp, dUs, dGg, in_u64, in_i64, ne_eq, Nat.add_zero, Nat.zero_add, Nat.mul_one, Nat.le_eq, List.length_cons, List.length_nil, true_and, and_true, false_and, and_false, true_or, or_true, false_or, or_false, not_true_eq_false, not_false_eq_true, ite_true, ite_false, ↓reduceIte] at *) <;> omega))).symm)
    | (exact (dGr_same (by clear f2; ((try simp only [spE, spN, tkE, tkN, usE, usN, grE, grN, gtR, gtN, dSp, dUs, dGg, in_u64, in_i64, ne_eq, Nat.add_zero, Nat.zero_add, Nat.mul_one, Nat.le_eq, List.length_cons, List.length_nil, true_and, and_true, false_and, and_false, true_or, or_true, false_or, or_false, not_true_eq_false, not_false_eq_true, ite_true, ite_false, ↓reduceIte] at *) <;> omega))).symm)
    | (exact (dTk_same (took_0 (by clear f2; ((try simp only [spE, spN, tkE, tkN, usE, usN, grE, grN, gtR, gtN, dSp, dUs, dGg, in_u64, in_i64, ne_eq, Nat.add_zero, Nat.zero_add, Nat.mul_one, Nat.le_eq, List.length_cons, List.length_nil, true_and, and_true, false_and, and_false, true_or, or_true, false_or, or_false, not_true_eq_false, not_false_eq_true, ite_true, ite_false, ↓reduceIte] at *) <;> omega)))).symm)
    | (exact (dO_same (by clear f2; ((try simp only [spE, spN, tkE, tkN, usE, usN, grE, grN, gtR, gtN, dSp, dUs, dGg, in_u64, in_i64, ne_eq, Nat.add_zero, Nat.zero_add, Nat.mul_one, Nat.le_eq, List.length_cons, List.length_nil, true_and, and_true, false_and, and_false, true_or, or_true, false_or, or_false, not_true_eq_false, not_false_eq_true, ite_true, ite_false, ↓reduceIte] at *) <;> omega)) (took_0 (by clear f2; ((try simp only [spE, spN, tkE, tkN, usE, usN, grE, grN, gtR, gtN, dSp, dUs, dGg, in_u64, in_i64, ne_eq, Nat.add_zero, Nat.zero_add, Nat.mul_one, Nat.le_eq, List.length_cons, List.length_nil, true_and, and_true, false_and, and_false, true_or, or_true, false_or, or_false, not_true_eq_false, not_false_eq_true, ite_true, ite_false, ↓reduceIte] at *) <;> omega)))).symm)
    | (exact (dW_same (by clear f2; ((try simp only [spE, spN, tkE, tkN, usE, usN, grE, grN, gtR, gtN, dSp, dUs, dGg, in_u64, in_i64, ne_eq, Nat.add_zero, Nat.zero_add, Nat.mul_one, Nat.le_eq, List.length_cons, List.length_nil, true_and, and_true, false_and, and_false, true_or, or_true, false_or, or_false, not_true_eq_false, not_false_eq_true, ite_true, ite_false, ↓reduceIte] at *) <;> omega)) (took_0 (by clear f2; ((try simp only [spE, spN, tkE, tkN, usE, usN, grE, grN, gtR, gtN, dSp, dUs, dGg, in_u64, in_i64, ne_eq, Nat.add_zero, Nat.zero_add, Nat.mul_one, Nat.le_eq, List.length_cons, List.length_nil, true_and, and_true, false_and, and_false, true_or, or_true, false_or, or_false, not_true_eq_false, not_false_eq_true, ite_true, ite_false, ↓reduceIte] at *) <;> omega)))).symm)
    | (have hy : y = z.w := by omega
       rw [hy]; omega)
    | (have hi : i = (dG 7 z.sp L z.gg z.G).length := by omega
       rw [hi]; done)
    | (exact gtD_true (by clear f2; ((try simp only [spE, spN, tkE, tkN, usE, usN, grE, grN, gtR, gtN, dSp, dUs, dGg, in_u64, in_i64, ne_eq, Nat.add_zero, Nat.zero_add, Nat.mul_one, Nat.le_eq, List.length_cons, List.length_nil, true_and, and_true, false_and, and_false, true_or, or_true, false_or, or_false, not_true_eq_false, not_false_eq_true, ite_true, ite_false, ↓reduceIte] at *) <;> omega)))
    | (exact gtD_false (by clear f2; ((try simp only [spE, spN, tkE, tkN, usE, usN, grE, grN, gtR, gtN, dSp, dUs, dGg, in_u64, in_i64, ne_eq, Nat.add_zero, Nat.zero_add, Nat.mul_one, Nat.le_eq, List.length_cons, List.length_nil, true_and, and_true, false_and, and_false, true_or, or_true, false_or, or_false, not_true_eq_false, not_false_eq_true, ite_true, ite_false, ↓reduceIte] at *) <;> omega)))
    | omega
    | (exact Int.emod_nonneg _ (by omega))
    | (simp only [in_u8, in_u16, in_u32, in_u64, in_i64, Nat.le_eq]; omega)
    | (clear f2; ((try simp only [spE, spN, tkE, tkN, usE, usN, grE, grN, gtR, gtN, dSp, dUs, dGg, in_u64, in_i64, ne_eq, Nat.add_zero, Nat.zero_add, Nat.mul_one, Nat.le_eq, List.length_cons, List.length_nil, true_and, and_true, false_and, and_false, true_or, or_true, false_or, or_false, not_true_eq_false, not_false_eq_true, ite_true, ite_false, ↓reduceIte] at *) <;> omega))
    | (exfalso; clear f2; ((try simp only [spE, spN, tkE, tkN, usE, usN, grE, grN, gtR, gtN, dSp, dUs, dGg, in_u64, in_i64, ne_eq, Nat.add_zero, Nat.zero_add, Nat.mul_one, Nat.le_eq, List.length_cons, List.length_nil, true_and, and_true, false_and, and_false, true_or, or_true, false_or, or_false, not_true_eq_false, not_false_eq_true, ite_true, ite_false, ↓reduceIte] at *) <;> omega))
    | (clear f2; have hp := EInv.place (n := aQ N x) (m := x.G.length) (by omega); ((try simp only [spE, spN, tkE, tkN, usE, usN, grE, grN, gtR, gtN, dSp, dUs, dGg, in_u64, in_i64, ne_eq, Nat.add_zero, Nat.zero_add, Nat.mul_one, Nat.le_eq, List.length_cons, List.length_nil, true_and, and_true, false_and, and_false, true_or, or_true, false_or, or_false, not_true_eq_false, not_false_eq_true, ite_true, ite_false, ↓reduceIte] at *) <;> omega)))
end Go.Proofs.Ytacfalpoimjemaa.Cr
