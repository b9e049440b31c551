/- Frames: Decode is the reference's. By an AI agent. -/
import Derived.Test.YtlnfolgmjfcinaaFrR
namespace Go.Proofs.Ytlnfolgmjfcinaa.Fr
open Go Go.RowKit Go.Proofs.Ytlnfolgmjfcinaa.Abs Go.Proofs.Ytlnfolgmjfcinaa.M
set_option linter.unusedVariables false
set_option linter.unusedSimpArgs false
theorem fld_zero (L : List UInt8) (i : Nat) : fld L i 0 = 0 := by unfold fld nbW nbN; simp
theorem fld_step {L : List UInt8} {i j : Nat} (h : i + j < L.length) (hj : j ≤ 7) : fld L i (j + 1) = 256 * fld L i j + ((L.getD (i + j) 0).toNat : Int) := by
  have h1 : (L.drop i).take (j + 1) = (L.drop i).take j ++ [L.getD (i + j) 0] := by
    rw [List.take_add_one, List.getElem?_drop, List.getD_eq_getElem?_getD, List.getElem?_eq_getElem h]; rfl
  have h2 := fld_lt L i j (256 ^ j) (by omega) rfl
  have h3 : 256 ^ j ≤ 256 ^ 7 := Nat.pow_le_pow_right (by omega) hj
  have hb := (L.getD (i + j) 0).toNat_lt
  have h4 : fld L i (j + 1) = (256 * fld L i j + ((L.getD (i + j) 0).toNat : Int)) % 18446744073709551616 := by
    unfold fld
    rw [h1, nbW_snoc]
  rw [h4]
  have h5 : (256 : Nat) ^ 7 = 72057594037927936 := by decide
  omega
theorem or_add (x b : Nat) (hb : b < 256) : (x * 256) ||| b = x * 256 + b := by
  have := Nat.shiftLeft_add_eq_or_of_lt (i := 8) (b := b) hb x
  rw [Nat.shiftLeft_eq] at this
  exact this.symm
theorem orF {L : List UInt8} {i j idx : Nat} {z zp : Int} (hz : z = ((Int.toNat (zp * 256 % 18446744073709551616) ||| Int.toNat ((UInt8.toNat (L.getD idx 0) : Nat) : Int) : Nat) : Int)) (hp : zp = fld L i j) (hi : idx = i + j) (hl : idx < L.length) (hj : j ≤ 7) : z = fld L i (j + 1) := by
  subst hi
  rw [fld_step hl hj, ← hp, hz]
  have h2 := fld_lt L i j (256 ^ j) (by omega) rfl
  have h3 : 256 ^ j ≤ 256 ^ 7 := Nat.pow_le_pow_right (by omega) hj
  have h5 : (256 : Nat) ^ 7 = 72057594037927936 := by decide
  rw [← hp] at h2
  have hb := (L.getD (i + j) 0).toNat_lt
  have e : Int.toNat (zp * 256 % 18446744073709551616) = zp.toNat * 256 := by omega
  rw [e, Int.toNat_natCast, or_add _ _ hb]
  omega
theorem or0F {L : List UInt8} {i : Nat} {z : Int} (hz : z = ((0 ||| Int.toNat ((UInt8.toNat (L.getD i 0) : Nat) : Int) : Nat) : Int)) (hl : i < L.length) : z = fld L i 1 := by
  rw [fld_one L i hl, hz, Nat.zero_or]
  omega
set_option maxHeartbeats 8000000 in
set_option maxRecDepth 100000 in
theorem decf_ok {L : List UInt8} {cap : Nat} (hL : L.length ≤ 140737488355328) (hc : L.length ≤ cap) : decf L cap := by
  have hLL : List.take (List.length L) (List.drop 0 L) = L := by simp
  have hpn : (pn L : Int) = fld L 21 2 := by have := fld_lt L 21 2 65536 (by decide) (by decide); unfold pn; omega
  have b0 := fld_lt L 0 1 256 (by decide) (by decide)
  have b1 := fld_lt L 1 4 4294967296 (by decide) (by decide)
  have b2 := fld_lt L 5 4 4294967296 (by decide) (by decide)
  have b3 := fld_lt L 9 4 4294967296 (by decide) (by decide)
  have b4 := fld_lt L 13 4 4294967296 (by decide) (by decide)
  have b5 := fld_lt L 17 4 4294967296 (by decide) (by decide)
  have b6 := fld_lt L 21 2 65536 (by decide) (by decide)
  unfold decf
  simp only [hLL, Atom.zOf, Atom.lOf]
  refine ⟨⟨⟨by omega, by omega⟩, hL⟩, ?_⟩
  intro l hl
  subst hl
  repeat (first
    | (refine ⟨fun h => err_ok .u8 (dErr_short (by have := of_decide_eq_true h; omega)) (by decide), fun h => ?_⟩
       have h := of_decide_eq_false h)
    | (refine ⟨fun h => err_ok .u8 (dErr_long (by have := of_decide_eq_true h; omega)) (by decide), fun h => ?_⟩
       have h := of_decide_eq_false h)
    | (refine And.intro (by first | omega | (simp only [in_i64]; omega) | (simp only [true_and, and_true, List.length_take, List.length_drop, decide_eq_true_eq, decide_eq_false_iff_not]; omega)) ?_)
    | (intro (z : Int) hz
       have hz := orF hz H (by omega) (by omega) (by decide)
       simp only [Nat.reduceAdd] at hz
       have H := hz)
    | (intro (z : Int) hz
       have hz := or0F hz (by omega)
       have H := hz)
    | (intro (z : Int) hz))
  intro l1 hl1 l2 hl2
  have e : Int.toNat (z % 65536) = pn l := by omega
  simp only [e, Nat.sub_zero] at hl1
  have hlen2 : l2.length = pn l := by rw [hl2, hl1]; simp; omega
  have hl3 : l2 = (l.drop 23).take (pn l) := hl2.trans hl1
  simp only [e, Nat.mul_one, Nat.add_zero]
  repeat (first
    | (refine ⟨fun h => err_ok .u8 (dErr_short (by have := of_decide_eq_true h; omega)) (by decide), fun h => ?_⟩
       have h := of_decide_eq_false h)
    | (refine ⟨fun h => err_ok .u8 (dErr_long (by have := of_decide_eq_true h; omega)) (by decide), fun h => ?_⟩
       have h := of_decide_eq_false h)
    | (refine And.intro (by first | omega | (simp only [in_i64]; omega) | (simp only [true_and, and_true, List.length_take, List.length_drop, decide_eq_true_eq, decide_eq_false_iff_not]; omega)) ?_)
    | (intro (z : Int) hz
       have hz := orF hz H (by omega) (by omega) (by decide)
       simp only [Nat.reduceAdd] at hz
       have H := hz)
    | (intro (z : Int) hz
       have hz := or0F hz (by omega)
       have H := hz)
    | (intro (z : Int) hz))
  have b8 := fld_lt l (23 + pn l + 8) 4 4294967296 (by decide) (by decide)
  have hlen : l.length = 35 + pn l := by omega
  have hz6 : z = crcI (l.take (31 + pn l)) := by
    rw [hz, List.drop_zero]
    congr 2
    omega
  have e8 : 23 + pn l + 8 = 31 + pn l := by omega
  rw [e8] at H b8
  have hL2 : List.take l2.length (List.drop 0 l2) = l2 := by simp
  have key : ∀ x y u v : Int, x = fld l 0 1 → y = fld l 9 4 → u = fld l 13 4 → v = fld l 17 4 → mayB x y u v l2.length = mayB (fld l 0 1) (fld l 9 4) (fld l 13 4) (fld l 17 4) (pn l) := by
    rintro x y u v rfl rfl rfl rfl
    rw [hlen2]
  refine ⟨fun h4 => ?_, fun h4 => ?_⟩
  · have h4 := of_decide_eq_true h4
    refine err_ok .u8 (dErr_check hlen ?_) (by decide)
    rw [← hz6, ← H]
    omega
  have h4 := Decidable.not_not.1 (of_decide_eq_false h4)
  have hE := dErr_may hlen (by rw [← hz6, ← H]; omega)
  rw [hL2]
  rw [key]
  rotate_left
  · omega
  · omega
  · omega
  · omega
  refine ⟨⟨⟨by omega, by omega⟩, trivial⟩, fun h5 => ?_, fun h5 => ?_⟩
  · have h5 : mayB (fld l 0 1) (fld l 9 4) (fld l 13 4) (fld l 17 4) (pn l) = false := by simpa using h5
    exact err_ok .u8 (hE.trans (by rw [h5]; rfl)) (by decide)
  have h5 : mayB (fld l 0 1) (fld l 9 4) (fld l 13 4) (fld l 17 4) (pn l) = true := by simpa using h5
  have hE0 : dErr l = 0 := hE.trans (if_pos h5)
  have hf : ∀ i n, fv l i n = fld l i n := fun i n => if_pos hE0
  have hP : dP l = l2 := (if_pos hE0 : dP l = (l.drop 23).take (pn l)).trans hl3.symm
  have hT : dT l = fld l (23 + pn l) 8 := if_pos hE0
  rw [hf, hf, hf, hf, hf, hf, hP, hT, hE0]
  exact ⟨⟨⟨by omega, by omega, by omega, by omega, by omega, by omega, ⟨trivial, rfl, rfl⟩, trivial⟩, by omega, ⟨rfl, inR0 _⟩, trivial⟩, trivial, trivial, rfl, trivial⟩
end Go.Proofs.Ytlnfolgmjfcinaa.Fr
