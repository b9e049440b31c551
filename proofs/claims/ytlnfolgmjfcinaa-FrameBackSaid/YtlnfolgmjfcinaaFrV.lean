/- Frames: there and back. By an AI agent. -/
import Derived.Test.YtlnfolgmjfcinaaFrX
import Derived.Test.YtlnfolgmjfcinaaFrI
import Derived.Test.YtlnfolgmjfcinaaFrQ
import Derived.Test.YtlnfolgmjfcinaaLin
namespace Go.Proofs.Ytlnfolgmjfcinaa.Fr
open Go Go.RowKit Go.Proofs.Ytlnfolgmjfcinaa.Abs Go.Proofs.Ytlnfolgmjfcinaa.M
set_option linter.unusedVariables false
set_option linter.unusedSimpArgs false
/-! numbers of bytes, and bytes of numbers -/
theorem nb2 (a b : UInt8) : nbW [a, b] = 256 * (a.toNat : Int) + (b.toNat : Int) := by
  have ha := a.toNat_lt
  have hb := b.toNat_lt
  unfold nbW nbN
  simp only [List.foldl_cons, List.foldl_nil]
  omega
theorem nb4 (a b c d : UInt8) : nbW [a, b, c, d] = 16777216 * (a.toNat : Int) + 65536 * (b.toNat : Int) + 256 * (c.toNat : Int) + (d.toNat : Int) := by
  have ha := a.toNat_lt
  have hb := b.toNat_lt
  have hc := c.toNat_lt
  have hd := d.toNat_lt
  unfold nbW nbN
  simp only [List.foldl_cons, List.foldl_nil]
  omega
theorem nb1 (a : UInt8) : nbW [a] = (a.toNat : Int) := by
  have ha := a.toNat_lt
  unfold nbW nbN
  simp only [List.foldl_cons, List.foldl_nil]
  omega
theorem nb8 (a b c d e f g h : UInt8) : nbW [a, b, c, d, e, f, g, h] = 4294967296 * nbW [a, b, c, d] + nbW [e, f, g, h] := by
  rw [nb4, nb4]
  have ha := a.toNat_lt
  have hb := b.toNat_lt
  have hc := c.toNat_lt
  have hd := d.toNat_lt
  have he := e.toNat_lt
  have hf := f.toNat_lt
  have hg := g.toNat_lt
  have hh := h.toNat_lt
  unfold nbW nbN
  simp only [List.foldl_cons, List.foldl_nil]
  omega
theorem u8_nat {x : Int} (h : 0 ≤ x ∧ x < 256) : ((u8 x).toNat : Int) = x := by
  unfold u8
  rw [UInt8.toNat_ofNat']
  omega
theorem nb_be2 {x : Int} (h : 0 ≤ x ∧ x < 65536) : nbW (be2 x) = x := by
  unfold be2
  rw [nb2, u8_nat (by omega), u8_nat (by omega)]
  omega
theorem nb_be4 {x : Int} (h : 0 ≤ x ∧ x ≤ 4294967295) : nbW (be4 x) = x := by
  unfold be4
  rw [nb4, u8_nat (by omega), u8_nat (by omega), u8_nat (by omega), u8_nat (by omega)]
  omega
theorem nb_be8 {x : Int} (h : 0 ≤ x ∧ x ≤ 18446744073709551615) : nbW (be8 x) = x := by
  have e : be8 x = [u8 (x / 4294967296 % 4294967296 / 16777216 % 256), u8 (x / 4294967296 % 4294967296 / 65536 % 256), u8 (x / 4294967296 % 4294967296 / 256 % 256), u8 (x / 4294967296 % 4294967296 % 256), u8 (x % 4294967296 / 16777216 % 256), u8 (x % 4294967296 / 65536 % 256), u8 (x % 4294967296 / 256 % 256), u8 (x % 4294967296 % 256)] := rfl
  rw [e, nb8]
  have h1 : nbW [u8 (x / 4294967296 % 4294967296 / 16777216 % 256), u8 (x / 4294967296 % 4294967296 / 65536 % 256), u8 (x / 4294967296 % 4294967296 / 256 % 256), u8 (x / 4294967296 % 4294967296 % 256)] = x / 4294967296 % 4294967296 := nb_be4 (x := x / 4294967296 % 4294967296) (by omega)
  have h2 : nbW [u8 (x % 4294967296 / 16777216 % 256), u8 (x % 4294967296 / 65536 % 256), u8 (x % 4294967296 / 256 % 256), u8 (x % 4294967296 % 256)] = x % 4294967296 := nb_be4 (x := x % 4294967296) (by omega)
  rw [h1, h2]
  omega
theorem u8_of (b : UInt8) {x : Int} (h : x = (b.toNat : Int)) : u8 x = b := by
  subst h
  unfold u8
  rw [Int.toNat_natCast, UInt8.ofNat_toNat]
theorem be4_nb (a b c d : UInt8) : be4 (nbW [a, b, c, d]) = [a, b, c, d] := by
  rw [nb4]
  have ha := a.toNat_lt
  have hb := b.toNat_lt
  have hc := c.toNat_lt
  have hd := d.toNat_lt
  unfold be4
  rw [u8_of a (by omega), u8_of b (by omega), u8_of c (by omega), u8_of d (by omega)]
theorem be2_nb (a b : UInt8) : be2 (nbW [a, b]) = [a, b] := by
  rw [nb2]
  have ha := a.toNat_lt
  have hb := b.toNat_lt
  unfold be2
  rw [u8_of a (by omega), u8_of b (by omega)]
theorem be8_nb (a b c d e f g h : UInt8) : be8 (nbW [a, b, c, d, e, f, g, h]) = [a, b, c, d, e, f, g, h] := by
  rw [nb8]
  have h1 := fld_lt [a, b, c, d] 0 4 4294967296 (by decide) (by decide)
  have h2 := fld_lt [e, f, g, h] 0 4 4294967296 (by decide) (by decide)
  have e1 : fld [a, b, c, d] 0 4 = nbW [a, b, c, d] := rfl
  have e2 : fld [e, f, g, h] 0 4 = nbW [e, f, g, h] := rfl
  rw [e1] at h1
  rw [e2] at h2
  unfold be8
  rw [show (4294967296 * nbW [a, b, c, d] + nbW [e, f, g, h]) / 4294967296 % 4294967296 = nbW [a, b, c, d] by omega, show (4294967296 * nbW [a, b, c, d] + nbW [e, f, g, h]) % 4294967296 = nbW [e, f, g, h] by omega, be4_nb, be4_nb]
  rfl
/-- a row of so many is of them -/
theorem row_of1 {l : List UInt8} (h : l.length = 1) : ∃ a, l = [a] := by
  match l, h with
  | [a], _ => exact ⟨a, rfl⟩
theorem row_of2 {l : List UInt8} (h : l.length = 2) : ∃ a b, l = [a, b] := by
  match l, h with
  | [a, b], _ => exact ⟨a, b, rfl⟩
theorem row_of4 {l : List UInt8} (h : l.length = 4) : ∃ a b c d, l = [a, b, c, d] := by
  match l, h with
  | [a, b, c, d], _ => exact ⟨a, b, c, d, rfl⟩
theorem row_of8 {l : List UInt8} (h : l.length = 8) : ∃ a b c d e f g i, l = [a, b, c, d, e, f, g, i] := by
  match l, h with
  | [a, b, c, d, e, f, g, i], _ => exact ⟨a, b, c, d, e, f, g, i, rfl⟩
theorem be4_fld {B : List UInt8} {i : Nat} (h : i + 4 ≤ B.length) : be4 (fld B i 4) = (B.drop i).take 4 := by
  unfold fld
  obtain ⟨a, b, c, d, e⟩ := row_of4 (l := (B.drop i).take 4) (by simp; omega)
  rw [e, be4_nb]
theorem be2_fld {B : List UInt8} {i : Nat} (h : i + 2 ≤ B.length) : be2 (fld B i 2) = (B.drop i).take 2 := by
  unfold fld
  obtain ⟨a, b, e⟩ := row_of2 (l := (B.drop i).take 2) (by simp; omega)
  rw [e, be2_nb]
theorem be8_fld {B : List UInt8} {i : Nat} (h : i + 8 ≤ B.length) : be8 (fld B i 8) = (B.drop i).take 8 := by
  unfold fld
  obtain ⟨a, b, c, d, e, f, g, j, e⟩ := row_of8 (l := (B.drop i).take 8) (by simp; omega)
  rw [e, be8_nb]
theorem u8_fld {B : List UInt8} {i : Nat} (h : i + 1 ≤ B.length) : [u8 (fld B i 1)] = (B.drop i).take 1 := by
  unfold fld
  obtain ⟨a, e⟩ := row_of1 (l := (B.drop i).take 1) (by simp; omega)
  rw [e, nb1, u8_of a rfl]
/-! a datagram is read -/
section
variable {k s e n a m t : Int} {P : List UInt8}
theorem enc_drop23 : (enc k s e n a m P t).drop 23 = P ++ (be8 t ++ be4 (crcI (tagd k s e n a m P t))) := by
  have : (enc k s e n a m P t).drop 23 = (P ++ be8 t) ++ be4 (crcI (tagd k s e n a m P t)) := rfl
  rw [this, List.append_assoc]
theorem enc_pn (hP : P.length ≤ 256) : pn (enc k s e n a m P t) = P.length := by
  have h : fld (enc k s e n a m P t) 21 2 = (P.length : Int) := by
    have : fld (enc k s e n a m P t) 21 2 = nbW (be2 P.length) := rfl
    rw [this, nb_be2 (by omega)]
  unfold pn
  rw [h]
  omega
theorem enc_tag_at : (enc k s e n a m P t).drop (23 + P.length) = be8 t ++ be4 (crcI (tagd k s e n a m P t)) := by
  rw [← List.drop_drop, enc_drop23, List.drop_left']
  rfl
theorem enc_check_at : (enc k s e n a m P t).drop (31 + P.length) = be4 (crcI (tagd k s e n a m P t)) := by
  rw [show 31 + P.length = (23 + P.length) + 8 by omega, ← List.drop_drop, enc_tag_at, List.drop_left']
  rfl
theorem enc_take : (enc k s e n a m P t).take (31 + P.length) = tagd k s e n a m P t := by
  unfold enc
  rw [List.take_left']
  exact tagd_length _ _ _ _ _ _ _ _
theorem enc_fld_check (hP : P.length ≤ 256) : fld (enc k s e n a m P t) (31 + P.length) 4 = crcI (tagd k s e n a m P t) := by
  have hc := (in_u32 _).1 (crcI_in (tagd k s e n a m P t))
  unfold fld
  rw [enc_check_at, show List.take 4 (be4 (crcI (tagd k s e n a m P t))) = be4 (crcI (tagd k s e n a m P t)) from rfl, nb_be4 hc]
theorem enc_dErr (hk : 0 ≤ k ∧ k ≤ 255) (hn : 0 ≤ n ∧ n ≤ 4294967295) (ha : 0 ≤ a ∧ a ≤ 4294967295) (hm : 0 ≤ m ∧ m ≤ 4294967295) (hmay : mayB k n a m P.length = true) : dErr (enc k s e n a m P t) = 0 := by
  have hP := (may_k hmay).2.2
  have hp := enc_pn (k := k) (s := s) (e := e) (n := n) (a := a) (m := m) (t := t) hP
  have f0 : fld (enc k s e n a m P t) 0 1 = k := by
    have : fld (enc k s e n a m P t) 0 1 = nbW [u8 k] := rfl
    rw [this, nb1, u8_nat (by omega)]
  have f9 : fld (enc k s e n a m P t) 9 4 = n := (show fld (enc k s e n a m P t) 9 4 = nbW (be4 n) from rfl).trans (nb_be4 hn)
  have f13 : fld (enc k s e n a m P t) 13 4 = a := (show fld (enc k s e n a m P t) 13 4 = nbW (be4 a) from rfl).trans (nb_be4 ha)
  have f17 : fld (enc k s e n a m P t) 17 4 = m := (show fld (enc k s e n a m P t) 17 4 = nbW (be4 m) from rfl).trans (nb_be4 hm)
  rw [dErr_may (by rw [hp, enc_length]) (by rw [hp, enc_fld_check hP, enc_take]), f0, f9, f13, f17, hp, hmay]
  rfl
theorem enc_fields (hk : 0 ≤ k ∧ k ≤ 255) (hs : 0 ≤ s ∧ s ≤ 4294967295) (he : 0 ≤ e ∧ e ≤ 4294967295) (hn : 0 ≤ n ∧ n ≤ 4294967295) (ha : 0 ≤ a ∧ a ≤ 4294967295) (hm : 0 ≤ m ∧ m ≤ 4294967295) (ht : 0 ≤ t ∧ t ≤ 18446744073709551615) (hmay : mayB k n a m P.length = true) :
    fv (enc k s e n a m P t) 0 1 = k ∧ fv (enc k s e n a m P t) 1 4 = s ∧ fv (enc k s e n a m P t) 5 4 = e ∧ fv (enc k s e n a m P t) 9 4 = n ∧ fv (enc k s e n a m P t) 13 4 = a ∧ fv (enc k s e n a m P t) 17 4 = m ∧ dP (enc k s e n a m P t) = P ∧ dT (enc k s e n a m P t) = t := by
  have hP := (may_k hmay).2.2
  have hp := enc_pn (k := k) (s := s) (e := e) (n := n) (a := a) (m := m) (t := t) hP
  have h0 := enc_dErr (s := s) (e := e) (t := t) hk hn ha hm hmay
  have f : ∀ i j, fv (enc k s e n a m P t) i j = fld (enc k s e n a m P t) i j := fun i j => if_pos h0
  refine ⟨?_, ?_, ?_, ?_, ?_, ?_, ?_, ?_⟩
  · rw [f]
    have : fld (enc k s e n a m P t) 0 1 = nbW [u8 k] := rfl
    rw [this, nb1, u8_nat (by omega)]
  · rw [f]; exact (show fld (enc k s e n a m P t) 1 4 = nbW (be4 s) from rfl).trans (nb_be4 hs)
  · rw [f]; exact (show fld (enc k s e n a m P t) 5 4 = nbW (be4 e) from rfl).trans (nb_be4 he)
  · rw [f]; exact (show fld (enc k s e n a m P t) 9 4 = nbW (be4 n) from rfl).trans (nb_be4 hn)
  · rw [f]; exact (show fld (enc k s e n a m P t) 13 4 = nbW (be4 a) from rfl).trans (nb_be4 ha)
  · rw [f]; exact (show fld (enc k s e n a m P t) 17 4 = nbW (be4 m) from rfl).trans (nb_be4 hm)
  · unfold dP
    rw [if_pos h0, hp, enc_drop23, List.take_left']
    rfl
  · unfold dT
    rw [if_pos h0, hp]
    unfold fld
    rw [enc_tag_at, List.take_left' (by rfl), nb_be8 ht]
/-- with a byte more -/
theorem enc_more (hP : P.length ≤ 256) (b : UInt8) : dErr (enc k s e n a m P t ++ [b]) = 5 := by
  have hl := enc_length k s e n a m P t
  have hp := enc_pn (k := k) (s := s) (e := e) (n := n) (a := a) (m := m) (t := t) hP
  have : pn (enc k s e n a m P t ++ [b]) = pn (enc k s e n a m P t) := rfl
  refine dErr_long ?_
  rw [this, hp, List.length_append, hl]
  simp
/-- cut short -/
theorem enc_short (hP : P.length ≤ 256) {j : Nat} (hj : j < (enc k s e n a m P t).length) : dErr ((enc k s e n a m P t).take j) = 4 := by
  have hl := enc_length k s e n a m P t
  have hp := enc_pn (k := k) (s := s) (e := e) (n := n) (a := a) (m := m) (t := t) hP
  refine dErr_short ?_
  have h1 : ((enc k s e n a m P t).take j).length = j := by rw [List.length_take]; omega
  rw [h1]
  by_cases h : j < 35
  · exact .inl h
  · have : pn ((enc k s e n a m P t).take j) = pn (enc k s e n a m P t) := by
      unfold pn fld
      rw [List.drop_take, List.take_take, Nat.min_eq_left (by omega)]
    rw [this, hp]
    omega
/-- a byte that is another is found by the check -/
theorem crc_other {l l' : List UInt8} {j : Nat} (hl : l'.length = l.length) (h4 : 4 ≤ l.length) (hj : j < l.length) (hd : l'.getD j 0 ≠ l.getD j 0) (hs : ∀ i, i ≠ j → l'.getD i 0 = l.getD i 0) : crcI l' ≠ crcI l := by
  intro he
  have he : Crc.crc l = Crc.crc l' := by unfold crcI at he; omega
  obtain ⟨w, hw1, hw2, hw3⟩ : ∃ w, w ≤ j ∧ j < w + 4 ∧ w + 4 ≤ l.length := ⟨min j (l.length - 4), by omega, by omega, by omega⟩
  have part : ∀ x : List UInt8, w + 4 ≤ x.length → x = x.take w ++ ([x.getD w 0, x.getD (w + 1) 0, x.getD (w + 2) 0, x.getD (w + 3) 0] ++ x.drop (w + 4)) := fun x hx => by
    conv => lhs; rw [← List.take_append_drop w x]
    congr 1
    have g : ∀ i, i < x.length → x.drop i = x.getD i 0 :: x.drop (i + 1) := fun i hi => by
      rw [List.drop_eq_getElem_cons hi, List.getD_eq_getElem?_getD, List.getElem?_eq_getElem hi]; rfl
    rw [g w (by omega), g (w + 1) (by omega), g (w + 1 + 1) (by omega), g (w + 1 + 1 + 1) (by omega)]
    rfl
  have e1 := part l hw3
  have e2 := part l' (by omega)
  have ext : ∀ (x y : List UInt8), x.length = y.length → (∀ i, i < x.length → x.getD i 0 = y.getD i 0) → x = y := fun x y h1 h2 => by
    refine List.ext_getElem h1 fun i k1 k2 => ?_
    have := h2 i k1
    rw [List.getD_eq_getElem?_getD, List.getD_eq_getElem?_getD, List.getElem?_eq_getElem k1, List.getElem?_eq_getElem k2] at this
    exact this
  have ht : l'.take w = l.take w := ext _ _ (by simp [hl]) fun i hi => by
    have hi : i < w := by rw [List.length_take] at hi; omega
    have := hs i (by omega)
    rw [List.getD_eq_getElem?_getD, List.getD_eq_getElem?_getD] at this ⊢
    rw [List.getElem?_take_of_lt hi, List.getElem?_take_of_lt hi]
    exact this
  have hdr : l'.drop (w + 4) = l.drop (w + 4) := ext _ _ (by simp [hl]) fun i hi => by
    have := hs (w + 4 + i) (by omega)
    rw [List.getD_eq_getElem?_getD, List.getD_eq_getElem?_getD] at this ⊢
    rw [List.getElem?_drop, List.getElem?_drop]
    exact this
  have xx : ∀ p q : UInt8, p ^^^ (p ^^^ q) = q := fun p q => by rw [← UInt8.xor_assoc, UInt8.xor_self, UInt8.zero_xor]
  rw [e1, e2, ht, hdr] at he
  have he2 : Crc.crc (l.take w ++ ([l.getD w 0, l.getD (w + 1) 0, l.getD (w + 2) 0, l.getD (w + 3) 0] ++ l.drop (w + 4))) = Crc.crc (l.take w ++ ([l.getD w 0 ^^^ (l.getD w 0 ^^^ l'.getD w 0), l.getD (w + 1) 0 ^^^ (l.getD (w + 1) 0 ^^^ l'.getD (w + 1) 0), l.getD (w + 2) 0 ^^^ (l.getD (w + 2) 0 ^^^ l'.getD (w + 2) 0), l.getD (w + 3) 0 ^^^ (l.getD (w + 3) 0 ^^^ l'.getD (w + 3) 0)] ++ l.drop (w + 4))) := by
    rw [xx, xx, xx, xx]; exact he
  obtain ⟨d0, d1, d2, d3⟩ := Crc.crc_differs _ _ _ _ _ _ _ _ _ _ he2
  have eq0 : ∀ p q : UInt8, p ^^^ q = 0 → q = p := fun p q h => by
    have := xx p q
    rw [h, UInt8.xor_zero] at this
    exact this.symm
  rcases (by omega : j = w ∨ j = w + 1 ∨ j = w + 2 ∨ j = w + 3) with rfl | rfl | rfl | rfl
  · exact hd (eq0 _ _ d0)
  · exact hd (eq0 _ _ d1)
  · exact hd (eq0 _ _ d2)
  · exact hd (eq0 _ _ d3)
theorem getD_take {l : List UInt8} {i n : Nat} (h : i < n) : (l.take n).getD i 0 = l.getD i 0 := by
  rw [List.getD_eq_getElem?_getD, List.getD_eq_getElem?_getD, List.getElem?_take_of_lt h]
theorem getD_drop {l : List UInt8} {i n : Nat} : (l.drop n).getD i 0 = l.getD (n + i) 0 := by
  rw [List.getD_eq_getElem?_getD, List.getD_eq_getElem?_getD, List.getElem?_drop]
theorem getD_ge {l : List UInt8} {i : Nat} (h : l.length ≤ i) : l.getD i 0 = 0 := by
  rw [List.getD_eq_getElem?_getD, List.getElem?_eq_none h]; rfl
theorem fld4_getD {B : List UInt8} {i : Nat} (h : i + 4 ≤ B.length) : fld B i 4 = 16777216 * ((B.getD i 0).toNat : Int) + 65536 * ((B.getD (i + 1) 0).toNat : Int) + 256 * ((B.getD (i + 2) 0).toNat : Int) + ((B.getD (i + 3) 0).toNat : Int) := by
  rw [fld_step (by omega) (by omega), fld_step (by omega) (by omega), fld_step (by omega) (by omega), fld_one _ _ (by omega)]
  omega
/-- with one byte another -/
theorem enc_other (hP : P.length ≤ 256) {D : List UInt8} {j : Nat} (hl : D.length = (enc k s e n a m P t).length) (hj : j < D.length) (hd : D.getD j 0 ≠ (enc k s e n a m P t).getD j 0) (hs : ∀ i, i ≠ j → D.getD i 0 = (enc k s e n a m P t).getD i 0) : dErr D ≠ 0 := by
  intro h0
  have hel := enc_length k s e n a m P t
  have hck := enc_fld_check (k := k) (s := s) (e := e) (n := n) (a := a) (m := m) (t := t) hP
  have htk := enc_take (k := k) (s := s) (e := e) (n := n) (a := a) (m := m) (P := P) (t := t)
  generalize enc k s e n a m P t = E at *
  have hlen : D.length = 35 + pn D ∧ fld D (31 + pn D) 4 = crcI (D.take (31 + pn D)) := by
    unfold dErr at h0
    split at h0
    · omega
    · split at h0
      · omega
      · split at h0
        · omega
        · split at h0
          · omega
          · exact ⟨by omega, Decidable.not_not.1 ‹_›⟩
  obtain ⟨h1, h2⟩ := hlen
  have hpn : pn D = P.length := by omega
  rw [hpn] at h2
  by_cases hjc : j < 31 + P.length
  · have e1 : fld D (31 + P.length) 4 = fld E (31 + P.length) 4 := by
      rw [fld4_getD (by omega), fld4_getD (by omega), hs _ (by omega), hs _ (by omega), hs _ (by omega), hs _ (by omega)]
    rw [e1, hck, ← htk] at h2
    refine crc_other (l := E.take (31 + P.length)) (l' := D.take (31 + P.length)) (j := j) (by simp [hl]) (by rw [List.length_take]; omega) (by rw [List.length_take]; omega) ?_ (fun i hi => ?_) h2.symm
    · rw [getD_take hjc, getD_take hjc]; exact hd
    · by_cases hlt : i < 31 + P.length
      · rw [getD_take hlt, getD_take hlt]; exact hs i hi
      · rw [getD_ge (by rw [List.length_take]; omega), getD_ge (by rw [List.length_take]; omega)]
  · have e1 : D.take (31 + P.length) = E.take (31 + P.length) := by
      refine List.ext_getElem (by simp [hl]) fun i k1 k2 => ?_
      have hi : i < 31 + P.length := by rw [List.length_take] at k1; omega
      have := hs i (by omega)
      have this2 := (getD_take (l := D) hi).trans (this.trans (getD_take (l := E) hi).symm)
      rw [List.getD_eq_getElem?_getD, List.getD_eq_getElem?_getD, List.getElem?_eq_getElem k1, List.getElem?_eq_getElem k2] at this2
      exact this2
    rw [e1, htk, ← hck, fld4_getD (by omega), fld4_getD (by omega)] at h2
    have hb : ∀ i, (D.getD i 0).toNat < 256 := fun i => (D.getD i 0).toNat_lt
    have hb' : ∀ i, (E.getD i 0).toNat < 256 := fun i => (E.getD i 0).toNat_lt
    have a0 := hb (31 + P.length)
    have a1 := hb (31 + P.length + 1)
    have a2 := hb (31 + P.length + 2)
    have a3 := hb (31 + P.length + 3)
    have b0 := hb' (31 + P.length)
    have b1 := hb' (31 + P.length + 1)
    have b2 := hb' (31 + P.length + 2)
    have b3 := hb' (31 + P.length + 3)
    have hne : (D.getD j 0).toNat ≠ (E.getD j 0).toNat := fun h => hd (u8_ext h)
    rcases (by omega : j = 31 + P.length ∨ j = 31 + P.length + 1 ∨ j = 31 + P.length + 2 ∨ j = 31 + P.length + 3) with rfl | rfl | rfl | rfl <;> omega
/-- whatever is read has just that datagram -/
theorem enc_back {B : List UInt8} (h0 : dErr B = 0) : enc (fv B 0 1) (fv B 1 4) (fv B 5 4) (fv B 9 4) (fv B 13 4) (fv B 17 4) (dP B) (dT B) = B ∧ mayB (fv B 0 1) (fv B 9 4) (fv B 13 4) (fv B 17 4) (dP B).length = true := by
  have hlen : B.length = 35 + pn B ∧ fld B (31 + pn B) 4 = crcI (B.take (31 + pn B)) ∧ mayB (fld B 0 1) (fld B 9 4) (fld B 13 4) (fld B 17 4) (pn B) = true := by
    have h := h0
    unfold dErr at h
    split at h
    · omega
    · split at h
      · omega
      · split at h
        · omega
        · split at h
          · omega
          · split at h
            · exact ⟨by omega, Decidable.not_not.1 ‹_›, ‹_›⟩
            · omega
  obtain ⟨h1, h2, h3⟩ := hlen
  have f : ∀ i j, fv B i j = fld B i j := fun i j => if_pos h0
  have hP : dP B = (B.drop 23).take (pn B) := if_pos h0
  have hT : dT B = fld B (23 + pn B) 8 := if_pos h0
  have hPl : (dP B).length = pn B := by rw [hP, List.length_take, List.length_drop]; omega
  have hpz : ((dP B).length : Int) = fld B 21 2 := by
    have := fld_lt B 21 2 65536 (by decide) (by decide)
    rw [hPl]; unfold pn; omega
  refine ⟨?_, by rw [f, f, f, f, hPl]; exact h3⟩
  have step : ∀ i j, i + j ≤ B.length → B.drop i = (B.drop i).take j ++ B.drop (i + j) := fun i j _ => by
    conv => lhs; rw [← List.take_append_drop j (B.drop i)]
    rw [List.drop_drop]
  have ht : tagd (fv B 0 1) (fv B 1 4) (fv B 5 4) (fv B 9 4) (fv B 13 4) (fv B 17 4) (dP B) (dT B) = B.take (31 + pn B) := by
    unfold tagd sgn
    rw [f, f, f, f, f, f, hpz, hT, be4_fld (by omega), be4_fld (by omega), be4_fld (by omega), be4_fld (by omega), be4_fld (by omega), be2_fld (by omega), be8_fld (by omega), hP]
    have e0 : ∀ X : List UInt8, u8 (fld B 0 1) :: X = (B.drop 0).take 1 ++ X := fun X => by rw [← u8_fld (by omega)]; rfl
    have hB : B.take (31 + pn B) = (B.drop 0).take 1 ++ ((B.drop 1).take 4 ++ ((B.drop 5).take 4 ++ ((B.drop 9).take 4 ++ ((B.drop 13).take 4 ++ ((B.drop 17).take 4 ++ ((B.drop 21).take 2 ++ (B.drop 23).take (pn B))))))) ++ (B.drop (23 + pn B)).take 8 := by
      have c : ∀ i j q, i + j ≤ q → (B.drop i).take (q - i) = (B.drop i).take j ++ (B.drop (i + j)).take (q - (i + j)) := fun i j q h => by
        rw [show q - i = j + (q - (i + j)) by omega, List.take_add, List.drop_drop]
      have : B.take (31 + pn B) = (B.drop 0).take (31 + pn B - 0) := by simp
      rw [this, c 0 1 _ (by omega), c (0 + 1) 4 _ (by omega), c (0 + 1 + 4) 4 _ (by omega), c (0 + 1 + 4 + 4) 4 _ (by omega), c (0 + 1 + 4 + 4 + 4) 4 _ (by omega), c (0 + 1 + 4 + 4 + 4 + 4) 4 _ (by omega), c (0 + 1 + 4 + 4 + 4 + 4 + 4) 2 _ (by omega), c (0 + 1 + 4 + 4 + 4 + 4 + 4 + 2) (pn B) _ (by omega)]
      have h8 : 31 + pn B - (0 + 1 + 4 + 4 + 4 + 4 + 4 + 2 + pn B) = 8 := by omega
      rw [h8]
      simp only [Nat.zero_add, Nat.reduceAdd, List.append_assoc]
    rw [e0, hB]
  unfold enc
  rw [ht, ← h2, be4_fld (by omega)]
  conv => rhs; rw [← List.take_append_drop (31 + pn B) B]
  congr 1
  rw [List.take_of_length_le (by rw [List.length_drop]; omega)]
end
end Go.Proofs.Ytlnfolgmjfcinaa.Fr
