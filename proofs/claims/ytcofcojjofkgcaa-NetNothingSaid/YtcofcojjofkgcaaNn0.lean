/- net: what calls make of a way's row; what is always so: plain mathematics. By an AI agent. -/
import Derived.Test.YtcofcojjofkgcaaAbsN
namespace Go.Proofs.Ytcofcojjofkgcaa.Nn
open Go.Proofs.Ytcofcojjofkgcaa.Abs
set_option linter.unusedVariables false
/-- a datagram's number -/
def rowId (r : List UInt8) : Int := (((r.getD 1 0).toNat * 256 ||| (r.getD 2 0).toNat : Nat) : Int)
/-- the number of the one at that place, if so many have been looked at -/
def idAt (L : List (List UInt8)) (at_ : Int) (k : Nat) : Int := if at_ < k then rowId (L.getD at_.toNat []) else 0
/-! what a call makes of a way's row -/
def stands (L : List (List UInt8)) (t : Int) : Prop := 0 ≤ t ∧ t < (L.length : Int)
instance (L : List (List UInt8)) (t : Int) : Decidable (stands L t) := inferInstanceAs (Decidable (_ ∧ _))
def sendL (L : List (List UInt8)) (r : List UInt8) : List (List UInt8) := if 64 ≤ L.length then L.drop 1 ++ [r] else L ++ [r]
def delL (L : List (List UInt8)) (t : Int) : List (List UInt8) := if stands L t then L.take t.toNat ++ L.drop (t.toNat + 1) else L
def delB (L : List (List UInt8)) (t : Int) : List UInt8 := if stands L t then L.getD t.toNat [] else []
def standE (L : List (List UInt8)) (t : Int) : Int := if stands L t then 0 else 6
def dblE (L : List (List UInt8)) (t : Int) : Int := if stands L t then (if 64 ≤ L.length then 7 else 0) else 6
def dblL (L : List (List UInt8)) (t : Int) : List (List UInt8) := if stands L t ∧ L.length < 64 then L ++ [L.getD t.toNat []] else L
def dblC (L : List (List UInt8)) (t : Int) (c : Nat) : Nat := if stands L t ∧ L.length < 64 then L.length + 1 else c
def flipB (r : List UInt8) (b : Int) : List UInt8 := r.set (b / 8).toNat (UInt8.ofNat ((r.getD (b / 8).toNat 0).toNat ^^^ (1 * 2 ^ (b % 8).toNat % 256 : Int).toNat))
def canF (L : List (List UInt8)) (t b : Int) : Prop := stands L t ∧ 0 ≤ b ∧ b / 8 < ((L.getD t.toNat []).length : Int)
instance (L : List (List UInt8)) (t b : Int) : Decidable (canF L t b) := inferInstanceAs (Decidable (_ ∧ _ ∧ _))
def flE (L : List (List UInt8)) (t b : Int) : Int := if canF L t b then 0 else if stands L t then 1 else 6
def flL (L : List (List UInt8)) (t b : Int) : List (List UInt8) := if canF L t b then L.set t.toNat (flipB (L.getD t.toNat []) b) else L
structure NS where
  k : Nat
  s : Int
  L0 : List (List UInt8)
  L1 : List (List UInt8)
  a0 : List Int
  b0 : List Int
  a1 : List Int
  b1 : List Int
  c0 : Nat
  c1 : Nat
/-- what is always so of a way -/
structure InvW (w : UInt8) (s : Int) (k c : Nat) (L : List (List UInt8)) (a b : List Int) : Prop where
  cap : L.length ≤ c
  len : L.length ≤ 64
  ab : b.length = a.length
  row : ∀ r ∈ L, ∃ (i f : UInt8), r = [w, 0, i, f] ∧ (i.toNat : Int) ≤ s ∧ f.toNat ≤ 1
  cnt : ∀ q : Int, ((L.countP fun r => rowId r == q : Nat) : Int) ≤ mget a q b 0
  top : ∀ q : Int, mget a q b 0 ≤ k
structure Inv (n : Nat) (x : NS) : Prop where
  kn : x.k ≤ n
  k2 : x.k ≤ 200
  s0 : 0 ≤ x.s
  sk : x.s ≤ x.k
  i0 : InvW 0 x.s x.k x.c0 x.L0 x.a0 x.b0
  i1 : InvW 1 x.s x.k x.c1 x.L1 x.a1 x.b1
def zs : Nat → Prop
  | 0 => True
  | n + 1 => (0 : Int) = (0 : Int) ∧ zs n
def rowZ (w : Nat) (z : Int) : List UInt8 := [UInt8.ofNat w, UInt8.ofNat (Int.toNat (z / (256 : Int) % (256 : Int))), UInt8.ofNat (Int.toNat (z % (256 : Int))), UInt8.ofNat 0]
def gA (A : List Int) (x : NS) : Int := List.getD A (0 + Int.toNat (x.1 : Int)) (0 : Int)
def gD (D : List Bool) (x : NS) : Bool := List.getD D (0 + Int.toNat (x.1 : Int)) false
/-- so many wait behind a Send -/
def sN (n : Nat) : Nat := if 64 ≤ n then n else n + 1
theorem send_len (L : List (List UInt8)) (r : List UInt8) : (sendL L r).length = sN L.length := by
  unfold sendL sN
  split <;> simp <;> omega
theorem cut_rows {α : Type} {l : List α} {p m j q n : Nat} (hp : p ≤ l.length) (hm : j + m = l.length) (hn : n = p + m) : (l.take p ++ ((l.drop j).take m ++ l.drop q)).take n = l.take p ++ l.drop j := by
  subst hn
  have h1 : (l.drop j).take m = l.drop j := List.take_of_length_le (by rw [List.length_drop]; omega)
  have h2 : (l.take p).length = p := by rw [List.length_take]; omega
  have h3 : (l.drop j).length = m := by rw [List.length_drop]; omega
  rw [h1, ← List.append_assoc, List.take_left' (by rw [List.length_append, h2, h3])]
theorem cut_len {α : Type} {l : List α} {p m j q n : Nat} (hp : p ≤ l.length) (hm : j + m = l.length) (hn : n = p + m) : ((l.take p ++ ((l.drop j).take m ++ l.drop q)).take n).length = n := by
  rw [cut_rows hp hm hn, List.length_append, List.length_take, List.length_drop]; omega
theorem send_lost {L : List (List UInt8)} {r : List UInt8} {p m j q t : Nat} (h : 64 ≤ L.length) (hp : p = 0) (hj : j = 1) (hm : m = L.length - 1) (ht : t = L.length - 1) : sendL L r = List.take t (List.take p L ++ (List.take m (List.drop j L) ++ List.drop q L)) ++ [r] := by
  subst hp hj hm ht
  rw [cut_rows (by omega) (by omega) (by omega)]
  unfold sendL
  rw [if_pos h]; simp
theorem send_put {L : List (List UInt8)} {r : List UInt8} (h : ¬ 64 ≤ L.length) : sendL L r = L ++ [r] := if_neg h
theorem del_some {L : List (List UInt8)} {a : Int} {p m j q t : Nat} (h0 : 0 ≤ a) (h : a < (L.length : Int)) (hp : p = a.toNat) (hj : j = a.toNat + 1) (hm : m = L.length - j) (ht : t = p + m) : delL L a = List.take t (List.take p L ++ (List.take m (List.drop j L) ++ List.drop q L)) := by
  subst hp hj
  rw [cut_rows (by omega) (by omega) ht]
  unfold delL
  rw [if_pos ⟨h0, h⟩]
theorem del_none {L : List (List UInt8)} {a : Int} (h : a < 0 ∨ (L.length : Int) ≤ a) : delL L a = L := if_neg fun ⟨h1, h2⟩ => by omega
theorem delB_some {L : List (List UInt8)} {a : Int} {i : Nat} (h0 : 0 ≤ a) (h : a < (L.length : Int)) (hi : i = a.toNat) : delB L a = L.getD i [] := by subst hi; exact if_pos ⟨h0, h⟩
theorem delB_none {L : List (List UInt8)} {a : Int} (h : a < 0 ∨ (L.length : Int) ≤ a) : delB L a = [] := if_neg fun ⟨h1, h2⟩ => by omega
theorem dbl_some {L : List (List UInt8)} {a : Int} {i : Nat} (h0 : 0 ≤ a) (h : a < (L.length : Int)) (h6 : ¬ 64 ≤ L.length) (hi : i = a.toNat) : dblL L a = L ++ [L.getD i []] := by subst hi; exact if_pos ⟨⟨h0, h⟩, by omega⟩
theorem dbl_none {L : List (List UInt8)} {a : Int} (h : a < 0 ∨ (L.length : Int) ≤ a ∨ 64 ≤ L.length) : dblL L a = L := if_neg fun ⟨⟨h1, h2⟩, h3⟩ => by omega
theorem del_facts (L : List (List UInt8)) (a : Int) (h0 : 0 ≤ a) : (a < (L.length : Int) ∧ (delL L a).length = L.length - 1 ∧ standE L a = 0) ∨ ((L.length : Int) ≤ a ∧ (delL L a).length = L.length ∧ standE L a = 6) := by
  by_cases h : a < (L.length : Int)
  · left
    refine ⟨h, ?_, if_pos ⟨h0, h⟩⟩
    unfold delL
    rw [if_pos ⟨h0, h⟩, List.length_append, List.length_take, List.length_drop]; omega
  · right
    exact ⟨by omega, by rw [del_none (by omega)], if_neg fun ⟨_, h2⟩ => h h2⟩
theorem dbl_facts (L : List (List UInt8)) (a : Int) (c : Nat) (h0 : 0 ≤ a) : (a < (L.length : Int) ∧ L.length < 64 ∧ (dblL L a).length = L.length + 1 ∧ dblE L a = 0 ∧ dblC L a c = L.length + 1) ∨ (a < (L.length : Int) ∧ 64 ≤ L.length ∧ (dblL L a).length = L.length ∧ dblE L a = 7 ∧ dblC L a c = c) ∨
    ((L.length : Int) ≤ a ∧ (dblL L a).length = L.length ∧ dblE L a = 6 ∧ dblC L a c = c) := by
  by_cases h : a < (L.length : Int)
  · by_cases h6 : 64 ≤ L.length
    · right; left
      refine ⟨h, h6, by rw [dbl_none (by omega)], ?_, if_neg fun ⟨_, h3⟩ => by omega⟩
      unfold dblE; rw [if_pos ⟨h0, h⟩, if_pos h6]
    · left
      refine ⟨h, by omega, by rw [dbl_some h0 h h6 rfl]; simp, ?_, if_pos ⟨⟨h0, h⟩, by omega⟩⟩
      unfold dblE; rw [if_pos ⟨h0, h⟩, if_neg h6]
  · right; right
    exact ⟨by omega, by rw [dbl_none (by omega)], if_neg fun ⟨_, h2⟩ => h h2, if_neg fun ⟨⟨_, h2⟩, _⟩ => h h2⟩
end Go.Proofs.Ytcofcojjofkgcaa.Nn
