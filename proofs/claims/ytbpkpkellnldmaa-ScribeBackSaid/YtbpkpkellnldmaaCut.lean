/- There and back: the reader's state at each piece, whole and cut. By an AI agent. -/
import Derived.Test.YtbpkpkellnldmaaBack
namespace Go.Proofs.Ytbpkpkellnldmaa.Is
open Go.RowKit Go.Proofs.Ytbpkpkellnldmaa.M Go.Proofs.Ytbpkpkellnldmaa.Pc Go.Proofs.Ytbpkpkellnldmaa.Rd Go.Proofs.Ytbpkpkellnldmaa.Wr Go.Proofs.Ytbpkpkellnldmaa.Walks
set_option linter.unusedVariables false

/-- how far the first k pieces reach -/
def pre (fs : List P) (k : Nat) : Nat := (catOf (fs.take k)).length
/-- the reader's state ahead of piece k, where the bytes are cut at m -/
def stAt (fs : List P) (m k : Nat) : List UInt8 × Bool := if pre fs k ≤ m then (((catOf fs).take m).drop (pre fs k), false) else ([], true)
theorem pre_succ (fs : List P) (k : Nat) (p : P) (h : fs[k]? = some p) : pre fs (k + 1) = pre fs k + (formOf p).length := by
  unfold pre
  rw [Crc.take_snoc fs k p h, catOf_snoc, List.length_append]
theorem cat_split (fs : List P) (k : Nat) (p : P) (h : fs[k]? = some p) : catOf fs = catOf (fs.take k) ++ (formOf p ++ catOf (fs.drop (k + 1))) := by
  have hlt := (List.getElem?_eq_some_iff.1 h).1
  have he := (List.getElem?_eq_some_iff.1 h).2
  have hd : fs.drop k = p :: fs.drop (k + 1) := by rw [List.drop_eq_getElem_cons hlt, he]
  have e : fs = fs.take k ++ (p :: fs.drop (k + 1)) := by rw [← hd, List.take_append_drop]
  conv => lhs; rw [e]
  simp [catOf]
theorem take_drop_app (a b : List UInt8) (m n : Nat) (hn : a.length = n) (h : n ≤ m) : ((a ++ b).take m).drop n = b.take (m - n) := by
  subst hn
  rw [List.take_append, List.take_of_length_le h, List.drop_append, List.drop_of_length_le (Nat.le_refl _), Nat.sub_self, List.drop_zero, List.nil_append]
theorem step_cut (fs : List P) (m k : Nat) (p : P) (h : fs[k]? = some p) (hp : p.Ok) (ht : p.text.size ≤ 65535) :
    (readOf p (stAt fs m k).1 (stAt fs m k).2).2 = stAt fs m (k + 1) ∧ (pre fs (k + 1) ≤ m → sameOf p (readOf p (stAt fs m k).1 (stAt fs m k).2).1 = true) := by
  have hs := pre_succ fs k p h
  have hc := cat_split fs k p h
  by_cases h1 : pre fs k ≤ m
  · have hl : ((catOf fs).take m).drop (pre fs k) = (formOf p ++ catOf (fs.drop (k + 1))).take (m - pre fs k) := by
      rw [hc, take_drop_app _ _ m (pre fs k) rfl h1]
    have e1 : stAt fs m k = ((formOf p ++ catOf (fs.drop (k + 1))).take (m - pre fs k), false) := by unfold stAt; rw [if_pos h1, hl]
    rw [e1]
    by_cases h2 : pre fs (k + 1) ≤ m
    · have e2 : (formOf p ++ catOf (fs.drop (k + 1))).take (m - pre fs k) = formOf p ++ (catOf (fs.drop (k + 1))).take (m - pre fs (k + 1)) := by
        rw [List.take_append, List.take_of_length_le (by omega)]
        congr 2; omega
      rw [e2]
      obtain ⟨r1, r2⟩ := read_whole p ((catOf (fs.drop (k + 1))).take (m - pre fs (k + 1))) hp ht
      refine ⟨?_, fun _ => r2⟩
      rw [r1]
      unfold stAt
      rw [if_pos h2]
      have e3 : catOf fs = catOf (fs.take (k + 1)) ++ catOf (fs.drop (k + 1)) := by rw [Crc.take_snoc fs k p h, catOf_snoc, List.append_assoc]; exact hc
      rw [e3, take_drop_app _ _ m (pre fs (k + 1)) rfl h2]
    · refine ⟨?_, fun hh => absurd hh h2⟩
      have e2 : (formOf p ++ catOf (fs.drop (k + 1))).take (m - pre fs k) = (formOf p).take (m - pre fs k) := by rw [List.take_append_of_le_length (by omega)]
      rw [e2, read_cut p _ hp ht (by omega)]
      unfold stAt
      rw [if_neg h2]
  · have e1 : stAt fs m k = ([], true) := by unfold stAt; rw [if_neg h1]
    have e2 : stAt fs m (k + 1) = ([], true) := by unfold stAt; rw [if_neg (by omega)]
    rw [e1, e2]
    exact ⟨read_short p, fun hh => by omega⟩
theorem st_zero (fs : List P) (m : Nat) : stAt fs m 0 = ((catOf fs).take m, false) := by simp [stAt, pre, catOf]
theorem pre_all (fs : List P) : pre fs fs.length = (catOf fs).length := by simp [pre]
theorem pre_le (fs : List P) (k : Nat) : pre fs k ≤ (catOf fs).length := by
  unfold pre
  have : catOf fs = catOf (fs.take k) ++ catOf (fs.drop k) := by
    have e : catOf (fs.take k ++ fs.drop k) = catOf (fs.take k) ++ catOf (fs.drop k) := List.flatMap_append
    rwa [List.take_append_drop] at e
  rw [this, List.length_append]
  omega
theorem st_end (fs : List P) : stAt fs (catOf fs).length fs.length = ([], false) := by
  unfold stAt
  rw [if_pos (pre_le fs _), pre_all]
  simp
theorem st_len (fs : List P) (m k : Nat) : (stAt fs m k).1.length ≤ (catOf fs).length := by
  unfold stAt
  split
  · simp; omega
  · simp
/-- the ends -/
def endsOf (fs : List P) (k : Nat) : List Value := (List.range k).map fun j => Value.int .i64 ((pre fs (j + 1) : Nat) : Int)
theorem endsOf_succ (fs : List P) (k : Nat) : endsOf fs (k + 1) = endsOf fs k ++ [.int .i64 ((pre fs (k + 1) : Nat) : Int)] := by simp [endsOf, List.range_succ]
theorem endsOf_length (fs : List P) (k : Nat) : (endsOf fs k).length = k := by simp [endsOf]
theorem endsOf_at (fs : List P) (n k : Nat) (h : k < n) : (endsOf fs n)[k]? = some (.int .i64 ((pre fs (k + 1) : Nat) : Int)) := by simp [endsOf, h]
end Go.Proofs.Ytbpkpkellnldmaa.Is
