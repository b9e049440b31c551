/- The bytes that a key is made of: what a label and parts lay, and that they tell them apart: plain mathematics. By an AI agent. -/
import Derived.Test.YtnhomnaamlbnpaaDoorWr
import Derived.Test.YtnhomnaamlbnpaaDoorRd
namespace Go.Proofs.YtnhomnaamlbnpaaDoor.Ld
open Go.Proofs.YtnhomnaamlbnpaaDoor.Wr Go.Proofs.YtnhomnaamlbnpaaDoor.Rd
set_option linter.unusedVariables false

/-- a part: how many bytes it has, and they -/
def one (p : List UInt8) : List UInt8 := be4 p.length ++ p
def many (ls : List (List UInt8)) : List UInt8 := ls.flatMap one
/-- a label and parts -/
def lay (s : List UInt8) (ls : List (List UInt8)) : List UInt8 := be2 s.length ++ s ++ many ls
theorem be2_len (n : Nat) : (be2 n).length = 2 := rfl
theorem be4_len (n : Nat) : (be4 n).length = 4 := rfl
theorem be8_len (n : Nat) : (be8 n).length = 8 := rfl
theorem ofNat_inj8 {a b : Nat} (h : UInt8.ofNat a = UInt8.ofNat b) : a % 256 = b % 256 := by
  have := congrArg UInt8.toNat h
  simpa [UInt8.toNat_ofNat'] using this
theorem be2_inj {a b : Nat} (ha : a < 65536) (hb : b < 65536) (h : be2 a = be2 b) : a = b := by
  simp only [be2, List.cons.injEq, and_true] at h
  have h1 := ofNat_inj8 h.1
  have h2 := ofNat_inj8 h.2
  omega
theorem be4_inj {a b : Nat} (ha : a < 4294967296) (hb : b < 4294967296) (h : be4 a = be4 b) : a = b := by
  simp only [be4, List.cons.injEq, and_true] at h
  have h1 := ofNat_inj8 h.1
  have h2 := ofNat_inj8 h.2.1
  have h3 := ofNat_inj8 h.2.2.1
  have h4 := ofNat_inj8 h.2.2.2
  omega
theorem one_len (p : List UInt8) : (one p).length = 4 + p.length := by simp [one, be4_len]
theorem many_cons (p : List UInt8) (ls : List (List UInt8)) : many (p :: ls) = be4 p.length ++ (p ++ many ls) := by simp [many, one]
theorem many_snoc (ls : List (List UInt8)) (p : List UInt8) : many (ls ++ [p]) = many ls ++ (be4 p.length ++ p) := by simp [many, one]
theorem many_nil : many [] = [] := rfl
theorem many_inj : ∀ (ls ms : List (List UInt8)), (∀ p ∈ ls, p.length < 4294967296) → (∀ p ∈ ms, p.length < 4294967296) → many ls = many ms → ls = ms
  | [], [], _, _, _ => rfl
  | [], p :: ms, _, _, h => by
    have := congrArg List.length h
    rw [many_cons] at this
    simp [many_nil, be4_len] at this
    omega
  | p :: ls, [], _, _, h => by
    have := congrArg List.length h
    rw [many_cons] at this
    simp [many_nil, be4_len] at this
  | p :: ls, q :: ms, h1, h2, h => by
    rw [many_cons, many_cons] at h
    obtain ⟨e1, e2⟩ := List.append_inj h (by simp [be4_len])
    have hl := be4_inj (h1 p (List.mem_cons_self ..)) (h2 q (List.mem_cons_self ..)) e1
    obtain ⟨e3, e4⟩ := List.append_inj e2 hl
    rw [e3, many_inj ls ms (fun x hx => h1 x (List.mem_cons_of_mem _ hx)) (fun x hx => h2 x (List.mem_cons_of_mem _ hx)) e4]
theorem lay_inj {s t : List UInt8} {ls ms : List (List UInt8)} (hs : s.length < 65536) (ht : t.length < 65536) (h1 : ∀ p ∈ ls, p.length < 4294967296) (h2 : ∀ p ∈ ms, p.length < 4294967296) (h : lay s ls = lay t ms) : s = t ∧ ls = ms := by
  unfold lay at h
  rw [List.append_assoc, List.append_assoc] at h
  obtain ⟨e1, e2⟩ := List.append_inj h (by simp [be2_len])
  have hl := be2_inj hs ht e1
  obtain ⟨e3, e4⟩ := List.append_inj e2 hl
  exact ⟨e3, many_inj ls ms h1 h2 e4⟩
theorem many_len_le (m : Nat) : ∀ (ls : List (List UInt8)), (∀ p ∈ ls, p.length ≤ m) → (many ls).length ≤ ls.length * (4 + m)
  | [], _ => by simp [many_nil]
  | p :: ls, h => by
    have := many_len_le m ls fun x hx => h x (List.mem_cons_of_mem _ hx)
    have hp := h p (List.mem_cons_self ..)
    rw [many_cons]
    simp only [List.length_append, be4_len, List.length_cons, Nat.add_mul, Nat.one_mul]
    omega
theorem lay_len (s : List UInt8) (ls : List (List UInt8)) : (lay s ls).length = 2 + s.length + (many ls).length := by simp [lay, be2_len, Nat.add_assoc]

/-- what a number's bytes read as -/
theorem numOf_be2 {n : Nat} (h : n < 65536) : numOf (be2 n) = n := by
  simp [numOf, be2, UInt8.toNat_ofNat']; omega
theorem numOf_be4 {n : Nat} (h : n < 4294967296) : numOf (be4 n) = n := by
  simp [numOf, be4, UInt8.toNat_ofNat']; omega
theorem next_app (x r : List UInt8) : nextOf (x ++ r) false x.length = (x, r, false) := by simp [nextOf]
theorem next_app' {x r : List UInt8} {n : Nat} (h : x.length = n) : nextOf (x ++ r) false n = (x, r, false) := by subst h; exact next_app x r
end Go.Proofs.YtnhomnaamlbnpaaDoor.Ld
