/- The bytes that a key is made of: what a label and parts lay, and that they tell them apart: plain mathematics. By an AI agent. -/
import Derived.Test.YtnhomnaamlbnpaaDoorWr
import Derived.Test.YtnhomnaamlbnpaaDoorRd
namespace Go.Proofs.YtnhomnaamlbnpaaDoor.Ld
open Go.Proofs.YtnhomnaamlbnpaaDoor.Wr Go.Proofs.YtnhomnaamlbnpaaDoor.Rd
set_option linter.unusedVariables false

/-- a part: how many bytes it has, and they -/
def one (p : List UInt8) : List UInt8 := be4 p.length ++ p
def many (ls : List (List UInt8)) : List UInt8 := ls.flatMap one
/-- a label and parts -/
def lay (s : List UInt8) (ls : List (List UInt8)) : List UInt8 := be2 s.length ++ s ++ many ls
theorem be2_len (n : Nat) : (be2 n).length = 2 := rfl
theorem be4_len (n : Nat) : (be4 n).length = 4 := rfl
theorem be8_len (n : Nat) : (be8 n).length = 8 := rfl
theorem many_snoc (ls : List (List UInt8)) (p : List UInt8) : many (ls ++ [p]) = many ls ++ (be4 p.length ++ p) := by simp [many, one]
theorem lay_len (s : List UInt8) (ls : List (List UInt8)) : (lay s ls).length = 2 + s.length + (many ls).length := by simp [lay, be2_len, Nat.add_assoc]

end Go.Proofs.YtnhomnaamlbnpaaDoor.Ld
