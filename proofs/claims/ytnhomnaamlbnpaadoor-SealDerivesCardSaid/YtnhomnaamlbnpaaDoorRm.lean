/- The reference's Hmac, by its formula: states. By an AI agent. -/
import Derived.Test.YtnhomnaamlbnpaaDoorRs
namespace Go.Proofs.YtnhomnaamlbnpaaDoor.Rm
open Go Go.RowKit Go.Proofs.YtnhomnaamlbnpaaDoor.Abs Go.Proofs.YtnhomnaamlbnpaaDoor.M Go.Proofs.YtnhomnaamlbnpaaDoor.Sha Go.Proofs.YtnhomnaamlbnpaaDoor.Rs
set_option linter.unusedVariables false
abbrev MAC : FuncId := 39
noncomputable abbrev nM : Nat := tmpsN Tryd.prog MAC
noncomputable def ro (k b : List UInt8) : PT AObj := hp [(900, .sbytes k 5), (901, .sbytes b 5)]
noncomputable def hooks (k b : List UInt8) (g : FuncId) : Option (List AVal → St → Option (OP × AVal × St)) := bif Nat.beq g SHA then some (shaF (ro k b)) else none
/-- the key's block as it is filled -/
def kp (k : List UInt8) (i : Nat) : List UInt8 := k.take i ++ List.replicate (64 - i) 0
def aI (k b : List UInt8) (c1 c2 i : Nat) : LS := ⟨[(0, .sslice (900, 0) k.length c1 true 1), (1, .sslice (901, 0) b.length c2 true 1), (4, .ptr (some (1000, 0))), (5, .ptr (some (1001, 0))), (8, .sint .i64 (i : Int))], [(1000, outs), (1001, .sbytes (kp k i) 94)], 5000⟩
def aJ (k b : List UInt8) (c2 z : Nat) : LS := ⟨[(1, .sslice (901, 0) b.length c2 true 1), (4, .ptr (some (1000, 0))), (5, .ptr (some (1001, 0)))], [(1000, outs), (1001, .sbytes (kp k z) 94)], 5000⟩
noncomputable def aA (k b : List UInt8) (c1 c2 n : Nat) (fr : Fr) (τ : PT AVal) (st : St) (K : Res → Prop) : Prop := k.length ≤ 64 ∧ loopA 5000 (fun i => i ≤ k.length) (aI k b c1 c2) (fun z => z = k.length) (aJ k b c2) nM [] n fr τ st K
noncomputable def aK (k b : List UInt8) (c1 c2 i id : Nat) := roundK 5000 (fun i => i ≤ k.length) (aI k b c1 c2) (fun i => k.length - i) [] (fun z => z = k.length) (aJ k b c2) [] id i
def mI (k b : List UInt8) (c2 i : Nat) : LS := ⟨[(1, .sslice (901, 0) b.length c2 true 1), (4, .ptr (some (1000, 0))), (5, .ptr (some (1001, 0))), (9, .sslice (6001, 0) i i false 1), (10, .sslice (6002, 0) i i false 1), (11, .sint .i64 (i : Int))], [(1000, outs), (1001, .sbytes (block k) 94), (6001, .sbytes ((keyed (block k) 54).take i) 5), (6002, .sbytes ((keyed (block k) 92).take i) 5)], 6003⟩
def mJ (k b : List UInt8) (c2 z : Nat) : LS := ⟨[(1, .sslice (901, 0) b.length c2 true 1), (4, .ptr (some (1000, 0))), (9, .sslice (6001, 0) z z false 1), (10, .sslice (6002, 0) z z false 1)], [(1000, outs), (6001, .sbytes (keyed (block k) 54) 5), (6002, .sbytes (keyed (block k) 92) 5)], 6003⟩
noncomputable def mA (k b : List UInt8) (c2 : Nat) := loopA 6000 (fun i => i ≤ 64) (mI k b c2) (fun z => z = 64) (mJ k b c2) nM []
noncomputable def mK (k b : List UInt8) (c2 i : Nat) := roundK 6000 (fun i => i ≤ 64) (mI k b c2) (fun i => 64 - i) [(6001, 6004), (6002, 6006)] (fun z => z = 64) (mJ k b c2) [(6001, 6001), (6002, 6002)] 4 i
/-- the inner digest -/
def inn (k b : List UInt8) : List UInt8 := sha256 (keyed (block k) 54 ++ b)
def nI (k b : List UInt8) (i : Nat) : LS := ⟨[(4, .ptr (some (1000, 0))), (10, .sslice (7001, 0) (64 + i) (64 + i) false 1), (12, .ptr (some (7000, 0))), (13, .sint .i64 (i : Int))], [(1000, outs), (7000, .sbytes (inn k b) 25), (7001, .sbytes (keyed (block k) 92 ++ (inn k b).take i) 5)], 7002⟩
def nJ (k b : List UInt8) (z : Nat) : LS := ⟨[(4, .ptr (some (1000, 0))), (10, .sslice (7001, 0) (64 + z) (64 + z) false 1)], [(1000, outs), (7001, .sbytes (keyed (block k) 92 ++ inn k b) 5)], 7002⟩
noncomputable def nA (k b : List UInt8) := loopA 7000 (fun i => i ≤ 32) (nI k b) (fun z => z = 32) (nJ k b) nM [(7000, 6004), (7001, 6002)]
noncomputable def nK (k b : List UInt8) (i : Nat) := roundK 7000 (fun i => i ≤ 32) (nI k b) (fun i => 32 - i) [(7000, 7000), (7001, 7003)] (fun z => z = 32) (nJ k b) [(7001, 7001)] 6 i
end Go.Proofs.YtnhomnaamlbnpaaDoor.Rm
namespace Go.Proofs.YtnhomnaamlbnpaaDoor.Rm
open Go Go.RowKit Go.Proofs.YtnhomnaamlbnpaaDoor.Abs Go.Proofs.YtnhomnaamlbnpaaDoor.M Go.Proofs.YtnhomnaamlbnpaaDoor.Sha Go.Proofs.YtnhomnaamlbnpaaDoor.Rs
set_option linter.unusedVariables false
def fA (k b : List UInt8) (c1 c2 i : Nat) : Prop :=
    List.length k ≤ 9223372036854775807 ∧
    (decide ((↑i : Int) < (↑(List.length k) : Int)) = true →
    (0 ≤ (↑i : Int) ∧ (↑i : Int) < (↑(List.length k) : Int)) ∧ 0 + Int.toNat (↑i : Int) * 1 < List.length k ∧ (0 ≤ (↑i : Int) ∧ (↑i : Int) < 64) ∧ 0 + Int.toNat (↑i : Int) * 1 < List.length (kp k i) ∧ inR IntKind.i64 ((↑i : Int) + 1) ∧
    ∃ y, (List.length k - y < List.length k - i ∧ Nat.le y (List.length k)) ∧ True ∧ ((0 = 0 ∧ List.length k = List.length k ∧ c1 = c1) ∧ (0 = 0 ∧ List.length b = List.length b ∧ c2 = c2) ∧ 0 = 0 ∧ 0 = 0 ∧ (↑y : Int) = (↑i : Int) + 1 ∧ True) ∧ zs 32 ∧ kp k y = List.set (kp k i) (0 + Int.toNat (↑i : Int) * 1) (UInt8.ofNat (Int.toNat (↑(UInt8.toNat (List.getD k (0 + Int.toNat (↑i : Int) * 1) (0 : UInt8))) : Int))) ∧ True) ∧
    (decide ((↑i : Int) < (↑(List.length k) : Int)) = false →
    ∃ z : Nat, z = List.length k ∧ True ∧ ((0 = 0 ∧ List.length b = List.length b ∧ c2 = c2) ∧ 0 = 0 ∧ 0 = 0 ∧ True) ∧ zs 32 ∧ kp k z = kp k i ∧ True)
theorem fA_eq (k b : List UInt8) (c1 c2 i : Nat) : execW Tryd.prog (ro k b) (hooks k b) 100 (roundOf Tryd.prog MAC 2) nM ⟨none, []⟩ (aI k b c1 c2 i).T (aI k b c1 c2 i).S (aK k b c1 c2 i 2) = fA k b c1 c2 i := by kernel_rfl
def fMr (k b : List UInt8) (c1 c2 i : Nat) : Prop :=
    (decide ((↑i : Int) < 64) = true →
    (0 ≤ (↑i : Int) ∧ (↑i : Int) < 64) ∧ 0 + Int.toNat (↑i : Int) * 1 < List.length (Sha.block k) ∧ (0 ≤ (↑(UInt8.toNat (List.getD (Sha.block k) (0 + Int.toNat (↑i : Int) * 1) (0 : UInt8))) : Int) ∧ (0 : Int) ≤ 54) ∧ (1 ≤ List.length [UInt8.ofNat (Int.toNat (↑(Int.toNat (↑(UInt8.toNat (List.getD (Sha.block k) (0 + Int.toNat (↑i : Int) * 1) (0 : UInt8))) : Int) ^^^ 54) : Int))] ∧ Nat.le (0 + i) (List.length (List.take i (Sha.keyed (Sha.block k) (54 : UInt8)))) ∧ i + 1 ≤ 65536 ∧ (false = true →
    0 + i ≤ (List.length (List.take i (Sha.keyed (Sha.block k) (54 : UInt8)))))) ∧ (0 ≤ (↑i : Int) ∧ (↑i : Int) < 64) ∧ 0 + Int.toNat (↑i : Int) * 1 < List.length (Sha.block k) ∧ (0 ≤ (↑(UInt8.toNat (List.getD (Sha.block k) (0 + Int.toNat (↑i : Int) * 1) (0 : UInt8))) : Int) ∧ (0 : Int) ≤ 92) ∧ (1 ≤ List.length [UInt8.ofNat (Int.toNat (↑(Int.toNat (↑(UInt8.toNat (List.getD (Sha.block k) (0 + Int.toNat (↑i : Int) * 1) (0 : UInt8))) : Int) ^^^ 92) : Int))] ∧ Nat.le (0 + i) (List.length (List.take i (Sha.keyed (Sha.block k) (92 : UInt8)))) ∧ i + 1 ≤ 65536 ∧ (false = true →
    0 + i ≤ (List.length (List.take i (Sha.keyed (Sha.block k) (92 : UInt8)))))) ∧ inR IntKind.i64 ((↑i : Int) + 1) ∧
    ∃ y, (64 - y < 64 - i ∧ Nat.le y 64) ∧ True ∧ ((0 = 0 ∧ List.length b = List.length b ∧ c2 = c2) ∧ 0 = 0 ∧ 0 = 0 ∧ (0 = 0 ∧ y = i + 1 ∧ y = i + 1) ∧ (0 = 0 ∧ y = i + 1 ∧ y = i + 1) ∧ (↑y : Int) = (↑i : Int) + 1 ∧ True) ∧ zs 32 ∧ Sha.block k = Sha.block k ∧ List.take y (Sha.keyed (Sha.block k) (54 : UInt8)) = List.take i (List.drop 0 (List.take i (Sha.keyed (Sha.block k) (54 : UInt8)))) ++ List.take 1 (List.drop 0 [UInt8.ofNat (Int.toNat (↑(Int.toNat (↑(UInt8.toNat (List.getD (Sha.block k) (0 + Int.toNat (↑i : Int) * 1) (0 : UInt8))) : Int) ^^^ 54) : Int))]) ∧ List.take y (Sha.keyed (Sha.block k) (92 : UInt8)) = List.take i (List.drop 0 (List.take i (Sha.keyed (Sha.block k) (92 : UInt8)))) ++ List.take 1 (List.drop 0 [UInt8.ofNat (Int.toNat (↑(Int.toNat (↑(UInt8.toNat (List.getD (Sha.block k) (0 + Int.toNat (↑i : Int) * 1) (0 : UInt8))) : Int) ^^^ 92) : Int))]) ∧ True) ∧
    (decide ((↑i : Int) < 64) = false →
    ∃ z : Nat, z = 64 ∧ True ∧ ((0 = 0 ∧ List.length b = List.length b ∧ c2 = c2) ∧ 0 = 0 ∧ (0 = 0 ∧ z = i ∧ z = i) ∧ (0 = 0 ∧ z = i ∧ z = i) ∧ True) ∧ zs 32 ∧ Sha.keyed (Sha.block k) (54 : UInt8) = List.take i (Sha.keyed (Sha.block k) (54 : UInt8)) ∧ Sha.keyed (Sha.block k) (92 : UInt8) = List.take i (Sha.keyed (Sha.block k) (92 : UInt8)) ∧ True)
theorem fMr_eq (k b : List UInt8) (c1 c2 i : Nat) : execW Tryd.prog (ro k b) (hooks k b) 100 (roundOf Tryd.prog MAC 4) nM ⟨none, []⟩ (mI k b c2 i).T (mI k b c2 i).S (mK k b c2 i) = fMr k b c1 c2 i := by kernel_rfl
def fN (k b : List UInt8) (c1 c2 i : Nat) : Prop :=
    (decide ((↑i : Int) < 32) = true →
    (0 ≤ (↑i : Int) ∧ (↑i : Int) < 32) ∧ 0 + Int.toNat (↑i : Int) * 1 < List.length (inn k b) ∧ (1 ≤ List.length [UInt8.ofNat (Int.toNat (↑(UInt8.toNat (List.getD (inn k b) (0 + Int.toNat (↑i : Int) * 1) (0 : UInt8))) : Int))] ∧ Nat.le (0 + (64 + i)) (List.length (Sha.keyed (Sha.block k) (92 : UInt8) ++ List.take i (inn k b))) ∧ 64 + i + 1 ≤ 65536 ∧ (false = true →
    0 + (64 + i) ≤ (List.length (Sha.keyed (Sha.block k) (92 : UInt8) ++ List.take i (inn k b))))) ∧ inR IntKind.i64 ((↑i : Int) + 1) ∧
    ∃ y, (32 - y < 32 - i ∧ Nat.le y 32) ∧ True ∧ (0 = 0 ∧ (0 = 0 ∧ 64 + y = 64 + i + 1 ∧ 64 + y = 64 + i + 1) ∧ 0 = 0 ∧ (↑y : Int) = (↑i : Int) + 1 ∧ True) ∧ zs 32 ∧ inn k b = inn k b ∧ Sha.keyed (Sha.block k) (92 : UInt8) ++ List.take y (inn k b) = List.take (64 + i) (List.drop 0 (Sha.keyed (Sha.block k) (92 : UInt8) ++ List.take i (inn k b))) ++ List.take 1 (List.drop 0 [UInt8.ofNat (Int.toNat (↑(UInt8.toNat (List.getD (inn k b) (0 + Int.toNat (↑i : Int) * 1) (0 : UInt8))) : Int))]) ∧ True) ∧
    (decide ((↑i : Int) < 32) = false →
    ∃ z : Nat, z = 32 ∧ True ∧ (0 = 0 ∧ (0 = 0 ∧ 64 + z = 64 + i ∧ 64 + z = 64 + i) ∧ True) ∧ zs 32 ∧ Sha.keyed (Sha.block k) (92 : UInt8) ++ inn k b = Sha.keyed (Sha.block k) (92 : UInt8) ++ List.take i (inn k b) ∧ True)
theorem fN_eq (k b : List UInt8) (c1 c2 i : Nat) : execW Tryd.prog (ro k b) (hooks k b) 100 (roundOf Tryd.prog MAC 6) nM ⟨none, []⟩ (nI k b i).T (nI k b i).S (nK k b i) = fN k b c1 c2 i := by kernel_rfl
theorem i_at (i : Nat) : 0 + Int.toNat (i : Int) * 1 = i := by omega
theorem kp_length {k : List UInt8} {i : Nat} (hi : i ≤ k.length) (h : k.length ≤ 64) : (kp k i).length = 64 := by unfold kp; rw [List.length_append, List.length_take, List.length_replicate]; omega
theorem kp_succ {k : List UInt8} {i : Nat} (hi : i < k.length) (h : k.length ≤ 64) : kp k (i + 1) = (kp k i).set i (k.getD i 0) := by
  unfold kp
  have h64 : 64 - i = (64 - (i + 1)) + 1 := by omega
  rw [List.take_add_one, List.getElem?_eq_getElem hi, List.getD_eq_getElem?_getD, List.getElem?_eq_getElem hi, h64, List.replicate_succ, List.set_append, if_neg (by rw [List.length_take]; omega)]
  rw [show i - (List.take i k).length = 0 by rw [List.length_take]; omega, List.append_assoc]
  rfl
theorem byte_of (x : UInt8) : UInt8.ofNat (Int.toNat ((x.toNat : Nat) : Int)) = x := by rw [Int.toNat_natCast, UInt8.ofNat_toNat]
theorem roundA {k b : List UInt8} (c1 c2 : Nat) (hk : k.length ≤ 64) (i : Nat) (hi : i ≤ k.length) : execW Tryd.prog (ro k b) (hooks k b) 100 (roundOf Tryd.prog MAC 2) nM ⟨none, []⟩ (aI k b c1 c2 i).T (aI k b c1 c2 i).S (aK k b c1 c2 i 2) := by
  rw [fA_eq]
  unfold fA
  have hl := kp_length hi hk
  refine ⟨by omega, fun h => ?_, fun h => ?_⟩
  · have h := of_decide_eq_true h
    refine ⟨⟨by omega, by omega⟩, by omega, ⟨by omega, by omega⟩, by omega, by rw [in_i64]; omega, i + 1, ⟨by omega, show i + 1 ≤ k.length by omega⟩, trivial, ⟨⟨rfl, rfl, rfl⟩, ⟨rfl, rfl, rfl⟩, rfl, rfl, by omega, trivial⟩, zs_ok 32, ?_, trivial⟩
    rw [i_at, byte_of, kp_succ (by omega) hk]
  · have h := of_decide_eq_false h
    obtain rfl : i = k.length := by omega
    exact ⟨_, rfl, trivial, ⟨⟨rfl, rfl, rfl⟩, rfl, rfl, trivial⟩, zs_ok 32, rfl, trivial⟩
theorem block_length (k : List UInt8) : (block k).length = 64 := by
  unfold block
  dsimp only
  split
  · rw [List.length_append, List.length_replicate]; omega
  · rw [List.length_append, List.length_replicate, sha_length]
theorem keyed_take {l : List UInt8} {x : UInt8} {i : Nat} (h : i < l.length) : (keyed l x).take (i + 1) = (keyed l x).take i ++ [l.getD i 0 ^^^ x] := by
  unfold keyed
  rw [List.take_add_one, List.getElem?_map, List.getElem?_eq_getElem h, List.getD_eq_getElem?_getD, List.getElem?_eq_getElem h]
  rfl
theorem xor_byte (x : UInt8) (n : Nat) (hn : n < 256) : UInt8.ofNat (Int.toNat ((Int.toNat ((x.toNat : Nat) : Int) ^^^ n : Nat) : Int)) = x ^^^ UInt8.ofNat n := by
  rw [Int.toNat_natCast, Int.toNat_natCast]
  apply UInt8.toNat_inj.1
  rw [UInt8.toNat_xor, UInt8.toNat_ofNat', UInt8.toNat_ofNat', Nat.mod_eq_of_lt (b := 2 ^ 8) (Nat.xor_lt_two_pow (n := 8) x.toNat_lt hn), Nat.mod_eq_of_lt (b := 2 ^ 8) hn]
theorem roundM {k b : List UInt8} (c2 : Nat) (i : Nat) (hi : i ≤ 64) : execW Tryd.prog (ro k b) (hooks k b) 100 (roundOf Tryd.prog MAC 4) nM ⟨none, []⟩ (mI k b c2 i).T (mI k b c2 i).S (mK k b c2 i) := by
  rw [fMr_eq k b 0 c2 i]
  unfold fMr
  have hl := block_length k
  have hk : ∀ x, (keyed (block k) x).length = 64 := fun x => by unfold keyed; rw [List.length_map, hl]
  have hk2 : ∀ x, ((keyed (block k) x).take i).length = i := fun x => by rw [List.length_take, hk]; omega
  refine ⟨fun h => ?_, fun h => ?_⟩
  · have h := of_decide_eq_true h
    refine ⟨⟨by omega, by omega⟩, by omega, ⟨Int.natCast_nonneg _, by decide⟩, ⟨Nat.le_refl 1, by rw [hk2]; exact Nat.le_of_eq (Nat.zero_add _), by omega, fun e => by cases e⟩, ⟨by omega, by omega⟩, by omega, ⟨Int.natCast_nonneg _, by decide⟩, ⟨Nat.le_refl 1, by rw [hk2]; exact Nat.le_of_eq (Nat.zero_add _), by omega, fun e => by cases e⟩, by rw [in_i64]; omega, i + 1, ⟨by omega, show i + 1 ≤ 64 by omega⟩, trivial, ⟨⟨rfl, rfl, rfl⟩, rfl, rfl, ⟨rfl, rfl, rfl⟩, ⟨rfl, rfl, rfl⟩, by omega, trivial⟩, zs_ok 32, rfl, ?_, ?_, trivial⟩
    · rw [i_at, xor_byte _ 54 (by decide), keyed_take (by omega), List.drop_zero, List.take_take, Nat.min_self]; rfl
    · rw [i_at, xor_byte _ 92 (by decide), keyed_take (by omega), List.drop_zero, List.take_take, Nat.min_self]; rfl
  · have h := of_decide_eq_false h
    obtain rfl : i = 64 := by omega
    exact ⟨_, rfl, trivial, ⟨⟨rfl, rfl, rfl⟩, rfl, ⟨rfl, rfl, rfl⟩, ⟨rfl, rfl, rfl⟩, trivial⟩, zs_ok 32, (List.take_of_length_le (by rw [hk]; exact Nat.le_refl _)).symm, (List.take_of_length_le (by rw [hk]; exact Nat.le_refl _)).symm, trivial⟩
theorem roundN {k b : List UInt8} (i : Nat) (hi : i ≤ 32) : execW Tryd.prog (ro k b) (hooks k b) 100 (roundOf Tryd.prog MAC 6) nM ⟨none, []⟩ (nI k b i).T (nI k b i).S (nK k b i) := by
  rw [fN_eq k b 0 0 i]
  unfold fN
  have hl : (keyed (block k) 92).length = 64 := by unfold keyed; rw [List.length_map, block_length]
  have hd : (inn k b).length = 32 := sha_length _
  have hlen : (keyed (block k) 92 ++ (inn k b).take i).length = 64 + i := by rw [List.length_append, hl, List.length_take]; omega
  refine ⟨fun h => ?_, fun h => ?_⟩
  · have h := of_decide_eq_true h
    refine ⟨⟨by omega, by omega⟩, by omega, ⟨Nat.le_refl 1, by rw [hlen]; exact Nat.le_of_eq (Nat.zero_add _), by omega, fun e => by cases e⟩, by rw [in_i64]; omega, i + 1, ⟨by omega, show i + 1 ≤ 32 by omega⟩, trivial, ⟨rfl, ⟨rfl, by omega, by omega⟩, rfl, by omega, trivial⟩, zs_ok 32, rfl, ?_, trivial⟩
    rw [i_at, byte_of, List.drop_zero, List.take_of_length_le (Nat.le_of_eq hlen), List.append_assoc]
    refine congrArg (fun q => keyed (block k) 92 ++ q) ?_
    rw [List.take_add_one, List.getElem?_eq_getElem (by omega), List.getD_eq_getElem?_getD, List.getElem?_eq_getElem (by omega)]
    rfl
  · have h := of_decide_eq_false h
    obtain rfl : i = 32 := by omega
    exact ⟨_, rfl, trivial, ⟨rfl, ⟨rfl, rfl, rfl⟩, trivial⟩, zs_ok 32, by rw [List.take_of_length_le (by omega)], trivial⟩
end Go.Proofs.YtnhomnaamlbnpaaDoor.Rm
namespace Go.Proofs.YtnhomnaamlbnpaaDoor.Rm
open Go Go.RowKit Go.Proofs.YtnhomnaamlbnpaaDoor.Abs Go.Proofs.YtnhomnaamlbnpaaDoor.M Go.Proofs.YtnhomnaamlbnpaaDoor.Sha Go.Proofs.YtnhomnaamlbnpaaDoor.Rs
set_option linter.unusedVariables false
def d32 (l : List UInt8) : List UInt8 := (List.range 32).map fun i => UInt8.ofNat (Int.toNat ((l.getD i 0).toNat : Int))
theorem d32_eq {l : List UInt8} (h : l.length = 32) : d32 l = l := by
  unfold d32
  apply List.ext_getElem (by simp [h])
  intro i h1 h2
  have hi : i < 32 := by simpa using h1
  rw [List.getElem_map, List.getElem_range, byte_of, List.getD_eq_getElem?_getD, List.getElem?_eq_getElem (by omega)]
  rfl
def fT (k b : List UInt8) : Prop :=
    ∀ (z : Nat), z = 64 →
    (0 + List.length b ≤ List.length b ∧ Nat.le (0 + z) (List.length (keyed (block k) (54 : UInt8))) ∧ z + (List.length b) ≤ 65536 ∧ (false = true →
    0 + z ≤ (List.length (keyed (block k) (54 : UInt8))))) ∧ (0 + (z + (List.length b)) ≤ List.length (List.take z (List.drop 0 (keyed (block k) (54 : UInt8))) ++ List.take (List.length b) (List.drop 0 b)) ∧ List.length (List.take (z + (List.length b)) (List.drop 0 (List.take z (List.drop 0 (keyed (block k) (54 : UInt8))) ++ List.take (List.length b) (List.drop 0 b)))) ≤ 60000) ∧
    ∃ x0, Nat.le x0 32 ∧ (True ∧ (0 = 0 ∧ (0 = 0 ∧ 64 + x0 = z ∧ 64 + x0 = z) ∧ 0 = 0 ∧ ((↑x0 : Int) = 0 ∧ inR IntKind.i64 (↑x0 : Int)) ∧ True) ∧ zs 32 ∧ inn k b = d32 (sha256 (List.take (z + (List.length b)) (List.drop 0 (List.take z (List.drop 0 (keyed (block k) (54 : UInt8))) ++ List.take (List.length b) (List.drop 0 b))))) ∧ keyed (block k) (92 : UInt8) ++ List.take x0 (inn k b) = keyed (block k) (92 : UInt8) ∧ True) ∧ ∀ (z : Nat), z = 32 →
    (0 + (64 + z) ≤ List.length (keyed (block k) (92 : UInt8) ++ inn k b) ∧ List.length (List.take (64 + z) (List.drop 0 (keyed (block k) (92 : UInt8) ++ inn k b))) ≤ 60000) ∧ AVal.agg (Rs.dig (sha256 (List.take (64 + z) (List.drop 0 (keyed (block k) (92 : UInt8) ++ inn k b))))) = AVal.agg (Rs.dig (sha256 (keyed (block k) (92 : UInt8) ++ inn k b)))
def fH (k b : List UInt8) (c1 c2 : Nat) : Prop :=
    List.length k ≤ 9223372036854775807 ∧
    (decide (64 < (↑(List.length k) : Int)) = true →
    (0 + List.length k ≤ List.length k ∧ List.length (List.take (List.length k) (List.drop 0 k)) ≤ 60000) ∧
    ∃ x0, Nat.le x0 64 ∧ (True ∧ ((0 = 0 ∧ List.length b = List.length b ∧ c2 = c2) ∧ 0 = 0 ∧ 0 = 0 ∧ (x0 = 0 ∧ x0 = 0) ∧ (x0 = 0 ∧ x0 = 0) ∧ ((↑x0 : Int) = 0 ∧ inR IntKind.i64 (↑x0 : Int)) ∧ True) ∧ zs 32 ∧ block k = (d32 (sha256 (List.take (List.length k) (List.drop 0 k))) ++ List.replicate 32 (UInt8.ofNat 0)) ∧ List.take x0 (keyed (block k) (54 : UInt8)) = [] ∧ List.take x0 (keyed (block k) (92 : UInt8)) = [] ∧ True) ∧ fT k b) ∧
    (decide (64 < (↑(List.length k) : Int)) = false →
    List.length k ≤ 64 ∧
    ∃ x0, Nat.le x0 (List.length k) ∧ (True ∧ ((0 = 0 ∧ List.length k = List.length k ∧ c1 = c1) ∧ (0 = 0 ∧ List.length b = List.length b ∧ c2 = c2) ∧ 0 = 0 ∧ 0 = 0 ∧ ((↑x0 : Int) = 0 ∧ inR IntKind.i64 (↑x0 : Int)) ∧ True) ∧ zs 32 ∧ kp k x0 = List.replicate 64 (UInt8.ofNat 0) ∧ True) ∧ ∀ (z : Nat), z = List.length k →
    ∃ x0, Nat.le x0 64 ∧ (True ∧ ((0 = 0 ∧ List.length b = List.length b ∧ c2 = c2) ∧ 0 = 0 ∧ 0 = 0 ∧ (x0 = 0 ∧ x0 = 0) ∧ (x0 = 0 ∧ x0 = 0) ∧ ((↑x0 : Int) = 0 ∧ inR IntKind.i64 (↑x0 : Int)) ∧ True) ∧ zs 32 ∧ block k = kp k z ∧ List.take x0 (keyed (block k) (54 : UInt8)) = [] ∧ List.take x0 (keyed (block k) (92 : UInt8)) = [] ∧ True) ∧ fT k b)
theorem fT_ok {k b : List UInt8} (hb : b.length ≤ 50000) : fT k b := by
  have hk : ∀ x, (keyed (block k) x).length = 64 := fun x => by unfold keyed; rw [List.length_map, block_length]
  have hd : (inn k b).length = 32 := sha_length _
  have e1 : List.take 64 (List.drop 0 (keyed (block k) 54)) ++ List.take b.length (List.drop 0 b) = keyed (block k) 54 ++ b := by
    rw [List.drop_zero, List.drop_zero, List.take_length, List.take_of_length_le (by rw [hk]; exact Nat.le_refl _)]
  have e2 : List.take (64 + b.length) (List.drop 0 (keyed (block k) 54 ++ b)) = keyed (block k) 54 ++ b := by
    rw [List.drop_zero, List.take_of_length_le (by rw [List.length_append, hk]; exact Nat.le_refl _)]
  have l1 : (keyed (block k) 54 ++ b).length = 64 + b.length := by rw [List.length_append, hk]
  have l2 : (keyed (block k) 92 ++ inn k b).length = 96 := by rw [List.length_append, hk, hd]
  have e3 : List.take (64 + 32) (List.drop 0 (keyed (block k) 92 ++ inn k b)) = keyed (block k) 92 ++ inn k b := by
    rw [List.drop_zero, List.take_of_length_le (Nat.le_of_eq l2)]
  unfold fT
  intro z hz
  subst hz
  rw [e1, e2, l1]
  refine ⟨⟨by omega, by rw [hk]; exact Nat.le_of_eq (Nat.zero_add _), by omega, fun e => by cases e⟩, ⟨by omega, by omega⟩, 0, Nat.zero_le _, ⟨trivial, ⟨rfl, ⟨rfl, rfl, rfl⟩, rfl, ⟨rfl, by rw [in_i64]; decide⟩, trivial⟩, zs_ok 32, (d32_eq (sha_length _)).symm, List.append_nil _, trivial⟩, fun z hz => ?_⟩
  subst hz
  rw [e3, l2]
  exact ⟨⟨by omega, by omega⟩, rfl⟩
theorem fH_ok {k b : List UInt8} (hkl : k.length ≤ 50000) (hb : b.length ≤ 50000) (c1 c2 : Nat) : fH k b c1 c2 := by
  unfold fH
  refine ⟨by omega, fun h => ?_, fun h => ?_⟩
  · have h := of_decide_eq_true h
    have e : List.take k.length (List.drop 0 k) = k := by rw [List.drop_zero, List.take_length]
    rw [e]
    refine ⟨⟨by omega, by omega⟩, 0, Nat.zero_le _, ⟨trivial, ⟨⟨rfl, rfl, rfl⟩, rfl, rfl, ⟨rfl, rfl⟩, ⟨rfl, rfl⟩, ⟨rfl, by rw [in_i64]; decide⟩, trivial⟩, zs_ok 32, ?_, rfl, rfl, trivial⟩, fT_ok hb⟩
    rw [d32_eq (sha_length _)]
    unfold block
    dsimp only
    rw [if_neg (by omega), sha_length]
    rfl
  · have h := of_decide_eq_false h
    have hk : k.length ≤ 64 := by omega
    refine ⟨hk, 0, Nat.zero_le _, ⟨trivial, ⟨⟨rfl, rfl, rfl⟩, ⟨rfl, rfl, rfl⟩, rfl, rfl, ⟨rfl, by rw [in_i64]; decide⟩, trivial⟩, zs_ok 32, rfl, trivial⟩, fun z hz => ?_⟩
    subst hz
    refine ⟨0, Nat.zero_le _, ⟨trivial, ⟨⟨rfl, rfl, rfl⟩, rfl, rfl, ⟨rfl, rfl⟩, ⟨rfl, rfl⟩, ⟨rfl, by rw [in_i64]; decide⟩, trivial⟩, zs_ok 32, ?_, rfl, rfl, trivial⟩, fT_ok hb⟩
    unfold block kp
    dsimp only
    rw [if_pos hk, List.take_length]
end Go.Proofs.YtnhomnaamlbnpaaDoor.Rm
namespace Go.Proofs.YtnhomnaamlbnpaaDoor.Rm
open Go Go.RowKit Go.Proofs.YtnhomnaamlbnpaaDoor.Abs Go.Proofs.YtnhomnaamlbnpaaDoor.M Go.Proofs.YtnhomnaamlbnpaaDoor.Sha Go.Proofs.YtnhomnaamlbnpaaDoor.Rs
set_option linter.unusedVariables false
theorem hooks_ok {w0 : World} {RO : PT AObj} (hT : FTab w0) {k b : List UInt8} (hro : ro k b = RO) : ∀ f h, hookG (hooks k b) f = some h → Call1Ok Tryd.prog w0 RO f h := by
  intro f h hh
  subst hro
  unfold hookG hooks at hh
  cases h1 : Nat.beq f SHA with
  | true =>
    rw [h1] at hh
    cases hh
    rw [Nat.eq_of_beq_eq_true h1]
    exact shaF_ok hT
  | false => rw [h1] at hh; cases hh
theorem roLow (k b : List UInt8) {base : Nat} (h : 5000 ≤ base) : ROlow (ro k b) base := fun x o hx => Nat.lt_of_lt_of_le ((rolow_of (entries := [(900, .sbytes k 5), (901, .sbytes b 5)]) (base := 5000) (by kernel_rfl)) x o hx) h
set_option maxRecDepth 20000 in
theorem triA {w0 : World} (hT : FTab w0) {k b : List UInt8} (c1 c2 n : Nat) (fr : Fr) (τ : PT AVal) (st : St) (K : Res → Prop) (h : aA k b c1 c2 n fr τ st K) : Tri Tryd.prog w0 (ro k b) (.block 2 (.loop (roundOf Tryd.prog MAC 2))) n fr τ st K :=
  loopA_ok (id := 2) (b := roundOf Tryd.prog MAC 2) (N := nM) (f := 100) 5000 (fun i => i ≤ k.length) (aI k b c1 c2) (fun i => k.length - i) [] (fun z => z = k.length) (aJ k b c2) [] follows named (hooks_ok hT rfl) (roLow k b (by omega)) (fun i hi => roundA c1 c2 h.1 i hi) n fr τ st K h.2
set_option maxRecDepth 20000 in
theorem triM {w0 : World} (hT : FTab w0) {k b : List UInt8} (c2 n : Nat) (fr : Fr) (τ : PT AVal) (st : St) (K : Res → Prop) (h : mA k b c2 n fr τ st K) : Tri Tryd.prog w0 (ro k b) (.block 4 (.loop (roundOf Tryd.prog MAC 4))) n fr τ st K :=
  loopA_ok (id := 4) (b := roundOf Tryd.prog MAC 4) (N := nM) (f := 100) 6000 (fun i => i ≤ 64) (mI k b c2) (fun i => 64 - i) [(6001, 6004), (6002, 6006)] (fun z => z = 64) (mJ k b c2) [(6001, 6001), (6002, 6002)] follows named (hooks_ok hT rfl) (roLow k b (by omega)) (fun i hi => roundM c2 i hi) n fr τ st K h
set_option maxRecDepth 20000 in
theorem triN {w0 : World} (hT : FTab w0) {k b : List UInt8} (n : Nat) (fr : Fr) (τ : PT AVal) (st : St) (K : Res → Prop) (h : nA k b n fr τ st K) : Tri Tryd.prog w0 (ro k b) (.block 6 (.loop (roundOf Tryd.prog MAC 6))) n fr τ st K :=
  loopA_ok (id := 6) (b := roundOf Tryd.prog MAC 6) (N := nM) (f := 100) 7000 (fun i => i ≤ 32) (nI k b) (fun i => 32 - i) [(7000, 7000), (7001, 7003)] (fun z => z = 32) (nJ k b) [(7001, 7001)] follows named (hooks_ok hT rfl) (roLow k b (by omega)) (fun i hi => roundN i hi) n fr τ st K h
theorem ann_ok {w0 : World} (hT : FTab w0) (k b : List UInt8) (c1 c2 : Nat) : AnnOk Tryd.prog (ro k b) (annL [(2, aA k b c1 c2), (4, mA k b c2), (6, nA k b)]) w0 (bodyOf Tryd.prog MAC) := by
  refine annOk_list (ids := [2, 4, 6]) (cs := [(2, .loop (roundOf Tryd.prog MAC 2)), (4, .loop (roundOf Tryd.prog MAC 4)), (6, .loop (roundOf Tryd.prog MAC 6))]) rfl (by kernel_rfl) ?_
  intro p hp A hA n fr τ st K h
  simp only [List.mem_cons, List.not_mem_nil, or_false] at hp hA
  rcases hp with rfl | rfl | rfl
  · rcases hA with hA | hA | hA
    · cases hA
      exact triA hT c1 c2 n fr τ st K h
    · cases hA
    · cases hA
  · rcases hA with hA | hA | hA
    · cases hA
    · cases hA
      exact triM hT c2 n fr τ st K h
    · cases hA
  · rcases hA with hA | hA | hA
    · cases hA
    · cases hA
    · cases hA
      exact triN hT n fr τ st K h
def laidPhi (g1 g2 : Nat × Nat × Nat) : Phi := phiOf [(900, g1), (901, g2)]
theorem laid_high (g1 g2 : Nat × Nat × Nat) : ∀ {w0 : World}, Fresh0 (laidPhi g1 g2) 1000 w0 := phiOf_high (by kernel_rfl)
set_option maxRecDepth 20000 in
/-- THE REFERENCE'S HMAC. -/
theorem mac_f {w : World} {v1 v2 : Value} {k b : List UInt8} {S1 S2 : Nat → Prop} (hv1 : Byts w S1 v1 k) (hv2 : Byts w S2 v2 b) (hT : FTab w) (hk : k.length ≤ 50000) (hb : b.length ≤ 50000) : Calls Tryd.prog MAC #[v1, v2] w fun e w' => e = .returned (.agg ((hmac k b).map cell8).toArray) ∧ Below w.heap.size w w' := by
  obtain ⟨g1, c1, _, hrel1, hobj1⟩ := lay_bytes hv1
  obtain ⟨g2, c2, _, hrel2, hobj2⟩ := lay_bytes hv2
  have hro : RRel w (laidPhi g1 g2) (ro k b) := by
    refine rrel_of fun x o hx => ?_
    simp only [List.mem_cons, List.not_mem_nil, or_false, Prod.mk.injEq] at hx
    rcases hx with ⟨rfl, rfl⟩ | ⟨rfl, rfl⟩
    · rcases hobj1 (laidPhi g1 g2) 5 with hb | ⟨u, e1, e2, e3⟩
      · exact .inl ⟨hb, Nat.le_refl _⟩
      · exact .inr ⟨g1.1, g1.2.1, g1.2.2, u, rfl, fun h => absurd h (by omega), e1, e2, e3⟩
    · rcases hobj2 (laidPhi g1 g2) 5 with hb | ⟨u, e1, e2, e3⟩
      · exact .inl ⟨hb, by omega⟩
      · exact .inr ⟨g2.1, g2.2.1, g2.2.2, u, rfl, fun h => absurd h (by omega), e1, e2, e3⟩
  refine (fn_pure (P := Tryd.prog) (w0 := w) (RO := ro k b) (hookP := hooks k b) (ann := annL [(2, aA k b c1 c2), (4, mA k b c2), (6, nA k b)]) (f := 100) follows named (hooks_ok hT rfl) (g := MAC) (fn := Tryd.f39) (body := bodyOf Tryd.prog MAC) (by kernel_rfl) (by kernel_rfl) (ann_ok hT k b c1 c2)
    (args := [.sslice (900, 0) k.length c1 true 1, .sslice (901, 0) b.length c2 true 1]) (next := 1000) (K := fun u _ => u = AVal.agg (dig (sha256 (keyed (block k) 92 ++ inn k b)))) ?_ (φ := laidPhi g1 g2) (laid_high g1 g2) hro (us := [v1, v2]) (.cons _ _ _ _ (hrel1 _ 900 rfl) (.cons _ _ _ _ (hrel2 _ 901 rfl) .nil))).mono ?_
  · exact Eq.mpr (β := fH k b c1 c2) (by kernel_rfl) (fH_ok hk hb c1 c2)
  · rintro e w' ⟨u, a, st', rfl, rfl, ψ, k1, k2, _⟩
    cases k1 with
    | agg _ c hc =>
      rw [dig_eq (sha_length _)] at hc
      have hc : VRels ψ ((((sha256 (keyed (block k) 92 ++ inn k b)).map fun b => (b.toNat : Int))).map fun z => AVal.sint .u8 z) c.toList := by rw [List.map_map]; exact hc
      have hcl := vrels_sints hc
      rw [List.map_map] at hcl
      refine ⟨?_, k2.below⟩
      have : c = ((hmac k b).map cell8).toArray := by
        rw [← Array.toArray_toList (xs := c), hcl]
        rfl
      rw [this]
end Go.Proofs.YtnhomnaamlbnpaaDoor.Rm
