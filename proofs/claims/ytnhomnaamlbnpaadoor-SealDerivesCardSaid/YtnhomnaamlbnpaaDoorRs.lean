/- The reference's Sha256, by its formula: states. By an AI agent. -/
import Derived.Test.YtnhomnaamlbnpaaDoorTri
import Derived.KernelRfl
import Derived.Test.YtnhomnaamlbnpaaDoorAbsY
import Derived.Test.YtnhomnaamlbnpaaDoorRsm
import Derived.Test.YtnhomnaamlbnpaaDoorProg
namespace Go.Proofs.YtnhomnaamlbnpaaDoor.Abs
open Go Go.RowKit Go.Proofs.YtnhomnaamlbnpaaDoor.M Go.Proofs.YtnhomnaamlbnpaaDoor.Sha
set_option linter.unusedVariables false
/-- a turned word -/
def rotI (z : Int) (k : Nat) : Int := ((rotr z.toNat k : Nat) : Int)
def shrI (z : Int) (k : Nat) : Int := ((z.toNat / 2 ^ k : Nat) : Int)
theorem rotI_in {z : Int} (hz : inR .u32 z) {k : Nat} (hk : k ≤ 32) : inR .u32 (rotI z k) := by
  rw [in_u32] at hz ⊢
  have := rotr_lt (n := z.toNat) (k := k) (by omega) hk
  unfold rotI
  omega
theorem shrI_in {z : Int} (hz : inR .u32 z) {k : Nat} : inR .u32 (shrI z k) := by
  rw [in_u32] at hz ⊢
  have := Nat.div_le_self z.toNat (2 ^ k)
  unfold shrI
  generalize z.toNat / 2 ^ k = q at *
  omega
noncomputable def wordH (F : Int → Nat → Int) (args : List AVal) (st : St) : Option (OP × AVal × St) :=
  match args with
  | [.sint .u32 z, .int .i64 (.ofNat k)] => bif Nat.blt 0 k && Nat.blt k 32 then some (none, .sint .u32 (F z k), st) else none
  | _ => none
theorem wordH_ok {F : Int → Nat → Int} {w0 : World} {RO : PT AObj} {g : FuncId} (hb : (∃ fn, Tryd.prog.funcs[g]? = some fn ∧ fn.body.isNone = false ∧ (fn.name == "runtime.NumGoroutine") = false))
    (hin : ∀ z k, inR .u32 z → k < 32 → inR .u32 (F z k))
    (hc : ∀ z k w, inR .u32 z → 0 < k → k < 32 → Calls Tryd.prog g #[.int .u32 z, .int .i64 (Int.ofNat k)] w fun e w' => e = .returned (.int .u32 (F z k)) ∧ w' = w) : Call1Ok Tryd.prog w0 RO g (fun args st => got (wordH F args st)) := by
  intro args st v st' h
  replace h : got (wordH F args st) = some (v, st') := h
  unfold wordH at h
  split at h
  · rename_i z k
    cases hk : (Nat.blt 0 k && Nat.blt k 32) with
    | false => rw [hk] at h; cases h
    | true =>
    rw [hk] at h
    rw [Bool.and_eq_true] at hk
    have h0 : 0 < k := by simpa [Nat.blt_eq] using hk.1
    have h1 : k < 32 := by simpa [Nat.blt_eq] using hk.2
    obtain ⟨rfl, rfl⟩ : (AVal.sint .u32 (F z k)) = v ∧ st = st' := by simpa [got, need] using h
    refine ⟨.refl _, hb, fun φ us w hus hw hr => ?_⟩
    cases hus with
    | cons _ u _ us e1 e2 => cases e2 with
      | cons _ u2 _ us e3 e4 => cases e4 with
        | nil =>
        cases e1 with
        | sint _ _ hz =>
        cases e3 with
        | int _ _ =>
        refine (hc z k w hz h0 h1).mono fun e w' he => ?_
        obtain ⟨rfl, rfl⟩ := he
        exact ⟨_, rfl, quiet_ok hw (Below.refl _ _) (.sint _ _ (hin z k hz h1))⟩
  · cases h
noncomputable def wordHooks (g : FuncId) : Option (List AVal → St → Option (OP × AVal × St)) :=
  bif Nat.beq g 62 then some (wordH rotI) else bif Nat.beq g 63 then some (wordH shrI) else none
theorem wordHooks_ok {w0 : World} {RO : PT AObj} : ∀ f h, hookG wordHooks f = some h → Call1Ok Tryd.prog w0 RO f h := by
  intro f h hh
  unfold hookG wordHooks at hh
  cases h1 : Nat.beq f 62 with
  | true =>
    rw [h1] at hh
    cases hh
    rw [Nat.eq_of_beq_eq_true h1]
    exact wordH_ok ⟨_, rfl, rfl, by kernel_rfl⟩ (fun z k hz hk => rotI_in hz (by omega)) fun z k w hz h0 hk => by
      have hz2 := (in_u32 _).1 hz
      have := refRight_q z.toNat (Int.ofNat k) w (by omega) (by simpa using h0) (Int.ofNat_lt.2 hk)
      rw [Int.toNat_of_nonneg hz2.1] at this
      exact this
  | false =>
    rw [h1] at hh
    cases h2 : Nat.beq f 63 with
    | true =>
      rw [h2] at hh
      cases hh
      rw [Nat.eq_of_beq_eq_true h2]
      exact wordH_ok ⟨_, rfl, rfl, by kernel_rfl⟩ (fun z k hz hk => shrI_in hz) fun z k w hz h0 hk => by
        have hz2 := (in_u32 _).1 hz
        have := refShift_q z.toNat (Int.ofNat k) w (by omega) (by simpa using h0) (Int.ofNat_lt.2 hk)
        rw [Int.toNat_of_nonneg hz2.1] at this
        exact this
    | false => rw [h2] at hh; cases hh
end Go.Proofs.YtnhomnaamlbnpaaDoor.Abs
namespace Go.Proofs.YtnhomnaamlbnpaaDoor.Rs
open Go Go.RowKit Go.Proofs.YtnhomnaamlbnpaaDoor.Abs Go.Proofs.YtnhomnaamlbnpaaDoor.Sha
set_option linter.unusedVariables false
abbrev SHA : FuncId := 38
noncomputable abbrev nS : Nat := tmpsN Tryd.prog SHA
noncomputable def ro (L : List UInt8) : PT AObj := hp [(900, .sbytes L 5), (0, .cells [.slice (some (910, 0)) 8 8 true 1] 109), (1, .cells [.slice (some (911, 0)) 64 64 true 1] 109), (910, .cells (init.list.map fun (n : Nat) => AVal.int .u32 (n : Int)) 37), (911, .sints .u32 (K.map fun (n : Nat) => (n : Int)) 37)]
theorem roLow (L : List UInt8) : ROlow (ro L) 5000 := rolow_of rfl
/-- the message as it is filled, at a round's beginning -/
def fil (L : List UInt8) (i : Nat) : List UInt8 := L ++ [128] ++ List.replicate i 0
theorem fil_length (L : List UInt8) (i : Nat) : (fil L i).length = L.length + 1 + i := by simp [fil]; omega
def outs : AObj := .cells (List.replicate 32 (.int .u8 0)) 25
def aI (L : List UInt8) (cap i : Nat) : LS := ⟨[(0, .sslice (900, 0) L.length cap true 1), (2, .ptr (some (1000, 0))), (3, .sslice (5000, 0) (L.length + 1 + i) (L.length + 1 + i) false 1)], [(1000, outs), (5000, .sbytes (fil L i) 5)], 5001⟩
def aJ (L : List UInt8) (cap : Nat) (_ : Unit) : LS := aI L cap (zeros L.length)
noncomputable def aA (L : List UInt8) (cap : Nat) := loopA 5000 (fun i => i ≤ zeros L.length) (aI L cap) (fun _ => True) (aJ L cap) nS [(5000, 1003)]
noncomputable def aK (L : List UInt8) (cap i : Nat) := roundK 5000 (fun i => i ≤ zeros L.length) (aI L cap) (fun i => zeros L.length - i) [(5000, 5002)] (fun _ => True) (aJ L cap) [(5000, 5000)] 0 i
/-- so many zeros are zeros -/
def zs : Nat → Prop
  | 0 => True
  | n + 1 => (0 : Int) = (0 : Int) ∧ zs n
theorem zs_ok : ∀ n, zs n
  | 0 => trivial
  | n + 1 => ⟨rfl, zs_ok n⟩
theorem follows : Tryd.prog.follows .mixedOrders = true := by kernel_rfl
theorem named : ∀ (f : FuncId) (fn : Func), Tryd.prog.funcs[f]? = some fn → (fn.name == "runtime.NumGoroutine") = false := named_of (P := Tryd.prog) (by kernel_rfl)
theorem fil_succ (L : List UInt8) (i : Nat) : fil L (i + 1) = fil L i ++ [0] := by unfold fil; rw [row8_succ, ← List.append_assoc]
def fA (L : List UInt8) (cap i : Nat) : Prop :=
    List.length L + (1 : Nat) + i ≤ (9223372036854775807 : Nat) ∧ ((0 : Int) ≤ (↑(List.length L + (1 : Nat) + i) : Int) ∧ (0 : Int) < (64 : Int)) ∧
    (decide ((↑(List.length L + (1 : Nat) + i) : Int) % (64 : Int) ≠ (56 : Int)) = true →
      ((0 : Nat) + ((0 : Nat) + (1 : Nat)) ≤ List.length [UInt8.ofNat (Int.toNat (0 : Int))] ∧ Nat.le ((0 : Nat) + (List.length L + (1 : Nat) + i)) (List.length (fil L i)) ∧ List.length L + (1 : Nat) + i + (1 : Nat) ≤ (65536 : Nat) ∧ (false = true →
        (0 : Nat) + (List.length L + (1 : Nat) + i) ≤ (List.length (fil L i)))) ∧ ∃ y, (Sha.zeros (List.length L) - y < Sha.zeros (List.length L) - i ∧ Nat.le y (Sha.zeros (List.length L))) ∧ True ∧ (((0 : Nat) = (0 : Nat) ∧ List.length L = List.length L ∧ cap = cap) ∧ (0 : Nat) = (0 : Nat) ∧ ((0 : Nat) = (0 : Nat) ∧ List.length L + (1 : Nat) + y = List.length L + (1 : Nat) + i + (1 : Nat) ∧ List.length L + (1 : Nat) + y = List.length L + (1 : Nat) + i + (1 : Nat)) ∧ True) ∧ zs 32 ∧ fil L y = List.take (List.length L + (1 : Nat) + i) (List.drop (0 : Nat) (fil L i)) ++ List.take ((0 : Nat) + (1 : Nat)) (List.drop (0 : Nat) [UInt8.ofNat (Int.toNat (0 : Int))]) ∧ True) ∧
    (decide ((↑(List.length L + (1 : Nat) + i) : Int) % (64 : Int) ≠ (56 : Int)) = false →
      ∃ z : Unit, True ∧ True ∧ (((0 : Nat) = (0 : Nat) ∧ List.length L = List.length L ∧ cap = cap) ∧ (0 : Nat) = (0 : Nat) ∧ ((0 : Nat) = (0 : Nat) ∧ List.length L + (1 : Nat) + Sha.zeros (List.length L) = List.length L + (1 : Nat) + i ∧ List.length L + (1 : Nat) + Sha.zeros (List.length L) = List.length L + (1 : Nat) + i) ∧ True) ∧ zs 32 ∧ fil L (Sha.zeros (List.length L)) = fil L i ∧ True)
theorem fA_eq (L : List UInt8) (cap i : Nat) : execW Tryd.prog (ro L) wordHooks 100 (roundOf Tryd.prog SHA 0) nS ⟨none, []⟩ (aI L cap i).T (aI L cap i).S (aK L cap i) = fA L cap i := by kernel_rfl
theorem roundA {L : List UInt8} (hL : L.length ≤ 60000) (cap i : Nat) (hi : i ≤ zeros L.length) : execW Tryd.prog (ro L) wordHooks 100 (roundOf Tryd.prog SHA 0) nS ⟨none, []⟩ (aI L cap i).T (aI L cap i).S (aK L cap i) := by
  have hz := zeros_lt L.length
  rw [fA_eq]
  unfold fA
  have hfl := fil_length L i
  have hst := zeros_stop hi
  refine ⟨by omega, ⟨by omega, by omega⟩, fun h => ?_, fun h => ?_⟩
  · have h := of_decide_eq_true h
    have hne : i ≠ zeros L.length := fun e => h (by have := hst.2 e; omega)
    refine ⟨⟨by decide, by rw [hfl]; exact Nat.le_of_eq (Nat.zero_add _), by omega, fun e => by cases e⟩, i + 1, ⟨by omega, show i + 1 ≤ _ by omega⟩, trivial, ⟨⟨rfl, rfl, rfl⟩, rfl, ⟨rfl, by omega, by omega⟩, trivial⟩, zs_ok 32, ?_, trivial⟩
    rw [fil_succ, List.drop_zero, List.take_of_length_le (by omega)]
    rfl
  · have h := of_decide_eq_false h
    have he : i = zeros L.length := hst.1 (by have := Decidable.not_not.1 h; omega)
    subst he
    exact ⟨(), trivial, trivial, ⟨⟨rfl, rfl, rfl⟩, rfl, ⟨rfl, rfl, rfl⟩, trivial⟩, zs_ok 32, rfl, trivial⟩
/-! the length, eight bytes -/
def bits (L : List UInt8) : Nat := 8 * L.length % 18446744073709551616
def pre (L : List UInt8) : List UInt8 := fil L (zeros L.length)
def lenP (L : List UInt8) : Nat := L.length + 1 + zeros L.length
def bI (L : List UInt8) (i : Nat) : LS := ⟨[(2, .ptr (some (1000, 0))), (3, .sslice (5100, 0) (lenP L + i) (lenP L + i) false 1), (4, .sint .u64 (bits L : Int)), (5, .sint .u64 (dv i : Int)), (7, .sint .i64 (i : Int))], [(1000, outs), (5100, .sbytes (pre L ++ (beBytes (bits L) 8).take i) 5)], 5101⟩
def bJ (L : List UInt8) (_ : Unit) : LS := ⟨[(2, .ptr (some (1000, 0))), (3, .sslice (5100, 0) (lenP L + 8) (lenP L + 8) false 1)], [(1000, outs), (5100, .sbytes (pad L) 5)], 5101⟩
noncomputable def bA (L : List UInt8) := loopA 5100 (fun i => i ≤ 8) (bI L) (fun _ => True) (bJ L) nS [(5100, 5000)]
noncomputable def bK (L : List UInt8) (i : Nat) := roundK 5100 (fun i => i ≤ 8) (bI L) (fun i => 8 - i) [(5100, 5102)] (fun _ => True) (bJ L) [(5100, 5100)] 4 i
def fB (L : List UInt8) (i : Nat) : Prop :=
    (decide ((↑i : Int) < (8 : Int)) = true →
    ((0 : Int) ≤ (↑(Rs.bits L) : Int) ∧ (0 : Int) < (↑(Sha.dv i) : Int)) ∧ ((0 : Int) ≤ (↑(Rs.bits L) : Int) / (↑(Sha.dv i) : Int) ∧ (0 : Int) < (256 : Int)) ∧ ((1 : Nat) ≤ List.length [UInt8.ofNat (Int.toNat ((↑(Rs.bits L) : Int) / (↑(Sha.dv i) : Int) % (256 : Int) % (256 : Int)))] ∧ Nat.le ((0 : Nat) + (lenP L + i)) (List.length (pre L ++ List.take i (Sha.beBytes (Rs.bits L) (8 : Nat)))) ∧ lenP L + i + (1 : Nat) ≤ (65536 : Nat) ∧ (false = true →
    (0 : Nat) + (lenP L + i) ≤ (List.length (pre L ++ List.take i (Sha.beBytes (Rs.bits L) (8 : Nat)))))) ∧ ((0 : Int) ≤ (↑(Sha.dv i) : Int) ∧ (0 : Int) < (256 : Int)) ∧ inR IntKind.i64 ((↑i : Int) + (1 : Int)) ∧
    ∃ y, ((8 : Nat) - y < (8 : Nat) - i ∧ Nat.le y (8 : Nat)) ∧ True ∧ ((0 : Nat) = (0 : Nat) ∧ ((0 : Nat) = (0 : Nat) ∧ lenP L + y = lenP L + i + (1 : Nat) ∧ lenP L + y = lenP L + i + (1 : Nat)) ∧ (↑(Rs.bits L) : Int) = (↑(Rs.bits L) : Int) ∧ (↑(Sha.dv y) : Int) = (↑(Sha.dv i) : Int) / (256 : Int) ∧ (↑y : Int) = (↑i : Int) + (1 : Int) ∧ True) ∧ zs 32 ∧ pre L ++ List.take y (Sha.beBytes (Rs.bits L) (8 : Nat)) = List.take (lenP L + i) (List.drop (0 : Nat) (pre L ++ List.take i (Sha.beBytes (Rs.bits L) (8 : Nat)))) ++ List.take (1 : Nat) (List.drop (0 : Nat) [UInt8.ofNat (Int.toNat ((↑(Rs.bits L) : Int) / (↑(Sha.dv i) : Int) % (256 : Int) % (256 : Int)))]) ∧ True) ∧
    (decide ((↑i : Int) < (8 : Int)) = false →
    ∃ z : Unit, True ∧ True ∧ ((0 : Nat) = (0 : Nat) ∧ ((0 : Nat) = (0 : Nat) ∧ lenP L + (8 : Nat) = lenP L + i ∧ lenP L + (8 : Nat) = lenP L + i) ∧ True) ∧ zs 32 ∧ Sha.pad L = pre L ++ List.take i (Sha.beBytes (Rs.bits L) (8 : Nat)) ∧ True)
theorem fB_eq (L : List UInt8) (i : Nat) : execW Tryd.prog (ro L) wordHooks 100 (roundOf Tryd.prog SHA 4) nS ⟨none, []⟩ (bI L i).T (bI L i).S (bK L i) = fB L i := by kernel_rfl
theorem pre_length (L : List UInt8) : (pre L).length = lenP L := fil_length _ _
theorem pad_pre (L : List UInt8) : pad L = pre L ++ beBytes (bits L) 8 := rfl
theorem dv_pos (i : Nat) (h : i ≤ 7) : 0 < dv i := by rw [dv_pow i h]; exact Nat.pow_pos (by decide)
theorem roundB {L : List UInt8} (hL : L.length ≤ 60000) (i : Nat) (hi : i ≤ 8) : execW Tryd.prog (ro L) wordHooks 100 (roundOf Tryd.prog SHA 4) nS ⟨none, []⟩ (bI L i).T (bI L i).S (bK L i) := by
  have hz := zeros_lt L.length
  rw [fB_eq]
  unfold fB
  have hlen : (pre L ++ (beBytes (bits L) 8).take i).length = lenP L + i := by rw [List.length_append, pre_length, List.length_take, beBytes_length]; omega
  have hP : lenP L = L.length + 1 + zeros L.length := rfl
  refine ⟨fun h => ?_, fun h => ?_⟩
  · have h := of_decide_eq_true h
    have h8 : i < 8 := by omega
    have hd := dv_pos i (by omega)
    have hd0 : (0 : Int) ≤ (dv i : Int) := by omega
    refine ⟨⟨by omega, by omega⟩, ⟨Int.ediv_nonneg (by omega) hd0, by omega⟩, ⟨Nat.le_refl 1, by rw [hlen]; exact Nat.le_of_eq (Nat.zero_add _), by omega, fun e => by cases e⟩, ⟨hd0, by omega⟩, by rw [in_i64]; omega, i + 1, ⟨by omega, show i + 1 ≤ 8 by omega⟩, trivial, ⟨rfl, ⟨rfl, by omega, by omega⟩, rfl, ?_, by omega, trivial⟩, zs_ok 32, ?_, trivial⟩
    · rw [dv_succ]; rfl
    · rw [beBytes_more _ _ _ h8, ← List.append_assoc, List.drop_zero, List.take_of_length_le (Nat.le_of_eq hlen)]
      have hb := dv_byte (bits L) i (by omega)
      have hm : (bits L : Int) / (dv i : Int) % 256 % 256 = ((byteAt (bits L) (7 - i)).toNat : Int) := by
        rw [← hb]; simp [Int.natCast_ediv, Int.natCast_emod]
      rw [hm]
      show _ = _ ++ ([UInt8.ofNat (byteAt (bits L) (7 - i)).toNat])
      rw [UInt8.ofNat_toNat]
  · have h := of_decide_eq_false h
    obtain rfl : i = 8 := by omega
    exact ⟨(), trivial, trivial, ⟨rfl, ⟨rfl, rfl, rfl⟩, trivial⟩, zs_ok 32, by rw [pad_pre, List.take_of_length_le (by rw [beBytes_length]; omega)], trivial⟩
end Go.Proofs.YtnhomnaamlbnpaaDoor.Rs
namespace Go.Proofs.YtnhomnaamlbnpaaDoor.Rs
open Go Go.RowKit Go.Proofs.YtnhomnaamlbnpaaDoor.Abs Go.Proofs.YtnhomnaamlbnpaaDoor.Sha
set_option linter.unusedVariables false
def hs (L : List UInt8) (j : Nat) : H8 := blocks j init (pad L)
def blk (L : List UInt8) (j : Nat) : List UInt8 := ((pad L).drop (64 * j)).take 64
def ws (L : List UInt8) (j : Nat) : List Int := (sched (blk L j)).map fun (n : Nat) => (n : Int)
def words8 (s : H8) : List AVal := [.sint .u32 (s.a : Int), .sint .u32 (s.b : Int), .sint .u32 (s.c : Int), .sint .u32 (s.d : Int), .sint .u32 (s.e : Int), .sint .u32 (s.f : Int), .sint .u32 (s.g : Int), .sint .u32 (s.h : Int)]
def cT (L : List UInt8) (j : Nat) : List (Nat × AVal) := [(2, .ptr (some (1000, 0))), (3, .sslice (5100, 0) (lenP L + 8) (lenP L + 8) false 1), (8, .ptr (some (6000, 0))), (10, .slice (some (911, 0)) 64 64 true 1), (11, .sint .i64 ((64 * j : Nat) : Int))]
def cH (L : List UInt8) (j : Nat) : List (Nat × AObj) := [(1000, outs), (5100, .sbytes (pad L) 5), (6000, .cells (words8 (hs L j)) 108)]
def cI (L : List UInt8) (j : Nat) : LS := ⟨cT L j, cH L j, 6001⟩
def cN (L : List UInt8) : Nat := (pad L).length / 64
def cJ (L : List UInt8) (_ : Unit) : LS := ⟨[(2, .ptr (some (1000, 0))), (8, .ptr (some (6000, 0)))], [(1000, outs), (6000, .cells (words8 (hs L (cN L))) 108)], 6001⟩
def dI (L : List UInt8) (j t : Nat) : LS := ⟨cT L j ++ [(12, .sslice (7000, 0) t t false 1), (13, .sint .i64 (t : Int))], cH L j ++ [(7000, .sints .u32 ((ws L j).take t) 37)], 7001⟩
def dJ (L : List UInt8) (j : Nat) (_ : Unit) : LS := ⟨cT L j ++ [(12, .sslice (7000, 0) 64 64 false 1)], cH L j ++ [(7000, .sints .u32 (ws L j) 37)], 7001⟩
noncomputable def dA (L : List UInt8) (j n : Nat) (fr : Fr) (τ : PT AVal) (st : St) (K : Res → Prop) : Prop := j < cN L ∧ loopA 7000 (fun t => t ≤ 64) (dI L j) (fun _ => True) (dJ L j) nS [] n fr τ st K
noncomputable def dK (L : List UInt8) (j t : Nat) := roundK 7000 (fun t => t ≤ 64) (dI L j) (fun t => 64 - t) [(7000, 7035)] (fun _ => True) (dJ L j) [(7000, 7000)] 10 t
/-- a state's words are themselves -/
def sm (s : H8) : Prop := ((↑s.1 : Int) = (↑s.1 : Int) ∧ (↑s.2 : Int) = (↑s.2 : Int) ∧ (↑s.3 : Int) = (↑s.3 : Int) ∧ (↑s.4 : Int) = (↑s.4 : Int) ∧ (↑s.5 : Int) = (↑s.5 : Int) ∧ (↑s.6 : Int) = (↑s.6 : Int) ∧ (↑s.7 : Int) = (↑s.7 : Int) ∧ (↑s.8 : Int) = (↑s.8 : Int) ∧ True)
theorem sm_ok (s : H8) : sm s := ⟨rfl, rfl, rfl, rfl, rfl, rfl, rfl, rfl, trivial⟩
def fD1 (L : List UInt8) (j t : Nat) : Prop :=
    inR IntKind.i64 (4 * (↑t : Int)) ∧ inR IntKind.i64 ((↑(64 * j) : Int) + 4 * (↑t : Int)) ∧ (0 ≤ (↑(64 * j) : Int) + 4 * (↑t : Int) ∧ (↑(64 * j) : Int) + 4 * (↑t : Int) < (↑(lenP L + 8) : Int)) ∧ 0 + Int.toNat ((↑(64 * j) : Int) + 4 * (↑t : Int)) * 1 < List.length (Sha.pad L) ∧ inR IntKind.i64 ((↑(64 * j) : Int) + 4 * (↑t : Int) + 1) ∧ (0 ≤ (↑(64 * j) : Int) + 4 * (↑t : Int) + 1 ∧ (↑(64 * j) : Int) + 4 * (↑t : Int) + 1 < (↑(lenP L + 8) : Int)) ∧ 0 + Int.toNat ((↑(64 * j) : Int) + 4 * (↑t : Int) + 1) * 1 < List.length (Sha.pad L) ∧ inR IntKind.i64 ((↑(64 * j) : Int) + 4 * (↑t : Int) + 2) ∧ (0 ≤ (↑(64 * j) : Int) + 4 * (↑t : Int) + 2 ∧ (↑(64 * j) : Int) + 4 * (↑t : Int) + 2 < (↑(lenP L + 8) : Int)) ∧ 0 + Int.toNat ((↑(64 * j) : Int) + 4 * (↑t : Int) + 2) * 1 < List.length (Sha.pad L) ∧ inR IntKind.i64 ((↑(64 * j) : Int) + 4 * (↑t : Int) + 3) ∧ (0 ≤ (↑(64 * j) : Int) + 4 * (↑t : Int) + 3 ∧ (↑(64 * j) : Int) + 4 * (↑t : Int) + 3 < (↑(lenP L + 8) : Int)) ∧ 0 + Int.toNat ((↑(64 * j) : Int) + 4 * (↑t : Int) + 3) * 1 < List.length (Sha.pad L) ∧ (1 ≤ List.length [((((↑(UInt8.toNat (List.getD (Sha.pad L) (0 + Int.toNat ((↑(64 * j) : Int) + 4 * (↑t : Int)) * 1) (0 : UInt8))) : Int) * 16777216 % 4294967296 + (↑(UInt8.toNat (List.getD (Sha.pad L) (0 + Int.toNat ((↑(64 * j) : Int) + 4 * (↑t : Int) + 1) * 1) (0 : UInt8))) : Int) * 65536 % 4294967296) % 4294967296 + (↑(UInt8.toNat (List.getD (Sha.pad L) (0 + Int.toNat ((↑(64 * j) : Int) + 4 * (↑t : Int) + 2) * 1) (0 : UInt8))) : Int) * 256 % 4294967296) % 4294967296 + (↑(UInt8.toNat (List.getD (Sha.pad L) (0 + Int.toNat ((↑(64 * j) : Int) + 4 * (↑t : Int) + 3) * 1) (0 : UInt8))) : Int)) % 4294967296] ∧ Nat.le (0 + t) (List.length (List.take t (ws L j))) ∧ t + 1 ≤ 65536 ∧ (false = true →
    0 + t ≤ objM (Prod.snd (7000, AObj.sints IntKind.u32 (List.take t (ws L j)) (37 : TypeId))))) ∧ inR IntKind.i64 ((↑t : Int) + 1) ∧
    ∃ y, (64 - y < 64 - t ∧ Nat.le y 64) ∧ True ∧ (0 = 0 ∧ (0 = 0 ∧ lenP L + 8 = lenP L + 8 ∧ lenP L + 8 = lenP L + 8) ∧ 0 = 0 ∧ (0 = 0 ∧ 64 = 64 ∧ 64 = 64) ∧ (↑(64 * j) : Int) = (↑(64 * j) : Int) ∧ (0 = 0 ∧ y = t + 1 ∧ y = t + 1) ∧ (↑y : Int) = (↑t : Int) + 1 ∧ True) ∧ zs 32 ∧ Sha.pad L = Sha.pad L ∧ sm (hs L j) ∧ List.take y (ws L j) = List.take t (List.drop 0 (List.take t (ws L j))) ++ List.take 1 (List.drop 0 [((((↑(UInt8.toNat (List.getD (Sha.pad L) (0 + Int.toNat ((↑(64 * j) : Int) + 4 * (↑t : Int)) * 1) (0 : UInt8))) : Int) * 16777216 % 4294967296 + (↑(UInt8.toNat (List.getD (Sha.pad L) (0 + Int.toNat ((↑(64 * j) : Int) + 4 * (↑t : Int) + 1) * 1) (0 : UInt8))) : Int) * 65536 % 4294967296) % 4294967296 + (↑(UInt8.toNat (List.getD (Sha.pad L) (0 + Int.toNat ((↑(64 * j) : Int) + 4 * (↑t : Int) + 2) * 1) (0 : UInt8))) : Int) * 256 % 4294967296) % 4294967296 + (↑(UInt8.toNat (List.getD (Sha.pad L) (0 + Int.toNat ((↑(64 * j) : Int) + 4 * (↑t : Int) + 3) * 1) (0 : UInt8))) : Int)) % 4294967296]) ∧ True
def fD2 (L : List UInt8) (j t : Nat) : Prop :=
    inR IntKind.i64 ((↑t : Int) - 15) ∧ (0 ≤ (↑t : Int) - 15 ∧ (↑t : Int) - 15 < (↑t : Int)) ∧ 0 + Int.toNat ((↑t : Int) - 15) * 1 < List.length (List.take t (ws L j)) ∧ inR IntKind.i64 ((↑t : Int) - 2) ∧ (0 ≤ (↑t : Int) - 2 ∧ (↑t : Int) - 2 < (↑t : Int)) ∧ 0 + Int.toNat ((↑t : Int) - 2) * 1 < List.length (List.take t (ws L j)) ∧ inR IntKind.i64 ((↑t : Int) - 16) ∧ (0 ≤ (↑t : Int) - 16 ∧ (↑t : Int) - 16 < (↑t : Int)) ∧ 0 + Int.toNat ((↑t : Int) - 16) * 1 < List.length (List.take t (ws L j)) ∧ inR IntKind.i64 ((↑t : Int) - 7) ∧ (0 ≤ (↑t : Int) - 7 ∧ (↑t : Int) - 7 < (↑t : Int)) ∧ 0 + Int.toNat ((↑t : Int) - 7) * 1 < List.length (List.take t (ws L j)) ∧ (0 ≤ rotI (List.getD (List.take t (ws L j)) (0 + Int.toNat ((↑t : Int) - 15) * 1) 0) 7 ∧ 0 ≤ rotI (List.getD (List.take t (ws L j)) (0 + Int.toNat ((↑t : Int) - 15) * 1) 0) 18) ∧ (0 ≤ (↑(Int.toNat (rotI (List.getD (List.take t (ws L j)) (0 + Int.toNat ((↑t : Int) - 15) * 1) 0) 7) ^^^ Int.toNat (rotI (List.getD (List.take t (ws L j)) (0 + Int.toNat ((↑t : Int) - 15) * 1) 0) 18)) : Int) ∧ 0 ≤ shrI (List.getD (List.take t (ws L j)) (0 + Int.toNat ((↑t : Int) - 15) * 1) 0) 3) ∧ (0 ≤ rotI (List.getD (List.take t (ws L j)) (0 + Int.toNat ((↑t : Int) - 2) * 1) 0) 17 ∧ 0 ≤ rotI (List.getD (List.take t (ws L j)) (0 + Int.toNat ((↑t : Int) - 2) * 1) 0) 19) ∧ (0 ≤ (↑(Int.toNat (rotI (List.getD (List.take t (ws L j)) (0 + Int.toNat ((↑t : Int) - 2) * 1) 0) 17) ^^^ Int.toNat (rotI (List.getD (List.take t (ws L j)) (0 + Int.toNat ((↑t : Int) - 2) * 1) 0) 19)) : Int) ∧ 0 ≤ shrI (List.getD (List.take t (ws L j)) (0 + Int.toNat ((↑t : Int) - 2) * 1) 0) 10) ∧ (1 ≤ List.length [(((List.getD (List.take t (ws L j)) (0 + Int.toNat ((↑t : Int) - 16) * 1) 0 + List.getD (List.take t (ws L j)) (0 + Int.toNat ((↑t : Int) - 7) * 1) 0) % 4294967296 + (↑(Int.toNat (↑(Int.toNat (rotI (List.getD (List.take t (ws L j)) (0 + Int.toNat ((↑t : Int) - 15) * 1) 0) 7) ^^^ Int.toNat (rotI (List.getD (List.take t (ws L j)) (0 + Int.toNat ((↑t : Int) - 15) * 1) 0) 18)) : Int) ^^^ Int.toNat (shrI (List.getD (List.take t (ws L j)) (0 + Int.toNat ((↑t : Int) - 15) * 1) 0) 3)) : Int)) % 4294967296 + (↑(Int.toNat (↑(Int.toNat (rotI (List.getD (List.take t (ws L j)) (0 + Int.toNat ((↑t : Int) - 2) * 1) 0) 17) ^^^ Int.toNat (rotI (List.getD (List.take t (ws L j)) (0 + Int.toNat ((↑t : Int) - 2) * 1) 0) 19)) : Int) ^^^ Int.toNat (shrI (List.getD (List.take t (ws L j)) (0 + Int.toNat ((↑t : Int) - 2) * 1) 0) 10)) : Int)) % 4294967296] ∧ Nat.le (0 + t) (List.length (List.take t (ws L j))) ∧ t + 1 ≤ 65536 ∧ (false = true →
    0 + t ≤ objM (Prod.snd (7000, AObj.sints IntKind.u32 (List.take t (ws L j)) (37 : TypeId))))) ∧ inR IntKind.i64 ((↑t : Int) + 1) ∧
    ∃ y, (64 - y < 64 - t ∧ Nat.le y 64) ∧ True ∧ (0 = 0 ∧ (0 = 0 ∧ lenP L + 8 = lenP L + 8 ∧ lenP L + 8 = lenP L + 8) ∧ 0 = 0 ∧ (0 = 0 ∧ 64 = 64 ∧ 64 = 64) ∧ (↑(64 * j) : Int) = (↑(64 * j) : Int) ∧ (0 = 0 ∧ y = t + 1 ∧ y = t + 1) ∧ (↑y : Int) = (↑t : Int) + 1 ∧ True) ∧ zs 32 ∧ Sha.pad L = Sha.pad L ∧ sm (hs L j) ∧ List.take y (ws L j) = List.take t (List.drop 0 (List.take t (ws L j))) ++ List.take 1 (List.drop 0 [(((List.getD (List.take t (ws L j)) (0 + Int.toNat ((↑t : Int) - 16) * 1) 0 + List.getD (List.take t (ws L j)) (0 + Int.toNat ((↑t : Int) - 7) * 1) 0) % 4294967296 + (↑(Int.toNat (↑(Int.toNat (rotI (List.getD (List.take t (ws L j)) (0 + Int.toNat ((↑t : Int) - 15) * 1) 0) 7) ^^^ Int.toNat (rotI (List.getD (List.take t (ws L j)) (0 + Int.toNat ((↑t : Int) - 15) * 1) 0) 18)) : Int) ^^^ Int.toNat (shrI (List.getD (List.take t (ws L j)) (0 + Int.toNat ((↑t : Int) - 15) * 1) 0) 3)) : Int)) % 4294967296 + (↑(Int.toNat (↑(Int.toNat (rotI (List.getD (List.take t (ws L j)) (0 + Int.toNat ((↑t : Int) - 2) * 1) 0) 17) ^^^ Int.toNat (rotI (List.getD (List.take t (ws L j)) (0 + Int.toNat ((↑t : Int) - 2) * 1) 0) 19)) : Int) ^^^ Int.toNat (shrI (List.getD (List.take t (ws L j)) (0 + Int.toNat ((↑t : Int) - 2) * 1) 0) 10)) : Int)) % 4294967296]) ∧ True
def fD3 (L : List UInt8) (j t : Nat) : Prop :=
    ∃ z : Unit, True ∧ True ∧ (0 = 0 ∧ (0 = 0 ∧ lenP L + 8 = lenP L + 8 ∧ lenP L + 8 = lenP L + 8) ∧ 0 = 0 ∧ (0 = 0 ∧ 64 = 64 ∧ 64 = 64) ∧ (↑(64 * j) : Int) = (↑(64 * j) : Int) ∧ (0 = 0 ∧ 64 = t ∧ 64 = t) ∧ True) ∧ zs 32 ∧ Sha.pad L = Sha.pad L ∧ sm (hs L j) ∧ ws L j = List.take t (ws L j) ∧ True
def fD (L : List UInt8) (j t : Nat) : Prop := (decide ((↑t : Int) < 64) = true → (decide ((↑t : Int) < 16) = true → fD1 L j t) ∧ (decide ((↑t : Int) < 16) = false → fD2 L j t)) ∧ (decide ((↑t : Int) < 64) = false → fD3 L j t)
theorem fD_eq (L : List UInt8) (j t : Nat) : execW Tryd.prog (ro L) wordHooks 100 (roundOf Tryd.prog SHA 10) nS ⟨none, []⟩ (dI L j t).T (dI L j t).S (dK L j t) = fD L j t := by kernel_rfl
theorem padL (L : List UInt8) : (pad L).length = lenP L + 8 := by rw [pad_pre, List.length_append, pre_length, beBytes_length]
theorem blk_length {L : List UInt8} {j : Nat} (h : j < cN L) : (blk L j).length = 64 := by
  have := pad_length L
  unfold cN at h
  unfold blk
  rw [List.length_take, List.length_drop]
  omega
theorem blk_getD {L : List UInt8} {j i : Nat} (h : i < 64) : (blk L j).getD i 0 = (pad L).getD (64 * j + i) 0 := by
  unfold blk
  rw [List.getD_eq_getElem?_getD, List.getD_eq_getElem?_getD, List.getElem?_take_of_lt h, List.getElem?_drop]
theorem ws_take {L : List UInt8} {j t n : Nat} (h : (sched (blk L j)).take (t + 1) = (sched (blk L j)).take t ++ [n]) : (ws L j).take (t + 1) = (ws L j).take t ++ [(n : Int)] := by
  unfold ws
  rw [← List.map_take, ← List.map_take, h, List.map_append]
  rfl
theorem ws_length {L : List UInt8} {j : Nat} (h : j < cN L) : (ws L j).length = 64 := by unfold ws; rw [List.length_map, sched_length _ (blk_length h)]
theorem ws_getD {L : List UInt8} {j t k : Nat} (h0 : 1 ≤ k) (hk : k ≤ t) (hj : j < cN L) (ht : t ≤ 64) : ((ws L j).take t).getD (0 + Int.toNat ((t : Int) - (k : Int)) * 1) 0 = (((sched (blk L j)).getD (t - k) 0 : Nat) : Int) := by
  have hi : 0 + Int.toNat ((t : Int) - (k : Int)) * 1 = t - k := by omega
  have hl : (sched (blk L j)).length = 64 := sched_length _ (blk_length hj)
  rw [hi, List.getD_eq_getElem?_getD, List.getElem?_take_of_lt (by omega), List.getD_eq_getElem?_getD]
  unfold ws
  rw [List.getElem?_map, List.getElem?_eq_getElem (by omega)]
  rfl
theorem rotI_nat (n k : Nat) : rotI (n : Int) k = ((rotr n k : Nat) : Int) := rfl
theorem shrI_nat (n k : Nat) : shrI (n : Int) k = ((n / 2 ^ k : Nat) : Int) := rfl
end Go.Proofs.YtnhomnaamlbnpaaDoor.Rs
namespace Go.Proofs.YtnhomnaamlbnpaaDoor.Rs
open Go Go.RowKit Go.Proofs.YtnhomnaamlbnpaaDoor.Abs Go.Proofs.YtnhomnaamlbnpaaDoor.Sha
set_option linter.unusedVariables false
set_option maxHeartbeats 1000000
theorem rotI_pos (z : Int) (k : Nat) : 0 ≤ rotI z k := Int.natCast_nonneg _
theorem shrI_pos (z : Int) (k : Nat) : 0 ≤ shrI z k := Int.natCast_nonneg _
theorem sg0I (f : Nat) : ((Int.toNat ((Int.toNat (rotI (f : Int) 7) ^^^ Int.toNat (rotI (f : Int) 18) : Nat) : Int) ^^^ Int.toNat (shrI (f : Int) 3) : Nat) : Int) = ((sg0 f : Nat) : Int) := by
  rw [rotI_nat, rotI_nat, shrI_nat, Int.toNat_natCast, Int.toNat_natCast, Int.toNat_natCast, Int.toNat_natCast]
  unfold sg0
  rw [show 2 ^ 3 = 8 from rfl]
theorem sg1I (f : Nat) : ((Int.toNat ((Int.toNat (rotI (f : Int) 17) ^^^ Int.toNat (rotI (f : Int) 19) : Nat) : Int) ^^^ Int.toNat (shrI (f : Int) 10) : Nat) : Int) = ((sg1 f : Nat) : Int) := by
  rw [rotI_nat, rotI_nat, shrI_nat, Int.toNat_natCast, Int.toNat_natCast, Int.toNat_natCast, Int.toNat_natCast]
  unfold sg1
  rw [show 2 ^ 10 = 1024 from rfl]
theorem roundD1 {L : List UInt8} (hL : L.length ≤ 60000) {j : Nat} (hj : j < cN L) (t : Nat) (h1 : t < 16) : fD1 L j t := by
  have hz := zeros_lt L.length
  have hP : lenP L = L.length + 1 + zeros L.length := rfl
  have hpad := padL L
  have hN : 64 * j + 64 ≤ (pad L).length := by unfold cN at hj; omega
  have hw := ws_length hj
  have htk : ((ws L j).take t).length = t := by rw [List.length_take]; omega
  have hb := blk_length hj
  unfold fD1
  have i0 : 0 + Int.toNat ((↑(64 * j) : Int) + 4 * (↑t : Int)) * 1 = 64 * j + (4 * t) := by omega
  have i1 : 0 + Int.toNat ((↑(64 * j) : Int) + 4 * (↑t : Int) + 1) * 1 = 64 * j + (4 * t + 1) := by omega
  have i2 : 0 + Int.toNat ((↑(64 * j) : Int) + 4 * (↑t : Int) + 2) * 1 = 64 * j + (4 * t + 2) := by omega
  have i3 : 0 + Int.toNat ((↑(64 * j) : Int) + 4 * (↑t : Int) + 3) * 1 = 64 * j + (4 * t + 3) := by omega
  rw [i0, i1, i2, i3]
  refine ⟨by rw [in_i64]; omega, by rw [in_i64]; omega, ⟨by omega, by omega⟩, by omega, by rw [in_i64]; omega, ⟨by omega, by omega⟩, by omega, by rw [in_i64]; omega, ⟨by omega, by omega⟩, by omega, by rw [in_i64]; omega, ⟨by omega, by omega⟩, by omega, ⟨Nat.le_refl 1, by rw [htk]; exact Nat.le_of_eq (Nat.zero_add _), by omega, fun e => by cases e⟩, by rw [in_i64]; omega, t + 1, ⟨by omega, show t + 1 ≤ 64 by omega⟩, trivial, ⟨rfl, ⟨rfl, rfl, rfl⟩, rfl, ⟨rfl, rfl, rfl⟩, rfl, ⟨rfl, rfl, rfl⟩, by omega, trivial⟩, zs_ok 32, rfl, sm_ok _, ?_, trivial⟩
  rw [ws_take (sched_take_lo (blk L j) hb t (by omega)), List.drop_zero, List.take_take, Nat.min_self]
  rw [blk_getD (by omega), blk_getD (by omega), blk_getD (by omega), blk_getD (by omega)]
  refine congrArg (fun z : Int => List.take t (ws L j) ++ [z]) ?_
  unfold word4
  generalize (pad L).getD (64 * j + 4 * t) 0 = b0
  generalize (pad L).getD (64 * j + (4 * t + 1)) 0 = b1
  generalize (pad L).getD (64 * j + (4 * t + 2)) 0 = b2
  generalize (pad L).getD (64 * j + (4 * t + 3)) 0 = b3
  have e0 := b0.toNat_lt
  have e1 := b1.toNat_lt
  have e2 := b2.toNat_lt
  have e3 := b3.toNat_lt
  omega

theorem roundD2 {L : List UInt8} (hL : L.length ≤ 60000) {j : Nat} (hj : j < cN L) (t : Nat) (ht16 : 16 ≤ t) (h : t < 64) : fD2 L j t := by
  have hz := zeros_lt L.length
  have hP : lenP L = L.length + 1 + zeros L.length := rfl
  have hpad := padL L
  have hN : 64 * j + 64 ≤ (pad L).length := by unfold cN at hj; omega
  have hw := ws_length hj
  have htk : ((ws L j).take t).length = t := by rw [List.length_take]; omega
  have hb := blk_length hj
  unfold fD2
  have g15 : ((ws L j).take t).getD (0 + Int.toNat ((t : Int) - 15) * 1) 0 = (((sched (blk L j)).getD (t - 15) 0 : Nat) : Int) := ws_getD (k := 15) (by omega) (by omega) hj (by omega)
  have g2 : ((ws L j).take t).getD (0 + Int.toNat ((t : Int) - 2) * 1) 0 = (((sched (blk L j)).getD (t - 2) 0 : Nat) : Int) := ws_getD (k := 2) (by omega) (by omega) hj (by omega)
  have g16 : ((ws L j).take t).getD (0 + Int.toNat ((t : Int) - 16) * 1) 0 = (((sched (blk L j)).getD (t - 16) 0 : Nat) : Int) := ws_getD (k := 16) (by omega) (by omega) hj (by omega)
  have g7 : ((ws L j).take t).getD (0 + Int.toNat ((t : Int) - 7) * 1) 0 = (((sched (blk L j)).getD (t - 7) 0 : Nat) : Int) := ws_getD (k := 7) (by omega) (by omega) hj (by omega)
  rw [g15, g2, g16, g7, htk]
  rw [sg0I, sg1I]
  refine ⟨by rw [in_i64]; omega, ⟨by omega, by omega⟩, by omega, by rw [in_i64]; omega, ⟨by omega, by omega⟩, by omega, by rw [in_i64]; omega, ⟨by omega, by omega⟩, by omega, by rw [in_i64]; omega, ⟨by omega, by omega⟩, by omega, ⟨rotI_pos _ _, rotI_pos _ _⟩, ⟨Int.natCast_nonneg _, shrI_pos _ _⟩, ⟨rotI_pos _ _, rotI_pos _ _⟩, ⟨Int.natCast_nonneg _, shrI_pos _ _⟩, ⟨Nat.le_refl 1, Nat.le_of_eq (Nat.zero_add _), by omega, fun e => by cases e⟩, by rw [in_i64]; omega, t + 1, ⟨by omega, show t + 1 ≤ 64 by omega⟩, trivial, ⟨rfl, ⟨rfl, rfl, rfl⟩, rfl, ⟨rfl, rfl, rfl⟩, rfl, ⟨rfl, rfl, rfl⟩, by omega, trivial⟩, zs_ok 32, rfl, sm_ok _, ?_, trivial⟩
  rw [ws_take (sched_take_hi (blk L j) hb t ht16 (by omega)), nextWord_of _ hb t ht16 (by omega), List.drop_zero, List.take_take, Nat.min_self]
  refine congrArg (fun z : Int => List.take t (ws L j) ++ [z]) ?_
  generalize (sched (blk L j)).getD (t - 16) 0 = f16
  generalize (sched (blk L j)).getD (t - 7) 0 = f7
  generalize sg0 ((sched (blk L j)).getD (t - 15) 0) = x
  generalize sg1 ((sched (blk L j)).getD (t - 2) 0) = y
  omega

theorem roundD {L : List UInt8} (hL : L.length ≤ 60000) {j : Nat} (hj : j < cN L) (t : Nat) (ht : t ≤ 64) : execW Tryd.prog (ro L) wordHooks 100 (roundOf Tryd.prog SHA 10) nS ⟨none, []⟩ (dI L j t).T (dI L j t).S (dK L j t) := by
  rw [fD_eq]
  refine ⟨fun h => ⟨fun h1 => ?_, fun h1 => ?_⟩, fun h => ?_⟩
  · have h1 := of_decide_eq_true h1
    exact roundD1 hL hj t (by omega)
  · have h := of_decide_eq_true h
    have h1 := of_decide_eq_false h1
    exact roundD2 hL hj t (by omega) (by omega)
  · have h := of_decide_eq_false h
    obtain rfl : t = 64 := by omega
    have hw := ws_length hj
    exact ⟨(), trivial, trivial, ⟨rfl, ⟨rfl, rfl, rfl⟩, rfl, ⟨rfl, rfl, rfl⟩, rfl, ⟨rfl, rfl, rfl⟩, trivial⟩, zs_ok 32, rfl, sm_ok _, (List.take_of_length_le (by omega)).symm, trivial⟩
end Go.Proofs.YtnhomnaamlbnpaaDoor.Rs
namespace Go.Proofs.YtnhomnaamlbnpaaDoor.Rs
open Go Go.RowKit Go.Proofs.YtnhomnaamlbnpaaDoor.Abs Go.Proofs.YtnhomnaamlbnpaaDoor.Sha
set_option linter.unusedVariables false
def rs (L : List UInt8) (j t : Nat) : H8 := rounds (sched (blk L j)) t (hs L j)
def eT (L : List UInt8) (j : Nat) : List (Nat × AVal) := cT L j ++ [(12, .sslice (7000, 0) 64 64 false 1), (17, .ptr (some (8000, 0)))]
def eH (L : List UInt8) (j t : Nat) : List (Nat × AObj) := cH L j ++ [(7000, .sints .u32 (ws L j) 37), (8000, .cells (words8 (rs L j t)) 108)]
def eI (L : List UInt8) (j t : Nat) : LS := ⟨eT L j ++ [(19, .sint .i64 (t : Int))], eH L j t, 8001⟩
def eJ (L : List UInt8) (j z : Nat) : LS := ⟨eT L j, eH L j z, 8001⟩
noncomputable def eA (L : List UInt8) (j n : Nat) (fr : Fr) (τ : PT AVal) (st : St) (K : Res → Prop) : Prop := j < cN L ∧ loopA 8000 (fun t => t ≤ 64) (eI L j) (fun z => z = 64) (eJ L j) nS [(8000, 7001)] n fr τ st K
noncomputable def eK (L : List UInt8) (j t : Nat) := roundK 8000 (fun t => t ≤ 64) (eI L j) (fun t => 64 - t) [(8000, 8000)] (fun z => z = 64) (eJ L j) [(8000, 8000)] 14 t
noncomputable def cA (L : List UInt8) := loopA 6000 (fun j => j ≤ cN L) (cI L) (fun _ => True) (cJ L) nS [(6000, 5101)]
noncomputable def cK (L : List UInt8) (j : Nat) := roundK 6000 (fun j => j ≤ cN L) (cI L) (fun j => cN L - j) [(6000, 6000)] (fun _ => True) (cJ L) [(6000, 6000)] 8 j
def fE1 (L : List UInt8) (j t : Nat) : Prop :=
    (0 ≤ rotI (↑(rs L j t).5 : Int) 6 ∧ 0 ≤ rotI (↑(rs L j t).5 : Int) 11) ∧ (0 ≤ (↑(Int.toNat (rotI (↑(rs L j t).5 : Int) 6) ^^^ Int.toNat (rotI (↑(rs L j t).5 : Int) 11)) : Int) ∧ 0 ≤ rotI (↑(rs L j t).5 : Int) 25) ∧ (0 ≤ (↑(rs L j t).5 : Int) ∧ 0 ≤ (↑(rs L j t).6 : Int)) ∧ (0 ≤ (4294967295 - (↑(rs L j t).5 : Int)) % 4294967296 ∧ 0 ≤ (↑(rs L j t).7 : Int)) ∧ (0 ≤ (↑(Int.toNat (↑(rs L j t).5 : Int) &&& Int.toNat (↑(rs L j t).6 : Int)) : Int) ∧ 0 ≤ (↑(Int.toNat ((4294967295 - (↑(rs L j t).5 : Int)) % 4294967296) &&& Int.toNat (↑(rs L j t).7 : Int)) : Int)) ∧ (0 ≤ (↑t : Int) ∧ (↑t : Int) < 64) ∧ 0 + Int.toNat (↑t : Int) * 1 < 64 ∧ (0 ≤ (↑t : Int) ∧ (↑t : Int) < 64) ∧ 0 + Int.toNat (↑t : Int) * 1 < List.length (ws L j) ∧ (0 ≤ rotI (↑(rs L j t).1 : Int) 2 ∧ 0 ≤ rotI (↑(rs L j t).1 : Int) 13) ∧ (0 ≤ (↑(Int.toNat (rotI (↑(rs L j t).1 : Int) 2) ^^^ Int.toNat (rotI (↑(rs L j t).1 : Int) 13)) : Int) ∧ 0 ≤ rotI (↑(rs L j t).1 : Int) 22) ∧ (0 ≤ (↑(rs L j t).1 : Int) ∧ 0 ≤ (↑(rs L j t).2 : Int)) ∧ (0 ≤ (↑(rs L j t).1 : Int) ∧ 0 ≤ (↑(rs L j t).3 : Int)) ∧ (0 ≤ (↑(Int.toNat (↑(rs L j t).1 : Int) &&& Int.toNat (↑(rs L j t).2 : Int)) : Int) ∧ 0 ≤ (↑(Int.toNat (↑(rs L j t).1 : Int) &&& Int.toNat (↑(rs L j t).3 : Int)) : Int)) ∧ (0 ≤ (↑(rs L j t).2 : Int) ∧ 0 ≤ (↑(rs L j t).3 : Int)) ∧ (0 ≤ (↑(Int.toNat (↑(Int.toNat (↑(rs L j t).1 : Int) &&& Int.toNat (↑(rs L j t).2 : Int)) : Int) ^^^ Int.toNat (↑(Int.toNat (↑(rs L j t).1 : Int) &&& Int.toNat (↑(rs L j t).3 : Int)) : Int)) : Int) ∧ 0 ≤ (↑(Int.toNat (↑(rs L j t).2 : Int) &&& Int.toNat (↑(rs L j t).3 : Int)) : Int)) ∧ inR IntKind.i64 ((↑t : Int) + 1) ∧
    ∃ y, (64 - y < 64 - t ∧ Nat.le y 64) ∧ True ∧ (0 = 0 ∧ (0 = 0 ∧ lenP L + 8 = lenP L + 8 ∧ lenP L + 8 = lenP L + 8) ∧ 0 = 0 ∧ (0 = 0 ∧ 64 = 64 ∧ 64 = 64) ∧ (↑(64 * j) : Int) = (↑(64 * j) : Int) ∧ (0 = 0 ∧ 64 = 64 ∧ 64 = 64) ∧ 0 = 0 ∧ (↑y : Int) = (↑t : Int) + 1 ∧ True) ∧ zs 32 ∧ Sha.pad L = Sha.pad L ∧ sm (hs L j) ∧ ws L j = ws L j ∧ ((↑(rs L j y).1 : Int) = ((((((↑(rs L j t).8 : Int) + (↑(Int.toNat (↑(Int.toNat (rotI (↑(rs L j t).5 : Int) 6) ^^^ Int.toNat (rotI (↑(rs L j t).5 : Int) 11)) : Int) ^^^ Int.toNat (rotI (↑(rs L j t).5 : Int) 25)) : Int)) % 4294967296 + (↑(Int.toNat (↑(Int.toNat (↑(rs L j t).5 : Int) &&& Int.toNat (↑(rs L j t).6 : Int)) : Int) ^^^ Int.toNat (↑(Int.toNat ((4294967295 - (↑(rs L j t).5 : Int)) % 4294967296) &&& Int.toNat (↑(rs L j t).7 : Int)) : Int)) : Int)) % 4294967296 + List.getD (List.map (fun (n : Nat) => (n : Int)) Sha.K) (0 + Int.toNat (↑t : Int) * 1) 0) % 4294967296 + List.getD (ws L j) (0 + Int.toNat (↑t : Int) * 1) 0) % 4294967296 + ((↑(Int.toNat (↑(Int.toNat (rotI (↑(rs L j t).1 : Int) 2) ^^^ Int.toNat (rotI (↑(rs L j t).1 : Int) 13)) : Int) ^^^ Int.toNat (rotI (↑(rs L j t).1 : Int) 22)) : Int) + (↑(Int.toNat (↑(Int.toNat (↑(Int.toNat (↑(rs L j t).1 : Int) &&& Int.toNat (↑(rs L j t).2 : Int)) : Int) ^^^ Int.toNat (↑(Int.toNat (↑(rs L j t).1 : Int) &&& Int.toNat (↑(rs L j t).3 : Int)) : Int)) : Int) ^^^ Int.toNat (↑(Int.toNat (↑(rs L j t).2 : Int) &&& Int.toNat (↑(rs L j t).3 : Int)) : Int)) : Int)) % 4294967296) % 4294967296 ∧ (↑(rs L j y).2 : Int) = (↑(rs L j t).1 : Int) ∧ (↑(rs L j y).3 : Int) = (↑(rs L j t).2 : Int) ∧ (↑(rs L j y).4 : Int) = (↑(rs L j t).3 : Int) ∧ (↑(rs L j y).5 : Int) = ((↑(rs L j t).4 : Int) + (((((↑(rs L j t).8 : Int) + (↑(Int.toNat (↑(Int.toNat (rotI (↑(rs L j t).5 : Int) 6) ^^^ Int.toNat (rotI (↑(rs L j t).5 : Int) 11)) : Int) ^^^ Int.toNat (rotI (↑(rs L j t).5 : Int) 25)) : Int)) % 4294967296 + (↑(Int.toNat (↑(Int.toNat (↑(rs L j t).5 : Int) &&& Int.toNat (↑(rs L j t).6 : Int)) : Int) ^^^ Int.toNat (↑(Int.toNat ((4294967295 - (↑(rs L j t).5 : Int)) % 4294967296) &&& Int.toNat (↑(rs L j t).7 : Int)) : Int)) : Int)) % 4294967296 + List.getD (List.map (fun (n : Nat) => (n : Int)) Sha.K) (0 + Int.toNat (↑t : Int) * 1) 0) % 4294967296 + List.getD (ws L j) (0 + Int.toNat (↑t : Int) * 1) 0) % 4294967296) % 4294967296 ∧ (↑(rs L j y).6 : Int) = (↑(rs L j t).5 : Int) ∧ (↑(rs L j y).7 : Int) = (↑(rs L j t).6 : Int) ∧ (↑(rs L j y).8 : Int) = (↑(rs L j t).7 : Int) ∧ True) ∧ True
def fE2 (L : List UInt8) (j t : Nat) : Prop :=
    ∃ z : Nat, z = 64 ∧ True ∧ (0 = 0 ∧ (0 = 0 ∧ lenP L + 8 = lenP L + 8 ∧ lenP L + 8 = lenP L + 8) ∧ 0 = 0 ∧ (0 = 0 ∧ 64 = 64 ∧ 64 = 64) ∧ (↑(64 * j) : Int) = (↑(64 * j) : Int) ∧ (0 = 0 ∧ 64 = 64 ∧ 64 = 64) ∧ 0 = 0 ∧ True) ∧ zs 32 ∧ Sha.pad L = Sha.pad L ∧ sm (hs L j) ∧ ws L j = ws L j ∧ ((↑(rs L j z).1 : Int) = (↑(rs L j t).1 : Int) ∧ (↑(rs L j z).2 : Int) = (↑(rs L j t).2 : Int) ∧ (↑(rs L j z).3 : Int) = (↑(rs L j t).3 : Int) ∧ (↑(rs L j z).4 : Int) = (↑(rs L j t).4 : Int) ∧ (↑(rs L j z).5 : Int) = (↑(rs L j t).5 : Int) ∧ (↑(rs L j z).6 : Int) = (↑(rs L j t).6 : Int) ∧ (↑(rs L j z).7 : Int) = (↑(rs L j t).7 : Int) ∧ (↑(rs L j z).8 : Int) = (↑(rs L j t).8 : Int) ∧ True) ∧ True
def fE (L : List UInt8) (j t : Nat) : Prop := (decide ((↑t : Int) < 64) = true → fE1 L j t) ∧ (decide ((↑t : Int) < 64) = false → fE2 L j t)
theorem fE_eq (L : List UInt8) (j t : Nat) : execW Tryd.prog (ro L) wordHooks 100 (roundOf Tryd.prog SHA 14) nS ⟨none, []⟩ (eI L j t).T (eI L j t).S (eK L j t) = fE L j t := by kernel_rfl
theorem big1I (e : Nat) : ((Int.toNat ((Int.toNat (rotI (e : Int) 6) ^^^ Int.toNat (rotI (e : Int) 11) : Nat) : Int) ^^^ Int.toNat (rotI (e : Int) 25) : Nat) : Int) = ((big1 e : Nat) : Int) := by
  rw [rotI_nat, rotI_nat, rotI_nat, Int.toNat_natCast, Int.toNat_natCast, Int.toNat_natCast, Int.toNat_natCast]; rfl
theorem big0I (e : Nat) : ((Int.toNat ((Int.toNat (rotI (e : Int) 2) ^^^ Int.toNat (rotI (e : Int) 13) : Nat) : Int) ^^^ Int.toNat (rotI (e : Int) 22) : Nat) : Int) = ((big0 e : Nat) : Int) := by
  rw [rotI_nat, rotI_nat, rotI_nat, Int.toNat_natCast, Int.toNat_natCast, Int.toNat_natCast, Int.toNat_natCast]; rfl
theorem chooseI (e f g : Nat) (he : e < 4294967296) : ((Int.toNat ((Int.toNat (e : Int) &&& Int.toNat (f : Int) : Nat) : Int) ^^^ Int.toNat ((Int.toNat ((4294967295 - (e : Int)) % 4294967296) &&& Int.toNat (g : Int) : Nat) : Int) : Nat) : Int) = ((Sha.choose e f g : Nat) : Int) := by
  rw [show ((4294967295 - (e : Int)) % 4294967296) = ((4294967295 - e : Nat) : Int) by omega]
  rw [Int.toNat_natCast, Int.toNat_natCast, Int.toNat_natCast, Int.toNat_natCast, Int.toNat_natCast, Int.toNat_natCast]; rfl
theorem majorI (a b c : Nat) : ((Int.toNat ((Int.toNat ((Int.toNat (a : Int) &&& Int.toNat (b : Int) : Nat) : Int) ^^^ Int.toNat ((Int.toNat (a : Int) &&& Int.toNat (c : Int) : Nat) : Int) : Nat) : Int) ^^^ Int.toNat ((Int.toNat (b : Int) &&& Int.toNat (c : Int) : Nat) : Int) : Nat) : Int) = ((major a b c : Nat) : Int) := by
  repeat rw [Int.toNat_natCast]
  rfl
theorem mapI (l : List Nat) (t : Nat) : (l.map fun (n : Nat) => (n : Int)).getD (0 + Int.toNat (t : Int) * 1) 0 = ((l.getD t 0 : Nat) : Int) := by
  rw [show 0 + Int.toNat (t : Int) * 1 = t by omega, List.getD_eq_getElem?_getD, List.getElem?_map, List.getD_eq_getElem?_getD]
  cases l[t]? <;> rfl
theorem rs_succ (L : List UInt8) (j t : Nat) : rs L j (t + 1) = round (rs L j t) (K.getD t 0) ((sched (blk L j)).getD t 0) := rfl
theorem rs_ok (L : List UInt8) (j t : Nat) : (rs L j t).Ok := rounds_ok _ (blocks_ok _ _ init_ok) t
theorem roundE1 {L : List UInt8} {j : Nat} (hj : j < cN L) (t : Nat) (h : t < 64) : fE1 L j t := by
  have hw := ws_length hj
  unfold fE1
  have hO := rs_ok L j t
  have hs := rs_succ L j t
  refine ⟨⟨rotI_pos _ _, rotI_pos _ _⟩, ⟨Int.natCast_nonneg _, rotI_pos _ _⟩, ⟨Int.natCast_nonneg _, Int.natCast_nonneg _⟩, ⟨Int.emod_nonneg _ (by decide), Int.natCast_nonneg _⟩, ⟨Int.natCast_nonneg _, Int.natCast_nonneg _⟩, ⟨by omega, by omega⟩, by omega, ⟨by omega, by omega⟩, by omega, ⟨rotI_pos _ _, rotI_pos _ _⟩, ⟨Int.natCast_nonneg _, rotI_pos _ _⟩, ⟨Int.natCast_nonneg _, Int.natCast_nonneg _⟩, ⟨Int.natCast_nonneg _, Int.natCast_nonneg _⟩, ⟨Int.natCast_nonneg _, Int.natCast_nonneg _⟩, ⟨Int.natCast_nonneg _, Int.natCast_nonneg _⟩, ⟨Int.natCast_nonneg _, Int.natCast_nonneg _⟩, by rw [in_i64]; omega, t + 1, ⟨by omega, show t + 1 ≤ 64 by omega⟩, trivial, ⟨rfl, ⟨rfl, rfl, rfl⟩, rfl, ⟨rfl, rfl, rfl⟩, rfl, ⟨rfl, rfl, rfl⟩, rfl, by omega, trivial⟩, zs_ok 32, rfl, sm_ok _, rfl, ?_, trivial⟩
  rw [hs]
  unfold ws
  generalize rs L j t = r at *
  obtain ⟨h1, h2, h3, h4, h5, h6, h7, h8⟩ := hO
  rw [big1I, big0I, chooseI _ _ _ h5, majorI, mapI, mapI]
  refine ⟨?_, rfl, rfl, rfl, ?_, rfl, rfl, rfl, trivial⟩
  · show (((Sha.one r _ _ + Sha.two r) % 4294967296 : Nat) : Int) = _
    unfold Sha.one Sha.two
    generalize big1 r.5 = x1
    generalize big0 r.1 = x2
    generalize Sha.choose r.5 r.6 r.7 = x3
    generalize major r.1 r.2 r.3 = x4
    omega
  · show (((r.d + Sha.one r _ _) % 4294967296 : Nat) : Int) = _
    unfold Sha.one
    generalize big1 r.5 = x1
    generalize Sha.choose r.5 r.6 r.7 = x3
    omega
theorem roundE {L : List UInt8} {j : Nat} (hj : j < cN L) (t : Nat) (ht : t ≤ 64) : execW Tryd.prog (ro L) wordHooks 100 (roundOf Tryd.prog SHA 14) nS ⟨none, []⟩ (eI L j t).T (eI L j t).S (eK L j t) := by
  rw [fE_eq]
  refine ⟨fun h => ?_, fun h => ?_⟩
  · have h := of_decide_eq_true h
    exact roundE1 hj t (by omega)
  · have h := of_decide_eq_false h
    have h64 : t = 64 := by omega
    exact ⟨t, h64, trivial, ⟨rfl, ⟨rfl, rfl, rfl⟩, rfl, ⟨rfl, rfl, rfl⟩, rfl, ⟨rfl, rfl, rfl⟩, rfl, trivial⟩, zs_ok 32, rfl, sm_ok _, rfl, ⟨rfl, rfl, rfl, rfl, rfl, rfl, rfl, rfl, trivial⟩, trivial⟩
end Go.Proofs.YtnhomnaamlbnpaaDoor.Rs
namespace Go.Proofs.YtnhomnaamlbnpaaDoor.Rs
open Go Go.RowKit Go.Proofs.YtnhomnaamlbnpaaDoor.Abs Go.Proofs.YtnhomnaamlbnpaaDoor.Sha
set_option linter.unusedVariables false
def fC (L : List UInt8) (j : Nat) : Prop :=
    lenP L + 8 ≤ 9223372036854775807 ∧
    (decide ((↑(64 * j) : Int) < (↑(lenP L + 8) : Int)) = true →
    j < cN L ∧ ∃ x0, Nat.le x0 64 ∧ (True ∧ (0 = 0 ∧ (0 = 0 ∧ lenP L + 8 = lenP L + 8 ∧ lenP L + 8 = lenP L + 8) ∧ 0 = 0 ∧ (0 = 0 ∧ 64 = 64 ∧ 64 = 64) ∧ (↑(64 * j) : Int) = (↑(64 * j) : Int) ∧ (x0 = 0 ∧ x0 = 0) ∧ ((↑x0 : Int) = 0 ∧ inR IntKind.i64 (↑x0 : Int)) ∧ True) ∧ zs 32 ∧ Sha.pad L = Sha.pad L ∧ sm (hs L j) ∧ List.take x0 (ws L j) = [] ∧ True) ∧ ∀ (z : Unit), True →
    j < cN L ∧ ∃ x0, Nat.le x0 64 ∧ (True ∧ (0 = 0 ∧ (0 = 0 ∧ lenP L + 8 = lenP L + 8 ∧ lenP L + 8 = lenP L + 8) ∧ 0 = 0 ∧ (0 = 0 ∧ 64 = 64 ∧ 64 = 64) ∧ (↑(64 * j) : Int) = (↑(64 * j) : Int) ∧ (0 = 0 ∧ 64 = 64 ∧ 64 = 64) ∧ 0 = 0 ∧ ((↑x0 : Int) = 0 ∧ inR IntKind.i64 (↑x0 : Int)) ∧ True) ∧ zs 32 ∧ Sha.pad L = Sha.pad L ∧ sm (hs L j) ∧ ws L j = ws L j ∧ ((↑(rs L j x0).1 : Int) = (↑(hs L j).1 : Int) ∧ (↑(rs L j x0).2 : Int) = (↑(hs L j).2 : Int) ∧ (↑(rs L j x0).3 : Int) = (↑(hs L j).3 : Int) ∧ (↑(rs L j x0).4 : Int) = (↑(hs L j).4 : Int) ∧ (↑(rs L j x0).5 : Int) = (↑(hs L j).5 : Int) ∧ (↑(rs L j x0).6 : Int) = (↑(hs L j).6 : Int) ∧ (↑(rs L j x0).7 : Int) = (↑(hs L j).7 : Int) ∧ (↑(rs L j x0).8 : Int) = (↑(hs L j).8 : Int) ∧ True) ∧ True) ∧ ∀ (z : Nat), z = 64 →
    inR IntKind.i64 ((↑(64 * j) : Int) + 64) ∧
    ∃ y, (cN L - y < cN L - j ∧ Nat.le y (cN L)) ∧ True ∧ (0 = 0 ∧ (0 = 0 ∧ lenP L + 8 = lenP L + 8 ∧ lenP L + 8 = lenP L + 8) ∧ 0 = 0 ∧ (0 = 0 ∧ 64 = 64 ∧ 64 = 64) ∧ (↑(64 * y) : Int) = (↑(64 * j) : Int) + 64 ∧ True) ∧ zs 32 ∧ Sha.pad L = Sha.pad L ∧ ((↑(hs L y).1 : Int) = ((↑(hs L j).1 : Int) + (↑(rs L j z).1 : Int)) % 4294967296 ∧ (↑(hs L y).2 : Int) = ((↑(hs L j).2 : Int) + (↑(rs L j z).2 : Int)) % 4294967296 ∧ (↑(hs L y).3 : Int) = ((↑(hs L j).3 : Int) + (↑(rs L j z).3 : Int)) % 4294967296 ∧ (↑(hs L y).4 : Int) = ((↑(hs L j).4 : Int) + (↑(rs L j z).4 : Int)) % 4294967296 ∧ (↑(hs L y).5 : Int) = ((↑(hs L j).5 : Int) + (↑(rs L j z).5 : Int)) % 4294967296 ∧ (↑(hs L y).6 : Int) = ((↑(hs L j).6 : Int) + (↑(rs L j z).6 : Int)) % 4294967296 ∧ (↑(hs L y).7 : Int) = ((↑(hs L j).7 : Int) + (↑(rs L j z).7 : Int)) % 4294967296 ∧ (↑(hs L y).8 : Int) = ((↑(hs L j).8 : Int) + (↑(rs L j z).8 : Int)) % 4294967296 ∧ True) ∧ True) ∧
    (decide ((↑(64 * j) : Int) < (↑(lenP L + 8) : Int)) = false →
    ∃ z : Unit, True ∧ True ∧ (0 = 0 ∧ 0 = 0 ∧ True) ∧ zs 32 ∧ ((↑(hs L (cN L)).1 : Int) = (↑(hs L j).1 : Int) ∧ (↑(hs L (cN L)).2 : Int) = (↑(hs L j).2 : Int) ∧ (↑(hs L (cN L)).3 : Int) = (↑(hs L j).3 : Int) ∧ (↑(hs L (cN L)).4 : Int) = (↑(hs L j).4 : Int) ∧ (↑(hs L (cN L)).5 : Int) = (↑(hs L j).5 : Int) ∧ (↑(hs L (cN L)).6 : Int) = (↑(hs L j).6 : Int) ∧ (↑(hs L (cN L)).7 : Int) = (↑(hs L j).7 : Int) ∧ (↑(hs L (cN L)).8 : Int) = (↑(hs L j).8 : Int) ∧ True) ∧ True)
theorem fC_eq (L : List UInt8) (j : Nat) : wpT Tryd.prog (ro L) wordHooks (annL [(10, dA L j), (14, eA L j)]) 100 (roundOf Tryd.prog SHA 8) nS ⟨none, []⟩ (cI L j).T (cI L j).S (cK L j) = fC L j := by kernel_rfl
theorem hs_succ (L : List UInt8) (j : Nat) : hs L (j + 1) = (hs L j).add (rs L j 64) := by
  unfold hs rs
  rw [blocks_snoc]
  rfl
theorem fC_ok {L : List UInt8} (hL : L.length ≤ 60000) (j : Nat) (hj : j ≤ cN L) : fC L j := by
  have hz := zeros_lt L.length
  have hP : lenP L = L.length + 1 + zeros L.length := rfl
  have hpad := padL L
  have hm := pad_length L
  have hc : cN L = (pad L).length / 64 := rfl
  unfold fC
  refine ⟨by omega, fun h => ?_, fun h => ?_⟩
  · have h := of_decide_eq_true h
    have hlt : j < cN L := by omega
    refine ⟨hlt, 0, Nat.zero_le _, ⟨trivial, ⟨rfl, ⟨rfl, rfl, rfl⟩, rfl, ⟨rfl, rfl, rfl⟩, rfl, ⟨rfl, rfl⟩, ⟨rfl, by rw [in_i64]; omega⟩, trivial⟩, zs_ok 32, rfl, sm_ok _, rfl, trivial⟩, fun _ _ => ⟨hlt, 0, Nat.zero_le _, ⟨trivial, ⟨rfl, ⟨rfl, rfl, rfl⟩, rfl, ⟨rfl, rfl, rfl⟩, rfl, ⟨rfl, rfl, rfl⟩, rfl, ⟨rfl, by rw [in_i64]; omega⟩, trivial⟩, zs_ok 32, rfl, sm_ok _, rfl, ⟨rfl, rfl, rfl, rfl, rfl, rfl, rfl, rfl, trivial⟩, trivial⟩, fun z hz => ?_⟩⟩
    subst hz
    refine ⟨by rw [in_i64]; omega, j + 1, ⟨by omega, show j + 1 ≤ cN L by omega⟩, trivial, ⟨rfl, ⟨rfl, rfl, rfl⟩, rfl, ⟨rfl, rfl, rfl⟩, by omega, trivial⟩, zs_ok 32, rfl, ?_, trivial⟩
    rw [hs_succ]
    generalize hs L j = s
    generalize rs L j 64 = r
    unfold H8.add
    refine ⟨?_, ?_, ?_, ?_, ?_, ?_, ?_, ?_, trivial⟩ <;> simp only [Int.natCast_emod, Int.natCast_add] <;> rfl
  · have h := of_decide_eq_false h
    obtain rfl : j = cN L := by omega
    exact ⟨(), trivial, trivial, ⟨rfl, rfl, trivial⟩, zs_ok 32, ⟨rfl, rfl, rfl, rfl, rfl, rfl, rfl, rfl, trivial⟩, trivial⟩
theorem roundC {w0 : World} {L : List UInt8} (hL : L.length ≤ 60000) (j : Nat) (hj : j ≤ cN L) : Tri Tryd.prog w0 (ro L) (roundOf Tryd.prog SHA 8) nS ⟨none, []⟩ (cI L j).T (cI L j).S (cK L j) := by
  refine wpT_ok (hookP := wordHooks) (ann := annL [(10, dA L j), (14, eA L j)]) (f := 100) follows named wordHooks_ok _ _ _ _ _ _ (annOk_list (ids := [10, 14]) (cs := [(10, .loop (roundOf Tryd.prog SHA 10)), (14, .loop (roundOf Tryd.prog SHA 14))]) rfl (by kernel_rfl) ?_) (by rw [fC_eq]; exact fC_ok hL j hj)
  intro p hp A hA
  simp only [List.mem_cons, List.not_mem_nil, or_false] at hp hA
  rcases hp with rfl | rfl
  · rcases hA with hA | hA
    · cases hA
      intro n fr τ st K h
      exact loopA_ok 7000 _ _ _ _ _ _ _ follows named wordHooks_ok (rolow_of rfl) (roundD hL h.1) n fr τ st K h.2
    · cases hA
  · rcases hA with hA | hA
    · cases hA
    · cases hA
      intro n fr τ st K h
      exact loopA_ok 8000 _ _ _ _ _ _ _ follows named wordHooks_ok (rolow_of rfl) (roundE h.1) n fr τ st K h.2
end Go.Proofs.YtnhomnaamlbnpaaDoor.Rs
namespace Go.Proofs.YtnhomnaamlbnpaaDoor.Rs
open Go Go.RowKit Go.Proofs.YtnhomnaamlbnpaaDoor.Abs Go.Proofs.YtnhomnaamlbnpaaDoor.Sha
set_option linter.unusedVariables false
/-- the digest's bytes -/
def outV (s : H8) : List AVal := [.sint .u8 ((s.1 : Int) / 16777216 % 256), .sint .u8 ((s.1 : Int) / 65536 % 256 % 256), .sint .u8 ((s.1 : Int) / 256 % 256 % 256), .sint .u8 ((s.1 : Int) % 256 % 256), .sint .u8 ((s.2 : Int) / 16777216 % 256), .sint .u8 ((s.2 : Int) / 65536 % 256 % 256), .sint .u8 ((s.2 : Int) / 256 % 256 % 256), .sint .u8 ((s.2 : Int) % 256 % 256), .sint .u8 ((s.3 : Int) / 16777216 % 256), .sint .u8 ((s.3 : Int) / 65536 % 256 % 256), .sint .u8 ((s.3 : Int) / 256 % 256 % 256), .sint .u8 ((s.3 : Int) % 256 % 256), .sint .u8 ((s.4 : Int) / 16777216 % 256), .sint .u8 ((s.4 : Int) / 65536 % 256 % 256), .sint .u8 ((s.4 : Int) / 256 % 256 % 256), .sint .u8 ((s.4 : Int) % 256 % 256), .sint .u8 ((s.5 : Int) / 16777216 % 256), .sint .u8 ((s.5 : Int) / 65536 % 256 % 256), .sint .u8 ((s.5 : Int) / 256 % 256 % 256), .sint .u8 ((s.5 : Int) % 256 % 256), .sint .u8 ((s.6 : Int) / 16777216 % 256), .sint .u8 ((s.6 : Int) / 65536 % 256 % 256), .sint .u8 ((s.6 : Int) / 256 % 256 % 256), .sint .u8 ((s.6 : Int) % 256 % 256), .sint .u8 ((s.7 : Int) / 16777216 % 256), .sint .u8 ((s.7 : Int) / 65536 % 256 % 256), .sint .u8 ((s.7 : Int) / 256 % 256 % 256), .sint .u8 ((s.7 : Int) % 256 % 256), .sint .u8 ((s.8 : Int) / 16777216 % 256), .sint .u8 ((s.8 : Int) / 65536 % 256 % 256), .sint .u8 ((s.8 : Int) / 256 % 256 % 256), .sint .u8 ((s.8 : Int) % 256 % 256)]
def fOb (s : H8) (R : Prop) : Prop :=
    (0 ≤ (↑(s).1 : Int) ∧ (0 : Int) < 16777216) ∧ (0 ≤ (↑(s).1 : Int) ∧ (0 : Int) < 65536) ∧ (0 ≤ (↑(s).1 : Int) / 65536 ∧ (0 : Int) < 256) ∧ (0 ≤ (↑(s).1 : Int) ∧ (0 : Int) < 256) ∧ (0 ≤ (↑(s).1 : Int) / 256 ∧ (0 : Int) < 256) ∧ (0 ≤ (↑(s).1 : Int) ∧ (0 : Int) < 256) ∧ (0 ≤ (↑(s).2 : Int) ∧ (0 : Int) < 16777216) ∧ (0 ≤ (↑(s).2 : Int) ∧ (0 : Int) < 65536) ∧ (0 ≤ (↑(s).2 : Int) / 65536 ∧ (0 : Int) < 256) ∧ (0 ≤ (↑(s).2 : Int) ∧ (0 : Int) < 256) ∧ (0 ≤ (↑(s).2 : Int) / 256 ∧ (0 : Int) < 256) ∧ (0 ≤ (↑(s).2 : Int) ∧ (0 : Int) < 256) ∧ (0 ≤ (↑(s).3 : Int) ∧ (0 : Int) < 16777216) ∧ (0 ≤ (↑(s).3 : Int) ∧ (0 : Int) < 65536) ∧ (0 ≤ (↑(s).3 : Int) / 65536 ∧ (0 : Int) < 256) ∧ (0 ≤ (↑(s).3 : Int) ∧ (0 : Int) < 256) ∧ (0 ≤ (↑(s).3 : Int) / 256 ∧ (0 : Int) < 256) ∧ (0 ≤ (↑(s).3 : Int) ∧ (0 : Int) < 256) ∧ (0 ≤ (↑(s).4 : Int) ∧ (0 : Int) < 16777216) ∧ (0 ≤ (↑(s).4 : Int) ∧ (0 : Int) < 65536) ∧ (0 ≤ (↑(s).4 : Int) / 65536 ∧ (0 : Int) < 256) ∧ (0 ≤ (↑(s).4 : Int) ∧ (0 : Int) < 256) ∧ (0 ≤ (↑(s).4 : Int) / 256 ∧ (0 : Int) < 256) ∧ (0 ≤ (↑(s).4 : Int) ∧ (0 : Int) < 256) ∧ (0 ≤ (↑(s).5 : Int) ∧ (0 : Int) < 16777216) ∧ (0 ≤ (↑(s).5 : Int) ∧ (0 : Int) < 65536) ∧ (0 ≤ (↑(s).5 : Int) / 65536 ∧ (0 : Int) < 256) ∧ (0 ≤ (↑(s).5 : Int) ∧ (0 : Int) < 256) ∧ (0 ≤ (↑(s).5 : Int) / 256 ∧ (0 : Int) < 256) ∧ (0 ≤ (↑(s).5 : Int) ∧ (0 : Int) < 256) ∧ (0 ≤ (↑(s).6 : Int) ∧ (0 : Int) < 16777216) ∧ (0 ≤ (↑(s).6 : Int) ∧ (0 : Int) < 65536) ∧ (0 ≤ (↑(s).6 : Int) / 65536 ∧ (0 : Int) < 256) ∧ (0 ≤ (↑(s).6 : Int) ∧ (0 : Int) < 256) ∧ (0 ≤ (↑(s).6 : Int) / 256 ∧ (0 : Int) < 256) ∧ (0 ≤ (↑(s).6 : Int) ∧ (0 : Int) < 256) ∧ (0 ≤ (↑(s).7 : Int) ∧ (0 : Int) < 16777216) ∧ (0 ≤ (↑(s).7 : Int) ∧ (0 : Int) < 65536) ∧ (0 ≤ (↑(s).7 : Int) / 65536 ∧ (0 : Int) < 256) ∧ (0 ≤ (↑(s).7 : Int) ∧ (0 : Int) < 256) ∧ (0 ≤ (↑(s).7 : Int) / 256 ∧ (0 : Int) < 256) ∧ (0 ≤ (↑(s).7 : Int) ∧ (0 : Int) < 256) ∧ (0 ≤ (↑(s).8 : Int) ∧ (0 : Int) < 16777216) ∧ (0 ≤ (↑(s).8 : Int) ∧ (0 : Int) < 65536) ∧ (0 ≤ (↑(s).8 : Int) / 65536 ∧ (0 : Int) < 256) ∧ (0 ≤ (↑(s).8 : Int) ∧ (0 : Int) < 256) ∧ (0 ≤ (↑(s).8 : Int) / 256 ∧ (0 : Int) < 256) ∧ (0 ≤ (↑(s).8 : Int) ∧ (0 : Int) < 256) ∧ R
def fM (L : List UInt8) (cap : Nat) : Prop :=
    (0 + List.length L ≤ List.length L ∧ (List.length L) ≤ 65536) ∧ (1 ≤ 1 ∧ Nat.le (0 + (List.length L)) (List.length (List.take (List.length L) (List.drop 0 L))) ∧ (List.length L) + 1 ≤ 65536 ∧ (false = true →
    0 + (List.length L) ≤ (List.length (List.take (List.length L) (List.drop 0 L))))) ∧
    ∃ x0, Nat.le x0 (Sha.zeros (List.length L)) ∧ (True ∧ ((0 = 0 ∧ List.length L = List.length L ∧ cap = cap) ∧ 0 = 0 ∧ (0 = 0 ∧ List.length L + 1 + x0 = (List.length L) + 1 ∧ List.length L + 1 + x0 = (List.length L) + 1) ∧ True) ∧ zs 32 ∧ fil L x0 = List.take (List.length L) (List.drop 0 (List.take (List.length L) (List.drop 0 L))) ++ List.take 1 (List.drop 0 [UInt8.ofNat 128]) ∧ True) ∧ ∀ (z : Unit), True →
    List.length L ≤ 9223372036854775807 ∧
    ∃ x0, Nat.le x0 8 ∧ (True ∧ (0 = 0 ∧ (0 = 0 ∧ lenP L + x0 = List.length L + 1 + Sha.zeros (List.length L) ∧ lenP L + x0 = List.length L + 1 + Sha.zeros (List.length L)) ∧ (↑(Rs.bits L) : Int) = (↑(List.length L) : Int) % 18446744073709551616 * 8 % 18446744073709551616 ∧ ((↑(Sha.dv x0) : Int) = 72057594037927936 ∧ inR IntKind.u64 (↑(Sha.dv x0) : Int)) ∧ ((↑x0 : Int) = 0 ∧ inR IntKind.i64 (↑x0 : Int)) ∧ True) ∧ zs 32 ∧ pre L ++ List.take x0 (Sha.beBytes (Rs.bits L) 8) = fil L (Sha.zeros (List.length L)) ∧ True) ∧ ∀ (z : Unit), True →
    ∃ x0, Nat.le x0 (cN L) ∧ (True ∧ (0 = 0 ∧ (0 = 0 ∧ lenP L + 8 = lenP L + 8 ∧ lenP L + 8 = lenP L + 8) ∧ 0 = 0 ∧ (0 = 0 ∧ 64 = 64 ∧ 64 = 64) ∧ ((↑(64 * x0) : Int) = 0 ∧ inR IntKind.i64 (↑(64 * x0) : Int)) ∧ True) ∧ zs 32 ∧ Sha.pad L = Sha.pad L ∧ (((↑(hs L x0).1 : Int) = 1779033703 ∧ inR IntKind.u32 (↑(hs L x0).1 : Int)) ∧ ((↑(hs L x0).2 : Int) = 3144134277 ∧ inR IntKind.u32 (↑(hs L x0).2 : Int)) ∧ ((↑(hs L x0).3 : Int) = 1013904242 ∧ inR IntKind.u32 (↑(hs L x0).3 : Int)) ∧ ((↑(hs L x0).4 : Int) = 2773480762 ∧ inR IntKind.u32 (↑(hs L x0).4 : Int)) ∧ ((↑(hs L x0).5 : Int) = 1359893119 ∧ inR IntKind.u32 (↑(hs L x0).5 : Int)) ∧ ((↑(hs L x0).6 : Int) = 2600822924 ∧ inR IntKind.u32 (↑(hs L x0).6 : Int)) ∧ ((↑(hs L x0).7 : Int) = 528734635 ∧ inR IntKind.u32 (↑(hs L x0).7 : Int)) ∧ ((↑(hs L x0).8 : Int) = 1541459225 ∧ inR IntKind.u32 (↑(hs L x0).8 : Int)) ∧ True) ∧ True) ∧ ∀ (z : Unit), True →
    fOb (hs L (cN L)) (AVal.agg (outV (hs L (cN L))) = AVal.agg (outV (hs L (cN L))))
theorem fOb_ok (s : H8) {R : Prop} (h : R) : fOb s R := by
  unfold fOb
  repeat' first | exact ⟨Int.natCast_nonneg _, by decide⟩ | exact ⟨Int.ediv_nonneg (Int.natCast_nonneg _) (by decide), by decide⟩ | exact h | apply And.intro
theorem fM_ok {L : List UInt8} (hL : L.length ≤ 60000) (cap : Nat) : fM L cap := by
  have hP : lenP L = L.length + 1 + zeros L.length := rfl
  unfold fM
  refine ⟨⟨by omega, by omega⟩, ⟨Nat.le_refl 1, by rw [List.drop_zero, List.take_length]; exact Nat.le_of_eq (Nat.zero_add _), by omega, fun e => by cases e⟩, 0, Nat.zero_le _, ⟨trivial, ⟨⟨rfl, rfl, rfl⟩, rfl, ⟨rfl, rfl, rfl⟩, trivial⟩, zs_ok 32, ?_, trivial⟩, fun _ _ => ⟨by omega, 0, Nat.zero_le _, ⟨trivial, ⟨rfl, ⟨rfl, by omega, by omega⟩, ?_, ⟨by decide, by rw [in_u64]; decide⟩, ⟨rfl, by rw [in_i64]; decide⟩, trivial⟩, zs_ok 32, List.append_nil _, trivial⟩, fun _ _ => ⟨0, Nat.zero_le _, ⟨trivial, ⟨rfl, ⟨rfl, rfl, rfl⟩, rfl, ⟨rfl, rfl, rfl⟩, ⟨rfl, by rw [in_i64]; decide⟩, trivial⟩, zs_ok 32, rfl, ?_, trivial⟩, fun _ _ => fOb_ok _ rfl⟩⟩⟩
  · rw [List.drop_zero, List.drop_zero, List.take_length, List.take_length]
    unfold fil
    rw [List.replicate_zero, List.append_nil]
    rfl
  · unfold bits
    omega
  · have e : hs L 0 = init := rfl
    rw [e]
    unfold init
    refine ⟨⟨rfl, ?_⟩, ⟨rfl, ?_⟩, ⟨rfl, ?_⟩, ⟨rfl, ?_⟩, ⟨rfl, ?_⟩, ⟨rfl, ?_⟩, ⟨rfl, ?_⟩, ⟨rfl, ?_⟩, trivial⟩ <;> (rw [in_u32]; decide)
theorem roLowB (L : List UInt8) {base : Nat} (h : 5000 ≤ base) : ROlow (ro L) base := fun x o hx => Nat.lt_of_lt_of_le (roLow L x o hx) h
set_option maxRecDepth 20000 in
theorem triA {w0 : World} {L : List UInt8} (hL : L.length ≤ 60000) (cap n : Nat) (fr : Fr) (τ : PT AVal) (st : St) (K : Res → Prop) (h : aA L cap n fr τ st K) : Tri Tryd.prog w0 (ro L) (.block 0 (.loop (roundOf Tryd.prog SHA 0))) n fr τ st K :=
  loopA_ok (id := 0) (b := roundOf Tryd.prog SHA 0) (N := nS) (f := 100) 5000 (fun i => i ≤ zeros L.length) (aI L cap) (fun i => zeros L.length - i) [(5000, 5002)] (fun _ => True) (aJ L cap) [(5000, 5000)] follows named wordHooks_ok (roLow L) (fun i hi => by have r := roundA hL cap i hi; unfold aK at r; exact r) n fr τ st K h
theorem ann_ok {w0 : World} {L : List UInt8} (hL : L.length ≤ 60000) (cap : Nat) : AnnOk Tryd.prog (ro L) (annL [(0, aA L cap), (4, bA L), (8, cA L)]) w0 (bodyOf Tryd.prog SHA) := by
  refine annOk_list (ids := [0, 4, 8]) (cs := [(0, .loop (roundOf Tryd.prog SHA 0)), (4, .loop (roundOf Tryd.prog SHA 4)), (8, .loop (roundOf Tryd.prog SHA 8))]) rfl (by kernel_rfl) ?_
  intro p hp A hA n fr τ st K h
  simp only [List.mem_cons, List.not_mem_nil, or_false] at hp hA
  rcases hp with rfl | rfl | rfl
  · rcases hA with hA | hA | hA
    · cases hA
      exact triA hL cap n fr τ st K h
    · cases hA
    · cases hA
  · rcases hA with hA | hA | hA
    · cases hA
    · cases hA
      exact loopA_ok 5100 (fun i => i ≤ 8) (bI L) (fun i => 8 - i) [(5100, 5102)] (fun _ => True) (bJ L) [(5100, 5100)] follows named wordHooks_ok (roLowB L (by omega)) (roundB hL) n fr τ st K h
    · cases hA
  · rcases hA with hA | hA | hA
    · cases hA
    · cases hA
    · cases hA
      exact loopT_ok 6000 (fun j => j ≤ cN L) (cI L) (fun j => cN L - j) [(6000, 6000)] (fun _ => True) (cJ L) [(6000, 6000)] (roLowB L (by omega)) (roundC hL) n fr τ st K h
end Go.Proofs.YtnhomnaamlbnpaaDoor.Rs
namespace Go.Proofs.YtnhomnaamlbnpaaDoor.Rs
open Go Go.RowKit Go.Proofs.YtnhomnaamlbnpaaDoor.Abs Go.Proofs.YtnhomnaamlbnpaaDoor.M Go.Proofs.YtnhomnaamlbnpaaDoor.Sha
set_option linter.unusedVariables false
/-- the reference's two tables lie -/
def FTab (w : World) : Prop := ∃ (R1 o1 R2 o2 : Nat) (a1 a2 : Array Value) (t1 t2 t3 t4 : TypeId) (f1 f2 f3 f4 : Nat × Nat), w.heap[0]? = some (.cells #[.slice (some ⟨R1, o1, none⟩) 8 8] t1 f1) ∧ w.heap[1]? = some (.cells #[.slice (some ⟨R2, o2, none⟩) 64 64] t2 f2) ∧
  w.heap[R1]? = some (.cells a1 t3 f3) ∧ w.heap[R2]? = some (.cells a2 t4 f4) ∧ (a1.toList.drop o1).take 8 = init.list.map cell32 ∧ (a2.toList.drop o2).take 64 = K.map cell32
theorem vrels_words (φ : Phi) : ∀ l : List Nat, VRels φ (l.map fun (n : Nat) => AVal.int .u32 (n : Int)) (l.map cell32)
  | [] => .nil
  | n :: l => .cons _ _ _ _ (.int _ _) (vrels_words φ l)
theorem words_cells {φ : Phi} {l : List Nat} {a : Array Value} {o : Nat} (h0 : 0 < l.length) (h : (a.toList.drop o).take l.length = l.map cell32) {t t' : TypeId} {fz : Nat × Nat} : ORel φ (.cells (l.map fun (n : Nat) => AVal.int .u32 (n : Int)) t) o a.size (thaw (.cells a t' fz)) :=
  .cells _ _ _ _ _ _ _ rfl (by
    have := congrArg List.length h
    rw [List.length_take, List.length_drop, List.length_map] at this
    have hs : a.toList.length = a.size := Array.length_toList
    rw [List.length_map]; omega) (by
    have := vrels_words φ l
    rw [List.length_map, h]
    exact this) (.inl rfl)
theorem words_sints {φ : Phi} {l : List Nat} (hl : ∀ n ∈ l, n < 4294967296) {a : Array Value} {o : Nat} (h0 : 0 < l.length) (h : (a.toList.drop o).take l.length = l.map cell32) {t t' : TypeId} {fz : Nat × Nat} : ORel φ (.sints .u32 (l.map fun (n : Nat) => (n : Int)) t) o a.size (thaw (.cells a t' fz)) :=
  .sints _ _ _ _ _ _ (fun z hz => by
    obtain ⟨n, hn, rfl⟩ := List.mem_map.1 hz
    have := hl n hn
    rw [in_u32]; omega) (by
    rw [List.map_map]
    exact words_cells h0 h)
def laidPhi (g p q : Nat × Nat × Nat) : Phi := phiOf [(900, g), (0, (0, 0, 1)), (1, (1, 0, 1)), (910, p), (911, q)]
theorem one_slice {φ : Phi} {x n R o m : Nat} (hφ : φ x = some (R, o, m)) {t t' : TypeId} {fz : Nat × Nat} : ORel φ (.cells [.slice (some (x, 0)) n n true 1] t) 0 1 (thaw (.cells #[.slice (some ⟨R, o, none⟩) n n] t' fz)) :=
  .cells _ _ _ _ _ _ _ rfl (Nat.le_refl _) (.cons _ _ _ _ (.slice x 0 n n 1 R o m n true ⟨R, o, none⟩ hφ (Nat.le_refl _) (Nat.le_refl _) (fun _ => rfl) (fun e => by cases e) (.inr rfl)) .nil) (.inl rfl)
theorem lt_of_some {w : World} {g : Nat} {u : Obj} (h : w.heap[g]? = some u) : g < w.heap.size := (Array.getElem?_eq_some_iff.1 h).1
theorem ro_laid {w : World} {L : List UInt8} {g : Nat × Nat × Nat} {R1 o1 R2 o2 : Nat} {a1 a2 : Array Value} {t1 t2 t3 t4 : TypeId} {f1 f2 f3 f4 : Nat × Nat} (h1 : w.heap[0]? = some (.cells #[.slice (some ⟨R1, o1, none⟩) 8 8] t1 f1)) (h2 : w.heap[1]? = some (.cells #[.slice (some ⟨R2, o2, none⟩) 64 64] t2 f2))
    (h3 : w.heap[R1]? = some (.cells a1 t3 f3)) (h4 : w.heap[R2]? = some (.cells a2 t4 f4)) (h5 : (a1.toList.drop o1).take 8 = init.list.map cell32) (h6 : (a2.toList.drop o2).take 64 = K.map cell32)
    (hb : (AObj.sbytes L 5).nul = true ∨ ∃ u, g.1 < w.heap.size ∧ w.heap[g.1]? = some u ∧ ORel (laidPhi g (R1, o1, a1.size) (R2, o2, a2.size)) (.sbytes L 5) g.2.1 g.2.2 (thaw u)) : RRel w (laidPhi g (R1, o1, a1.size) (R2, o2, a2.size)) (ro L) := by
  refine rrel_of fun x o hx => ?_
  simp only [List.mem_cons, List.not_mem_nil, or_false, Prod.mk.injEq] at hx
  rcases hx with ⟨rfl, rfl⟩ | ⟨rfl, rfl⟩ | ⟨rfl, rfl⟩ | ⟨rfl, rfl⟩ | ⟨rfl, rfl⟩
  · rcases hb with hb | ⟨u, e1, e2, e3⟩
    · exact .inl ⟨hb, Nat.le_refl _⟩
    · exact .inr ⟨g.1, g.2.1, g.2.2, u, rfl, fun h => absurd h (by omega), e1, e2, e3⟩
  · exact .inr ⟨0, 0, 1, _, rfl, fun _ => ⟨rfl, rfl⟩, lt_of_some h1, h1, one_slice rfl⟩
  · exact .inr ⟨1, 0, 1, _, rfl, fun _ => ⟨rfl, rfl⟩, lt_of_some h2, h2, one_slice rfl⟩
  · exact .inr ⟨R1, o1, a1.size, _, rfl, fun h => absurd h (by omega), lt_of_some h3, h3, words_cells (l := init.list) (by decide) h5⟩
  · exact .inr ⟨R2, o2, a2.size, _, rfl, fun h => absurd h (by omega), lt_of_some h4, h4, words_sints (l := K) K_lt (by decide) h6⟩
end Go.Proofs.YtnhomnaamlbnpaaDoor.Rs
namespace Go.Proofs.YtnhomnaamlbnpaaDoor.Rs
open Go Go.RowKit Go.Proofs.YtnhomnaamlbnpaaDoor.Abs Go.Proofs.YtnhomnaamlbnpaaDoor.M Go.Proofs.YtnhomnaamlbnpaaDoor.Sha
set_option linter.unusedVariables false
theorem vrels_sints {φ : Phi} {k : IntKind} : ∀ {l : List Int} {us : List Value}, VRels φ (l.map fun z => AVal.sint k z) us → us = l.map fun z => Value.int k z
  | [], us, h => by cases h; rfl
  | z :: l, us, h => by
    cases h with
    | cons _ u _ us h1 h2 =>
      cases h1 with
      | sint _ _ _ => rw [vrels_sints h2]; rfl
def quad (z : Int) : List Int := [z / 16777216 % 256, z / 65536 % 256 % 256, z / 256 % 256 % 256, z % 256 % 256]
theorem quad_be (n : Nat) : quad (n : Int) = (beBytes n 4).map fun b => (b.toNat : Int) := by
  show _ = [((byteAt n 3).toNat : Int), ((byteAt n 2).toNat : Int), ((byteAt n 1).toNat : Int), ((byteAt n 0).toNat : Int)]
  rw [byteAt_nat, byteAt_nat, byteAt_nat, byteAt_nat, show 256 ^ 3 = 16777216 from rfl, show 256 ^ 2 = 65536 from rfl, show 256 ^ 1 = 256 from rfl, show 256 ^ 0 = 1 from rfl]
  unfold quad
  rw [show (n : Int) / 16777216 % 256 = ((n / 16777216 % 256 : Nat) : Int) by omega, show (n : Int) / 65536 % 256 % 256 = ((n / 65536 % 256 : Nat) : Int) by omega, show (n : Int) / 256 % 256 % 256 = ((n / 256 % 256 : Nat) : Int) by omega, show (n : Int) % 256 % 256 = ((n / 1 % 256 : Nat) : Int) by omega]
def outZ (s : H8) : List Int := quad s.a ++ (quad s.b ++ (quad s.c ++ (quad s.d ++ (quad s.e ++ (quad s.f ++ (quad s.g ++ quad s.h))))))
theorem outV_eq (s : H8) : outV s = (outZ s).map fun z => AVal.sint .u8 z := rfl
theorem outZ_eq (s : H8) : (outZ s).map (fun z => Value.int .u8 z) = (sumOf s).map cell8 := by
  unfold outZ
  rw [quad_be, quad_be, quad_be, quad_be, quad_be, quad_be, quad_be, quad_be]
  unfold sumOf H8.list
  simp only [List.flatMap_cons, List.flatMap_nil, List.map_append, List.map_map, List.append_nil]
  rfl
theorem laid_high (g p q : Nat × Nat × Nat) : ∀ {w0 : World}, Fresh0 (laidPhi g p q) 1000 w0 := phiOf_high (by kernel_rfl)
set_option maxRecDepth 20000 in
/-- THE REFERENCE'S SHA256. -/
theorem sha_f {w : World} {v : Value} {l : List UInt8} {S : Nat → Prop} (hv : Byts w S v l) (hT : FTab w) (hl : l.length ≤ 60000) : Calls Tryd.prog SHA #[v] w fun e w' => e = .returned (.agg ((sha256 l).map cell8).toArray) ∧ Below w.heap.size w w' := by
  obtain ⟨R1, o1, R2, o2, a1, a2, t1, t2, t3, t4, f1, f2, f3, f4, h1, h2, h3, h4, h5, h6⟩ := hT
  obtain ⟨g, cap, _, hrel, hobj⟩ := lay_bytes hv
  have hro := ro_laid (L := l) (g := g) h1 h2 h3 h4 h5 h6 (hobj _ 5)
  refine (fn_pure (P := Tryd.prog) (w0 := w) (RO := ro l) (hookP := wordHooks) (ann := annL [(0, aA l cap), (4, bA l), (8, cA l)]) (f := 100) follows named wordHooks_ok (g := SHA) (fn := Tryd.f38) (body := bodyOf Tryd.prog SHA) (by kernel_rfl) (by kernel_rfl) (ann_ok hl cap)
    (args := [.sslice (900, 0) l.length cap true 1]) (next := 1000) (K := fun u _ => u = AVal.agg (outV (hs l (cN l)))) ?_ (φ := laidPhi g (R1, o1, a1.size) (R2, o2, a2.size)) (laid_high _ _ _) hro (us := [v]) (.cons _ _ _ _ (hrel _ 900 rfl) .nil)).mono ?_
  · exact Eq.mpr (β := fM l cap) (by kernel_rfl) (fM_ok hl cap)
  · rintro e w' ⟨u, a, st', rfl, rfl, ψ, k1, k2, _⟩
    cases k1 with
    | agg _ c hc =>
      rw [outV_eq] at hc
      have hcl := vrels_sints hc
      rw [outZ_eq] at hcl
      refine ⟨?_, k2.below⟩
      have : c = ((sha256 l).map cell8).toArray := by
        rw [← Array.toArray_toList (xs := c), hcl]
        rfl
      rw [this]
end Go.Proofs.YtnhomnaamlbnpaaDoor.Rs
namespace Go.Proofs.YtnhomnaamlbnpaaDoor.Rs
open Go Go.RowKit Go.Proofs.YtnhomnaamlbnpaaDoor.Abs Go.Proofs.YtnhomnaamlbnpaaDoor.M Go.Proofs.YtnhomnaamlbnpaaDoor.Sha
set_option linter.unusedVariables false
section
variable {w0 w : World} {φ : Phi} {RO : PT AObj} {st : St}
theorem objB_length {o n : Nat} {ob : Option AObj} {op : OP} {l : List UInt8} (h : objB o n ob = some (op, l)) (hop : op.ok) : l.length = n := by
  unfold objB at h
  split at h
  · cases h
    have hop : o + n ≤ _ := hop
    rw [List.length_take, List.length_drop]; omega
  · split at h
    · cases h
      have hop : o + n ≤ _ := hop
      rw [List.length_take, List.length_drop]; omega
    · cases h
  · cases h
theorem byts_obj {o n cap : Nat} {a : Addr} {g b0 nb : Nat} {op : OP} {ob : AObj} {x' : Obj} {l : List UInt8} (hcap : n ≤ cap) (ha : (cap = 0 ∧ a.block = g) ∨ a = ⟨g, b0 + o, none⟩) (ho : objB o n (some ob) = some (op, l)) (hop : op.ok) (e2 : w.heap[g]? = some x') (e3 : ORel φ ob b0 nb (thaw x')) (hm : l.length ≤ maxLen) :
    Byts w (fun k => k < w.heap.size) (.slice (some a) n cap) l := by
  have hlen := objB_length ho hop
  refine ⟨some a, n, cap, rfl, hlen, hcap, by rw [← hlen]; exact hm, fun e => (by cases e), fun ad e hp => ?_⟩
  cases e
  obtain ⟨h1, L, c, t', fz, rfl, h3, h4, h5, h7, h8⟩ := objB_read ho hop e3
  rcases ha with ⟨h0, _⟩ | rfl
  · omega
  · refine ⟨(Array.getElem?_eq_some_iff.1 e2).1, fun j x hj => ?_⟩
    rw [add_lit]
    have h9 := cells_at (j := 0) h5 h7
    rw [← h8] at h9
    have hjn : j < n := by have := (List.getElem?_eq_some_iff.1 hj).1; omega
    have hv : (vals l)[j]? = some (.int .u8 (x.toNat : Int)) := by unfold vals; rw [List.getElem?_map, hj]; rfl
    rw [← h9, List.getElem?_take_of_lt (by omega), List.getElem?_drop] at hv
    unfold World.cell?
    simp only [e2]
    simp only [Option.isSome_none, Bool.false_eq_true, if_false]
    rw [← Array.getElem?_toList]
    exact hv
theorem byts_real {b o n cap : Nat} {a : Addr} {g b0 nb : Nat} {op : OP} {l : List UInt8} (hcap : n ≤ cap) (hφ : φ b = some (g, b0, nb)) (ha : (cap = 0 ∧ a.block = g) ∨ a = ⟨g, b0 + o, none⟩) (ho : objB o n (rd RO st b) = some (op, l)) (hop : op.ok) (hw : WRel w0 φ st.heap st.next w) (hr : RRel w0 φ RO) (hm : l.length ≤ maxLen) :
    Byts w (fun k => k < w.heap.size) (.slice (some a) n cap) l := by
  cases hrd : rd RO st b with
  | none => rw [hrd] at ho; cases ho
  | some ob =>
  rw [hrd] at ho
  rcases rd_some' hrd hw hr with hn | ⟨g', b0', nb', x', e1, e2, e3⟩
  · have hlen := objB_length ho hop
    obtain ⟨rfl, rfl⟩ := objB_nul ho hop hn
    exact ⟨some a, 0, cap, rfl, rfl, hcap, Nat.zero_le _, fun _ => rfl, fun ad e hp => absurd hp (by omega)⟩
  · obtain ⟨rfl, rfl, rfl⟩ : g = g' ∧ b0 = b0' ∧ nb = nb' := by rw [hφ] at e1; simpa using e1
    exact byts_obj hcap ha ho hop e2 e3 hm
/-- a slice of bytes, as the interpreter has it, is bytes -/
theorem srcB_byts {x : AVal} {u : Value} {op : OP} {l : List UInt8} (h : srcB RO st x = some (op, l)) (hop : op.ok) (hs : ∀ m, x ≠ .str m) (hs2 : ∀ m, x ≠ .sstr m) (hx : VRel φ x u) (hw : WRel w0 φ st.heap st.next w) (hr : RRel w0 φ RO) (hm : l.length ≤ maxLen) : Byts w (fun k => k < w.heap.size) u l := by
  unfold srcB at h
  split at h
  · cases h
    cases hx
    exact Byts.nil_ _ _ _
  · rename_i b o n c ex z
    cases hx with
    | slice _ _ _ _ _ g b0 nb cap _ a hφ hl hc he hz ha => exact byts_real (by omega) hφ ha h hop hw hr hm
  · rename_i b o n c ex z
    cases hx with
    | sslice _ _ _ _ _ g b0 nb cap _ a hφ hl hc he hz ha => exact byts_real (by omega) hφ ha h hop hw hr hm
    | snil =>
      have := objB_length h hop
      obtain rfl : l = [] := List.length_eq_zero_iff.1 this
      exact Byts.nil_ _ _ _
    | semp _ A c _ =>
      have := objB_length h hop
      obtain rfl : l = [] := List.length_eq_zero_iff.1 this
      exact ⟨A, 0, c, rfl, rfl, Nat.zero_le _, Nat.zero_le _, fun _ => rfl, fun _ _ h0 => absurd h0 (by omega)⟩
  · exact absurd rfl (hs _)
  · exact absurd rfl (hs2 _)
  · rename_i l'
    cases h
    cases hx with
    | pemp A c => exact ⟨A, 0, c, rfl, rfl, Nat.zero_le _, Nat.zero_le _, fun _ => rfl, fun _ _ h0 => absurd h0 (by omega)⟩
    | pbytes _ L oo g b n c hφ hl hlo hc =>
      obtain ⟨n', x', e1, e2, e3⟩ := hw.pool g b L _ hφ
      have hob : objB oo l.length (some (.sbytes L 0)) = some (some (oo + l.length ≤ L.length), l) := by
        show some (_, _) = _
        rw [← hl]
      exact byts_obj hc (.inr rfl) hob hlo e2 e3 hm
  · cases h
end
/-- a digest, as cells -/
def dig (l : List UInt8) : List AVal := (List.range 32).map fun i => AVal.sint .u8 ((l.getD i 0).toNat : Int)
theorem dig_eq {l : List UInt8} (h : l.length = 32) : dig l = l.map fun b => AVal.sint .u8 (b.toNat : Int) := by
  unfold dig
  apply List.ext_getElem (by simp [h])
  intro i h1 h2
  have hi : i < 32 := by simpa using h1
  rw [List.getElem_map, List.getElem_map, List.getElem_range, List.getD_eq_getElem?_getD, List.getElem?_eq_getElem (by omega)]
  rfl
theorem VRels.sbytes (φ : Phi) : ∀ l : List UInt8, VRels φ (l.map fun b => AVal.sint .u8 (b.toNat : Int)) (l.map cell8)
  | [] => .nil
  | b :: l => .cons _ _ _ _ (.sint _ _ (by have := b.toNat_lt; rw [in_u8]; omega)) (VRels.sbytes φ l)
theorem dig_rel (φ : Phi) {l : List UInt8} (h : l.length = 32) : VRel φ (.agg (dig l)) (.agg (l.map cell8).toArray) := .agg _ _ (by rw [dig_eq h, List.toList_toArray]; exact VRels.sbytes φ l)
theorem FTab.below {w w' : World} (h : FTab w) (hb : Below w.heap.size w w') : FTab w' := by
  obtain ⟨R1, o1, R2, o2, a1, a2, t1, t2, t3, t4, f1, f2, f3, f4, h1, h2, h3, h4, h5, h6⟩ := h
  have up : ∀ {g : Nat} {u : Obj}, w.heap[g]? = some u → w'.heap[g]? = some u := fun {g u} hg => (hb.block g (lt_of_some hg)).trans hg
  exact ⟨R1, o1, R2, o2, a1, a2, t1, t2, t3, t4, f1, f2, f3, f4, up h1, up h2, up h3, up h4, h5, h6⟩
/-- the reference's Sha256, called: bytes in, a digest out -/
noncomputable def shaF (RO : PT AObj) (args : List AVal) (st : St) : Option (OP × AVal × St) :=
  match args with
  | [x] => (match x with
    | .str _ => none
    | .sstr _ => none
    | x => (match srcB RO st x with | some (ob, l) => some (andP ob (l.length ≤ 60000), .agg (dig (sha256 l)), st) | none => none))
  | _ => none
theorem andP_some {ob : OP} {q : Prop} (h : (andP ob q).ok) : ob.ok ∧ q := by
  cases ob with
  | none => exact ⟨trivial, h⟩
  | some p => exact h
theorem shaF_ok {w0 : World} {RO : PT AObj} (hT : FTab w0) : Call1Ok Tryd.prog w0 RO SHA (fun args st => got (shaF RO args st)) := by
  intro args st v st' h
  obtain ⟨ob, h, hob⟩ := got_some h
  unfold shaF at h
  split at h
  · rename_i x
    split at h
    · cases h
    · cases h
    · rename_i hs hs2
      split at h
      · rename_i op l hl
        cases h
        obtain ⟨h1, h2⟩ := andP_some hob
        refine ⟨.refl _, ⟨_, rfl, rfl, by kernel_rfl⟩, fun φ us w hus hw hr => ?_⟩
        cases hus with
        | cons _ u _ us e1 e2 => cases e2 with
          | nil =>
          refine (sha_f (srcB_byts hl h1 hs hs2 e1 hw hr (by unfold maxLen; omega)) (hT.below hw.below) h2).mono fun e w' he => ?_
          obtain ⟨rfl, hb⟩ := he
          exact ⟨_, rfl, quiet_ok hw hb (dig_rel φ (sha_length l))⟩
      · cases h
  · cases h
end Go.Proofs.YtnhomnaamlbnpaaDoor.Rs
