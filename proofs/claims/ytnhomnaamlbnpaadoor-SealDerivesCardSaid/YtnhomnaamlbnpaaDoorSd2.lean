/- seal: SealDerives: the law's run. By an AI agent. -/
import Derived.Test.YtnhomnaamlbnpaaDoorSd
namespace Go.Proofs.YtnhomnaamlbnpaaDoor.Sd
open Go Go.RowKit Go.Proofs.YtnhomnaamlbnpaaDoor.Abs Go.Proofs.YtnhomnaamlbnpaaDoor.M Go.Proofs.YtnhomnaamlbnpaaDoor.Sha Go.Proofs.YtnhomnaamlbnpaaDoor.Rs Go.Proofs.YtnhomnaamlbnpaaDoor.Rm Go.Proofs.YtnhomnaamlbnpaaDoor.Ht Go.Proofs.YtnhomnaamlbnpaaDoor.Sg Go.Proofs.YtnhomnaamlbnpaaDoor.Sr
set_option linter.unusedVariables false
set_option linter.unusedSimpArgs false
set_option maxRecDepth 100000
abbrev SDER : FuncId := 3
abbrev RDER : FuncId := 12
noncomputable def lstsOf (o : Option (OP × List (List UInt8))) : List (List UInt8) := match o with | some (_, l) => l | none => []
noncomputable def derN (RO : PT AObj) (args : List AVal) (st : St) : Option (List UInt8 × (List UInt8 → AVal)) := match args with
  | [k, .sstr lab, ps] => some (hmac (lstOf (srcS RO st k)) (Ld.lay lab (lstsOf (srcParts RO st ps))), fun l => .tuple [.agg (dig l), .int .i64 0])
  | _ => none
abbrev tA (z : Int) (c : Nat) : Prop := ((0 : Nat) = 0 ∧ Int.toNat z - 0 = Int.toNat z - 0 ∧ c - 0 = c - 0)
abbrev tB (n : Nat) : Prop := ((0 : Nat) = 0 ∧ Min.min n 6 = Min.min n 6 ∧ Min.min n 6 = Min.min n 6)
abbrev tC : Prop := (0 : Int) = (0 : Int)
abbrev tD (n c : Nat) : Prop := ((0 : Nat) = 0 ∧ n = n ∧ c = c)
abbrev tE (l : List UInt8) : Prop := ((0 : Nat) = 0 ∧ 2 + (List.length l) = 2 + (List.length l) ∧ 2 + (List.length l) = 2 + (List.length l))
noncomputable def sdHk (RO : PT AObj) : FuncId → Option Hook := hkAdd FEW (fewH RO) (hkAdd RTAG (tagH RO) (sgHooks RO))
noncomputable def sdA (k : Nat) (τ : PT AVal) (st : St) : USpec :=
  { X := Nat, ok := fun i => i ≤ k, m := fun i => k - i, I := fun i => ([(49, .sint .i64 (i : Int))], []), dc := [2, 0], outs := [(.exit 0, { Z := Unit, post := fun _ => True, J := fun _ => ([], []) })] }
noncomputable def rdA (lab : List UInt8) (F : List (List UInt8)) (k : Nat) (τ : PT AVal) (st : St) : USpec :=
  match τ.get 8 with
  | some (.sslice (b, _) _ _ _ _) =>
  { X := Nat × List UInt8, ok := fun x => x.1 ≤ k ∧ x.2 = Ld.lay lab (F.take x.1), m := fun x => k - x.1, I := fun x => ([(10, .sint .i64 (x.1 : Int)), (8, .sslice (st.next, 0) x.2.length x.2.length false 1)], [(st.next, .sbytes x.2 5), (b, .defd)]), dc := [],
    outs := [(.exit 0, { Z := List UInt8, post := fun z => z = Ld.lay lab F, J := fun z => ([(8, .sslice (st.next, 0) z.length z.length false 1)], [(st.next, .sbytes z 5), (b, .defd)]) })] }
  | _ => { X := Empty, ok := fun _ => False, m := fun _ => 0, I := fun _ => ([], []), dc := [], outs := [] }
noncomputable def sdAnn (RO : PT AObj) (lab : List UInt8) (F : List (List UInt8)) (k : Nat) : AnnN :=
  { loop := loopsU [(SDER, 0, sdA k), (RDER, 0, rdA lab F k)], cut := cutsU [], dcut := dcutsU [], ncut := ncutsU [], dig := digsU [(DERIVE, derN RO), (RHMAC, macM RO)] }
noncomputable abbrev roD (S : List UInt8) (L : List (List UInt8)) (n : Nat) (ty : TypeId) : PT AObj := hp [(900, .sbytes S 5), (902, .tab n [.ps L] ty)]
noncomputable def sdW (S lab : List UInt8) (L : List (List UInt8)) (n c1 c3 : Nat) (ty : TypeId) (dc : Dc) : Prop :=
  nestW Tryd.prog (roD S L n ty) (sdHk (roD S L n ty)) (sdAnn (roD S L n ty) (lab.take (min lab.length 40)) (fewL L n) (min n 6)) SDER [.sslice (900, 0) S.length c1 true 1, .sstr lab, .tslice 902 0 n c3 true 1] dc (fun u _ => isTrue u)
def bk (l : List UInt8) : List UInt8 := [UInt8.ofNat (Int.toNat (b8 l 0)), UInt8.ofNat (Int.toNat (b8 l 1)), UInt8.ofNat (Int.toNat (b8 l 2)), UInt8.ofNat (Int.toNat (b8 l 3)), UInt8.ofNat (Int.toNat (b8 l 4)), UInt8.ofNat (Int.toNat (b8 l 5)), UInt8.ofNat (Int.toNat (b8 l 6)), UInt8.ofNat (Int.toNat (b8 l 7)), UInt8.ofNat (Int.toNat (b8 l 8)), UInt8.ofNat (Int.toNat (b8 l 9)), UInt8.ofNat (Int.toNat (b8 l 10)), UInt8.ofNat (Int.toNat (b8 l 11)), UInt8.ofNat (Int.toNat (b8 l 12)), UInt8.ofNat (Int.toNat (b8 l 13)), UInt8.ofNat (Int.toNat (b8 l 14)), UInt8.ofNat (Int.toNat (b8 l 15)), UInt8.ofNat (Int.toNat (b8 l 16)), UInt8.ofNat (Int.toNat (b8 l 17)), UInt8.ofNat (Int.toNat (b8 l 18)), UInt8.ofNat (Int.toNat (b8 l 19)), UInt8.ofNat (Int.toNat (b8 l 20)), UInt8.ofNat (Int.toNat (b8 l 21)), UInt8.ofNat (Int.toNat (b8 l 22)), UInt8.ofNat (Int.toNat (b8 l 23)), UInt8.ofNat (Int.toNat (b8 l 24)), UInt8.ofNat (Int.toNat (b8 l 25)), UInt8.ofNat (Int.toNat (b8 l 26)), UInt8.ofNat (Int.toNat (b8 l 27)), UInt8.ofNat (Int.toNat (b8 l 28)), UInt8.ofNat (Int.toNat (b8 l 29)), UInt8.ofNat (Int.toNat (b8 l 30)), UInt8.ofNat (Int.toNat (b8 l 31))]
--forms
def sdf (S lab : List UInt8) (L : List (List UInt8)) (n c1 c3 : Nat) (ty : TypeId) : Prop :=
    (n = n ∧ List.length L = n ∧ n ≤ 9223372036854775807 ∧ ∀ (p : List UInt8), List.Mem p L →
    List.length p ≤ 9223372036854775807) ∧ ∀ (l' : List (List UInt8)), l' = fewL L n →
    List.length S ≤ 9223372036854775807 ∧ ∀ (z' : Int), z' = Min.min (↑(List.length S) : Int) (80 : Int) →
    (True ∧ (0 : Int) ≤ z' ∧ True ∧ 0 ≤ Int.toNat z' ∧ Int.toNat z' ≤ c1 ∧ c1 ≤ c1) ∧ ∀ (l'_1 : List UInt8), l'_1 = lab →
    ∀ (l'_2 : List UInt8), l'_2 = lab →
    List.length l'_2 ≤ 9223372036854775807 ∧ ∀ (z1 : Int), z1 = Min.min (↑(List.length l'_2) : Int) (40 : Int) →
    ((0 : Int) ≤ z1 ∧ True ∧ 0 ≤ Int.toNat z1 ∧ Int.toNat z1 ≤ List.length l'_1) ∧ ∀ (l'_3 : List UInt8), l'_3 = List.drop 0 (List.take (Int.toNat z1) l'_1) →
    ∀ (l'_4 : List UInt8), l'_4 = l'_3 →
    ∀ (l'_5 : List UInt8), l'_5 = l'_4 →
    ((Min.min n 6 = Min.min n 6 ∧ Min.min n 6 = List.length l' ∧ Min.min n 6 ≤ 8 ∧ ∀ (p : List UInt8), List.Mem p l' →
    List.length p ≤ 60000) ∧ Nat.le (0 + (Int.toNat z' - 0)) (List.length S) ∧ 1 ≤ List.length (List.take (Int.toNat z' - 0) (List.drop 0 S)) ∧ List.length (List.take (Int.toNat z' - 0) (List.drop 0 S)) ≤ 64 ∧ List.length l'_5 ≤ 100) ∧ AVal.tuple [AVal.agg (dig (hmac (List.take (Int.toNat z' - 0) (List.drop 0 S)) (Go.Proofs.YtnhomnaamlbnpaaDoor.Ld.lay l'_5 l'))), AVal.int IntKind.i64 (0 : Int)] = AVal.tuple [AVal.agg (dig (hmac (Go.Proofs.YtnhomnaamlbnpaaDoor.Sr.lstOf (Option.some (Option.some (0 + (Int.toNat z' - 0) ≤ List.length S), List.take (Int.toNat z' - 0) (List.drop 0 S)))) (Go.Proofs.YtnhomnaamlbnpaaDoor.Ld.lay l'_5 (lstsOf (Option.some (Option.some (Min.min n 6 = Min.min n 6 ∧ Min.min n 6 = List.length l' ∧ Min.min n 6 ≤ 8 ∧ ∀ (p : List UInt8), p ∈ l' →
    List.length p ≤ 60000), l')))))), AVal.int IntKind.i64 (0 : Int)] ∧ ∀ (l'_6 : List UInt8), l'_6 = hmac (Go.Proofs.YtnhomnaamlbnpaaDoor.Sr.lstOf (Option.some (Option.some (0 + (Int.toNat z' - 0) ≤ List.length S), List.take (Int.toNat z' - 0) (List.drop 0 S)))) (Go.Proofs.YtnhomnaamlbnpaaDoor.Ld.lay l'_5 (lstsOf (Option.some (Option.some (Min.min n 6 = Min.min n 6 ∧ Min.min n 6 = List.length l' ∧ Min.min n 6 ≤ 8 ∧ ∀ (p : List UInt8), p ∈ l' →
    List.length p ≤ 60000), l')))) →
    ∀ (l'_7 : List UInt8), l'_7 = l'_4 →
    ∀ (l'_8 : List UInt8), l'_8 = l'_7 →
    ∀ (l'_9 : List UInt8), l'_9 = l'_8 →
    List.length l'_9 ≤ 9223372036854775807 ∧ decide ((65535 : Int) < (↑(List.length l'_9) : Int)) = false ∧ ∀ (l'_10 : List UInt8), l'_10 = l'_8 →
    List.length l'_10 ≤ 9223372036854775807 ∧ (IntKind.u64 = IntKind.u64 ∧ (0 : Int) ≤ (↑(List.length l'_10) : Int) % (18446744073709551616 : Int) ∧ (↑(List.length l'_10) : Int) % (18446744073709551616 : Int) < (18446744073709551616 : Int) ∧ (0 : Int) ≤ (2 : Int) ∧ (2 : Int) ≤ (100 : Int)) ∧ ∀ (l'_11 : List UInt8), l'_11 = Go.Proofs.YtnhomnaamlbnpaaDoor.Pc.be 2 (Int.toNat ((↑(List.length l'_10) : Int) % (18446744073709551616 : Int))) →
    ∀ (l'_12 : List UInt8), l'_12 = l'_8 →
    (Nat.le 2 (List.length l'_11) ∧ 2 + (List.length l'_12) ≤ 65536 ∧ (false = true →
    2 ≤ (List.length l'_11))) ∧ ∀ (l'_13 : List UInt8), l'_13 = List.take 2 (List.drop 0 l'_11) ++ l'_12 →
    Int.toNat z' - 0 ≤ 9223372036854775807 ∧ decide ((1 : Int) ≤ (↑(Int.toNat z' - 0) : Int)) = true ∧ Int.toNat z' - 0 ≤ 9223372036854775807 ∧ (!decide ((↑(Int.toNat z' - 0) : Int) ≤ (64 : Int))) = false ∧ (ExT (Nat × List UInt8) fun x => (Prod.fst x ≤ Min.min n 6 ∧ Prod.snd x = Go.Proofs.YtnhomnaamlbnpaaDoor.Ld.lay (List.take (Min.min (List.length lab) 40) lab) (List.take (Prod.fst x) (fewL L n))) ∧ True ∧ (((↑(Prod.fst x) : Int) = (0 : Int) ∧ inR IntKind.i64 (↑(Prod.fst x) : Int)) ∧ ((0 : Nat) = 0 ∧ List.length (Prod.snd x) = 2 + (List.length l'_12) ∧ List.length (Prod.snd x) = 2 + (List.length l'_12)) ∧ tA z' c1 ∧ l'_7 = l'_7 ∧ tC ∧ tC ∧ (tE l'_12 ∧ tC ∧ True) ∧ (!decide ((↑(Int.toNat z' - 0) : Int) ≤ (64 : Int))) = !decide ((↑(Int.toNat z' - 0) : Int) ≤ (64 : Int)) ∧ tC ∧ decide ((↑(Int.toNat z' - 0) : Int) ≤ (64 : Int)) = decide ((↑(Int.toNat z' - 0) : Int) ≤ (64 : Int)) ∧ (tE l'_12 ∧ tC ∧ True) ∧ (!true) = !true ∧ tB n ∧ tA z' c1 ∧ l'_8 = l'_8 ∧ tC ∧ (0 : Nat) = 0 ∧ (!decide ((↑(Int.toNat z' - 0) : Int) ≤ (64 : Int))) = !decide ((↑(Int.toNat z' - 0) : Int) ≤ (64 : Int)) ∧ tE l'_12 ∧ (!true) = !true ∧ True) ∧ Prod.snd x = l'_13 ∧ (sameT l'_6 l'_6) ∧ (Min.min n 6 = Min.min n 6 ∧ l' = l' ∧ True) ∧ zs 32 ∧ True) ∧ (∀ (x : Nat × List UInt8), Prod.fst x ≤ Min.min n 6 ∧ Prod.snd x = Go.Proofs.YtnhomnaamlbnpaaDoor.Ld.lay (List.take (Min.min (List.length lab) 40) lab) (List.take (Prod.fst x) (fewL L n)) →
    Min.min n 6 ≤ 9223372036854775807 ∧ (decide ((↑(Prod.fst x) : Int) < (↑(Min.min n 6) : Int)) = true →
    ((0 : Int) ≤ (↑(Prod.fst x) : Int) ∧ (↑(Prod.fst x) : Int) < (↑(Min.min n 6) : Int)) ∧ 0 + Int.toNat (↑(Prod.fst x) : Int) < Min.min n 6 ∧ List.length (List.getD l' (0 + Int.toNat (↑(Prod.fst x) : Int)) []) ≤ 9223372036854775807 ∧ (IntKind.u64 = IntKind.u64 ∧ (0 : Int) ≤ (↑(List.length (List.getD l' (0 + Int.toNat (↑(Prod.fst x) : Int)) [])) : Int) % (18446744073709551616 : Int) ∧ (↑(List.length (List.getD l' (0 + Int.toNat (↑(Prod.fst x) : Int)) [])) : Int) % (18446744073709551616 : Int) < (18446744073709551616 : Int) ∧ (0 : Int) ≤ (4 : Int) ∧ (4 : Int) ≤ (100 : Int)) ∧ ∀ (l'_14 : List UInt8), l'_14 = Go.Proofs.YtnhomnaamlbnpaaDoor.Pc.be 4 (Int.toNat ((↑(List.length (List.getD l' (0 + Int.toNat (↑(Prod.fst x) : Int)) [])) : Int) % (18446744073709551616 : Int))) →
    (4 ≤ List.length l'_14 ∧ Nat.le (0 + List.length (Prod.snd x)) (List.length (Prod.snd x)) ∧ List.length (Prod.snd x) + 4 ≤ 65536 ∧ (false = true →
    0 + List.length (Prod.snd x) ≤ (List.length (Prod.snd x)))) ∧ ∀ (l'_15 : List UInt8), l'_15 = List.take (List.length (Prod.snd x)) (List.drop 0 (Prod.snd x)) ++ List.take 4 (List.drop 0 l'_14) →
    ((0 : Int) ≤ (↑(Prod.fst x) : Int) ∧ (↑(Prod.fst x) : Int) < (↑(Min.min n 6) : Int)) ∧ 0 + Int.toNat (↑(Prod.fst x) : Int) < Min.min n 6 ∧ (Nat.le (0 + (List.length (Prod.snd x) + 4)) (List.length l'_15) ∧ List.length (Prod.snd x) + 4 + (List.length (List.getD l' (0 + Int.toNat (↑(Prod.fst x) : Int)) [])) ≤ 65536 ∧ (false = true →
    0 + (List.length (Prod.snd x) + 4) ≤ (List.length l'_15))) ∧ ∀ (l'_16 : List UInt8), l'_16 = List.take (List.length (Prod.snd x) + 4) (List.drop 0 l'_15) ++ List.getD l' (0 + Int.toNat (↑(Prod.fst x) : Int)) [] →
    inR IntKind.i64 ((↑(Prod.fst x) : Int) + (1 : Int)) ∧ ∀ (z2 : Int), z2 = (↑(Prod.fst x) : Int) + (1 : Int) →
    ExT (Nat × List UInt8) fun y => (Min.min n 6 - Prod.fst y < Min.min n 6 - Prod.fst x ∧ Prod.fst y ≤ Min.min n 6 ∧ Prod.snd y = Go.Proofs.YtnhomnaamlbnpaaDoor.Ld.lay (List.take (Min.min (List.length lab) 40) lab) (List.take (Prod.fst y) (fewL L n))) ∧ True ∧ ((↑(Prod.fst y) : Int) = z2 ∧ ((0 : Nat) = 0 ∧ List.length (Prod.snd y) = List.length (Prod.snd x) + 4 + (List.length (List.getD l' (0 + Int.toNat (↑(Prod.fst x) : Int)) [])) ∧ List.length (Prod.snd y) = List.length (Prod.snd x) + 4 + (List.length (List.getD l' (0 + Int.toNat (↑(Prod.fst x) : Int)) []))) ∧ tA z' c1 ∧ l'_7 = l'_7 ∧ tC ∧ tC ∧ (tE l'_12 ∧ tC ∧ True) ∧ (!decide ((↑(Int.toNat z' - 0) : Int) ≤ (64 : Int))) = !decide ((↑(Int.toNat z' - 0) : Int) ≤ (64 : Int)) ∧ tC ∧ decide ((↑(Int.toNat z' - 0) : Int) ≤ (64 : Int)) = decide ((↑(Int.toNat z' - 0) : Int) ≤ (64 : Int)) ∧ (tE l'_12 ∧ tC ∧ True) ∧ false = false ∧ tB n ∧ tA z' c1 ∧ l'_8 = l'_8 ∧ tC ∧ (0 : Nat) = 0 ∧ (!decide ((↑(Int.toNat z' - 0) : Int) ≤ (64 : Int))) = !decide ((↑(Int.toNat z' - 0) : Int) ≤ (64 : Int)) ∧ tE l'_12 ∧ false = false ∧ True) ∧ Prod.snd y = l'_16 ∧ (sameT l'_6 l'_6) ∧ (Min.min n 6 = Min.min n 6 ∧ l' = l' ∧ True) ∧ zs 32 ∧ True) ∧ (decide ((↑(Prod.fst x) : Int) < (↑(Min.min n 6) : Int)) = false →
    ExT (List UInt8) fun z => z = Go.Proofs.YtnhomnaamlbnpaaDoor.Ld.lay (List.take (Min.min (List.length lab) 40) lab) (fewL L n) ∧ True ∧ (((0 : Nat) = 0 ∧ List.length z = List.length (Prod.snd x) ∧ List.length z = List.length (Prod.snd x)) ∧ tA z' c1 ∧ l'_7 = l'_7 ∧ tC ∧ tC ∧ (tE l'_12 ∧ tC ∧ True) ∧ (!decide ((↑(Int.toNat z' - 0) : Int) ≤ (64 : Int))) = !decide ((↑(Int.toNat z' - 0) : Int) ≤ (64 : Int)) ∧ tC ∧ decide ((↑(Int.toNat z' - 0) : Int) ≤ (64 : Int)) = decide ((↑(Int.toNat z' - 0) : Int) ≤ (64 : Int)) ∧ (tE l'_12 ∧ tC ∧ True) ∧ false = false ∧ tB n ∧ tA z' c1 ∧ l'_8 = l'_8 ∧ tC ∧ (0 : Nat) = 0 ∧ (!decide ((↑(Int.toNat z' - 0) : Int) ≤ (64 : Int))) = !decide ((↑(Int.toNat z' - 0) : Int) ≤ (64 : Int)) ∧ tE l'_12 ∧ false = false ∧ True) ∧ z = Prod.snd x ∧ (sameT l'_6 l'_6) ∧ (Min.min n 6 = Min.min n 6 ∧ l' = l' ∧ True) ∧ zs 32 ∧ True)) ∧ (∀ (z : List UInt8), z = Go.Proofs.YtnhomnaamlbnpaaDoor.Ld.lay (List.take (Min.min (List.length lab) 40) lab) (fewL L n) →
    ((0 + List.length z ≤ List.length z ∧ Nat.le (0 + (Int.toNat z' - 0)) (List.length S) ∧ List.length (List.take (Int.toNat z' - 0) (List.drop 0 S)) ≤ 50000) ∧ List.length (List.take (List.length z) (List.drop 0 z)) ≤ 50000) ∧ AVal.agg (dig (hmac (List.take (Int.toNat z' - 0) (List.drop 0 S)) (List.take (List.length z) (List.drop 0 z)))) = AVal.agg (dig (hmac (Go.Proofs.YtnhomnaamlbnpaaDoor.Sr.lstOf (Option.some (Option.some (0 + (Int.toNat z' - 0) ≤ List.length S), List.take (Int.toNat z' - 0) (List.drop 0 S)))) (Go.Proofs.YtnhomnaamlbnpaaDoor.Sr.lstOf (Option.some (Option.some (0 + List.length z ≤ List.length z), List.take (List.length z) (List.drop 0 z)))))) ∧ ∀ (l'_14 : List UInt8), l'_14 = hmac (Go.Proofs.YtnhomnaamlbnpaaDoor.Sr.lstOf (Option.some (Option.some (0 + (Int.toNat z' - 0) ≤ List.length S), List.take (Int.toNat z' - 0) (List.drop 0 S)))) (Go.Proofs.YtnhomnaamlbnpaaDoor.Sr.lstOf (Option.some (Option.some (0 + List.length z ≤ List.length z), List.take (List.length z) (List.drop 0 z)))) →
    (!decB l'_6 l'_14) = false ∧ Min.min n 6 ≤ 9223372036854775807 ∧ (ExT Nat fun x => x ≤ Min.min n 6 ∧ True ∧ (((↑x : Int) = (0 : Int) ∧ inR IntKind.i64 (↑x : Int)) ∧ tA z' c1 ∧ l'_4 = l'_4 ∧ (0 : Nat) = 0 ∧ (↑(List.length S) : Int) = (↑(List.length S) : Int) ∧ tC ∧ tB n ∧ tD n c3 ∧ tC ∧ l'_2 = l'_2 ∧ tB n ∧ l'_5 = l'_5 ∧ (sameT l'_6 l'_6) ∧ (0 : Nat) = 0 ∧ tA z' c1 ∧ tA z' c1 ∧ ((sameT l'_6 l'_6) ∧ tC ∧ True) ∧ false = false ∧ ((0 : Nat) = 0 ∧ List.length S = List.length S ∧ c1 = c1) ∧ z1 = z1 ∧ (sameT l'_14 l'_14) ∧ ((sameT l'_6 l'_6) ∧ tC ∧ True) ∧ (!decB l'_6 l'_14) = !decB l'_6 l'_14 ∧ tB n ∧ tC ∧ z' = z' ∧ ((sameT l'_14 l'_14) ∧ tC ∧ True) ∧ (↑(Min.min n 6) : Int) = (↑(Min.min n 6) : Int) ∧ tB n ∧ tC ∧ (↑(List.length l'_2) : Int) = (↑(List.length l'_2) : Int) ∧ ((sameT l'_14 l'_14) ∧ tC ∧ True) ∧ tB n ∧ (sameT l'_14 l'_14) ∧ tC ∧ l'_1 = l'_1 ∧ l'_7 = l'_7 ∧ tA z' c1 ∧ false = false ∧ ((0 : Nat) = 0 ∧ List.length S = List.length S ∧ c1 = c1) ∧ l'_3 = l'_3 ∧ tC ∧ (sameT l'_6 l'_6) ∧ (!decB l'_6 l'_14) = !decB l'_6 l'_14 ∧ True) ∧ (sameT l'_6 l'_6) ∧ z = z ∧ (Min.min n 6 = Min.min n 6 ∧ l' = l' ∧ True) ∧ (sameT l'_14 l'_14) ∧ (sameT l'_14 l'_14) ∧ True) ∧ (∀ (x : Nat), x ≤ Min.min n 6 →
    (decide ((↑x : Int) < (↑(Min.min n 6) : Int)) = true →
    ((0 : Int) ≤ (↑x : Int) ∧ (↑x : Int) < (↑(Min.min n 6) : Int)) ∧ 0 + Int.toNat (↑x : Int) < Min.min n 6 ∧ List.length (List.getD l' (0 + Int.toNat (↑x : Int)) []) ≤ 50000 ∧ ∀ (z2 : Int), z2 = (↑(Go.Proofs.YtnhomnaamlbnpaaDoor.Seal.tagOf (bk l'_6) (List.getD l' (0 + Int.toNat (↑x : Int)) [])) : Int) →
    List.length (List.getD l' (0 + Int.toNat (↑x : Int)) []) ≤ 50000 ∧ ∀ (z3 : Int), z3 = (↑(Go.Proofs.YtnhomnaamlbnpaaDoor.Seal.tagOf (bk l'_14) (List.getD l' (0 + Int.toNat (↑x : Int)) [])) : Int) →
    decide (z2 ≠ z3) = false ∧ inR IntKind.i64 ((↑x : Int) + (1 : Int)) ∧ ∀ (z4 : Int), z4 = (↑x : Int) + (1 : Int) →
    ExT Nat fun y => (Min.min n 6 - y < Min.min n 6 - x ∧ y ≤ Min.min n 6) ∧ True ∧ ((↑y : Int) = z4 ∧ tA z' c1 ∧ l'_4 = l'_4 ∧ (0 : Nat) = 0 ∧ (↑(List.length S) : Int) = (↑(List.length S) : Int) ∧ tC ∧ tB n ∧ tD n c3 ∧ tC ∧ l'_2 = l'_2 ∧ tB n ∧ l'_5 = l'_5 ∧ (sameT l'_6 l'_6) ∧ (0 : Nat) = 0 ∧ tA z' c1 ∧ tA z' c1 ∧ ((sameT l'_6 l'_6) ∧ tC ∧ True) ∧ false = false ∧ ((0 : Nat) = 0 ∧ List.length S = List.length S ∧ c1 = c1) ∧ z1 = z1 ∧ (sameT l'_14 l'_14) ∧ ((sameT l'_6 l'_6) ∧ tC ∧ True) ∧ (!decB l'_6 l'_14) = !decB l'_6 l'_14 ∧ tB n ∧ tC ∧ z' = z' ∧ ((sameT l'_14 l'_14) ∧ tC ∧ True) ∧ (↑(Min.min n 6) : Int) = (↑(Min.min n 6) : Int) ∧ tB n ∧ tC ∧ (↑(List.length l'_2) : Int) = (↑(List.length l'_2) : Int) ∧ ((sameT l'_14 l'_14) ∧ tC ∧ True) ∧ tB n ∧ (sameT l'_14 l'_14) ∧ tC ∧ l'_1 = l'_1 ∧ l'_7 = l'_7 ∧ tA z' c1 ∧ false = false ∧ ((0 : Nat) = 0 ∧ List.length S = List.length S ∧ c1 = c1) ∧ l'_3 = l'_3 ∧ tC ∧ (sameT l'_6 l'_6) ∧ (!decB l'_6 l'_14) = !decB l'_6 l'_14 ∧ True) ∧ (sameT l'_6 l'_6) ∧ z = z ∧ (Min.min n 6 = Min.min n 6 ∧ l' = l' ∧ True) ∧ (sameT l'_14 l'_14) ∧ (sameT l'_14 l'_14) ∧ True) ∧ (decide ((↑x : Int) < (↑(Min.min n 6) : Int)) = false →
    ExT Unit fun z_1 => True ∧ True ∧ (tA z' c1 ∧ l'_4 = l'_4 ∧ (0 : Nat) = 0 ∧ (↑(List.length S) : Int) = (↑(List.length S) : Int) ∧ tC ∧ tB n ∧ tD n c3 ∧ tC ∧ l'_2 = l'_2 ∧ tB n ∧ l'_5 = l'_5 ∧ (sameT l'_6 l'_6) ∧ (0 : Nat) = 0 ∧ tA z' c1 ∧ tA z' c1 ∧ ((sameT l'_6 l'_6) ∧ tC ∧ True) ∧ false = false ∧ ((0 : Nat) = 0 ∧ List.length S = List.length S ∧ c1 = c1) ∧ z1 = z1 ∧ (sameT l'_14 l'_14) ∧ ((sameT l'_6 l'_6) ∧ tC ∧ True) ∧ (!decB l'_6 l'_14) = !decB l'_6 l'_14 ∧ tB n ∧ tC ∧ z' = z' ∧ ((sameT l'_14 l'_14) ∧ tC ∧ True) ∧ (↑(Min.min n 6) : Int) = (↑(Min.min n 6) : Int) ∧ tB n ∧ tC ∧ (↑(List.length l'_2) : Int) = (↑(List.length l'_2) : Int) ∧ ((sameT l'_14 l'_14) ∧ tC ∧ True) ∧ tB n ∧ (sameT l'_14 l'_14) ∧ tC ∧ l'_1 = l'_1 ∧ l'_7 = l'_7 ∧ tA z' c1 ∧ false = false ∧ ((0 : Nat) = 0 ∧ List.length S = List.length S ∧ c1 = c1) ∧ l'_3 = l'_3 ∧ tC ∧ (sameT l'_6 l'_6) ∧ (!decB l'_6 l'_14) = !decB l'_6 l'_14 ∧ True) ∧ (sameT l'_6 l'_6) ∧ z = z ∧ (Min.min n 6 = Min.min n 6 ∧ l' = l' ∧ True) ∧ (sameT l'_14 l'_14) ∧ (sameT l'_14 l'_14) ∧ True)) ∧ (∀ (z : Unit), True →
    true = true) ∧ True) ∧ True
theorem sdf_eq (S lab : List UInt8) (L : List (List UInt8)) (n c1 c3 : Nat) (ty : TypeId) : sdW S lab L n c1 c3 ty [0, 1, 0, 0] = sdf S lab L n c1 c3 ty := by kernel_rfl
def sdfS (S lab : List UInt8) (L : List (List UInt8)) (n c1 c3 : Nat) (ty : TypeId) : Prop :=
    (List.length L = n ∧ n ≤ 9223372036854775807 ∧ ∀ (p : List UInt8), List.Mem p L →
    List.length p ≤ 9223372036854775807) ∧ ∀ (l' : List (List UInt8)), l' = fewL L n →
    List.length S ≤ 9223372036854775807 ∧ ∀ (z' : Int), z' = Min.min (↑(List.length S) : Int) (80 : Int) →
    ((0 : Int) ≤ z' ∧ 0 ≤ Int.toNat z' ∧ Int.toNat z' ≤ c1 ∧ c1 ≤ c1) ∧ ∀ (l'_1 : List UInt8), l'_1 = lab →
    ∀ (l'_2 : List UInt8), l'_2 = lab →
    List.length l'_2 ≤ 9223372036854775807 ∧ ∀ (z1 : Int), z1 = Min.min (↑(List.length l'_2) : Int) (40 : Int) →
    ((0 : Int) ≤ z1 ∧ 0 ≤ Int.toNat z1 ∧ Int.toNat z1 ≤ List.length l'_1) ∧ ∀ (l'_3 : List UInt8), l'_3 = List.take (Int.toNat z1) l'_1 →
    ∀ (l'_4 : List UInt8), l'_4 = l'_3 →
    ∀ (l'_5 : List UInt8), l'_5 = l'_4 →
    ((Min.min n 6 = List.length l' ∧ Min.min n 6 ≤ 8 ∧ ∀ (p : List UInt8), List.Mem p l' →
    List.length p ≤ 60000) ∧ Nat.le (0 + (Int.toNat z' - 0)) (List.length S) ∧ 1 ≤ List.length (List.take (Int.toNat z' - 0) S) ∧ List.length (List.take (Int.toNat z' - 0) S) ≤ 64 ∧ List.length l'_5 ≤ 100) ∧ AVal.tuple [AVal.agg (dig (hmac (List.take (Int.toNat z' - 0) S) (Go.Proofs.YtnhomnaamlbnpaaDoor.Ld.lay l'_5 l'))), AVal.int IntKind.i64 (0 : Int)] = AVal.tuple [AVal.agg (dig (hmac (Go.Proofs.YtnhomnaamlbnpaaDoor.Sr.lstOf (Option.some (Option.some (0 + (Int.toNat z' - 0) ≤ List.length S), List.take (Int.toNat z' - 0) S))) (Go.Proofs.YtnhomnaamlbnpaaDoor.Ld.lay l'_5 (lstsOf (Option.some (Option.some (Min.min n 6 = Min.min n 6 ∧ Min.min n 6 = List.length l' ∧ Min.min n 6 ≤ 8 ∧ ∀ (p : List UInt8), p ∈ l' →
    List.length p ≤ 60000), l')))))), AVal.int IntKind.i64 (0 : Int)] ∧ ∀ (l'_6 : List UInt8), l'_6 = hmac (Go.Proofs.YtnhomnaamlbnpaaDoor.Sr.lstOf (Option.some (Option.some (0 + (Int.toNat z' - 0) ≤ List.length S), List.take (Int.toNat z' - 0) S))) (Go.Proofs.YtnhomnaamlbnpaaDoor.Ld.lay l'_5 (lstsOf (Option.some (Option.some (Min.min n 6 = Min.min n 6 ∧ Min.min n 6 = List.length l' ∧ Min.min n 6 ≤ 8 ∧ ∀ (p : List UInt8), p ∈ l' →
    List.length p ≤ 60000), l')))) →
    ∀ (l'_7 : List UInt8), l'_7 = l'_4 →
    ∀ (l'_8 : List UInt8), l'_8 = l'_7 →
    ∀ (l'_9 : List UInt8), l'_9 = l'_8 →
    List.length l'_9 ≤ 9223372036854775807 ∧ decide ((65535 : Int) < (↑(List.length l'_9) : Int)) = false ∧ ∀ (l'_10 : List UInt8), l'_10 = l'_8 →
    List.length l'_10 ≤ 9223372036854775807 ∧ ((0 : Int) ≤ (↑(List.length l'_10) : Int) % (18446744073709551616 : Int) ∧ (↑(List.length l'_10) : Int) % (18446744073709551616 : Int) < (18446744073709551616 : Int) ∧ (0 : Int) ≤ (2 : Int) ∧ (2 : Int) ≤ (100 : Int)) ∧ ∀ (l'_11 : List UInt8), l'_11 = Go.Proofs.YtnhomnaamlbnpaaDoor.Pc.be 2 (Int.toNat ((↑(List.length l'_10) : Int) % (18446744073709551616 : Int))) →
    ∀ (l'_12 : List UInt8), l'_12 = l'_8 →
    (Nat.le 2 (List.length l'_11) ∧ 2 + (List.length l'_12) ≤ 65536) ∧ ∀ (l'_13 : List UInt8), l'_13 = List.take 2 l'_11 ++ l'_12 →
    Int.toNat z' - 0 ≤ 9223372036854775807 ∧ decide ((1 : Int) ≤ (↑(Int.toNat z' - 0) : Int)) = true ∧ Int.toNat z' - 0 ≤ 9223372036854775807 ∧ (!decide ((↑(Int.toNat z' - 0) : Int) ≤ (64 : Int))) = false ∧ (ExT (Nat × List UInt8) fun x => (Prod.fst x ≤ Min.min n 6 ∧ Prod.snd x = Go.Proofs.YtnhomnaamlbnpaaDoor.Ld.lay (List.take (Min.min (List.length lab) 40) lab) (List.take (Prod.fst x) (fewL L n))) ∧ (((↑(Prod.fst x) : Int) = (0 : Int) ∧ inR IntKind.i64 (↑(Prod.fst x) : Int)) ∧ List.length (Prod.snd x) = 2 + (List.length l'_12) ∧ List.length (Prod.snd x) = 2 + (List.length l'_12)) ∧ Prod.snd x = l'_13) ∧ (∀ (x : Nat × List UInt8), Prod.fst x ≤ Min.min n 6 ∧ Prod.snd x = Go.Proofs.YtnhomnaamlbnpaaDoor.Ld.lay (List.take (Min.min (List.length lab) 40) lab) (List.take (Prod.fst x) (fewL L n)) →
    Min.min n 6 ≤ 9223372036854775807 ∧ ((↑(Prod.fst x) : Int) < (↑(Min.min n 6) : Int) →
    ((0 : Int) ≤ (↑(Prod.fst x) : Int) ∧ (↑(Prod.fst x) : Int) < (↑(Min.min n 6) : Int)) ∧ 0 + Prod.fst x < Min.min n 6 ∧ List.length (List.getD l' (0 + Prod.fst x) []) ≤ 9223372036854775807 ∧ ((0 : Int) ≤ (↑(List.length (List.getD l' (0 + Prod.fst x) [])) : Int) % (18446744073709551616 : Int) ∧ (↑(List.length (List.getD l' (0 + Prod.fst x) [])) : Int) % (18446744073709551616 : Int) < (18446744073709551616 : Int) ∧ (0 : Int) ≤ (4 : Int) ∧ (4 : Int) ≤ (100 : Int)) ∧ ∀ (l'_14 : List UInt8), l'_14 = Go.Proofs.YtnhomnaamlbnpaaDoor.Pc.be 4 (Int.toNat ((↑(List.length (List.getD l' (0 + Prod.fst x) [])) : Int) % (18446744073709551616 : Int))) →
    (4 ≤ List.length l'_14 ∧ Nat.le (0 + List.length (Prod.snd x)) (List.length (Prod.snd x)) ∧ List.length (Prod.snd x) + 4 ≤ 65536) ∧ ∀ (l'_15 : List UInt8), l'_15 = List.take (List.length (Prod.snd x)) (Prod.snd x) ++ List.take 4 l'_14 →
    ((0 : Int) ≤ (↑(Prod.fst x) : Int) ∧ (↑(Prod.fst x) : Int) < (↑(Min.min n 6) : Int)) ∧ 0 + Prod.fst x < Min.min n 6 ∧ (Nat.le (0 + (List.length (Prod.snd x) + 4)) (List.length l'_15) ∧ List.length (Prod.snd x) + 4 + (List.length (List.getD l' (0 + Prod.fst x) [])) ≤ 65536) ∧ ∀ (l'_16 : List UInt8), l'_16 = List.take (List.length (Prod.snd x) + 4) l'_15 ++ List.getD l' (0 + Prod.fst x) [] →
    inR IntKind.i64 ((↑(Prod.fst x) : Int) + (1 : Int)) ∧ ∀ (z' : Int), z' = (↑(Prod.fst x) : Int) + (1 : Int) →
    ExT (Nat × List UInt8) fun y => (Min.min n 6 - Prod.fst y < Min.min n 6 - Prod.fst x ∧ Prod.fst y ≤ Min.min n 6 ∧ Prod.snd y = Go.Proofs.YtnhomnaamlbnpaaDoor.Ld.lay (List.take (Min.min (List.length lab) 40) lab) (List.take (Prod.fst y) (fewL L n))) ∧ ((↑(Prod.fst y) : Int) = z' ∧ List.length (Prod.snd y) = List.length (Prod.snd x) + 4 + (List.length (List.getD l' (0 + Prod.fst x) [])) ∧ List.length (Prod.snd y) = List.length (Prod.snd x) + 4 + (List.length (List.getD l' (0 + Prod.fst x) []))) ∧ Prod.snd y = l'_16) ∧ (¬(↑(Prod.fst x) : Int) < (↑(Min.min n 6) : Int) →
    ExT (List UInt8) fun z => z = Go.Proofs.YtnhomnaamlbnpaaDoor.Ld.lay (List.take (Min.min (List.length lab) 40) lab) (fewL L n) ∧ (List.length z = List.length (Prod.snd x) ∧ List.length z = List.length (Prod.snd x)) ∧ z = Prod.snd x)) ∧ ∀ (z : List UInt8), z = Go.Proofs.YtnhomnaamlbnpaaDoor.Ld.lay (List.take (Min.min (List.length lab) 40) lab) (fewL L n) →
    ((0 + List.length z ≤ List.length z ∧ Nat.le (0 + (Int.toNat z' - 0)) (List.length S) ∧ List.length (List.take (Int.toNat z' - 0) S) ≤ 50000) ∧ List.length (List.take (List.length z) z) ≤ 50000) ∧ AVal.agg (dig (hmac (List.take (Int.toNat z' - 0) S) (List.take (List.length z) z))) = AVal.agg (dig (hmac (Go.Proofs.YtnhomnaamlbnpaaDoor.Sr.lstOf (Option.some (Option.some (0 + (Int.toNat z' - 0) ≤ List.length S), List.take (Int.toNat z' - 0) S))) (Go.Proofs.YtnhomnaamlbnpaaDoor.Sr.lstOf (Option.some (Option.some (0 + List.length z ≤ List.length z), List.take (List.length z) z))))) ∧ ∀ (l'_14 : List UInt8), l'_14 = hmac (Go.Proofs.YtnhomnaamlbnpaaDoor.Sr.lstOf (Option.some (Option.some (0 + (Int.toNat z' - 0) ≤ List.length S), List.take (Int.toNat z' - 0) S))) (Go.Proofs.YtnhomnaamlbnpaaDoor.Sr.lstOf (Option.some (Option.some (0 + List.length z ≤ List.length z), List.take (List.length z) z))) →
    (!decB l'_6 l'_14) = false ∧ Min.min n 6 ≤ 9223372036854775807 ∧ (ExT Nat fun x => x ≤ Min.min n 6 ∧ (↑x : Int) = (0 : Int) ∧ inR IntKind.i64 (↑x : Int)) ∧ ∀ (x : Nat), x ≤ Min.min n 6 →
    (↑x : Int) < (↑(Min.min n 6) : Int) →
    ((0 : Int) ≤ (↑x : Int) ∧ (↑x : Int) < (↑(Min.min n 6) : Int)) ∧ 0 + x < Min.min n 6 ∧ List.length (List.getD l' (0 + x) []) ≤ 50000 ∧ ∀ (z' : Int), z' = (↑(Go.Proofs.YtnhomnaamlbnpaaDoor.Seal.tagOf (back l'_6) (List.getD l' (0 + x) [])) : Int) →
    List.length (List.getD l' (0 + x) []) ≤ 50000 ∧ ∀ (z2 : Int), z2 = (↑(Go.Proofs.YtnhomnaamlbnpaaDoor.Seal.tagOf (back l'_14) (List.getD l' (0 + x) [])) : Int) →
    decide (z' ≠ z2) = false ∧ inR IntKind.i64 ((↑x : Int) + (1 : Int)) ∧ ∀ (z' : Int), z' = (↑x : Int) + (1 : Int) →
    ExT Nat fun y => (Min.min n 6 - y < Min.min n 6 - x ∧ y ≤ Min.min n 6) ∧ (↑y : Int) = z'
theorem sdf_of (S lab : List UInt8) (L : List (List UInt8)) (n c1 c3 : Nat) (ty : TypeId) (hS0 : sdfS S lab L n c1 c3 ty) : sdf S lab L n c1 c3 ty := by
  unfold sdfS at hS0
  unfold sdf
  exact (have b310 := hS0.2; ⟨⟨rfl, hS0.1⟩, (fun x9 => have y308 := b310 x9; (fun k10 => have y307 := y308 k10; (have b306 := y307.2; ⟨y307.1, (fun x11 => have y304 := b306 x11; (fun k12 => have y303 := y304 k12; (have a301 := y303.1; have b302 := y303.2; ⟨⟨trivial, (have b18 := a301.2; ⟨a301.1, trivial, b18⟩)⟩, (fun x19 => have y300 := b302 x19; (fun k20 => have y299 := y300 k20; (fun x21 => have y298 := y299 x21; (fun k22 => have y297 := y298 k22; (have b296 := y297.2; ⟨y297.1, (fun x23 => have y294 := b296 x23; (fun k24 => have y293 := y294 k24; (have a291 := y293.1; have b292 := y293.2; ⟨(have b28 := a291.2; ⟨a291.1, trivial, b28⟩), (fun x29 => have y290 := b292 x29; (fun k30 => have y289 := y290 k30; (fun x31 => have y288 := y289 x31; (fun k32 => have y287 := y288 k32; (fun x33 => have y286 := y287 x33; (fun k34 => have y285 := y286 k34; (have a283 := y285.1; have b284 := y285.2; ⟨(have b50 := a283.2; ⟨⟨rfl, a283.1⟩, b50⟩), (have b282 := b284.2; ⟨b284.1, (fun x51 => have y280 := b282 x51; (fun k52 => have y279 := y280 k52; (fun x53 => have y278 := y279 x53; (fun k54 => have y277 := y278 k54; (fun x55 => have y276 := y277 x55; (fun k56 => have y275 := y276 k56; (fun x57 => have y274 := y275 x57; (fun k58 => have y273 := y274 k58; (have b272 := y273.2; ⟨y273.1, (have b270 := b272.2; ⟨b272.1, (fun x59 => have y268 := b270 x59; (fun k60 => have y267 := y268 k60; (have b266 := y267.2; ⟨y267.1, (have b264 := b266.2; ⟨⟨rfl, b266.1⟩, (fun x67 => have y262 := b264 x67; (fun k68 => have y261 := y262 k68; (fun x69 => have y260 := y261 x69; (fun k70 => have y259 := y260 k70; (have a257 := y259.1; have b258 := y259.2; ⟨(have b72 := a257.2; ⟨a257.1, b72, (fun hf => nomatch hf)⟩), (fun x73 => have y256 := b258 x73; (fun k74 => have y255 := y256 k74; (have b254 := y255.2; ⟨y255.1, (have b252 := b254.2; ⟨b254.1, (have b250 := b252.2; ⟨b252.1, (have b248 := b250.2; ⟨b250.1, (have b246 := b248.2; ⟨(Exists.elim b248.1 fun x75 k76 => ⟨x75, (have b88 := k76.2; ⟨k76.1, trivial, (have a85 := b88.1; have b86 := b88.2; ⟨(have b84 := a85.2; ⟨a85.1, ⟨rfl, b84⟩, ⟨rfl, rfl, rfl⟩, rfl, rfl, rfl, ⟨⟨rfl, rfl, rfl⟩, rfl, trivial⟩, rfl, rfl, rfl, ⟨⟨rfl, rfl, rfl⟩, rfl, trivial⟩, rfl, ⟨rfl, rfl, rfl⟩, ⟨rfl, rfl, rfl⟩, rfl, rfl, rfl, rfl, ⟨rfl, rfl, rfl⟩, rfl, trivial⟩), b86, ⟨rfl, rfl, rfl, rfl, rfl, rfl, rfl, rfl, rfl, rfl, rfl, rfl, rfl, rfl, rfl, rfl, rfl, rfl, rfl, rfl, rfl, rfl, rfl, rfl, rfl, rfl, rfl, rfl, rfl, rfl, rfl, rfl, trivial⟩, ⟨rfl, rfl, trivial⟩, ⟨rfl, rfl, rfl, rfl, rfl, rfl, rfl, rfl, rfl, rfl, rfl, rfl, rfl, rfl, rfl, rfl, rfl, rfl, rfl, rfl, rfl, rfl, rfl, rfl, rfl, rfl, rfl, rfl, rfl, rfl, rfl, rfl, trivial⟩, trivial⟩)⟩)⟩), (have b244 := b246.2; ⟨(fun x89 => have y172 := b246.1 x89; (fun k90 => have y171 := y172 k90; (have b170 := y171.2; ⟨y171.1, (have b168 := b170.2; ⟨(fun k91 => have y156 := b170.1 (of_decide_eq_true k91); (have b155 := y156.2; ⟨y156.1, (have b153 := b155.2; ⟨b155.1, (have b151 := b153.2; ⟨b153.1, (have b149 := b151.2; ⟨⟨rfl, b151.1⟩, (fun x100 => have y147 := b149 x100; (fun k101 => have y146 := y147 k101; (have a144 := y146.1; have b145 := y146.2; ⟨(have b105 := a144.2; ⟨a144.1, (have b103 := b105.2; ⟨b105.1, b103, (fun hf => nomatch hf)⟩)⟩), (fun x106 => have y143 := b145 x106; (fun k107 => have y142 := y143 k107; (have b141 := y142.2; ⟨y142.1, (have b139 := b141.2; ⟨b141.1, (have a136 := b139.1; have b137 := b139.2; ⟨(have b111 := a136.2; ⟨a136.1, b111, (fun hf => nomatch hf)⟩), (fun x112 => have y135 := b137 x112; (fun k113 => have y134 := y135 k113; (have b133 := y134.2; ⟨y134.1, (fun x114 => have y131 := b133 x114; (fun k115 => have y130 := y131 k115; (Exists.elim y130 fun x116 k117 => ⟨x116, (have b129 := k117.2; ⟨k117.1, trivial, (have a126 := b129.1; have b127 := b129.2; ⟨(have b125 := a126.2; ⟨a126.1, ⟨rfl, b125⟩, ⟨rfl, rfl, rfl⟩, rfl, rfl, rfl, ⟨⟨rfl, rfl, rfl⟩, rfl, trivial⟩, rfl, rfl, rfl, ⟨⟨rfl, rfl, rfl⟩, rfl, trivial⟩, rfl, ⟨rfl, rfl, rfl⟩, ⟨rfl, rfl, rfl⟩, rfl, rfl, rfl, rfl, ⟨rfl, rfl, rfl⟩, rfl, trivial⟩), b127, ⟨rfl, rfl, rfl, rfl, rfl, rfl, rfl, rfl, rfl, rfl, rfl, rfl, rfl, rfl, rfl, rfl, rfl, rfl, rfl, rfl, rfl, rfl, rfl, rfl, rfl, rfl, rfl, rfl, rfl, rfl, rfl, rfl, trivial⟩, ⟨rfl, rfl, trivial⟩, ⟨rfl, rfl, rfl, rfl, rfl, rfl, rfl, rfl, rfl, rfl, rfl, rfl, rfl, rfl, rfl, rfl, rfl, rfl, rfl, rfl, rfl, rfl, rfl, rfl, rfl, rfl, rfl, rfl, rfl, rfl, rfl, rfl, trivial⟩, trivial⟩)⟩)⟩)))⟩)))⟩)⟩)⟩)))⟩)))⟩)⟩)⟩)⟩)), (fun k157 => have y166 := b168 (of_decide_eq_false k157); (Exists.elim y166 fun x158 k159 => ⟨x158, (have b165 := k159.2; ⟨k159.1, trivial, (have b163 := b165.2; ⟨⟨⟨rfl, b165.1⟩, ⟨rfl, rfl, rfl⟩, rfl, rfl, rfl, ⟨⟨rfl, rfl, rfl⟩, rfl, trivial⟩, rfl, rfl, rfl, ⟨⟨rfl, rfl, rfl⟩, rfl, trivial⟩, rfl, ⟨rfl, rfl, rfl⟩, ⟨rfl, rfl, rfl⟩, rfl, rfl, rfl, rfl, ⟨rfl, rfl, rfl⟩, rfl, trivial⟩, b163, ⟨rfl, rfl, rfl, rfl, rfl, rfl, rfl, rfl, rfl, rfl, rfl, rfl, rfl, rfl, rfl, rfl, rfl, rfl, rfl, rfl, rfl, rfl, rfl, rfl, rfl, rfl, rfl, rfl, rfl, rfl, rfl, rfl, trivial⟩, ⟨rfl, rfl, trivial⟩, ⟨rfl, rfl, rfl, rfl, rfl, rfl, rfl, rfl, rfl, rfl, rfl, rfl, rfl, rfl, rfl, rfl, rfl, rfl, rfl, rfl, rfl, rfl, rfl, rfl, rfl, rfl, rfl, rfl, rfl, rfl, rfl, rfl, trivial⟩, trivial⟩)⟩)⟩))⟩)⟩))), (fun x173 => have y242 := b244 x173; (fun k174 => have y241 := y242 k174; (have b240 := y241.2; ⟨y241.1, (have b238 := b240.2; ⟨b240.1, (fun x181 => have y236 := b238 x181; (fun k182 => have y235 := y236 k182; (have b234 := y235.2; ⟨y235.1, (have b232 := b234.2; ⟨b234.1, (have b230 := b232.2; ⟨(Exists.elim b232.1 fun x183 k184 => ⟨x183, (have b188 := k184.2; ⟨k184.1, trivial, ⟨b188, ⟨rfl, rfl, rfl⟩, rfl, rfl, rfl, rfl, ⟨rfl, rfl, rfl⟩, ⟨rfl, rfl, rfl⟩, rfl, rfl, ⟨rfl, rfl, rfl⟩, rfl, ⟨rfl, rfl, rfl, rfl, rfl, rfl, rfl, rfl, rfl, rfl, rfl, rfl, rfl, rfl, rfl, rfl, rfl, rfl, rfl, rfl, rfl, rfl, rfl, rfl, rfl, rfl, rfl, rfl, rfl, rfl, rfl, rfl, trivial⟩, rfl, ⟨rfl, rfl, rfl⟩, ⟨rfl, rfl, rfl⟩, ⟨⟨rfl, rfl, rfl, rfl, rfl, rfl, rfl, rfl, rfl, rfl, rfl, rfl, rfl, rfl, rfl, rfl, rfl, rfl, rfl, rfl, rfl, rfl, rfl, rfl, rfl, rfl, rfl, rfl, rfl, rfl, rfl, rfl, trivial⟩, rfl, trivial⟩, rfl, ⟨rfl, rfl, rfl⟩, rfl, ⟨rfl, rfl, rfl, rfl, rfl, rfl, rfl, rfl, rfl, rfl, rfl, rfl, rfl, rfl, rfl, rfl, rfl, rfl, rfl, rfl, rfl, rfl, rfl, rfl, rfl, rfl, rfl, rfl, rfl, rfl, rfl, rfl, trivial⟩, ⟨⟨rfl, rfl, rfl, rfl, rfl, rfl, rfl, rfl, rfl, rfl, rfl, rfl, rfl, rfl, rfl, rfl, rfl, rfl, rfl, rfl, rfl, rfl, rfl, rfl, rfl, rfl, rfl, rfl, rfl, rfl, rfl, rfl, trivial⟩, rfl, trivial⟩, rfl, ⟨rfl, rfl, rfl⟩, rfl, rfl, ⟨⟨rfl, rfl, rfl, rfl, rfl, rfl, rfl, rfl, rfl, rfl, rfl, rfl, rfl, rfl, rfl, rfl, rfl, rfl, rfl, rfl, rfl, rfl, rfl, rfl, rfl, rfl, rfl, rfl, rfl, rfl, rfl, rfl, trivial⟩, rfl, trivial⟩, rfl, ⟨rfl, rfl, rfl⟩, rfl, rfl, ⟨⟨rfl, rfl, rfl, rfl, rfl, rfl, rfl, rfl, rfl, rfl, rfl, rfl, rfl, rfl, rfl, rfl, rfl, rfl, rfl, rfl, rfl, rfl, rfl, rfl, rfl, rfl, rfl, rfl, rfl, rfl, rfl, rfl, trivial⟩, rfl, trivial⟩, ⟨rfl, rfl, rfl⟩, ⟨rfl, rfl, rfl, rfl, rfl, rfl, rfl, rfl, rfl, rfl, rfl, rfl, rfl, rfl, rfl, rfl, rfl, rfl, rfl, rfl, rfl, rfl, rfl, rfl, rfl, rfl, rfl, rfl, rfl, rfl, rfl, rfl, trivial⟩, rfl, rfl, rfl, ⟨rfl, rfl, rfl⟩, rfl, ⟨rfl, rfl, rfl⟩, rfl, rfl, ⟨rfl, rfl, rfl, rfl, rfl, rfl, rfl, rfl, rfl, rfl, rfl, rfl, rfl, rfl, rfl, rfl, rfl, rfl, rfl, rfl, rfl, rfl, rfl, rfl, rfl, rfl, rfl, rfl, rfl, rfl, rfl, rfl, trivial⟩, rfl, trivial⟩, ⟨rfl, rfl, rfl, rfl, rfl, rfl, rfl, rfl, rfl, rfl, rfl, rfl, rfl, rfl, rfl, rfl, rfl, rfl, rfl, rfl, rfl, rfl, rfl, rfl, rfl, rfl, rfl, rfl, rfl, rfl, rfl, rfl, trivial⟩, rfl, ⟨rfl, rfl, trivial⟩, ⟨rfl, rfl, rfl, rfl, rfl, rfl, rfl, rfl, rfl, rfl, rfl, rfl, rfl, rfl, rfl, rfl, rfl, rfl, rfl, rfl, rfl, rfl, rfl, rfl, rfl, rfl, rfl, rfl, rfl, rfl, rfl, rfl, trivial⟩, ⟨rfl, rfl, rfl, rfl, rfl, rfl, rfl, rfl, rfl, rfl, rfl, rfl, rfl, rfl, rfl, rfl, rfl, rfl, rfl, rfl, rfl, rfl, rfl, rfl, rfl, rfl, rfl, rfl, rfl, rfl, rfl, rfl, trivial⟩, trivial⟩)⟩), (fun x189 => have y227 := b230 x189; (fun k190 => have y226 := y227 k190; ⟨(fun k191 => have y224 := y226 (of_decide_eq_true k191); (have b223 := y224.2; ⟨y224.1, (have b221 := b223.2; ⟨b223.1, (have b219 := b221.2; ⟨b221.1, (fun x194 => have y217 := b219 x194; (fun k195 => have y216 := y217 k195; (have b215 := y216.2; ⟨y216.1, (fun x196 => have y213 := b215 x196; (fun k197 => have y212 := y213 k197; (have b211 := y212.2; ⟨y212.1, (have b209 := b211.2; ⟨b211.1, (fun x198 => have y207 := b209 x198; (fun k199 => have y206 := y207 k199; (Exists.elim y206 fun x200 k201 => ⟨x200, (have b205 := k201.2; ⟨k201.1, trivial, ⟨b205, ⟨rfl, rfl, rfl⟩, rfl, rfl, rfl, rfl, ⟨rfl, rfl, rfl⟩, ⟨rfl, rfl, rfl⟩, rfl, rfl, ⟨rfl, rfl, rfl⟩, rfl, ⟨rfl, rfl, rfl, rfl, rfl, rfl, rfl, rfl, rfl, rfl, rfl, rfl, rfl, rfl, rfl, rfl, rfl, rfl, rfl, rfl, rfl, rfl, rfl, rfl, rfl, rfl, rfl, rfl, rfl, rfl, rfl, rfl, trivial⟩, rfl, ⟨rfl, rfl, rfl⟩, ⟨rfl, rfl, rfl⟩, ⟨⟨rfl, rfl, rfl, rfl, rfl, rfl, rfl, rfl, rfl, rfl, rfl, rfl, rfl, rfl, rfl, rfl, rfl, rfl, rfl, rfl, rfl, rfl, rfl, rfl, rfl, rfl, rfl, rfl, rfl, rfl, rfl, rfl, trivial⟩, rfl, trivial⟩, rfl, ⟨rfl, rfl, rfl⟩, rfl, ⟨rfl, rfl, rfl, rfl, rfl, rfl, rfl, rfl, rfl, rfl, rfl, rfl, rfl, rfl, rfl, rfl, rfl, rfl, rfl, rfl, rfl, rfl, rfl, rfl, rfl, rfl, rfl, rfl, rfl, rfl, rfl, rfl, trivial⟩, ⟨⟨rfl, rfl, rfl, rfl, rfl, rfl, rfl, rfl, rfl, rfl, rfl, rfl, rfl, rfl, rfl, rfl, rfl, rfl, rfl, rfl, rfl, rfl, rfl, rfl, rfl, rfl, rfl, rfl, rfl, rfl, rfl, rfl, trivial⟩, rfl, trivial⟩, rfl, ⟨rfl, rfl, rfl⟩, rfl, rfl, ⟨⟨rfl, rfl, rfl, rfl, rfl, rfl, rfl, rfl, rfl, rfl, rfl, rfl, rfl, rfl, rfl, rfl, rfl, rfl, rfl, rfl, rfl, rfl, rfl, rfl, rfl, rfl, rfl, rfl, rfl, rfl, rfl, rfl, trivial⟩, rfl, trivial⟩, rfl, ⟨rfl, rfl, rfl⟩, rfl, rfl, ⟨⟨rfl, rfl, rfl, rfl, rfl, rfl, rfl, rfl, rfl, rfl, rfl, rfl, rfl, rfl, rfl, rfl, rfl, rfl, rfl, rfl, rfl, rfl, rfl, rfl, rfl, rfl, rfl, rfl, rfl, rfl, rfl, rfl, trivial⟩, rfl, trivial⟩, ⟨rfl, rfl, rfl⟩, ⟨rfl, rfl, rfl, rfl, rfl, rfl, rfl, rfl, rfl, rfl, rfl, rfl, rfl, rfl, rfl, rfl, rfl, rfl, rfl, rfl, rfl, rfl, rfl, rfl, rfl, rfl, rfl, rfl, rfl, rfl, rfl, rfl, trivial⟩, rfl, rfl, rfl, ⟨rfl, rfl, rfl⟩, rfl, ⟨rfl, rfl, rfl⟩, rfl, rfl, ⟨rfl, rfl, rfl, rfl, rfl, rfl, rfl, rfl, rfl, rfl, rfl, rfl, rfl, rfl, rfl, rfl, rfl, rfl, rfl, rfl, rfl, rfl, rfl, rfl, rfl, rfl, rfl, rfl, rfl, rfl, rfl, rfl, trivial⟩, rfl, trivial⟩, ⟨rfl, rfl, rfl, rfl, rfl, rfl, rfl, rfl, rfl, rfl, rfl, rfl, rfl, rfl, rfl, rfl, rfl, rfl, rfl, rfl, rfl, rfl, rfl, rfl, rfl, rfl, rfl, rfl, rfl, rfl, rfl, rfl, trivial⟩, rfl, ⟨rfl, rfl, trivial⟩, ⟨rfl, rfl, rfl, rfl, rfl, rfl, rfl, rfl, rfl, rfl, rfl, rfl, rfl, rfl, rfl, rfl, rfl, rfl, rfl, rfl, rfl, rfl, rfl, rfl, rfl, rfl, rfl, rfl, rfl, rfl, rfl, rfl, trivial⟩, ⟨rfl, rfl, rfl, rfl, rfl, rfl, rfl, rfl, rfl, rfl, rfl, rfl, rfl, rfl, rfl, rfl, rfl, rfl, rfl, rfl, rfl, rfl, rfl, rfl, rfl, rfl, rfl, rfl, rfl, rfl, rfl, rfl, trivial⟩, trivial⟩)⟩)))⟩)⟩)))⟩)))⟩)⟩)⟩)), (fun _ => ⟨(), trivial, trivial, ⟨⟨rfl, rfl, rfl⟩, rfl, rfl, rfl, rfl, ⟨rfl, rfl, rfl⟩, ⟨rfl, rfl, rfl⟩, rfl, rfl, ⟨rfl, rfl, rfl⟩, rfl, ⟨rfl, rfl, rfl, rfl, rfl, rfl, rfl, rfl, rfl, rfl, rfl, rfl, rfl, rfl, rfl, rfl, rfl, rfl, rfl, rfl, rfl, rfl, rfl, rfl, rfl, rfl, rfl, rfl, rfl, rfl, rfl, rfl, trivial⟩, rfl, ⟨rfl, rfl, rfl⟩, ⟨rfl, rfl, rfl⟩, ⟨⟨rfl, rfl, rfl, rfl, rfl, rfl, rfl, rfl, rfl, rfl, rfl, rfl, rfl, rfl, rfl, rfl, rfl, rfl, rfl, rfl, rfl, rfl, rfl, rfl, rfl, rfl, rfl, rfl, rfl, rfl, rfl, rfl, trivial⟩, rfl, trivial⟩, rfl, ⟨rfl, rfl, rfl⟩, rfl, ⟨rfl, rfl, rfl, rfl, rfl, rfl, rfl, rfl, rfl, rfl, rfl, rfl, rfl, rfl, rfl, rfl, rfl, rfl, rfl, rfl, rfl, rfl, rfl, rfl, rfl, rfl, rfl, rfl, rfl, rfl, rfl, rfl, trivial⟩, ⟨⟨rfl, rfl, rfl, rfl, rfl, rfl, rfl, rfl, rfl, rfl, rfl, rfl, rfl, rfl, rfl, rfl, rfl, rfl, rfl, rfl, rfl, rfl, rfl, rfl, rfl, rfl, rfl, rfl, rfl, rfl, rfl, rfl, trivial⟩, rfl, trivial⟩, rfl, ⟨rfl, rfl, rfl⟩, rfl, rfl, ⟨⟨rfl, rfl, rfl, rfl, rfl, rfl, rfl, rfl, rfl, rfl, rfl, rfl, rfl, rfl, rfl, rfl, rfl, rfl, rfl, rfl, rfl, rfl, rfl, rfl, rfl, rfl, rfl, rfl, rfl, rfl, rfl, rfl, trivial⟩, rfl, trivial⟩, rfl, ⟨rfl, rfl, rfl⟩, rfl, rfl, ⟨⟨rfl, rfl, rfl, rfl, rfl, rfl, rfl, rfl, rfl, rfl, rfl, rfl, rfl, rfl, rfl, rfl, rfl, rfl, rfl, rfl, rfl, rfl, rfl, rfl, rfl, rfl, rfl, rfl, rfl, rfl, rfl, rfl, trivial⟩, rfl, trivial⟩, ⟨rfl, rfl, rfl⟩, ⟨rfl, rfl, rfl, rfl, rfl, rfl, rfl, rfl, rfl, rfl, rfl, rfl, rfl, rfl, rfl, rfl, rfl, rfl, rfl, rfl, rfl, rfl, rfl, rfl, rfl, rfl, rfl, rfl, rfl, rfl, rfl, rfl, trivial⟩, rfl, rfl, rfl, ⟨rfl, rfl, rfl⟩, rfl, ⟨rfl, rfl, rfl⟩, rfl, rfl, ⟨rfl, rfl, rfl, rfl, rfl, rfl, rfl, rfl, rfl, rfl, rfl, rfl, rfl, rfl, rfl, rfl, rfl, rfl, rfl, rfl, rfl, rfl, rfl, rfl, rfl, rfl, rfl, rfl, rfl, rfl, rfl, rfl, trivial⟩, rfl, trivial⟩, ⟨rfl, rfl, rfl, rfl, rfl, rfl, rfl, rfl, rfl, rfl, rfl, rfl, rfl, rfl, rfl, rfl, rfl, rfl, rfl, rfl, rfl, rfl, rfl, rfl, rfl, rfl, rfl, rfl, rfl, rfl, rfl, rfl, trivial⟩, rfl, ⟨rfl, rfl, trivial⟩, ⟨rfl, rfl, rfl, rfl, rfl, rfl, rfl, rfl, rfl, rfl, rfl, rfl, rfl, rfl, rfl, rfl, rfl, rfl, rfl, rfl, rfl, rfl, rfl, rfl, rfl, rfl, rfl, rfl, rfl, rfl, rfl, rfl, trivial⟩, ⟨rfl, rfl, rfl, rfl, rfl, rfl, rfl, rfl, rfl, rfl, rfl, rfl, rfl, rfl, rfl, rfl, rfl, rfl, rfl, rfl, rfl, rfl, rfl, rfl, rfl, rfl, rfl, rfl, rfl, rfl, rfl, rfl, trivial⟩, trivial⟩)⟩)), (fun _ => (fun _ => rfl)), trivial⟩)⟩)⟩)))⟩)⟩))), trivial⟩)⟩)⟩)⟩)⟩)⟩)))⟩)))))⟩)⟩)))⟩)⟩)))))))))⟩)⟩)))))))⟩)))⟩)))))⟩)))⟩)))⟩)
theorem be4_be (n : Nat) : Pc.be 4 n = Wr.be4 n := by
  show [UInt8.ofNat (n / 256 / 256 / 256), UInt8.ofNat (n / 256 / 256), UInt8.ofNat (n / 256), UInt8.ofNat n] = _
  rw [show n / 256 / 256 / 256 = n / 16777216 by omega, show n / 256 / 256 = n / 65536 by omega]
  rfl
theorem few_mem {L : List (List UInt8)} {n : Nat} {p : List UInt8} (h : p ∈ fewL L n) : p.length ≤ 80 := by
  unfold fewL at h
  obtain ⟨q, _, rfl⟩ := List.mem_map.1 h
  rw [List.length_take]; omega
theorem getD_small {F : List (List UInt8)} (h : ∀ p ∈ F, p.length ≤ 80) (i : Nat) : (F.getD i []).length ≤ 80 := by
  rw [List.getD_eq_getElem?_getD]
  cases hg : F[i]? with
  | none => exact Nat.zero_le _
  | some p => exact h p (List.mem_of_getElem? hg)
theorem lay_next {lab : List UInt8} {F : List (List UInt8)} {i : Nat} (hi : i < F.length) : Ld.lay lab (F.take (i + 1)) = Ld.lay lab (F.take i) ++ Wr.be4 (F.getD i []).length ++ F.getD i [] := by
  have h1 : F[i]? = some (F.getD i []) := by rw [List.getD_eq_getElem?_getD, List.getElem?_eq_getElem hi]; rfl
  unfold Ld.lay Ld.many
  rw [List.take_add_one, h1, List.flatMap_append]
  simp [Ld.one]
theorem many_small : ∀ {F : List (List UInt8)}, (∀ p ∈ F, p.length ≤ 80) → (Ld.many F).length ≤ F.length * 84
  | [], _ => Nat.zero_le _
  | p :: F, h => by
    have := many_small (fun q hq => h q (List.mem_cons_of_mem _ hq))
    have hp := h p List.mem_cons_self
    have e : Ld.many (p :: F) = Wr.be4 p.length ++ p ++ Ld.many F := rfl
    rw [e, List.length_append, List.length_append, List.length_cons, show (Wr.be4 p.length).length = 4 from rfl]
    omega
theorem lay_small {lab : List UInt8} {F : List (List UInt8)} (hl : lab.length ≤ 40) (hF : F.length ≤ 6) (h : ∀ p ∈ F, p.length ≤ 80) : (Ld.lay lab F).length ≤ 600 := by
  have := many_small h
  unfold Ld.lay
  rw [List.length_append, List.length_append, Ld.be2_len]
  omega
theorem dec32 {x y : List UInt8} (h : x = y) : decB x y = true := by
  subst h
  simp [decB]
theorem el {α : Type} {a : α} {P : α → Prop} (h : P a) : ∀ x, x = a → P x := by rintro _ rfl; exact h
set_option maxHeartbeats 4000000 in
theorem sdf_ok {S lab : List UInt8} {L : List (List UInt8)} {n c1 c3 : Nat} {ty : TypeId} (hc : S.length ≤ c1) (h1 : 1 ≤ S.length) (h2 : S.length ≤ 64) (hlab : lab.length ≤ 9223372036854775807) (hL : L.length = n) (hn : n ≤ 9223372036854775807) (hp : ∀ p ∈ L, p.length ≤ 9223372036854775807) : sdf S lab L n c1 c3 ty := by
  refine sdf_of _ _ _ _ _ _ _ ?_
  unfold sdfS
  have hFl : (fewL L n).length = min n 6 := fewL_length L n (by omega)
  have hFm : ∀ p ∈ fewL L n, p.length ≤ 80 := fun p hp => few_mem hp
  generalize hF : fewL L n = F at *
  generalize hk : min n 6 = k at *
  have hk6 : k ≤ 6 := by omega
  generalize hlb : List.take (min lab.length 40) lab = lb at *
  have hlb40 : lb.length ≤ 40 := by rw [← hlb, List.length_take]; omega
  refine ⟨⟨hL, hn, fun p h => hp p h⟩, ?_⟩
  refine el ?_
  refine ⟨by omega, fun z hz => ⟨⟨by omega, by omega, by omega, Nat.le_refl _⟩, ?_⟩⟩
  have hzn : z.toNat - 0 = S.length := by omega
  rw [hzn, List.take_length]
  refine el ?_
  refine el ?_
  refine ⟨hlab, fun z1 hz1 => ⟨⟨by omega, by omega, by omega⟩, ?_⟩⟩
  have hz40 : z1.toNat = min lab.length 40 := by omega
  rw [hz40, hlb]
  refine el ?_
  refine el ?_
  refine el ?_
  refine ⟨⟨⟨by omega, by omega, fun p h => by have := hFm p h; omega⟩, by show 0 + S.length ≤ S.length; omega, h1, h2, by omega⟩, rfl, ?_⟩
  intro l6 hl6
  have e6 : l6 = hmac S (Ld.lay lb F) := hl6
  refine el ?_
  refine el ?_
  refine el ?_
  refine ⟨by omega, decide_eq_false (by omega), ?_⟩
  refine el ?_
  refine ⟨by omega, ⟨by omega, by omega, by omega, by omega⟩, ?_⟩
  have hmod : Int.toNat ((lb.length : Int) % (18446744073709551616 : Int)) = lb.length := by omega
  rw [hmod]
  refine el ?_
  refine el ?_
  have hbe2 : Pc.be 2 lb.length = Wr.be2 lb.length := rfl
  rw [hbe2]
  refine ⟨⟨by show 2 ≤ 2; omega, by omega⟩, ?_⟩
  intro l13 hl13
  have e13 : l13 = Ld.lay lb [] := by
    rw [hl13]
    show List.take 2 (Wr.be2 lb.length) ++ lb = Wr.be2 lb.length ++ lb ++ []
    rw [List.append_nil]; rfl
  have l13l : l13.length = 2 + lb.length := by rw [hl13]; simp [Wr.be2]; omega
  refine ⟨by omega, decide_eq_true (by omega), by omega, by rw [decide_eq_true (by omega)]; rfl, ⟨(0, l13), ⟨Nat.zero_le _, e13⟩, ⟨⟨rfl, by simp [in_i64]⟩, l13l, l13l⟩, rfl⟩, ⟨fun x hx => ⟨by omega, fun h => ?_, fun h => ?_⟩, fun y hy => ?_⟩⟩
  · obtain ⟨i, m⟩ := x
    obtain ⟨hx1, hx2⟩ := hx
    simp only at hx1 hx2 h ⊢
    have hik : i < k := by omega
    have hg := getD_small hFm i
    have hm : m.length ≤ 600 := by rw [hx2]; exact lay_small hlb40 (by rw [List.length_take]; omega) fun p hp => hFm p (List.mem_of_mem_take hp)
    rw [show 0 + i = i by omega]
    have hmod2 : Int.toNat (((F.getD i []).length : Int) % (18446744073709551616 : Int)) = (F.getD i []).length := by omega
    refine ⟨⟨by omega, h⟩, hik, by omega, ⟨by omega, by omega, by omega, by omega⟩, ?_⟩
    rw [hmod2, be4_be]
    refine el ?_
    refine ⟨⟨Nat.le_refl _, by show 0 + m.length ≤ m.length; omega, by omega⟩, ?_⟩
    rw [List.take_length]
    intro l15 hl15
    have hl15' : l15 = m ++ Wr.be4 (F.getD i []).length := hl15
    have l15l : l15.length = m.length + 4 := by rw [hl15', List.length_append, Ld.be4_len]
    refine ⟨⟨by omega, h⟩, hik, ⟨by show 0 + (m.length + 4) ≤ l15.length; omega, by omega⟩, ?_⟩
    rw [← l15l, List.take_length]
    intro l16 hl16
    refine ⟨by rw [in_i64]; omega, fun z' hz' => ⟨(i + 1, l16), ⟨by show k - (i + 1) < k - i; omega, by show i + 1 ≤ k; omega, ?_⟩, ⟨by show ((i + 1 : Nat) : Int) = z'; omega, ?_, ?_⟩, rfl⟩⟩
    · show l16 = Ld.lay lb (F.take (i + 1))
      rw [hl16, hl15', hx2, lay_next (by omega)]
    · show l16.length = _
      rw [hl16, List.length_append]
    · show l16.length = _
      rw [hl16, List.length_append]
  · obtain ⟨i, m⟩ := x
    obtain ⟨hx1, hx2⟩ := hx
    simp only at hx1 hx2 h ⊢
    obtain rfl : i = k := by omega
    rw [← hFl, List.take_length] at hx2
    exact ⟨m, hx2, ⟨rfl, rfl⟩, rfl⟩
  · have hyl : y.length ≤ 600 := by rw [hy]; exact lay_small hlb40 (by omega) hFm
    refine ⟨⟨⟨by omega, by show 0 + S.length ≤ S.length; omega, by omega⟩, by rw [List.take_length]; omega⟩, rfl, ?_⟩
    intro l14 hl14
    have e14 : l14 = l6 := by
      rw [e6]
      refine hl14.trans ?_
      show hmac S (List.take y.length y) = _
      rw [List.take_length, hy]
    refine ⟨by rw [dec32 e14.symm]; rfl, by omega, ⟨0, Nat.zero_le _, rfl, by simp [in_i64]⟩, fun x hx h => ?_⟩
    have hg := getD_small hFm x
    rw [show 0 + x = x by omega, e14]
    refine ⟨⟨by omega, h⟩, by omega, by omega, fun z' hz' => ⟨by omega, fun z2 hz2 => ⟨?_, by rw [in_i64]; omega, fun z3 hz3 => ⟨x + 1, ⟨by omega, by omega⟩, by omega⟩⟩⟩⟩
    rw [hz', hz2]
    exact decide_eq_false (fun h => h rfl)
end Go.Proofs.YtnhomnaamlbnpaaDoor.Sd
