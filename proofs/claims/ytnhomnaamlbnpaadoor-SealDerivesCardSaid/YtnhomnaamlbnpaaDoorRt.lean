/- the reference's Tag: the first eight bytes. By an AI agent. -/
import Derived.Test.YtnhomnaamlbnpaaDoorSg
import Derived.Test.YtnhomnaamlbnpaaDoorHk4
namespace Go.Proofs.YtnhomnaamlbnpaaDoor.Sr
open Go Go.RowKit Go.Proofs.YtnhomnaamlbnpaaDoor.Abs Go.Proofs.YtnhomnaamlbnpaaDoor.M Go.Proofs.YtnhomnaamlbnpaaDoor.Sha Go.Proofs.YtnhomnaamlbnpaaDoor.Rs Go.Proofs.YtnhomnaamlbnpaaDoor.Rm Go.Proofs.YtnhomnaamlbnpaaDoor.Ht Go.Proofs.YtnhomnaamlbnpaaDoor.Sg
set_option linter.unusedVariables false
set_option linter.unusedSimpArgs false
abbrev RTAG : FuncId := 14
noncomputable def lstOf (o : Option (OP × List UInt8)) : List UInt8 := match o with | some (_, l) => l | none => []
noncomputable def macM (RO : PT AObj) (args : List AVal) (st : St) : Option (List UInt8 × (List UInt8 → AVal)) := match args with
  | [k, x] => some (hmac (lstOf (srcS RO st k)) (lstOf (srcS RO st x)), fun l => .agg (dig l))
  | _ => none
noncomputable abbrev roB (L : List UInt8) : PT AObj := hp [(900, .sbytes L 5)]
noncomputable def rtW (K L : List UInt8) (cap : Nat) : Prop := nestW Tryd.prog (roB L) (hkAdd RHMAC (macR (roB L)) hkNone) { loop := loopsU [], cut := cutsU [], dig := digsU [(RHMAC, macM (roB L))] } RTAG [.agg (dig K), .sslice (900, 0) L.length cap true 1] [] (fun v _ => v = .sint .u64 ((Seal.tagOf K L : Nat) : Int))
/-- a byte of a row, as a number -/
abbrev b8 (l : List UInt8) (i : Nat) : Int := ((l.getD i 0).toNat : Int)
def back (l : List UInt8) : List UInt8 := (List.range 32).map fun i => UInt8.ofNat (Int.toNat (b8 l i))
--forms
def rtf (K L : List UInt8) (cap : Nat) : Prop :=
    ((0 + List.length L ≤ List.length L ∧ Nat.le 32 (List.length (back K)) ∧ List.length (List.take 32 (List.drop 0 (back K))) ≤ 50000) ∧ List.length (List.take (List.length L) (List.drop 0 L)) ≤ 50000) ∧ AVal.agg (dig (hmac (List.take 32 (List.drop 0 (back K))) (List.take (List.length L) (List.drop 0 L)))) = AVal.agg (dig (hmac (lstOf (Option.some (Option.some (32 ≤ List.length (back K)), List.take 32 (List.drop 0 (back K))))) (lstOf (Option.some (Option.some (0 + List.length L ≤ List.length L), List.take (List.length L) (List.drop 0 L)))))) ∧ ∀ (l' : List UInt8), l' = hmac (lstOf (Option.some (Option.some (32 ≤ List.length (back K)), List.take 32 (List.drop 0 (back K))))) (lstOf (Option.some (Option.some (0 + List.length L ≤ List.length L), List.take (List.length L) (List.drop 0 L)))) →
    ∀ (z' : Int), z' = ((0 : Int) + (b8 l' 0)) % (18446744073709551616 : Int) →
    ∀ (z1 : Int), z1 = (256 : Int) * z' % (18446744073709551616 : Int) →
    ∀ (z' : Int), z' = (z1 + (b8 l' 1)) % (18446744073709551616 : Int) →
    ∀ (z2 : Int), z2 = (256 : Int) * z' % (18446744073709551616 : Int) →
    ∀ (z' : Int), z' = (z2 + (b8 l' 2)) % (18446744073709551616 : Int) →
    ∀ (z3 : Int), z3 = (256 : Int) * z' % (18446744073709551616 : Int) →
    ∀ (z' : Int), z' = (z3 + (b8 l' 3)) % (18446744073709551616 : Int) →
    ∀ (z4 : Int), z4 = (256 : Int) * z' % (18446744073709551616 : Int) →
    ∀ (z' : Int), z' = (z4 + (b8 l' 4)) % (18446744073709551616 : Int) →
    ∀ (z5 : Int), z5 = (256 : Int) * z' % (18446744073709551616 : Int) →
    ∀ (z' : Int), z' = (z5 + (b8 l' 5)) % (18446744073709551616 : Int) →
    ∀ (z6 : Int), z6 = (256 : Int) * z' % (18446744073709551616 : Int) →
    ∀ (z' : Int), z' = (z6 + (b8 l' 6)) % (18446744073709551616 : Int) →
    ∀ (z7 : Int), z7 = (256 : Int) * z' % (18446744073709551616 : Int) →
    ∀ (z' : Int), z' = (z7 + (b8 l' 7)) % (18446744073709551616 : Int) →
    AVal.sint IntKind.u64 z' = AVal.sint IntKind.u64 (↑(Go.Proofs.YtnhomnaamlbnpaaDoor.Seal.tagOf K L) : Int)
theorem rtf_eq (K L : List UInt8) (cap : Nat) : rtW K L cap = rtf K L cap := by kernel_rfl
def rtfS (K L : List UInt8) (cap : Nat) : Prop :=
    ((0 + List.length L ≤ List.length L ∧ Nat.le 32 (List.length (back K)) ∧ List.length (List.take 32 (List.drop 0 (back K))) ≤ 50000) ∧ List.length (List.take (List.length L) (List.drop 0 L)) ≤ 50000) ∧ AVal.agg (dig (hmac (List.take 32 (List.drop 0 (back K))) (List.take (List.length L) (List.drop 0 L)))) = AVal.agg (dig (hmac (lstOf (Option.some (Option.some (32 ≤ List.length (back K)), List.take 32 (List.drop 0 (back K))))) (lstOf (Option.some (Option.some (0 + List.length L ≤ List.length L), List.take (List.length L) (List.drop 0 L)))))) ∧ ∀ (l' : List UInt8), l' = hmac (lstOf (Option.some (Option.some (32 ≤ List.length (back K)), List.take 32 (List.drop 0 (back K))))) (lstOf (Option.some (Option.some (0 + List.length L ≤ List.length L), List.take (List.length L) (List.drop 0 L)))) →
    ∀ (z' : Int), z' = ((0 : Int) + (b8 l' 0)) % (18446744073709551616 : Int) →
    ∀ (z1 : Int), z1 = (256 : Int) * z' % (18446744073709551616 : Int) →
    ∀ (z' : Int), z' = (z1 + (b8 l' 1)) % (18446744073709551616 : Int) →
    ∀ (z2 : Int), z2 = (256 : Int) * z' % (18446744073709551616 : Int) →
    ∀ (z' : Int), z' = (z2 + (b8 l' 2)) % (18446744073709551616 : Int) →
    ∀ (z3 : Int), z3 = (256 : Int) * z' % (18446744073709551616 : Int) →
    ∀ (z' : Int), z' = (z3 + (b8 l' 3)) % (18446744073709551616 : Int) →
    ∀ (z4 : Int), z4 = (256 : Int) * z' % (18446744073709551616 : Int) →
    ∀ (z' : Int), z' = (z4 + (b8 l' 4)) % (18446744073709551616 : Int) →
    ∀ (z5 : Int), z5 = (256 : Int) * z' % (18446744073709551616 : Int) →
    ∀ (z' : Int), z' = (z5 + (b8 l' 5)) % (18446744073709551616 : Int) →
    ∀ (z6 : Int), z6 = (256 : Int) * z' % (18446744073709551616 : Int) →
    ∀ (z' : Int), z' = (z6 + (b8 l' 6)) % (18446744073709551616 : Int) →
    ∀ (z7 : Int), z7 = (256 : Int) * z' % (18446744073709551616 : Int) →
    ∀ (z' : Int), z' = (z7 + (b8 l' 7)) % (18446744073709551616 : Int) →
    AVal.sint IntKind.u64 z' = AVal.sint IntKind.u64 (↑(Go.Proofs.YtnhomnaamlbnpaaDoor.Seal.tagOf K L) : Int)
theorem rtf_of (K L : List UInt8) (cap : Nat) (hS0 : rtfS K L cap) : rtf K L cap := by
  unfold rtfS at hS0
  unfold rtf
  exact hS0
theorem b8_back (l : List UInt8) (i : Nat) : UInt8.ofNat (Int.toNat (b8 l i)) = l.getD i 0 := by
  show UInt8.ofNat (Int.toNat ((l.getD i 0).toNat : Int)) = _
  rw [Int.toNat_natCast, UInt8.ofNat_toNat]
theorem back_eq {l : List UInt8} (h : l.length = 32) : back l = l := by
  apply List.ext_getElem
  · simp [back, h]
  · intro i h1 h2
    simp only [back, List.getElem_map, List.getElem_range]
    rw [b8_back, List.getD_eq_getElem?_getD, List.getElem?_eq_getElem h2]
    rfl
theorem take8 {l : List UInt8} (h : l.length = 32) : l.take 8 = [l.getD 0 0, l.getD 1 0, l.getD 2 0, l.getD 3 0, l.getD 4 0, l.getD 5 0, l.getD 6 0, l.getD 7 0] := by
  apply List.ext_getElem
  · simp [h]
  · intro i h1 h2
    rw [List.getElem_take]
    have hi : i < 8 := h2
    have e : l[i]'(by omega) = l.getD i 0 := by rw [List.getD_eq_getElem?_getD, List.getElem?_eq_getElem]; rfl
    rw [e]
    rcases (by omega : i = 0 ∨ i = 1 ∨ i = 2 ∨ i = 3 ∨ i = 4 ∨ i = 5 ∨ i = 6 ∨ i = 7) with rfl | rfl | rfl | rfl | rfl | rfl | rfl | rfl <;> rfl
theorem b8_lt (l : List UInt8) (i : Nat) : 0 ≤ b8 l i ∧ b8 l i ≤ 255 := by
  have : (l.getD i 0).toNat < 256 := (l.getD i 0).toNat_lt
  show 0 ≤ (((l.getD i 0).toNat : Nat) : Int) ∧ (((l.getD i 0).toNat : Nat) : Int) ≤ 255
  omega
theorem num8 {l : List UInt8} (h : l.length = 32) : ((Rd.numOf (l.take 8) : Nat) : Int) = ((((((((0 * 256 + b8 l 0) * 256 + b8 l 1) * 256 + b8 l 2) * 256 + b8 l 3) * 256 + b8 l 4) * 256 + b8 l 5) * 256 + b8 l 6) * 256 + b8 l 7) := by
  rw [take8 h]
  show ((((((((((0 * 256 + (l.getD 0 0).toNat) * 256 + (l.getD 1 0).toNat) * 256 + (l.getD 2 0).toNat) * 256 + (l.getD 3 0).toNat) * 256 + (l.getD 4 0).toNat) * 256 + (l.getD 5 0).toNat) * 256 + (l.getD 6 0).toNat) * 256 + (l.getD 7 0).toNat : Nat)) : Int) = _
  show _ = ((((((((0 * 256 + ((l.getD 0 0).toNat : Int)) * 256 + ((l.getD 1 0).toNat : Int)) * 256 + ((l.getD 2 0).toNat : Int)) * 256 + ((l.getD 3 0).toNat : Int)) * 256 + ((l.getD 4 0).toNat : Int)) * 256 + ((l.getD 5 0).toNat : Int)) * 256 + ((l.getD 6 0).toNat : Int)) * 256 + ((l.getD 7 0).toNat : Int))
  omega
theorem rtf_ok {K L : List UInt8} {cap : Nat} (hK : K.length = 32) (hL : L.length ≤ 50000) (hc : L.length ≤ cap) : rtf K L cap := by
  refine rtf_of _ _ _ ?_
  unfold rtfS
  refine ⟨⟨⟨by omega, Nat.le_refl 32, by rw [List.length_take]; omega⟩, by rw [List.length_take]; omega⟩, rfl, fun l' hl' => ?_⟩
  have hl : l' = hmac K L := hl'.trans (by
    show hmac (List.take 32 (List.drop 0 (back K))) (List.take L.length (List.drop 0 L)) = _
    rw [back_eq hK, List.drop_zero, List.drop_zero, List.take_length, ← hK, List.take_length])
  have h32 : l'.length = 32 := by rw [hl]; exact sha_length _
  have n8 := num8 h32
  have t8 : ((Seal.tagOf K L : Nat) : Int) = ((Rd.numOf (l'.take 8) : Nat) : Int) := by rw [hl]; rfl
  rw [t8, n8]
  clear hl hl' n8 t8
  have c0 := b8_lt l' 0
  have c1 := b8_lt l' 1
  have c2 := b8_lt l' 2
  have c3 := b8_lt l' 3
  have c4 := b8_lt l' 4
  have c5 := b8_lt l' 5
  have c6 := b8_lt l' 6
  have c7 := b8_lt l' 7
  generalize b8 l' 0 = x0 at *
  generalize b8 l' 1 = x1 at *
  generalize b8 l' 2 = x2 at *
  generalize b8 l' 3 = x3 at *
  generalize b8 l' 4 = x4 at *
  generalize b8 l' 5 = x5 at *
  generalize b8 l' 6 = x6 at *
  generalize b8 l' 7 = x7 at *
  intro a0 ha0 a1 ha1 a2 ha2 a3 ha3 a4 ha4 a5 ha5 a6 ha6 a7 ha7 a8 ha8 a9 ha9 a10 ha10 a11 ha11 a12 ha12 a13 ha13 a14 ha14
  congr 1
  omega
set_option maxRecDepth 100000 in
theorem rtag_any {w : World} {S : Nat → Prop} {v : Value} {K L : List UInt8} (hK : K.length = 32) (hL : L.length ≤ 50000) (hv : Byts w S v L) (hT : FTab w) :
    Calls Tryd.prog RTAG #[.agg (K.map cell8).toArray, v] w fun e w' => e = .returned (.int .u64 ((Seal.tagOf K L : Nat) : Int)) ∧ Below w.heap.size w w' := by
  obtain ⟨g1, c1, m1, hrel1, hobj1⟩ := lay_bytes hv
  have hφ : ∀ {w0 : World}, Fresh0 (phiOf [(900, g1)]) 1000 w0 := phiOf_high (by rfl)
  have hro : RRel w (phiOf [(900, g1)]) (roB L) := by
    refine rrel_of fun x o hx => ?_
    simp only [List.mem_cons, List.not_mem_nil, or_false, Prod.mk.injEq] at hx
    obtain ⟨rfl, rfl⟩ := hx
    rcases hobj1 (phiOf [(900, g1)]) 5 with hb | ⟨u, e1, e2, e3⟩
    · exact .inl ⟨hb, Nat.le_refl _⟩
    · exact .inr ⟨g1.1, g1.2.1, g1.2.2, u, rfl, fun h => absurd h (by omega), e1, e2, e3⟩
  have r1 := hrel1 (phiOf [(900, g1)]) 900 rfl
  have hF := rtf_ok hK hL (cap_of r1)
  rw [← rtf_eq] at hF
  refine (nest_run follows named (hkAdd_ok (macR_ok _ hT) hkNone_ok) (rolow_of (by rfl)) hF hφ hro (us := [.agg (K.map cell8).toArray, v]) (.cons _ _ _ _ (dig_rel _ hK) (.cons _ _ _ _ r1 .nil))).mono fun e w' he => ?_
  obtain ⟨u, a, st', rfl, rfl, ψ, k1, k2, _⟩ := he
  cases k1
  exact ⟨rfl, k2.below⟩
/-- as a hook -/
theorem rtagH_ok {w0 : World} {RO : PT AObj} (hT : FTab w0) : Call1Ok Tryd.prog w0 RO RTAG (fun args st => got (tagH RO args st)) := by
  intro args st v st' h
  obtain ⟨ob, h, hob⟩ := got_some h
  unfold tagH at h
  split at h
  · rename_i ks x
    split at h
    · rename_i kl op l hk hl
      cases hb : Nat.beq kl.length 32 with
      | false => rw [hb] at h; cases h
      | true =>
      rw [hb] at h
      cases h
      have hlen := Nat.eq_of_beq_eq_true hb
      obtain ⟨h1, h2⟩ := Abs.andP_some hob
      refine ⟨.refl _, ⟨_, rfl, rfl, by kernel_rfl⟩, fun φ us w hus hw hr => ?_⟩
      cases hus with
      | cons _ u _ us e1 e2 => cases e2 with
        | cons _ u2 _ us e3 e4 => cases e4 with
          | nil =>
          cases e1 with
          | agg _ c hc =>
          have hcc := kcells_ok hk hc
          obtain rfl : c = (kl.map cell8).toArray := by rw [← hcc]
          refine (rtag_any hlen h2 (srcS_byts hl h1 e3 hw hr (by unfold maxLen; omega)) (hT.below hw.below)).mono fun e w' he => ?_
          obtain ⟨rfl, hb⟩ := he
          refine ⟨_, rfl, quiet_ok hw hb (.sint _ _ ?_)⟩
          rw [in_u64]
          have := tag_lt kl l
          omega
    · cases h
  · cases h
/-- 32 bytes of two rows are the same; are 0 (with and without the True that ends what the tool prints) -/
abbrev same (x y : List UInt8) : Prop := b8 x 0 = b8 y 0 ∧ b8 x 1 = b8 y 1 ∧ b8 x 2 = b8 y 2 ∧ b8 x 3 = b8 y 3 ∧ b8 x 4 = b8 y 4 ∧ b8 x 5 = b8 y 5 ∧ b8 x 6 = b8 y 6 ∧ b8 x 7 = b8 y 7 ∧ b8 x 8 = b8 y 8 ∧ b8 x 9 = b8 y 9 ∧ b8 x 10 = b8 y 10 ∧ b8 x 11 = b8 y 11 ∧ b8 x 12 = b8 y 12 ∧ b8 x 13 = b8 y 13 ∧ b8 x 14 = b8 y 14 ∧ b8 x 15 = b8 y 15 ∧ b8 x 16 = b8 y 16 ∧ b8 x 17 = b8 y 17 ∧ b8 x 18 = b8 y 18 ∧ b8 x 19 = b8 y 19 ∧ b8 x 20 = b8 y 20 ∧ b8 x 21 = b8 y 21 ∧ b8 x 22 = b8 y 22 ∧ b8 x 23 = b8 y 23 ∧ b8 x 24 = b8 y 24 ∧ b8 x 25 = b8 y 25 ∧ b8 x 26 = b8 y 26 ∧ b8 x 27 = b8 y 27 ∧ b8 x 28 = b8 y 28 ∧ b8 x 29 = b8 y 29 ∧ b8 x 30 = b8 y 30 ∧ b8 x 31 = b8 y 31
abbrev sameT (x y : List UInt8) : Prop := b8 x 0 = b8 y 0 ∧ b8 x 1 = b8 y 1 ∧ b8 x 2 = b8 y 2 ∧ b8 x 3 = b8 y 3 ∧ b8 x 4 = b8 y 4 ∧ b8 x 5 = b8 y 5 ∧ b8 x 6 = b8 y 6 ∧ b8 x 7 = b8 y 7 ∧ b8 x 8 = b8 y 8 ∧ b8 x 9 = b8 y 9 ∧ b8 x 10 = b8 y 10 ∧ b8 x 11 = b8 y 11 ∧ b8 x 12 = b8 y 12 ∧ b8 x 13 = b8 y 13 ∧ b8 x 14 = b8 y 14 ∧ b8 x 15 = b8 y 15 ∧ b8 x 16 = b8 y 16 ∧ b8 x 17 = b8 y 17 ∧ b8 x 18 = b8 y 18 ∧ b8 x 19 = b8 y 19 ∧ b8 x 20 = b8 y 20 ∧ b8 x 21 = b8 y 21 ∧ b8 x 22 = b8 y 22 ∧ b8 x 23 = b8 y 23 ∧ b8 x 24 = b8 y 24 ∧ b8 x 25 = b8 y 25 ∧ b8 x 26 = b8 y 26 ∧ b8 x 27 = b8 y 27 ∧ b8 x 28 = b8 y 28 ∧ b8 x 29 = b8 y 29 ∧ b8 x 30 = b8 y 30 ∧ b8 x 31 = b8 y 31 ∧ True
abbrev zero (x : List UInt8) : Prop := (b8 x 0 = (0 : Int) ∧ inR .u8 (b8 x 0)) ∧ (b8 x 1 = (0 : Int) ∧ inR .u8 (b8 x 1)) ∧ (b8 x 2 = (0 : Int) ∧ inR .u8 (b8 x 2)) ∧ (b8 x 3 = (0 : Int) ∧ inR .u8 (b8 x 3)) ∧ (b8 x 4 = (0 : Int) ∧ inR .u8 (b8 x 4)) ∧ (b8 x 5 = (0 : Int) ∧ inR .u8 (b8 x 5)) ∧ (b8 x 6 = (0 : Int) ∧ inR .u8 (b8 x 6)) ∧ (b8 x 7 = (0 : Int) ∧ inR .u8 (b8 x 7)) ∧ (b8 x 8 = (0 : Int) ∧ inR .u8 (b8 x 8)) ∧ (b8 x 9 = (0 : Int) ∧ inR .u8 (b8 x 9)) ∧ (b8 x 10 = (0 : Int) ∧ inR .u8 (b8 x 10)) ∧ (b8 x 11 = (0 : Int) ∧ inR .u8 (b8 x 11)) ∧ (b8 x 12 = (0 : Int) ∧ inR .u8 (b8 x 12)) ∧ (b8 x 13 = (0 : Int) ∧ inR .u8 (b8 x 13)) ∧ (b8 x 14 = (0 : Int) ∧ inR .u8 (b8 x 14)) ∧ (b8 x 15 = (0 : Int) ∧ inR .u8 (b8 x 15)) ∧ (b8 x 16 = (0 : Int) ∧ inR .u8 (b8 x 16)) ∧ (b8 x 17 = (0 : Int) ∧ inR .u8 (b8 x 17)) ∧ (b8 x 18 = (0 : Int) ∧ inR .u8 (b8 x 18)) ∧ (b8 x 19 = (0 : Int) ∧ inR .u8 (b8 x 19)) ∧ (b8 x 20 = (0 : Int) ∧ inR .u8 (b8 x 20)) ∧ (b8 x 21 = (0 : Int) ∧ inR .u8 (b8 x 21)) ∧ (b8 x 22 = (0 : Int) ∧ inR .u8 (b8 x 22)) ∧ (b8 x 23 = (0 : Int) ∧ inR .u8 (b8 x 23)) ∧ (b8 x 24 = (0 : Int) ∧ inR .u8 (b8 x 24)) ∧ (b8 x 25 = (0 : Int) ∧ inR .u8 (b8 x 25)) ∧ (b8 x 26 = (0 : Int) ∧ inR .u8 (b8 x 26)) ∧ (b8 x 27 = (0 : Int) ∧ inR .u8 (b8 x 27)) ∧ (b8 x 28 = (0 : Int) ∧ inR .u8 (b8 x 28)) ∧ (b8 x 29 = (0 : Int) ∧ inR .u8 (b8 x 29)) ∧ (b8 x 30 = (0 : Int) ∧ inR .u8 (b8 x 30)) ∧ b8 x 31 = (0 : Int) ∧ inR .u8 (b8 x 31)
abbrev decB (x y : List UInt8) : Bool := (decide (b8 x 0 = b8 y 0) && (decide (b8 x 1 = b8 y 1) && (decide (b8 x 2 = b8 y 2) && (decide (b8 x 3 = b8 y 3) && (decide (b8 x 4 = b8 y 4) && (decide (b8 x 5 = b8 y 5) && (decide (b8 x 6 = b8 y 6) && (decide (b8 x 7 = b8 y 7) && (decide (b8 x 8 = b8 y 8) && (decide (b8 x 9 = b8 y 9) && (decide (b8 x 10 = b8 y 10) && (decide (b8 x 11 = b8 y 11) && (decide (b8 x 12 = b8 y 12) && (decide (b8 x 13 = b8 y 13) && (decide (b8 x 14 = b8 y 14) && (decide (b8 x 15 = b8 y 15) && (decide (b8 x 16 = b8 y 16) && (decide (b8 x 17 = b8 y 17) && (decide (b8 x 18 = b8 y 18) && (decide (b8 x 19 = b8 y 19) && (decide (b8 x 20 = b8 y 20) && (decide (b8 x 21 = b8 y 21) && (decide (b8 x 22 = b8 y 22) && (decide (b8 x 23 = b8 y 23) && (decide (b8 x 24 = b8 y 24) && (decide (b8 x 25 = b8 y 25) && (decide (b8 x 26 = b8 y 26) && (decide (b8 x 27 = b8 y 27) && (decide (b8 x 28 = b8 y 28) && (decide (b8 x 29 = b8 y 29) && (decide (b8 x 30 = b8 y 30) && (decide (b8 x 31 = b8 y 31) && true))))))))))))))))))))))))))))))))
end Go.Proofs.YtnhomnaamlbnpaaDoor.Sr
