/- The walk of ScribeBits. By an AI agent. -/
import Derived.Test.YtbpkpkellnldmaaOpen
import Derived.Test.YtbpkpkellnldmaaWakes
import Derived.Test.YtbpkpkellnldmaaApp
import Derived.Test.YtbpkpkellnldmaaLin
namespace Go.Proofs.Ytbpkpkellnldmaa.Walks
open Go.RowKit Go.Proofs.Ytbpkpkellnldmaa.M Go.Proofs.Ytbpkpkellnldmaa.Open Go.Proofs.Ytbpkpkellnldmaa.Pc Go.Proofs.Ytbpkpkellnldmaa.Wr Go.Proofs.Ytbpkpkellnldmaa.Byt
set_option linter.unusedVariables false

/-- the byte i of a number of four, the highest first -/
def byteAt (y i : Nat) : UInt8 := UInt8.ofNat (y / 2 ^ (24 - 8 * i))
/-- the row, its bytes from k on turned by the first i bytes of y -/
def turned (l : List UInt8) (k y i : Nat) : List UInt8 := (List.range l.length).map fun j => if k ≤ j ∧ j < k + i then l.getD j 0 ^^^ byteAt y (j - k) else l.getD j 0
theorem turned_length (l : List UInt8) (k y i : Nat) : (turned l k y i).length = l.length := by simp [turned]
theorem turned_zero (l : List UInt8) (k y : Nat) : turned l k y 0 = l := by
  unfold turned
  apply List.ext_getElem
  · simp
  · intro j h1 h2
    simp at h1
    simp only [List.getElem_map, List.getElem_range]
    rw [if_neg (by omega)]
    simp [List.getD, h1]
theorem turned_succ (l : List UInt8) (k y i : Nat) (h : k + i < l.length) : turned l k y (i + 1) = (turned l k y i).set (k + i) (l.getD (k + i) 0 ^^^ byteAt y i) := by
  apply List.ext_getElem
  · simp [turned]
  · intro j h1 h2
    simp [turned] at h1
    rw [List.getElem_set]
    simp only [turned, List.getElem_map, List.getElem_range]
    by_cases hj : k + i = j
    · subst hj
      simp
    · rw [if_neg hj]
      by_cases hc : k ≤ j ∧ j < k + i
      · rw [if_pos hc, if_pos (by omega)]
      · rw [if_neg hc, if_neg (by omega)]
theorem turned_at (l : List UInt8) (k y i : Nat) (h : k + i < l.length) : (turned l k y i)[k + i]? = some (l.getD (k + i) 0) := by
  simp [turned, h]

theorem turned_four (a z : List UInt8) (b0 b1 b2 b3 : UInt8) (k y : Nat) (hk : a.length = k) :
    turned (a ++ ([b0, b1, b2, b3] ++ z)) k y 4 = a ++ ([b0 ^^^ byteAt y 0, b1 ^^^ byteAt y 1, b2 ^^^ byteAt y 2, b3 ^^^ byteAt y 3] ++ z) := by
  subst hk
  rw [turned_succ _ _ _ 3 (by simp), turned_succ _ _ _ 2 (by simp), turned_succ _ _ _ 1 (by simp), turned_succ _ _ _ 0 (by simp), turned_zero]
  simp [List.set_append, List.getD, List.getElem?_append]
theorem split_four (B : List UInt8) (k : Nat) (h : k + 4 ≤ B.length) : ∃ a z b0 b1 b2 b3, a.length = k ∧ B = a ++ ([b0, b1, b2, b3] ++ z) := by
  refine ⟨B.take k, B.drop (k + 4), B[k], B[k + 1], B[k + 2], B[k + 3], by rw [List.length_take]; omega, ?_⟩
  conv => lhs; rw [← List.take_append_drop k B]
  congr 1
  rw [List.drop_eq_getElem_cons (by omega), List.drop_eq_getElem_cons (by omega), List.drop_eq_getElem_cons (by omega), List.drop_eq_getElem_cons (by omega)]
  rfl
theorem byteAt_zero {y : Nat} (hy : y < 4294967296) (h0 : byteAt y 0 = 0) (h1 : byteAt y 1 = 0) (h2 : byteAt y 2 = 0) (h3 : byteAt y 3 = 0) : y = 0 := by
  have f : ∀ i, byteAt y i = 0 → y / 2 ^ (24 - 8 * i) % 256 = 0 := fun i h => by
    have := congrArg UInt8.toNat h
    unfold byteAt at this
    rw [UInt8.toNat_ofNat'] at this
    simpa using this
  have g0 := f 0 h0
  have g1 := f 1 h1
  have g2 := f 2 h2
  have g3 := f 3 h3
  simp at g0 g1 g2 g3
  omega
theorem bits_law (B : List UInt8) (k y : Nat) (h : k + 4 ≤ B.length) (hy : y < 4294967296) : (((Crc.crc B : Int) == (Crc.crc (turned B k y 4) : Int)) == ((y : Int) == 0)) = true := by
  obtain ⟨a, z, b0, b1, b2, b3, ha, rfl⟩ := split_four B k h
  rw [turned_four a z b0 b1 b2 b3 k y ha]
  by_cases h0 : y = 0
  · subst h0
    have e : ∀ i, byteAt 0 i = 0 := fun i => by unfold byteAt; simp
    simp [e]
  · have hne : Crc.crc (a ++ ([b0, b1, b2, b3] ++ z)) ≠ Crc.crc (a ++ ([b0 ^^^ byteAt y 0, b1 ^^^ byteAt y 1, b2 ^^^ byteAt y 2, b3 ^^^ byteAt y 3] ++ z)) := fun e => by
      obtain ⟨d0, d1, d2, d3⟩ := Crc.crc_differs a z b0 b1 b2 b3 _ _ _ _ e
      exact h0 (byteAt_zero hy d0 d1 d2 d3)
    have e1 : ((Crc.crc (a ++ ([b0, b1, b2, b3] ++ z)) : Int) == (Crc.crc (a ++ ([b0 ^^^ byteAt y 0, b1 ^^^ byteAt y 1, b2 ^^^ byteAt y 2, b3 ^^^ byteAt y 3] ++ z)) : Int)) = false := by rw [beq_eq_false_iff_ne]; omega
    have e2 : ((y : Int) == 0) = false := by rw [beq_eq_false_iff_ne]; omega
    rw [e1, e2]
    rfl

set_option maxRecDepth 100000 in
set_option maxHeartbeats 4000000 in
theorem scribeBits (w : World) (v0 v1 v2 : Value) (h0 : InBytes w v0) (h1 : InNat .u16 65536 v1) (h2 : InNat .u32 4294967296 v2) :
    Calls Try.prog 7 #[v0, v1, v2] w fun e w' => e = .returned (.bool true) ∧ Below w.heap.size w w' := by
  obtain ⟨l0, hl0⟩ := h0
  obtain ⟨at_, rfl, hat⟩ := h1
  obtain ⟨y, rfl, hy⟩ := h2
  obtain ⟨A0, c0, rfl, hnc0, hm0, _⟩ := hl0.row
  obtain ⟨i0, hi0, hz0, hz1, hz2'⟩ := info_parts infoByte
  unfold maxLen at hm0
  have hmin : (min (l0.length : Int) 300) = ((min l0.length 300 : Nat) : Int) := by omega
  have hx1 : (0 : Int) ≤ ((min l0.length 300 : Nat) : Int) := by omega
  have hx2 : ((min l0.length 300 : Nat) : Int) ≤ (c0 : Int) := by omega
  go_enter Try.func7, Try.ntmps7
  go_wp2_with fail
  have hL := hl0.take_ (k := min l0.length 300) (by omega)
  have hLl : (l0.take (min l0.length 300)).length = min l0.length 300 := hL.len
  have hLb : min l0.length 300 ≤ 300 := by omega
  generalize l0.take (min l0.length 300) = L at *
  generalize min l0.length 300 = m0 at *
  subst hLl
  refine (clone_own _ L _ w hL (by omega)).mono ?_
  rintro e w1 ⟨v1, rfl, hown1, hb1⟩
  have hz1' := hb1.size
  have hlen4 : L.length + 4 ≤ maxLen := by unfold maxLen; omega
  have hlen4' : (L.length + 4) * 1 ≤ 140737488355328 := by omega
  have hnew := sl_of_byts (byts_new (fr := (0, 0)) w1 #[.int .u8 0, .int .u8 0, .int .u8 0, .int .u8 0] 5 [0, 0, 0, 0] 4 (by simp [maxLen]) (by rfl))
  have HN := Lib.hid hnew
  have HO := Lib.hid hown1
  clear hnew hown1
  go_wp2_with (at_builtin; refine wpList_append_sl _ rfl (.tmp 15) (.tmp 16) _ rfl w.heap.size _ i0 _ 1 1 Try.underlying27 hi0 hz0 hz1 hz2' rfl (by omega) v1 L.length _ rfl (HO.out.alloc _) _ _ 4 _ rfl HN.out (oneCell_bytes _) hlen4 hlen4' (by simp; omega) ?_; intro v2 w2 hown2 hg2 hat2)
  have hb2 : Below w.heap.size w w2 := (hb1.alloc hz1' _).grown hg2 (by simp; omega) (fun g e => (HO.out.lt g e).1)
  have hown2' : w2.ownsRow w.heap.size 5 1 v2 (L.length + 4) ((L ++ [0, 0, 0, 0] : List UInt8).map fun b : UInt8 => Value.int .u8 (b.toNat : Int)) := by rw [List.map_append]; exact hown2
  have hB2 := byts_of_own (l := (L ++ [0, 0, 0, 0] : List UInt8)) hown2' rfl
  have hBl : (L ++ [0, 0, 0, 0] : List UInt8).length = L.length + 4 := by simp
  generalize (L ++ [0, 0, 0, 0] : List UInt8) = B at *
  clear hown2 hg2 hat2 HN HO
  go_wp2_with fail
  refine (clone_own _ B _ w2 hB2 (by omega)).mono ?_
  rintro e w3 ⟨v3, rfl, hown3, hb3⟩
  have hz2 := hb2.size
  have hz3 := hb3.size
  have hB3 := hB2.same ((same_below hb3).sub fun i hi => hi.2)
  obtain ⟨_, hform⟩ := hown3
  rcases hform with ⟨_, h0⟩ | ⟨g, cap, cur, rfl, hgb, hgh, hnc, hcm, hcs, htk⟩
  · omega
  have hgn : w2.heap.size ≤ g := hgb
  have HBL := Lib.hid hBl
  rw [hBl] at hnc htk
  have hmod : ((at_ : Int) % ((L.length : Int) + 4 - 3)) = ((at_ % (L.length + 1) : Nat) : Int) := by rw [show (L.length : Int) + 4 - 3 = ((L.length + 1 : Nat) : Int) from by omega]; simp
  have hk : at_ % (L.length + 1) ≤ L.length := by have := Nat.mod_lt at_ (show 0 < L.length + 1 by omega); omega
  generalize hkk : at_ % (L.length + 1) = k at *
  have HKK := Lib.hid hkk
  clear hkk
  go_wp2_with fail
  go_loopw [26] (fun i wr => ∃ i' : Nat, i' ≤ 4 ∧ i = .int .i64 i' ∧ w3.grownBy wr (some g) ∧ ∃ cur : List Value, Blk wr g 5 cur.toArray ∧ cur.length = cap ∧ cur.take (L.length + 4) = (turned B k y i').map cell8) (fun i _ => 4 - (intOf i).toNat)
  case atStart =>
    refine ⟨0, Nat.zero_le _, rfl, World.grownBy.refl _ _, cur.toList, hgh, by rw [Array.length_toList, hcs, Nat.mul_one], ?_⟩
    rw [turned_zero]
    rw [Nat.mul_one] at htk
    exact htk
  case round =>
    obtain ⟨i, hi, rfl, hgr, cu, hblk, hcl, htake⟩ := hrel
    have htl := turned_length B k y i
    have hBL := HBL.out
    by_cases hlt : i < 4
    · have hsucc := turned_succ B k y i (by omega)
      have hatk := turned_at B k y i (by omega)
      have hkc : k + i < cu.length := by omega
      have hcuk : cu[k + i]? = some (cell8 (B.getD (k + i) 0)) := by
        have e1 : (cu.take (L.length + 4))[k + i]? = cu[k + i]? := List.getElem?_take_of_lt (by omega)
        rw [← e1, htake, List.getElem?_map, hatk]; rfl
      have hcell : wr.cell? ⟨g, k + i, none⟩ = some (.int .u8 ((B.getD (k + i) 0).toNat : Int)) := by
        rw [hblk.cell]; simpa [cell8] using hcuk
      have hfz := hblk.frozen (k + i)
      have hcap : L.length + 4 ≤ cap := hnc
      have hpl : ((k + i : Nat) : Int) < ((L.length + 4 : Nat) : Int) := by omega
      generalize hxb : B.getD (k + i) 0 = xb at *
      have hxl := xb.toNat_lt
      have HXB := Lib.hid hxb
      have HS := Lib.hid hsucc
      have HT := Lib.hid htake
      have HCU := Lib.hid hcuk
      clear hsucc hatk htake hcuk hxb
      generalize hki : k + i = p at *
      have hkiI : (k : Int) + (i : Int) = (p : Int) := by omega
      have HKI := Lib.hid hki
      clear hki
      have hp0 : (0 : Int) ≤ (p : Int) := by omega
      have hp1 : (p : Int) < (L.length : Int) + 4 := by omega
      rcases (by omega : i = 0 ∨ i = 1 ∨ i = 2 ∨ i = 3) with rfl | rfl | rfl | rfl
      · have e0 : (k : Int) + 0 = (p : Int) := hkiI
        have e1 : IntKind.i64.wrap (p : Int) = (p : Int) := IntWalk.i64_in _ (by omega)
        have e2 : IntKind.i64.wrap 0 = 0 := by decide
        have e3 : IntKind.i64.wrap 24 = 24 := by decide
        have e4 : bits .xor .u8 (xb.toNat : Int) ((byteAt y 0).toNat : Int) = ((xb ^^^ byteAt y 0).toNat : Int) := by rw [UInt8.toNat_xor]; exact u8_xor_nat _ _ (by omega) (byteAt y 0).toNat_lt
        have e5 : ((byteAt y 0).toNat : Int) = (y : Int) / 16777216 := by unfold byteAt; rw [UInt8.toNat_ofNat']; simp; try omega
        rw [e5] at e4
        generalize hnz : xb ^^^ byteAt y 0 = nz at *
        have HNZ := Lib.hid hnz
        have HKII := Lib.hid hkiI
        clear hkiI e5 hnz
        go_wp2_with fail
        go_region
        go_wp2
        go_roundw
        case rel =>
          refine ⟨1, by omega, by go_num, grown_drew (grown_set (p := ⟨g, p, none⟩) hgr (.inl rfl) _), cu.set p (cell8 nz), ?_, by rw [List.length_set]; exact hcl, ?_⟩
          · show Blk (wr.setCell ⟨g, p, none⟩ (cell8 nz)) g _ (cu.set p (cell8 nz)).toArray
            rw [← List.setIfInBounds_toArray]
            exact hblk.set_ p _
          · rw [List.take_set, HT.out, HS.out, List.map_set]
        case measure => simp [intOf]; try omega
      · have e0 : (k : Int) + 1 = (p : Int) := hkiI
        have e1 : IntKind.i64.wrap (p : Int) = (p : Int) := IntWalk.i64_in _ (by omega)
        have e2 : IntKind.i64.wrap 8 = 8 := by decide
        have e3 : IntKind.i64.wrap 16 = 16 := by decide
        have e4 : bits .xor .u8 (xb.toNat : Int) ((byteAt y 1).toNat : Int) = ((xb ^^^ byteAt y 1).toNat : Int) := by rw [UInt8.toNat_xor]; exact u8_xor_nat _ _ (by omega) (byteAt y 1).toNat_lt
        have e5 : ((byteAt y 1).toNat : Int) = (y : Int) / 65536 % 256 := by unfold byteAt; rw [UInt8.toNat_ofNat']; simp; try omega
        rw [e5] at e4
        generalize hnz : xb ^^^ byteAt y 1 = nz at *
        have HNZ := Lib.hid hnz
        have HKII := Lib.hid hkiI
        clear hkiI e5 hnz
        go_wp2_with fail
        go_region
        go_wp2
        go_roundw
        case rel =>
          refine ⟨2, by omega, by go_num, grown_drew (grown_set (p := ⟨g, p, none⟩) hgr (.inl rfl) _), cu.set p (cell8 nz), ?_, by rw [List.length_set]; exact hcl, ?_⟩
          · show Blk (wr.setCell ⟨g, p, none⟩ (cell8 nz)) g _ (cu.set p (cell8 nz)).toArray
            rw [← List.setIfInBounds_toArray]
            exact hblk.set_ p _
          · rw [List.take_set, HT.out, HS.out, List.map_set]
        case measure => simp [intOf]; try omega
      · have e0 : (k : Int) + 2 = (p : Int) := hkiI
        have e1 : IntKind.i64.wrap (p : Int) = (p : Int) := IntWalk.i64_in _ (by omega)
        have e2 : IntKind.i64.wrap 16 = 16 := by decide
        have e3 : IntKind.i64.wrap 8 = 8 := by decide
        have e4 : bits .xor .u8 (xb.toNat : Int) ((byteAt y 2).toNat : Int) = ((xb ^^^ byteAt y 2).toNat : Int) := by rw [UInt8.toNat_xor]; exact u8_xor_nat _ _ (by omega) (byteAt y 2).toNat_lt
        have e5 : ((byteAt y 2).toNat : Int) = (y : Int) / 256 % 256 := by unfold byteAt; rw [UInt8.toNat_ofNat']; simp; try omega
        rw [e5] at e4
        generalize hnz : xb ^^^ byteAt y 2 = nz at *
        have HNZ := Lib.hid hnz
        have HKII := Lib.hid hkiI
        clear hkiI e5 hnz
        go_wp2_with fail
        go_region
        go_wp2
        go_roundw
        case rel =>
          refine ⟨3, by omega, by go_num, grown_drew (grown_set (p := ⟨g, p, none⟩) hgr (.inl rfl) _), cu.set p (cell8 nz), ?_, by rw [List.length_set]; exact hcl, ?_⟩
          · show Blk (wr.setCell ⟨g, p, none⟩ (cell8 nz)) g _ (cu.set p (cell8 nz)).toArray
            rw [← List.setIfInBounds_toArray]
            exact hblk.set_ p _
          · rw [List.take_set, HT.out, HS.out, List.map_set]
        case measure => simp [intOf]; try omega
      · have e0 : (k : Int) + 3 = (p : Int) := hkiI
        have e1 : IntKind.i64.wrap (p : Int) = (p : Int) := IntWalk.i64_in _ (by omega)
        have e2 : IntKind.i64.wrap 24 = 24 := by decide
        have e3 : IntKind.i64.wrap 0 = 0 := by decide
        have e4 : bits .xor .u8 (xb.toNat : Int) ((byteAt y 3).toNat : Int) = ((xb ^^^ byteAt y 3).toNat : Int) := by rw [UInt8.toNat_xor]; exact u8_xor_nat _ _ (by omega) (byteAt y 3).toNat_lt
        have e5 : ((byteAt y 3).toNat : Int) = (y : Int) % 256 := by unfold byteAt; rw [UInt8.toNat_ofNat']; simp; try omega
        rw [e5] at e4
        generalize hnz : xb ^^^ byteAt y 3 = nz at *
        have HNZ := Lib.hid hnz
        have HKII := Lib.hid hkiI
        clear hkiI e5 hnz
        go_wp2_with fail
        go_region
        go_wp2
        go_roundw
        case rel =>
          refine ⟨4, by omega, by go_num, grown_drew (grown_set (p := ⟨g, p, none⟩) hgr (.inl rfl) _), cu.set p (cell8 nz), ?_, by rw [List.length_set]; exact hcl, ?_⟩
          · show Blk (wr.setCell ⟨g, p, none⟩ (cell8 nz)) g _ (cu.set p (cell8 nz)).toArray
            rw [← List.setIfInBounds_toArray]
            exact hblk.set_ p _
          · rw [List.take_set, HT.out, HS.out, List.map_set]
        case measure => simp [intOf]; try omega
    · obtain rfl : i = 4 := by omega
      have hBr := hB3.same ((same_grown hgr).sub fun i hi => ⟨by have := hi.2; omega, fun e => by have h1 := hi.2; have h2 := Option.some.inj e; omega⟩)
      have hCr : Byts wr (fun k => k = g) (.slice (some ⟨g, 0, none⟩) (L.length + 4) cap) (turned B k y 4) := by
        refine ⟨_, _, _, rfl, by rw [htl]; exact hBL, hnc, by unfold maxLen; omega, (fun h => by cases h), ?_⟩
        intro ad h1 _
        cases h1
        refine ⟨rfl, fun j b hj => ?_⟩
        have hjl := (List.getElem?_eq_some_iff.1 hj).1
        rw [Addr.add_lit, hblk.cell]
        have e1 : (cu.take (L.length + 4))[j]? = cu[j]? := List.getElem?_take_of_lt (by omega)
        have e2 : cu[j]? = some (cell8 b) := by rw [← e1, htake, List.getElem?_map, hj]; rfl
        simpa [cell8] using e2
      have hlaw := bits_law B k y (by omega) hy
      have HLW := Lib.hid hlaw
      have hall : Below w.heap.size w wr := (hb2.trans (hb3.mono (by omega))).grown hgr (by omega) (fun g' e => by cases e; omega)
      have HALL := Lib.hid hall
      clear hlaw htake hblk hcl htl hB3 hall
      go_wp2_with fail
      refine (Crc.crc_any _ B _ wr hBr).mono ?_
      rintro e w6 ⟨rfl, rfl⟩
      go_wp2_with fail
      refine (Crc.crc_any _ (turned B k y 4) _ wr hCr).mono ?_
      rintro e w6 ⟨rfl, rfl⟩
      have hlaw := HLW.out
      generalize Crc.crc B = x1 at *
      generalize Crc.crc (turned B k y 4) = x2 at *
      go_wp2_with fail
      refine (wakes_any _).mono ?_
      rintro e w9 ⟨rfl, hb9⟩
      go_wp2
      go_ret
      exact ⟨rfl, HALL.out.trans (hb9.mono HALL.out.size)⟩
end Go.Proofs.Ytbpkpkellnldmaa.Walks
