/- The walk of ScribeKnown, on. By an AI agent. -/
import Derived.Test.YtbpkpkellnldmaaKnownW
import Derived.Test.YtbpkpkellnldmaaShelf
namespace Go.Proofs.Ytbpkpkellnldmaa.Walks
open Go.RowKit Go.Proofs.Ytbpkpkellnldmaa.M Go.Proofs.Ytbpkpkellnldmaa.Open Go.Proofs.Ytbpkpkellnldmaa.Wr Go.Proofs.Ytbpkpkellnldmaa.Byt
set_option linter.unusedVariables false

theorem repeat_size (l : List UInt8) (h : l.length = 1) : ∀ c, (Lib.repeatL l c).length = c := by
  intro c
  rw [Lib.repeatL_length, h, Nat.mul_one]
theorem bsize (l : List UInt8) : (ByteArray.mk l.toArray).size = l.length := by
  show l.toArray.size = _
  simp

set_option maxRecDepth 100000 in
set_option maxHeartbeats 4000000 in
theorem scribeKnown (w : World) :
    Calls Try.prog 8 #[] w fun e w' => e = .returned (.bool true) ∧ Below w.heap.size w w' := by
  have kc := fun (w : World) (C : Array Value) (n c : Nat) => Lib.run_convert_bytes_const (P := Try.prog) w 27 5 C n c Try.underlying27 Try.underlying5
  have KC := Lib.hid @kc
  clear kc
  go_enter Try.func8, Try.ntmps8
  go_wp2_with fail
  have hW := isW_new w (fun _ => False)
  have hB0 : Below w.heap.size w (w.alloc (.cells #[.pointer none, .int .i64 0, .bool false] 25)) := (Below.refl _ _).alloc (Nat.le_refl _) _
  generalize hb : w.heap.size = b at *
  have HBB := Lib.hid hb
  clear hb
  generalize w.alloc (.cells #[.pointer none, .int .i64 0, .bool false] 25) = w1 at *
  refine (text_none _ w1 (by decide)).mono ?_
  rintro e w2 ⟨b2, rfl, hV2, hb2, hlt2⟩
  have hW2 := hW.below hb2
  have hBl := hW.lt
  go_wp2_with fail
  refine (byte_any b2 _ _ [7] _ _ _ (fun _ _ h => h) (hV2.alloc _) (byts_new (fr := (0, 0)) w2 _ _ [7] _ (by simp [maxLen]) (by rfl)) (by decide)).mono ?_
  rintro e w3 ⟨rfl, hV3, hg3⟩
  have hz2 := hb2.size
  have hB3 : Below w1.heap.size w1 w3 := (hb2.alloc hz2 _).grown hg3 (by simp; omega) (fun g e => by cases e; exact hlt2)
  have hW3 := hW.below hB3
  go_wp2_with fail
  refine (done_any b2 _ _ w3 hV3 (by decide)).mono ?_
  rintro e w4 ⟨he, hK4, hb4⟩
  rw [show (be2 (ByteArray.mk #[120]).size ++ [120] ++ [7] : List UInt8) = [0, 1, 120, 7] from by decide] at he hK4
  subst he
  have hz3 := hB3.size
  have hB4 : Below w1.heap.size w1 w4 := hB3.trans (hb4.mono hz3)
  have hY4 := byts_of_blk (lo := w1.heap.size) hK4 rfl (by simp [maxLen]) hz3
  have hW4 := hW.below hB4
  clear hW hW2 hW3 hV2 hV3 hK4 hb2 hg3 hB3 hb4
  generalize w3.heap.size = g3 at *
  go_wp2_with fail
  refine (Try.strings_Repeat (ByteArray.mk #[120]) 65536 w4 (by omega) (by decide)).mono ?_
  rintro e w5 ⟨rfl, hb5⟩
  have hs1 := (bsize (Lib.repeatL (ByteArray.mk #[120]).data.toList 65536)).trans (repeat_size _ rfl 65536)
  generalize ByteArray.mk (Lib.repeatL (ByteArray.mk #[120]).data.toList 65536).toArray = s1 at *
  have hz4 := hB4.size
  have hW5 := hW4.below hb5
  have hY5 := hY4.same ((same_below hb5).sub fun i hi => hi.2)
  have hz5 := hb5.size
  have HB5 : Hid (Below b w w5) := Lib.hid ((hB0.trans (hB4.mono (by omega))).trans (hb5.mono (by omega)))
  clear hW4 hY4 hB4 hb5
  have HS1 := Lib.hid hs1
  clear hs1
  go_wp2_with fail
  refine (text_long b _ _ s1 w5 hW5 (by have := HS1.out; omega) (by have := HS1.out; omega)).mono ?_
  rintro e w6 ⟨rfl, hL6, hg6⟩
  have hz6 := hg6.size
  have hY6 := hY5.same ((same_grown hg6).sub fun i hi => ⟨by have := hi.2; omega, fun e => by have h1 := hi.1; have h2 := Option.some.inj e; omega⟩)
  go_wp2_with fail
  have hL6' : IsLong (w6.alloc (.cells #[.int .u8 1] 5)) b := Blk.alloc hL6 _
  have hY7 := hY6.same ((same_alloc w6 (.cells #[.int .u8 1] 5)).sub fun i hi => by have := hi.2; omega)
  have hz7 : (w6.alloc (.cells #[.int .u8 1] 5)).heap.size = w6.heap.size + 1 := by simp
  have HG7 := Lib.hid (grown_alloc hg6 (.cells #[.int .u8 1] 5))
  have HZ7 := Lib.hid hz7
  clear hL6 hY6 hY5 hW5 hg6
  generalize w6.alloc (.cells #[.int .u8 1] 5) = w7 at *
  have hl67 : w6.heap.size < w7.heap.size := by rw [hz7]; exact Nat.lt_succ_self _
  clear hz7
  refine (byte_long b _ _ _ _ w7 rfl hL6').mono ?_
  rintro e w8 ⟨rfl, rfl⟩
  go_wp2_with fail
  refine (done_long b w7 hL6').mono ?_
  rintro e w8 ⟨rfl, rfl⟩
  go_wp2_with fail
  have hV8 := isW_new w7 (fun _ => False)
  have hb78 : Below w7.heap.size w7 (w7.alloc (.cells #[.pointer none, .int .i64 0, .bool false] 25)) := (Below.refl _ _).alloc (Nat.le_refl _) _
  have hY8 := hY7.same ((same_below hb78).sub fun i hi => by have := hi.2; omega)
  generalize w7.alloc (.cells #[.pointer none, .int .i64 0, .bool false] 25) = w8 at *
  have hz8 := hb78.size
  refine (Try.strings_Repeat (ByteArray.mk #[120]) 65535 w8 (by omega) (by decide)).mono ?_
  rintro e w9 ⟨rfl, hb9⟩
  have hs2 := (bsize (Lib.repeatL (ByteArray.mk #[120]).data.toList 65535)).trans (repeat_size _ rfl 65535)
  generalize ByteArray.mk (Lib.repeatL (ByteArray.mk #[120]).data.toList 65535).toArray = s2 at *
  have HS2 := Lib.hid hs2
  clear hs2
  have hV9 := hV8.below hb9
  have hY9 := hY8.same ((same_below hb9).sub fun i hi => by have := hi.2; omega)
  have hz9 := hb9.size
  go_wp2_with fail
  refine (text_any w7.heap.size _ [] s2 w9 (fun _ _ h => h) hV9 (by have := HS2.out; omega) (by have := HS2.out; simp; omega)).mono ?_
  rintro e w10 ⟨rfl, hV10, hg10⟩
  have hY10 := hY9.same ((same_grown hg10).sub fun i hi => ⟨by have := hi.2; omega, fun e => by have h1 := hi.2; have h2 := Option.some.inj e; omega⟩)
  have hz10 := hg10.size
  have hl10 : ([] ++ (be2 s2.size ++ s2.data.toList)).length = 65537 := by
    have h1 : s2.data.toList.length = s2.size := by rw [Array.length_toList]; rfl
    have h2 : (be2 s2.size).length = 2 := rfl
    have h3 := HS2.out
    rw [List.nil_append, List.length_append, h1, h2]
    omega
  generalize [] ++ (be2 s2.size ++ s2.data.toList) = l10 at *
  go_wp2_with fail
  refine (done_any w7.heap.size _ l10 w10 hV10 (by omega)).mono ?_
  rintro e w11 ⟨rfl, hK11, hb11⟩
  rw [hl10]
  have hz11 := hb11.size
  have hY11 := hY10.same ((same_below hb11).sub fun i hi => by have := hi.2; omega)
  have HB7 : Below b w w7 := HB5.out.grown HG7.out (by omega) (fun g e => by cases e; exact Nat.le_refl _)
  have HB9 : Below b w w9 := (HB7.trans (hb78.mono (by omega))).trans (hb9.mono (by omega))
  have HB10 : Below b w w10 := HB9.grown hg10 (by omega) (fun g e => by have := Option.some.inj e; omega)
  have HB11 : Hid (Below b w w11) := Lib.hid (HB10.trans (hb11.mono (by omega)))
  clear HB7 HB9 HB10 hV8 hV9 hV10 hY7 hY8 hY9 hY10 hb78 hb9 hg10 hb11 hK11 hl10 hL6'
  go_wp2_with fail
  refine (Walks.err_none w11).mono ?_
  rintro e w11' ⟨rfl, rfl⟩
  go_wp2_with fail
  refine (Walks.left_none w11).mono ?_
  rintro e w11' ⟨rfl, rfl⟩
  go_wp2_with fail
  refine (Walks.byteR_none w11).mono ?_
  rintro e w11' ⟨rfl, rfl⟩
  go_wp2_with fail
  refine (Walks.rest_none w11).mono ?_
  rintro e w11' ⟨c0, rfl, rfl⟩
  go_wp2_with fail
  have hz11' := HB11.out.size
  have hO := Blk.new w11 5 #[.int .u8 0, .int .u8 3, .int .u8 97, .int .u8 98]
  have hYO := byts_new (fr := (0, 0)) w11 #[.int .u8 0, .int .u8 3, .int .u8 97, .int .u8 98] 5 [0, 3, 97, 98] 4 (by simp [maxLen]) (by rfl)
  have hbO : Below w11.heap.size w11 (w11.alloc (.cells #[.int .u8 0, .int .u8 3, .int .u8 97, .int .u8 98] 5)) := (Below.refl _ _).alloc (Nat.le_refl _) _
  generalize hgO : w11.heap.size = gO at *
  have HgO := Lib.hid hgO
  clear hgO
  generalize w11.alloc (.cells #[.int .u8 0, .int .u8 3, .int .u8 97, .int .u8 98] 5) = w12 at *
  have hltO := hO.lt
  refine (Walks.new_own _ _ _ gO w12 hYO (by simp) hO.lt).mono ?_
  rintro e w13 ⟨bR, rfl, hbR, hR13, hb13⟩
  have hO13 := hO.same (same_below hb13) hltO
  have f0 := hO13.frozen 0
  have q0 : w13.cell? ⟨gO, 0, none⟩ = some (.int .u8 0) := hO13.cell 0
  go_wp2_with fail
  have hne : gO ≠ bR := by omega
  have hR14 := hR13.same (w' := w13.setCell ⟨gO, 0, none⟩ (.int .u8 9)) ((same_set w13 ⟨gO, 0, none⟩ (.int .u8 9)).sub fun i hi => by
    intro h1
    have h1' : i = gO := h1
    rcases hi with rfl | hi
    · exact hne h1'.symm
    · exact hi.2 h1') (by simp [World.setCell])
  have hg14 : w12.grownBy (w13.setCell ⟨gO, 0, none⟩ (.int .u8 9)) (some gO) := grown_set (grown_below hb13 _) (.inl rfl) _
  generalize w13.setCell ⟨gO, 0, none⟩ (.int .u8 9) = w14 at *
  have hz14 := hg14.size
  refine (Rd.text_any bR _ [0, 3, 97, 98] false w14 hR14).mono ?_
  rw [show Rd.textOf [0, 3, 97, 98] false = ([], [], true) from by decide +kernel]
  rintro e w15 ⟨rfl, hR15, hg15⟩
  have hz15 := hg15.size
  have hY15 := ((hY11.same ((same_below hbO).sub fun i hi => by have := hi.2; have := HgO.out; omega)).same ((same_grown hg14).sub fun i hi => ⟨by have := hi.2; have := HgO.out; omega, fun e => by have := hi.2; have := HgO.out; have h2 := Option.some.inj e; omega⟩)).same ((same_grown hg15).sub fun i hi => ⟨by have := hi.2; have := HgO.out; omega, fun e => by have := hi.2; have := HgO.out; have h2 := Option.some.inj e; omega⟩)
  have HB15 : Hid (Below b w w15) := Lib.hid (((HB11.out.trans (hbO.mono (by have := HgO.out; omega))).grown hg14 (by have := HgO.out; have := HBB.out; have := HB11.out.size; omega) (fun g e => by have := Option.some.inj e; have := HgO.out; have := HBB.out; have := HB11.out.size; omega)).grown hg15 (by have := HgO.out; have := HBB.out; have := HB11.out.size; omega) (fun g e => by have := Option.some.inj e; have := HgO.out; have := HBB.out; have := HB11.out.size; omega))
  clear hY11 hbO hg14 hg15 hb13 hR13 hR14 hO hO13 hYO f0 q0
  go_wp2_with fail
  have hYN := byts_new (fr := (0, 0)) w15 #[.int .u8 0, .int .u8 1, .int .u8 120, .int .u8 7] 5 [0, 1, 120, 7] 4 (by simp [maxLen]) (by rfl)
  have hY16 := hY15.same ((same_alloc w15 (.cells #[.int .u8 0, .int .u8 1, .int .u8 120, .int .u8 7] 5)).sub fun i hi => by have := hi.2; have := HgO.out; omega)
  have hR16 := hR15.below ((Below.refl _ _).alloc (Nat.le_refl _) (.cells #[.int .u8 0, .int .u8 1, .int .u8 120, .int .u8 7] 5))
  have HB16 := Lib.hid (HB15.out.alloc (by have := HgO.out; have := HBB.out; have := HB11.out.size; omega) (.cells #[.int .u8 0, .int .u8 1, .int .u8 120, .int .u8 7] 5))
  have hz16 : w15.heap.size < (w15.alloc (.cells #[.int .u8 0, .int .u8 1, .int .u8 120, .int .u8 7] 5)).heap.size := by simp
  clear hY15 hR15
  generalize w15.heap.size = g15 at *
  generalize w15.alloc (.cells #[.int .u8 0, .int .u8 1, .int .u8 120, .int .u8 7] 5) = w16 at *
  refine (equal_any _ _ _ _ _ _ w16 hY16 hYN).mono ?_
  rw [show (([0, 1, 120, 7] : List UInt8) == [0, 1, 120, 7]) = true from by decide]
  rintro e w16' ⟨rfl, rfl⟩
  clear hY16 hYN
  go_wp2_with fail
  refine (Rd.err_any bR _ _ _ w16 hR16).mono ?_
  rintro e w16' ⟨rfl, rfl⟩
  go_wp2_with fail
  refine (Crc.crc_any _ [] (fun _ => False) w16 ⟨none, 0, 0, rfl, rfl, Nat.le_refl _, by simp [maxLen], fun _ => rfl, fun ad h => by cases h⟩).mono ?_
  rintro e w16' ⟨rfl, rfl⟩
  rw [show Crc.crc [] = 0 from by decide +kernel]
  have HB16' : Hid (Below b w w16) := Lib.hid HB16.out
  have hzb : Hid (b ≤ w16.heap.size) := Lib.hid (by have := HB16.out.size; have := HBB.out; omega)
  clear hR16 HB15 HB11
  have kc := KC.out
  go_wp2_with fail
  refine (Crc.crc_any _ [97] _ _ (byts_new w16 _ _ _ _ (by simp [maxLen]) (by rfl))).mono ?_
  rintro e w17 ⟨rfl, hw17⟩
  have hb17 : Below w16.heap.size w16 w17 := by rw [← hw17]; exact (Below.refl _ _).alloc (Nat.le_refl _) _
  clear hw17
  rw [show Crc.crc [97] = 3904355907 from by decide +kernel]
  go_wp2_with fail
  refine (Crc.crc_any _ [97, 98, 99] _ _ (byts_new w17 _ _ _ _ (by simp [maxLen]) (by rfl))).mono ?_
  rintro e w18 ⟨rfl, hw18⟩
  have hb18 : Below w17.heap.size w17 w18 := by rw [← hw18]; exact (Below.refl _ _).alloc (Nat.le_refl _) _
  clear hw18
  rw [show Crc.crc [97, 98, 99] = 891568578 from by decide +kernel]
  go_wp2_with fail
  refine (Wr.wakes_any w18).mono ?_
  rintro e w19 ⟨rfl, hb19⟩
  go_wp2
  go_ret
  have hz17 := hb17.size
  have hz18 := hb18.size
  refine ⟨rfl, ?_⟩
  rw [HBB.out]
  have h16 := hzb.out
  exact ((HB16'.out.trans (hb17.mono h16)).trans (hb18.mono (by omega))).trans (hb19.mono (by omega))
end Go.Proofs.Ytbpkpkellnldmaa.Walks
