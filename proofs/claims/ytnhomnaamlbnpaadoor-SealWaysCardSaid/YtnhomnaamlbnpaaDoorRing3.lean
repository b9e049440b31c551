/- seal's rings, on: Way, Token. By an AI agent. -/
import Derived.Test.YtnhomnaamlbnpaaDoorRing2
import Derived.Test.YtnhomnaamlbnpaaDoorRsm
namespace Go.Proofs.YtnhomnaamlbnpaaDoor.Seal
open Go.RowKit Go.Proofs.YtnhomnaamlbnpaaDoor.M Go.Proofs.YtnhomnaamlbnpaaDoor.Sha Go.Proofs.YtnhomnaamlbnpaaDoor.Nw Go.Proofs.YtnhomnaamlbnpaaDoor.Ld Go.Proofs.YtnhomnaamlbnpaaDoor.Ord Go.Proofs.YtnhomnaamlbnpaaDoor.Ext
open Go.Proofs.YtnhomnaamlbnpaaDoor.Wr (IsW be2 be4 be8)
set_option linter.unusedVariables false
set_option maxRecDepth 20000

theorem blk_bs {w : World} {g : Nat} {l : List UInt8} (h : Blk w g 5 (l.map cell8).toArray) (hm : l.length ≤ maxLen) : Bs l (.slice (some ⟨g, 0, none⟩) l.length l.length) w := (Sha.Blk.byts h hm).sub fun i hi => by subst hi; exact h.lt

set_option maxHeartbeats 2000000 in
theorem way_yes (b z s e c v : Nat) (sec : List UInt8) (w : World) (hR : IsRing w b sec) (ht : Tab w) (hz : z ≤ 1) (hs : s < 4294967296) (he : e < 4294967296) (hc : c < 18446744073709551616) (hv : v < 18446744073709551616) :
    Calls Tryd.prog 19 #[.pointer (some ⟨b, 0, none⟩), .int .i64 (z : Int), .int .u32 (s : Int), .int .u32 (e : Int), .int .u64 (c : Int), .int .u64 (v : Int)] w
      fun r w' => r = .returned (.agg ((hmac sec (lay [119, 97, 121] (wayParts z s e c v))).map cell8).toArray) ∧ Below w.heap.size w w' := by
  obtain ⟨i0, hi0, hz0, hz1, hz2⟩ := info_parts infoSlice
  obtain ⟨i5, hi5, hz50, hz51, hz52⟩ := info_parts Wr.infoByte
  have htG := ht.1
  have hzz : z = 0 ∨ z = 1 := by omega
  have hzb : Value.int .u8 (z : Int) = .int .u8 ((UInt8.ofNat z).toNat : Int) := by rcases hzz with rfl | rfl <;> rfl
  have htest : ((z : Int) != 0) = false ∨ ((z : Int) != 0) = true ∧ ((z : Int) != 1) = false := by rcases hzz with rfl | rfl <;> decide
  have HZB := Lib.hid hzb
  have hwp : ∀ p ∈ wayParts z s e c v, p.length < 4294967296 := by
    intro p hp
    simp [wayParts] at hp
    rcases hp with rfl | rfl | rfl | rfl | rfl <;> simp [be4_len, be8_len]
  have hwl : (lay [119, 97, 121] (wayParts z s e c v)).length ≤ 140737488355328 := by
    simp [lay, many, wayParts, Ld.one, be2_len, be4_len, be8_len]
  have HWP := Lib.hid hwp
  have HWL := Lib.hid hwl
  clear hzb hzz hwp hwl
  rcases htest with h0 | ⟨h0, h1⟩
  all_goals
    go_enter Tryd.func19, Tryd.ntmps19
    go_wp2_with (first | (with_reducible refine wpList_alloc_new rfl 26 rfl _ allocKey ?_; intro g1 w1 m1) | (with_reducible refine wpList_slice1 rfl 22 _ (.tmp 22) rfl Tryd.underlying22 hi5 hz50 hz51 _ rfl rfl ?_; intro g2 w2 m2; go_simp) | fail)
    have hb2 : Below w.heap.size w w2 := m1.below.trans (m2.below.mono m1.below.size)
    have k2 := bel m1.blk m2.below
    have q1 : Bs [UInt8.ofNat z] (.slice (some ⟨g2, 0, none⟩) 1 1) w2 := (new_byts m2 HZB.out).sub fun i hi => by subst hi; exact m2.blk.lt
    refine (four_post s w2 hs).mono ?_
    rintro r w3 ⟨g3, rfl, hg3, hB3, hb3⟩
    have q2 := q1.below hb3
    have q3 := blk_bs hB3 (by rw [be4_len]; simp [maxLen])
    have k3 := bel k2 hb3
    have hbw3 := hb2.trans (hb3.mono hb2.size)
    clear hB3
    go_wp2_with fail
    refine (four_post e w3 he).mono ?_
    rintro r w4 ⟨g4, rfl, hg4, hB4, hb4⟩
    have q22 := q2.below hb4
    have q32 := q3.below hb4
    have q4 := blk_bs hB4 (by rw [be4_len]; simp [maxLen])
    have k4 := bel k3 hb4
    have hbw4 := hbw3.trans (hb4.mono hbw3.size)
    clear hB4
    go_wp2_with fail
    refine (eight_post c w4 hc).mono ?_
    rintro r w5 ⟨g5, rfl, hg5, hB5, hb5⟩
    have q23 := q22.below hb5
    have q33 := q32.below hb5
    have q43 := q4.below hb5
    have q5 := blk_bs hB5 (by rw [be8_len]; simp [maxLen])
    have k5 := bel k4 hb5
    have hbw5 := hbw4.trans (hb5.mono hbw4.size)
    clear hB5
    go_wp2_with fail
    refine (eight_post v w5 hv).mono ?_
    rintro r w6 ⟨g6, rfl, hg6, hB6, hb6⟩
    have q24 := q23.below hb6
    have q34 := q33.below hb6
    have q44 := q43.below hb6
    have q54 := q5.below hb6
    have q6 := blk_bs hB6 (by rw [be8_len]; simp [maxLen])
    have k6 := bel k5 hb6
    have hbw6 := hbw5.trans (hb6.mono hbw5.size)
    have M1 := Lib.hid m1
    clear hB6 hg3 hg4 hg5 hg6 m2 m1
    go_wp2_with (first | (with_reducible refine wpList_slice5 rfl 23 _ (.tmp 23) (.tmp 25) (.tmp 27) (.tmp 29) (.tmp 31) rfl Tryd.underlying23 hi0 hz0 hz1 _ _ _ _ _ rfl rfl rfl rfl rfl rfl rfl rfl rfl rfl ?_; intro g7 w7 m7) | fail)
    have k7 := bel k6 m7.below
    have hbw7 := hbw6.trans (m7.below.mono hbw6.size)
    have hpp := parts_new (S := fun k => k < w6.heap.size) (ls := wayParts z s e c v) (us := [_, _, _, _, _]) m7 rfl (by simp [wayParts, maxLen]) (fun j u l hu hl => by
      rcases j with _ | _ | _ | _ | _ | j
      · obtain rfl := Option.some.inj hu; obtain rfl := Option.some.inj hl; exact q24
      · obtain rfl := Option.some.inj hu; obtain rfl := Option.some.inj hl; exact q34
      · obtain rfl := Option.some.inj hu; obtain rfl := Option.some.inj hl; exact q44
      · obtain rfl := Option.some.inj hu; obtain rfl := Option.some.inj hl; exact q54
      · obtain rfl := Option.some.inj hu; obtain rfl := Option.some.inj hl; exact q6
      · simp at hu) (fun i hi => hi)
    have hz7 := m7.size
    have hi7 := m7.is
    refine (key_any b _ sec _ (wayParts z s e c v) _ w7 (hR.below hbw7) hpp (fun i hi => by rcases hi with hi | rfl <;> omega) (ht.below hbw7 htG) (by decide) HWP.out HWL.out).mono ?_
    rintro r w8 ⟨rfl, hb8⟩
    have hbw8 := hbw7.trans (hb8.mono hbw7.size)
    obtain ⟨k, hk⟩ : ∃ k, k = hmac sec (lay [119, 97, 121] (wayParts z s e c v)) := ⟨_, rfl⟩
    have hkl : k.length = 32 := by rw [hk]; exact sha_length _
    have hke : hmac sec (lay (⟨#[119, 97, 121]⟩ : ByteArray).data.toList (wayParts z s e c v)) = k := by rw [hk]
    rw [hke]
    have HK := Lib.hid (bel k7 hb8)
    have HSS := Lib.hid (key_size k hkl)
    have HRS := Lib.hid (row_size k 32 hkl)
    have HKK := Lib.hid hk
    have HI7 := Lib.hid hi7
    have HZ7 := Lib.hid hz7
    clear hkl hk hke hb8 k2 k3 k4 k5 k6 k7 hpp q1 q2 q3 q22 q32 q4 q23 q33 q43 q5 q24 q34 q44 q54 q6 hi7 hz7 m7
    go_wp2_with (first | (with_reducible refine wpList_store_all rfl 26 (.tmp 12) (.tmp 33) rfl _ _ rfl rfl _ _ HK.out HSS.out HRS.out (all_cell8 k) ?_; intro w9 p9) | fail)
    exact bodyPost_ret (results_cell_row rfl _ _ g1 _ _ _ _ rfl p9.blk Tryd.underlying26 rfl HSS.out) rfl ⟨by rw [HKK.out], put_end M1.out hbw8 p9⟩
end Go.Proofs.YtnhomnaamlbnpaaDoor.Seal
