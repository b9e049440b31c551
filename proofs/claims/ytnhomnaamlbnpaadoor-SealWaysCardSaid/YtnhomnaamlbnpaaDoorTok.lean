/- seal's rings, on: Token; the statement's own four and eight. By an AI agent. -/
import Derived.Test.YtnhomnaamlbnpaaDoorRing3
namespace Go.Proofs.YtnhomnaamlbnpaaDoor.Seal
open Go.RowKit Go.Proofs.YtnhomnaamlbnpaaDoor.M Go.Proofs.YtnhomnaamlbnpaaDoor.Sha Go.Proofs.YtnhomnaamlbnpaaDoor.Nw Go.Proofs.YtnhomnaamlbnpaaDoor.Ld Go.Proofs.YtnhomnaamlbnpaaDoor.Ord Go.Proofs.YtnhomnaamlbnpaaDoor.Ext
open Go.Proofs.YtnhomnaamlbnpaaDoor.Wr (IsW be2 be4 be8)
set_option linter.unusedVariables false
set_option maxRecDepth 20000

theorem own8_num {w : World} {g : Nat} {l : List UInt8} (h : Blk w g 5 (l.map cell8).toArray) (hm : l.length ≤ maxLen) : Own w g (.slice (some ⟨g, 0, none⟩) l.length l.length) l := own_num h hm
def tokenOf (sec : List UInt8) (s e : Nat) : Nat := tagOf (hmac sec (lay [116, 111, 107, 101, 110] [])) (be4 s ++ be4 e)

set_option maxHeartbeats 1000000 in
theorem token_any (b s e : Nat) (sec : List UInt8) (w : World) (hR : IsRing w b sec) (ht : Tab w) (hs : s < 4294967296) (he : e < 4294967296) :
    Calls Tryd.prog 21 #[.pointer (some ⟨b, 0, none⟩), .int .u32 (s : Int), .int .u32 (e : Int)] w
      fun r w' => r = .returned (.int .u64 (tokenOf sec s e : Nat)) ∧ Below w.heap.size w w' := by
  have htG := ht.1
  go_enter Tryd.func21, Tryd.ntmps21
  go_wp2_with fail
  refine (isNone_no b sec w hR).mono ?_
  rintro r w' ⟨rfl, rfl⟩
  go_wp2_with fail
  refine (key_any b _ sec _ [] (fun _ => False) w hR (parts0 _ _) (fun i hi => hi.elim) ht (by decide) (by simp) (by decide)).mono ?_
  rintro r w2 ⟨rfl, hb2⟩
  obtain ⟨k, hk⟩ : ∃ k, k = hmac sec (lay [116, 111, 107, 101, 110] []) := ⟨_, rfl⟩
  have hkl : k.length = 32 := by rw [hk]; exact sha_length _
  have hke : hmac sec (lay (⟨#[116, 111, 107, 101, 110]⟩ : ByteArray).data.toList []) = k := by rw [hk]
  rw [hke]
  have HK := Lib.hid hk
  have HKL := Lib.hid hkl
  clear hk hkl hke
  go_wp2_with fail
  refine (four_post s w2 hs).mono ?_
  rintro r w3 ⟨g3, rfl, hg3, hB3, hb3⟩
  have hbw3 := hb2.trans (hb3.mono hb2.size)
  go_wp2_with fail
  refine (four_post e w3 he).mono ?_
  rintro r w4 ⟨g4, rfl, hg4, hB4, hb4⟩
  have hbw4 := hbw3.trans (hb4.mono hbw3.size)
  have hO : Own w4 g3 (.slice (some ⟨g3, 0, none⟩) 4 4) (be4 s) := own8_num (bel hB3 hb4) (by rw [be4_len]; simp [maxLen])
  have hU := blk_bs hB4 (by rw [be4_len]; simp [maxLen])
  have hz4 : g3 ≤ w4.heap.size := by have := hB3.lt; have := hb4.size; omega
  have HG3 := Lib.hid (Nat.le_trans hb2.size hg3)
  have HO := Lib.hid hO
  have HU := Lib.hid hU
  clear hO hU hB3 hB4 hg4 hg3
  simp only [be4_len]
  go_wp2_with (first | (at_builtin; refine wpList_append_own8 rfl (.tmp 12) (.tmp 14) rfl g3 _ _ rfl HO.out _ _ (be4 e) rfl HU.out (by simp [be4_len]) hz4 ?_; intro v5 w5 o5) | fail)
  have hbw5 : Below w.heap.size w w5 := hbw4.trans ((o5.below HO.out hz4).mono HG3.out)
  have hB5 := o5.own.byts
  clear o5
  refine (tag_any k (be4 s ++ be4 e) _ _ w5 HKL.out hB5 (fun i hi => hi.2) (ht.below hbw5 htG)).mono ?_
  rintro r w6 ⟨rfl, hb6⟩
  have htk : tokenOf sec s e = tagOf k (be4 s ++ be4 e) := by unfold tokenOf; rw [HK.out]
  rw [← htk]
  have HT := Lib.hid htk
  clear htk
  go_wp2
  go_ret
  exact ⟨rfl, hbw5.trans (hb6.mono hbw5.size)⟩

end Go.Proofs.YtnhomnaamlbnpaaDoor.Seal
