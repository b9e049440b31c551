/- seal's rings: what each call does. By an AI agent. -/
import Derived.Test.YtnhomnaamlbnpaaDoorWk
import Derived.Test.YtnhomnaamlbnpaaDoorSl
namespace Go.Proofs.YtnhomnaamlbnpaaDoor.Seal
open Go.RowKit Go.Proofs.YtnhomnaamlbnpaaDoor.M Go.Proofs.YtnhomnaamlbnpaaDoor.Sha Go.Proofs.YtnhomnaamlbnpaaDoor.Nw Go.Proofs.YtnhomnaamlbnpaaDoor.Ld Go.Proofs.YtnhomnaamlbnpaaDoor.Ord Go.Proofs.YtnhomnaamlbnpaaDoor.Ext
open Go.Proofs.YtnhomnaamlbnpaaDoor.Wr (IsW be2 be4 be8)
set_option linter.unusedVariables false
set_option maxRecDepth 20000

/-- a ring of the secret -/
def IsRing (w : World) (b : Nat) (sec : List UInt8) : Prop := Blk w b 92 #[.string ⟨sec.toArray⟩] ∧ 1 ≤ sec.length ∧ sec.length ≤ 64
theorem IsRing.below {w w' : World} {b : Nat} {sec : List UInt8} (h : IsRing w b sec) (hb : Below w.heap.size w w') : IsRing w' b sec := ⟨h.1.same (same_below hb) h.1.lt, h.2⟩
theorem str_len (l : List UInt8) : (⟨l.toArray⟩ : ByteArray).data.toList = l := by simp
theorem str_size (l : List UInt8) : (⟨l.toArray⟩ : ByteArray).size = l.length := by simp [ByteArray.size]
theorem str_ne {l : List UInt8} (h : 1 ≤ l.length) : (⟨l.toArray⟩ : ByteArray).toList.isEmpty = false := by
  rw [Lib.toList_data, str_len]
  cases l with
  | nil => simp at h
  | cons a l => rfl

theorem isNone_no (b : Nat) (sec : List UInt8) (w : World) (hR : IsRing w b sec) :
    Calls Tryd.prog 53 #[.pointer (some ⟨b, 0, none⟩)] w fun e w' => e = .returned (.bool false) ∧ w = w' := by
  have h0 : w.cell? ⟨b, 0, none⟩ = some (.string ⟨sec.toArray⟩) := hR.1.cell 0
  have h1 := str_ne hR.2.1
  generalize (⟨sec.toArray⟩ : ByteArray) = s at *
  go_enter Tryd.func53, Tryd.ntmps53
  go_wp2
  go_ret
  exact ⟨rfl, rfl⟩

/-- a number's bytes, laid -/
def NumPost (l : List UInt8) (w : World) (e : Ending) (w' : World) : Prop := ∃ g, e = .returned (.slice (some ⟨g, 0, none⟩) l.length l.length) ∧ w.heap.size ≤ g ∧ Blk w' g 5 (l.map cell8).toArray ∧ Below w.heap.size w w'
theorem four_post (n : Nat) (w : World) (hn : n < 4294967296) : Calls Tryd.prog 51 #[.int .u32 (n : Int)] w (NumPost (be4 n) w) := by
  go_enter Tryd.func51, Tryd.ntmps51
  go_wp2_with (first | (with_reducible refine wpList_alloc_new rfl 69 rfl _ allocWriter ?_; intro g2 w2 n2) | fail)
  have hW2 : IsW w2 g2 noX [] := ⟨_, n2.blk, .nil⟩
  refine (Wr.four_any g2 noX [] n w2 (noX_any _) hW2 hn (by simp)).mono ?_
  rintro e w3 ⟨rfl, hW3, hg3⟩
  rw [List.nil_append] at hW3
  have hb3 : Below w.heap.size w w3 := below_grown n2.below hg3 (by have := n2.is; omega)
  clear n2
  go_wp2_with fail
  refine (Wr.done_any g2 noX (be4 n) w3 hW3 (by rw [be4_len]; omega)).mono ?_
  rintro e w4 ⟨rfl, hB4, hb4⟩
  have hz := hb3.size
  generalize w3.heap.size = g at *
  go_wp2
  go_ret
  exact ⟨g, rfl, hz, hB4, hb3.trans (hb4.mono hz)⟩
theorem lawFour_post (n : Nat) (w : World) (hn : n < 4294967296) : Calls Tryd.prog 33 #[.int .u32 (n : Int)] w (NumPost (be4 n) w) := by
  go_enter Tryd.func33, Tryd.ntmps33
  go_wp2_with (first | (with_reducible refine wpList_alloc_new rfl 69 rfl _ allocWriter ?_; intro g2 w2 n2) | fail)
  have hW2 : IsW w2 g2 noX [] := ⟨_, n2.blk, .nil⟩
  refine (Wr.four_any g2 noX [] n w2 (noX_any _) hW2 hn (by simp)).mono ?_
  rintro e w3 ⟨rfl, hW3, hg3⟩
  rw [List.nil_append] at hW3
  have hb3 : Below w.heap.size w w3 := below_grown n2.below hg3 (by have := n2.is; omega)
  clear n2
  go_wp2_with fail
  refine (Wr.done_any g2 noX (be4 n) w3 hW3 (by rw [be4_len]; omega)).mono ?_
  rintro e w4 ⟨rfl, hB4, hb4⟩
  have hz := hb3.size
  generalize w3.heap.size = g at *
  go_wp2
  go_ret
  exact ⟨g, rfl, hz, hB4, hb3.trans (hb4.mono hz)⟩
theorem eight_post (n : Nat) (w : World) (hn : n < 18446744073709551616) : Calls Tryd.prog 52 #[.int .u64 (n : Int)] w (NumPost (be8 n) w) := by
  go_enter Tryd.func52, Tryd.ntmps52
  go_wp2_with (first | (with_reducible refine wpList_alloc_new rfl 69 rfl _ allocWriter ?_; intro g2 w2 n2) | fail)
  have hW2 : IsW w2 g2 noX [] := ⟨_, n2.blk, .nil⟩
  refine (Wr.eight_any g2 noX [] n w2 (noX_any _) hW2 hn (by simp)).mono ?_
  rintro e w3 ⟨rfl, hW3, hg3⟩
  rw [List.nil_append] at hW3
  have hb3 : Below w.heap.size w w3 := below_grown n2.below hg3 (by have := n2.is; omega)
  clear n2
  go_wp2_with fail
  refine (Wr.done_any g2 noX (be8 n) w3 hW3 (by rw [be8_len]; omega)).mono ?_
  rintro e w4 ⟨rfl, hB4, hb4⟩
  have hz := hb3.size
  generalize w3.heap.size = g at *
  go_wp2
  go_ret
  exact ⟨g, rfl, hz, hB4, hb3.trans (hb4.mono hz)⟩
theorem NumPost.byts {w w' : World} {g : Nat} {l : List UInt8} (h : Blk w' g 5 (l.map cell8).toArray) (hm : l.length ≤ maxLen) : Byts w' (fun k => k = g) (.slice (some ⟨g, 0, none⟩) l.length l.length) l := Sha.Blk.byts h hm
theorem own_num {w : World} {g : Nat} {l : List UInt8} (h : Blk w g 5 (l.map cell8).toArray) (hm : l.length ≤ maxLen) : w.ownsRow g 5 1 (.slice (some ⟨g, 0, none⟩) l.length l.length) l.length (l.map cell8) :=
  ⟨by simp, .inr ⟨g, l.length, _, rfl, Nat.le_refl _, h, Nat.le_refl _, hm, by simp, by rw [Nat.mul_one, List.take_of_length_le (by simp)]⟩⟩

set_option maxHeartbeats 1000000 in
theorem key_any (b : Nat) (v2 : Value) (sec : List UInt8) (s : ByteArray) (ls : List (List UInt8)) (T : Nat → Prop) (w : World) (hR : IsRing w b sec) (hp : Parts w T v2 ls) (hT : ∀ i, T i → i < w.heap.size) (ht : Tab w)
    (hs : s.size ≤ 65535) (hb : ∀ p ∈ ls, p.length < 4294967296) (hl : (lay s.data.toList ls).length ≤ 140737488355328) :
    Calls Tryd.prog 50 #[.pointer (some ⟨b, 0, none⟩), .string s, v2] w fun e w' => e = .returned (.agg ((hmac sec (lay s.data.toList ls)).map cell8).toArray) ∧ Below w.heap.size w w' := by
  have htG := ht.1
  have hblt := hR.1.lt
  obtain ⟨A, c, rfl, hpp⟩ := hp
  have hp' : Parts w T (.slice A ls.length c) ls := ⟨A, c, rfl, hpp⟩
  have HP := Lib.hid hp'
  clear hpp hp'
  go_enter Tryd.func50, Tryd.ntmps50
  go_wp2_with (first | (with_reducible refine wpList_alloc_new rfl 26 rfl _ allocKey ?_; intro g1 w1 n1) | fail)
  have hR1 := hR.below n1.below
  refine (isNone_no b sec w1 hR1).mono ?_
  rintro e w' ⟨rfl, rfl⟩
  have h0 : w1.cell? ⟨b, 0, none⟩ = some (.string ⟨sec.toArray⟩) := hR1.1.cell 0
  have hsz : (⟨sec.toArray⟩ : ByteArray).size ≤ maxLen := by rw [str_size]; unfold maxLen; have := hR.2.2; omega
  obtain ⟨cc, w2, hrun, hB2, hb2, hz2⟩ := conv_bytes w1 9 22 5 ⟨sec.toArray⟩ Tryd.underlying9 Tryd.underlying22 Tryd.underlying5 hsz
  rw [str_len, str_size] at hB2
  rw [str_size] at hrun
  have HZ2 := Lib.hid hz2
  have N1 := Lib.hid n1
  have HR1 := Lib.hid hR1
  clear hz2 n1 hsz hR1 hR
  generalize hg2 : w1.heap.size = g2 at *
  have HG2 := Lib.hid hg2
  clear hg2
  go_wp2_with fail
  have hbw1 : Below w.heap.size w w1 := N1.out.below
  have hbw2 : Below w.heap.size w w2 := hbw1.trans (hb2.mono (by have := hbw1.size; have := HG2.out; omega))
  refine (derive_ok _ _ sec s ls _ T w2 hB2 (HP.out.same ((same_below hbw2).sub hT)) (by rintro i rfl; have := HZ2.out; omega) (fun i hi => by have := hT i hi; have := hbw2.size; omega) (ht.below hbw2 htG) HR1.out.2.1 HR1.out.2.2 hs hb hl).mono ?_
  rintro e w3 ⟨rfl, hb3⟩
  have hbw3 : Below w.heap.size w w3 := hbw2.trans (hb3.mono hbw2.size)
  obtain ⟨k, hk⟩ : ∃ k, k = hmac sec (lay s.data.toList ls) := ⟨_, rfl⟩
  have hkl : k.length = 32 := by rw [hk]; exact sha_length _
  rw [← hk]
  have hK3 : Blk w3 g1 26 ((row8 32).map cell8).toArray := (N1.out.blk.same (same_below hb2) (by have := N1.out.blk.lt; have := HG2.out; omega)).same (same_below hb3) (by have := N1.out.blk.lt; have := HG2.out; have := HZ2.out; omega)
  have HK3 := Lib.hid hK3
  have HKL := Lib.hid hkl
  have HSS := Lib.hid (key_size k hkl)
  have HRS := Lib.hid (row_size k 32 hkl)
  have HKK := Lib.hid hk
  clear hK3 hkl hk hB2 h0 hb2 hb3 hrun
  go_wp2_with (first | (with_reducible refine wpList_alloc_new rfl 26 rfl _ allocKey ?_; intro g4 w4 n4) | (with_reducible refine wpList_store_all rfl 26 (.tmp 7) (.tmp 21) rfl _ _ rfl rfl _ _ n4.blk HSS.out HRS.out (all_cell8 k) ?_; intro w5 p5) | (with_reducible refine wpList_load_all rfl 26 (.tmp 7) rfl g4 rfl _ _ _ p5.blk Tryd.underlying26 rfl HSS.out ?_; go_simp) | (with_reducible refine wpList_store_all rfl 26 (.tmp 6) (.tmp 23) rfl _ _ rfl rfl _ _ ((HK3.out.same (same_below n4.below) HK3.out.lt).same (same_grown p5.grown) ⟨by have := n4.size; have := HK3.out.lt; omega, fun e => by have := Option.some.inj e; have := n4.is; have := HK3.out.lt; omega⟩) HSS.out HRS.out (all_cell8 k) ?_; intro w6 p6) | fail)
  have hg1 : w.heap.size ≤ g1 := by have := N1.out.is; omega
  have hg4 : w.heap.size ≤ g4 := by have := n4.is; have := hbw3.size; omega
  refine bodyPost_ret (results_cell_row rfl _ _ g1 _ _ _ _ rfl p6.blk Tryd.underlying26 rfl HSS.out) rfl ⟨by rw [HKK.out], ?_⟩
  exact below_grown (below_grown (hbw3.trans (n4.below.mono hbw3.size)) p5.grown hg4) p6.grown hg1
end Go.Proofs.YtnhomnaamlbnpaaDoor.Seal
