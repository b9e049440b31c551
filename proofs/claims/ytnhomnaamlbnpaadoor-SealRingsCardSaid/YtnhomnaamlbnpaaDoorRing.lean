/- seal's rings: what each call does. By an AI agent. -/
import Derived.Test.YtnhomnaamlbnpaaDoorWkS
import Derived.Test.YtnhomnaamlbnpaaDoorSl
namespace Go.Proofs.YtnhomnaamlbnpaaDoor.Seal
open Go.RowKit Go.Proofs.YtnhomnaamlbnpaaDoor.M Go.Proofs.YtnhomnaamlbnpaaDoor.Sha Go.Proofs.YtnhomnaamlbnpaaDoor.Nw Go.Proofs.YtnhomnaamlbnpaaDoor.Ld Go.Proofs.YtnhomnaamlbnpaaDoor.Ord Go.Proofs.YtnhomnaamlbnpaaDoor.Ext
open Go.Proofs.YtnhomnaamlbnpaaDoor.Wr (IsW be2 be4 be8)
set_option linter.unusedVariables false
set_option maxRecDepth 20000

/-- a ring of the secret -/
def IsRing (w : World) (b : Nat) (sec : List UInt8) : Prop := Blk w b 92 #[.string ⟨sec.toArray⟩] ∧ 1 ≤ sec.length ∧ sec.length ≤ 64
theorem IsRing.below {w w' : World} {b : Nat} {sec : List UInt8} (h : IsRing w b sec) (hb : Below w.heap.size w w') : IsRing w' b sec := ⟨h.1.same (same_below hb) h.1.lt, h.2⟩
theorem str_len (l : List UInt8) : (⟨l.toArray⟩ : ByteArray).data.toList = l := by simp
theorem str_size (l : List UInt8) : (⟨l.toArray⟩ : ByteArray).size = l.length := by simp [ByteArray.size]
theorem str_ne {l : List UInt8} (h : 1 ≤ l.length) : (⟨l.toArray⟩ : ByteArray).toList.isEmpty = false := by
  rw [Lib.toList_data, str_len]
  cases l with
  | nil => simp at h
  | cons a l => rfl

theorem isNone_no (b : Nat) (sec : List UInt8) (w : World) (hR : IsRing w b sec) :
    Calls Tryd.prog 53 #[.pointer (some ⟨b, 0, none⟩)] w fun e w' => e = .returned (.bool false) ∧ w = w' := by
  have h0 : w.cell? ⟨b, 0, none⟩ = some (.string ⟨sec.toArray⟩) := hR.1.cell 0
  have h1 := str_ne hR.2.1
  generalize (⟨sec.toArray⟩ : ByteArray) = s at *
  go_enter Tryd.func53, Tryd.ntmps53
  go_wp2
  go_ret
  exact ⟨rfl, rfl⟩

/-- a number's bytes, laid -/
def NumPost (l : List UInt8) (w : World) (e : Ending) (w' : World) : Prop := ∃ g, e = .returned (.slice (some ⟨g, 0, none⟩) l.length l.length) ∧ w.heap.size ≤ g ∧ Blk w' g 5 (l.map cell8).toArray ∧ Below w.heap.size w w'
theorem four_post (n : Nat) (w : World) (hn : n < 4294967296) : Calls Tryd.prog 51 #[.int .u32 (n : Int)] w (NumPost (be4 n) w) := by
  go_enter Tryd.func51, Tryd.ntmps51
  go_wp2_with (first | (with_reducible refine wpList_alloc_new rfl 69 rfl _ allocWriter ?_; intro g2 w2 n2) | fail)
  have hW2 : IsW w2 g2 noX [] := ⟨_, n2.blk, .nil⟩
  refine (Wr.four_any g2 noX [] n w2 (noX_any _) hW2 hn (by simp)).mono ?_
  rintro e w3 ⟨rfl, hW3, hg3⟩
  rw [List.nil_append] at hW3
  have hb3 : Below w.heap.size w w3 := below_grown n2.below hg3 (by have := n2.is; omega)
  clear n2
  go_wp2_with fail
  refine (Wr.done_any g2 noX (be4 n) w3 hW3 (by rw [be4_len]; omega)).mono ?_
  rintro e w4 ⟨rfl, hB4, hb4⟩
  have hz := hb3.size
  generalize w3.heap.size = g at *
  go_wp2
  go_ret
  exact ⟨g, rfl, hz, hB4, hb3.trans (hb4.mono hz)⟩
theorem lawFour_post (n : Nat) (w : World) (hn : n < 4294967296) : Calls Tryd.prog 33 #[.int .u32 (n : Int)] w (NumPost (be4 n) w) := by
  go_enter Tryd.func33, Tryd.ntmps33
  go_wp2_with (first | (with_reducible refine wpList_alloc_new rfl 69 rfl _ allocWriter ?_; intro g2 w2 n2) | fail)
  have hW2 : IsW w2 g2 noX [] := ⟨_, n2.blk, .nil⟩
  refine (Wr.four_any g2 noX [] n w2 (noX_any _) hW2 hn (by simp)).mono ?_
  rintro e w3 ⟨rfl, hW3, hg3⟩
  rw [List.nil_append] at hW3
  have hb3 : Below w.heap.size w w3 := below_grown n2.below hg3 (by have := n2.is; omega)
  clear n2
  go_wp2_with fail
  refine (Wr.done_any g2 noX (be4 n) w3 hW3 (by rw [be4_len]; omega)).mono ?_
  rintro e w4 ⟨rfl, hB4, hb4⟩
  have hz := hb3.size
  generalize w3.heap.size = g at *
  go_wp2
  go_ret
  exact ⟨g, rfl, hz, hB4, hb3.trans (hb4.mono hz)⟩
theorem eight_post (n : Nat) (w : World) (hn : n < 18446744073709551616) : Calls Tryd.prog 52 #[.int .u64 (n : Int)] w (NumPost (be8 n) w) := by
  go_enter Tryd.func52, Tryd.ntmps52
  go_wp2_with (first | (with_reducible refine wpList_alloc_new rfl 69 rfl _ allocWriter ?_; intro g2 w2 n2) | fail)
  have hW2 : IsW w2 g2 noX [] := ⟨_, n2.blk, .nil⟩
  refine (Wr.eight_any g2 noX [] n w2 (noX_any _) hW2 hn (by simp)).mono ?_
  rintro e w3 ⟨rfl, hW3, hg3⟩
  rw [List.nil_append] at hW3
  have hb3 : Below w.heap.size w w3 := below_grown n2.below hg3 (by have := n2.is; omega)
  clear n2
  go_wp2_with fail
  refine (Wr.done_any g2 noX (be8 n) w3 hW3 (by rw [be8_len]; omega)).mono ?_
  rintro e w4 ⟨rfl, hB4, hb4⟩
  have hz := hb3.size
  generalize w3.heap.size = g at *
  go_wp2
  go_ret
  exact ⟨g, rfl, hz, hB4, hb3.trans (hb4.mono hz)⟩
theorem NumPost.byts {w w' : World} {g : Nat} {l : List UInt8} (h : Blk w' g 5 (l.map cell8).toArray) (hm : l.length ≤ maxLen) : Byts w' (fun k => k = g) (.slice (some ⟨g, 0, none⟩) l.length l.length) l := Sha.Blk.byts h hm
theorem own_num {w : World} {g : Nat} {l : List UInt8} (h : Blk w g 5 (l.map cell8).toArray) (hm : l.length ≤ maxLen) : w.ownsRow g 5 1 (.slice (some ⟨g, 0, none⟩) l.length l.length) l.length (l.map cell8) :=
  ⟨by simp, .inr ⟨g, l.length, _, rfl, Nat.le_refl _, h, Nat.le_refl _, hm, by simp, by rw [Nat.mul_one, List.take_of_length_le (by simp)]⟩⟩

set_option maxHeartbeats 1000000 in
theorem key_any (b : Nat) (v2 : Value) (sec : List UInt8) (s : ByteArray) (ls : List (List UInt8)) (T : Nat → Prop) (w : World) (hR : IsRing w b sec) (hp : Parts w T v2 ls) (hT : ∀ i, T i → i < w.heap.size) (ht : Tab w)
    (hs : s.size ≤ 65535) (hb : ∀ p ∈ ls, p.length < 4294967296) (hl : (lay s.data.toList ls).length ≤ 140737488355328) :
    Calls Tryd.prog 50 #[.pointer (some ⟨b, 0, none⟩), .string s, v2] w fun e w' => e = .returned (.agg ((hmac sec (lay s.data.toList ls)).map cell8).toArray) ∧ Below w.heap.size w w' := by
  have htG := ht.1
  have hblt := hR.1.lt
  obtain ⟨A, c, rfl, hpp⟩ := hp
  have hp' : Parts w T (.slice A ls.length c) ls := ⟨A, c, rfl, hpp⟩
  have HP := Lib.hid hp'
  clear hpp hp'
  go_enter Tryd.func50, Tryd.ntmps50
  go_wp2_with (first | (with_reducible refine wpList_alloc_new rfl 26 rfl _ allocKey ?_; intro g1 w1 n1) | fail)
  have hR1 := hR.below n1.below
  refine (isNone_no b sec w1 hR1).mono ?_
  rintro e w' ⟨rfl, rfl⟩
  have h0 : w1.cell? ⟨b, 0, none⟩ = some (.string ⟨sec.toArray⟩) := hR1.1.cell 0
  have hsz : (⟨sec.toArray⟩ : ByteArray).size ≤ maxLen := by rw [str_size]; unfold maxLen; have := hR.2.2; omega
  obtain ⟨cc, w2, hrun, hB2, hb2, hz2⟩ := conv_bytes w1 9 22 5 ⟨sec.toArray⟩ Tryd.underlying9 Tryd.underlying22 Tryd.underlying5 hsz
  rw [str_len, str_size] at hB2
  rw [str_size] at hrun
  have HZ2 := Lib.hid hz2
  have N1 := Lib.hid n1
  have HR1 := Lib.hid hR1
  clear hz2 n1 hsz hR1 hR
  generalize hg2 : w1.heap.size = g2 at *
  have HG2 := Lib.hid hg2
  clear hg2
  go_wp2_with fail
  have hbw1 : Below w.heap.size w w1 := N1.out.below
  have hbw2 : Below w.heap.size w w2 := hbw1.trans (hb2.mono (by have := hbw1.size; have := HG2.out; omega))
  refine (derive_ok _ _ sec s ls _ T w2 hB2 (HP.out.same ((same_below hbw2).sub hT)) (by rintro i rfl; have := HZ2.out; omega) (fun i hi => by have := hT i hi; have := hbw2.size; omega) (ht.below hbw2 htG) HR1.out.2.1 HR1.out.2.2 hs hb hl).mono ?_
  rintro e w3 ⟨rfl, hb3⟩
  have hbw3 : Below w.heap.size w w3 := hbw2.trans (hb3.mono hbw2.size)
  obtain ⟨k, hk⟩ : ∃ k, k = hmac sec (lay s.data.toList ls) := ⟨_, rfl⟩
  have hkl : k.length = 32 := by rw [hk]; exact sha_length _
  rw [← hk]
  have hK3 : Blk w3 g1 26 ((row8 32).map cell8).toArray := (N1.out.blk.same (same_below hb2) (by have := N1.out.blk.lt; have := HG2.out; omega)).same (same_below hb3) (by have := N1.out.blk.lt; have := HG2.out; have := HZ2.out; omega)
  have HK3 := Lib.hid hK3
  have HKL := Lib.hid hkl
  have HSS := Lib.hid (key_size k hkl)
  have HRS := Lib.hid (row_size k 32 hkl)
  have HKK := Lib.hid hk
  clear hK3 hkl hk hB2 h0 hb2 hb3 hrun
  go_wp2_with (first | (with_reducible refine wpList_alloc_new rfl 26 rfl _ allocKey ?_; intro g4 w4 n4) | (with_reducible refine wpList_store_all rfl 26 (.tmp 7) (.tmp 21) rfl _ _ rfl rfl _ _ n4.blk HSS.out HRS.out (all_cell8 k) ?_; intro w5 p5) | (with_reducible refine wpList_load_all rfl 26 (.tmp 7) rfl g4 rfl _ _ _ p5.blk Tryd.underlying26 rfl HSS.out ?_; go_simp) | (with_reducible refine wpList_store_all rfl 26 (.tmp 6) (.tmp 23) rfl _ _ rfl rfl _ _ ((HK3.out.same (same_below n4.below) HK3.out.lt).same (same_grown p5.grown) ⟨by have := n4.size; have := HK3.out.lt; omega, fun e => by have := Option.some.inj e; have := n4.is; have := HK3.out.lt; omega⟩) HSS.out HRS.out (all_cell8 k) ?_; intro w6 p6) | fail)
  have hg1 : w.heap.size ≤ g1 := by have := N1.out.is; omega
  have hg4 : w.heap.size ≤ g4 := by have := n4.is; have := hbw3.size; omega
  refine bodyPost_ret (results_cell_row rfl _ _ g1 _ _ _ _ rfl p6.blk Tryd.underlying26 rfl HSS.out) rfl ⟨by rw [HKK.out], ?_⟩
  exact below_grown (below_grown (hbw3.trans (n4.below.mono hbw3.size)) p5.grown hg4) p6.grown hg1
end Go.Proofs.YtnhomnaamlbnpaaDoor.Seal
namespace Go.Proofs.YtnhomnaamlbnpaaDoor.Seal
open Go.RowKit Go.Proofs.YtnhomnaamlbnpaaDoor.M Go.Proofs.YtnhomnaamlbnpaaDoor.Sha Go.Proofs.YtnhomnaamlbnpaaDoor.Nw Go.Proofs.YtnhomnaamlbnpaaDoor.Ld Go.Proofs.YtnhomnaamlbnpaaDoor.Ord Go.Proofs.YtnhomnaamlbnpaaDoor.Ext
open Go.Proofs.YtnhomnaamlbnpaaDoor.Wr (IsW be2 be4 be8)
set_option linter.unusedVariables false
set_option maxRecDepth 20000

/-- a row of parts -/
theorem parts_new {w w' : World} {S : Nat → Prop} {g : Nat} {t : TypeId} {us : List Value} {ls : List (List UInt8)} (n : New w w' g t us.toArray) (hl : us.length = ls.length) (hm : ls.length ≤ maxLen)
    (h : ∀ (j : Nat) u l, us[j]? = some u → ls[j]? = some l → Byts w S u l) (hS : ∀ i, S i → i < w.heap.size) : Parts w' (fun k => S k ∨ k = g) (.slice (some ⟨g, 0, none⟩) ls.length ls.length) ls := by
  refine ⟨_, ls.length, rfl, Nat.le_refl _, hm, fun i l hl' => ?_⟩
  have hlt : i < us.length := by have := (List.getElem?_eq_some_iff.1 hl').1; omega
  have hu := List.getElem?_eq_getElem hlt
  refine ⟨g, 0, us[i], rfl, .inr rfl, ?_, ((h i _ l hu hl').same ((same_below n.below).sub hS)).sub fun k hk => .inl hk⟩
  rw [Nat.zero_add, n.blk.cell]
  simp

set_option maxHeartbeats 1000000 in
theorem new_any (v0 : Value) (sec : List UInt8) (S : Nat → Prop) (w : World) (hk : Byts w S v0 sec) (h1 : 1 ≤ sec.length) (h2 : sec.length ≤ 64) :
    Calls Tryd.prog 16 #[v0] w fun e w' => ∃ g, e = .returned (.tuple #[.pointer (some ⟨g, 0, none⟩), .int .i64 0]) ∧ IsRing w' g sec ∧ w.heap.size ≤ g ∧ Below w.heap.size w w' := by
  have hcv := conv_str (P := Tryd.prog) hk 22 9 5 Tryd.underlying22 Tryd.underlying5 Tryd.underlying9
  obtain ⟨A, c, rfl, _⟩ := hk.row
  go_enter Tryd.func16, Tryd.ntmps16
  go_wp2_with fail
  refine (may_yes _ sec S w hk h1 h2).mono ?_
  rintro e w' ⟨rfl, rfl⟩
  go_wp2_with (first | (with_reducible refine wpList_box_new rfl 92 (.tmp 9) rfl _ rfl ?_; intro g1 w1 n1) | fail)
  refine bodyPost_ret (results_tmp2 rfl _ _ _) rfl ⟨g1, rfl, ⟨n1.blk, h1, h2⟩, by have := n1.is; omega, n1.below⟩

theorem put_end {w w1 w2 w3 : World} {g : Nat} {k : List UInt8} (n1 : New w w1 g 26 ((row8 32).map cell8).toArray) (h2 : Below w.heap.size w w2) (h3 : Put w2 w3 g 26 (k.map cell8).toArray) : Below w.heap.size w w3 := below_grown h2 h3.grown (by have := n1.is; omega)

set_option maxHeartbeats 1000000 in
theorem hello_any (b : Nat) (sec : List UInt8) (w : World) (hR : IsRing w b sec) (ht : Tab w) :
    Calls Tryd.prog 18 #[.pointer (some ⟨b, 0, none⟩)] w fun e w' => e = .returned (.agg ((hmac sec (lay [104, 101, 108, 108, 111] [])).map cell8).toArray) ∧ Below w.heap.size w w' := by
  have htG := ht.1
  go_enter Tryd.func18, Tryd.ntmps18
  go_wp2_with (first | (with_reducible refine wpList_alloc_new rfl 26 rfl _ allocKey ?_; intro g1 w1 n1) | fail)
  refine (key_any b _ sec _ [] (fun _ => False) w1 (hR.below n1.below) (parts0 _ _) (fun i hi => hi.elim) (ht.below n1.below htG) (by decide) (by simp) (by decide)).mono ?_
  rintro e w2 ⟨rfl, hb2⟩
  have hbw2 : Below w.heap.size w w2 := n1.below.trans (hb2.mono n1.below.size)
  obtain ⟨k, hk⟩ : ∃ k, k = hmac sec (lay [104, 101, 108, 108, 111] []) := ⟨_, rfl⟩
  have hkl : k.length = 32 := by rw [hk]; exact sha_length _
  have hke : hmac sec (lay (⟨#[104, 101, 108, 108, 111]⟩ : ByteArray).data.toList []) = k := by rw [hk]
  rw [hke]
  have hK := n1.blk.same (same_below hb2) n1.blk.lt
  have HK := Lib.hid hK
  have HSS := Lib.hid (key_size k hkl)
  have HRS := Lib.hid (row_size k 32 hkl)
  have HKK := Lib.hid hk
  clear hK hkl hk hke hb2
  go_wp2_with (first | (with_reducible refine wpList_store_all rfl 26 (.tmp 2) (.tmp 4) rfl _ _ rfl rfl _ _ HK.out HSS.out HRS.out (all_cell8 k) ?_; intro w6 p6) | fail)
  exact bodyPost_ret (results_cell_row rfl _ _ g1 _ _ _ _ rfl p6.blk Tryd.underlying26 rfl HSS.out) rfl ⟨by rw [HKK.out], put_end n1 hbw2 p6⟩

set_option maxHeartbeats 1000000 in
theorem way_no (b : Value) (z : Int) (n1 n2 n3 n4 : Value) (w : World) (h0 : z ≠ 0) (h1 : z ≠ 1) :
    Calls Tryd.prog 19 #[b, .int .i64 z, n1, n2, n3, n4] w fun e w' => e = .returned (.agg ((row8 32).map cell8).toArray) ∧ Below w.heap.size w w' := by
  have e0 : (z != 0) = true := by simpa using h0
  have e1 : (z != 1) = true := by simpa using h1
  have HSS := Lib.hid (key_size (row8 32) (by simp [row8]))
  go_enter Tryd.func19, Tryd.ntmps19
  go_wp2_with (first | (with_reducible refine wpList_alloc_new rfl 26 rfl _ allocKey ?_; intro g1 w1 m1) | (with_reducible refine wpList_build_as rfl 26 _ rfl ((row8 32).map cell8).toArray (by kernel_rfl) ?_) | (with_reducible refine wpList_store_all rfl 26 (.tmp 12) (.tmp 19) rfl _ _ rfl rfl _ _ m1.blk HSS.out rfl (all_cell8 _) ?_; intro w6 p6) | fail)
  exact bodyPost_ret (results_cell_row rfl _ _ g1 _ _ _ _ rfl p6.blk Tryd.underlying26 rfl HSS.out) rfl ⟨rfl, put_end m1 m1.below p6⟩

/-- what a way's key is of -/
def wayParts (z s e c v : Nat) : List (List UInt8) := [[UInt8.ofNat z], be4 s, be4 e, be8 c, be8 v]
end Go.Proofs.YtnhomnaamlbnpaaDoor.Seal
