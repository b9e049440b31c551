/- seal's rings, on: New, Hello, Way, Token. By an AI agent. -/
import Derived.Test.YtnhomnaamlbnpaaDoorRing
namespace Go.Proofs.YtnhomnaamlbnpaaDoor.Seal
open Go.RowKit Go.Proofs.YtnhomnaamlbnpaaDoor.M Go.Proofs.YtnhomnaamlbnpaaDoor.Sha Go.Proofs.YtnhomnaamlbnpaaDoor.Nw Go.Proofs.YtnhomnaamlbnpaaDoor.Ld Go.Proofs.YtnhomnaamlbnpaaDoor.Ord Go.Proofs.YtnhomnaamlbnpaaDoor.Ext
open Go.Proofs.YtnhomnaamlbnpaaDoor.Wr (IsW be2 be4 be8)
set_option linter.unusedVariables false
set_option maxRecDepth 20000

/-- a row of parts -/
theorem parts_new {w w' : World} {S : Nat → Prop} {g : Nat} {t : TypeId} {us : List Value} {ls : List (List UInt8)} (n : New w w' g t us.toArray) (hl : us.length = ls.length) (hm : ls.length ≤ maxLen)
    (h : ∀ (j : Nat) u l, us[j]? = some u → ls[j]? = some l → Byts w S u l) (hS : ∀ i, S i → i < w.heap.size) : Parts w' (fun k => S k ∨ k = g) (.slice (some ⟨g, 0, none⟩) ls.length ls.length) ls := by
  refine ⟨_, ls.length, rfl, Nat.le_refl _, hm, fun i l hl' => ?_⟩
  have hlt : i < us.length := by have := (List.getElem?_eq_some_iff.1 hl').1; omega
  have hu := List.getElem?_eq_getElem hlt
  refine ⟨g, 0, us[i], rfl, .inr rfl, ?_, ((h i _ l hu hl').same ((same_below n.below).sub hS)).sub fun k hk => .inl hk⟩
  rw [Nat.zero_add, n.blk.cell]
  simp

set_option maxHeartbeats 1000000 in
theorem new_any (v0 : Value) (sec : List UInt8) (S : Nat → Prop) (w : World) (hk : Byts w S v0 sec) (h1 : 1 ≤ sec.length) (h2 : sec.length ≤ 64) :
    Calls Tryd.prog 16 #[v0] w fun e w' => ∃ g, e = .returned (.tuple #[.pointer (some ⟨g, 0, none⟩), .int .i64 0]) ∧ IsRing w' g sec ∧ w.heap.size ≤ g ∧ Below w.heap.size w w' := by
  have hcv := conv_str (P := Tryd.prog) hk 22 9 5 Tryd.underlying22 Tryd.underlying5 Tryd.underlying9
  obtain ⟨A, c, rfl, _⟩ := hk.row
  go_enter Tryd.func16, Tryd.ntmps16
  go_wp2_with fail
  refine (may_yes _ sec S w hk h1 h2).mono ?_
  rintro e w' ⟨rfl, rfl⟩
  go_wp2_with (first | (with_reducible refine wpList_box_new rfl 92 (.tmp 9) rfl _ rfl ?_; intro g1 w1 n1) | fail)
  refine bodyPost_ret (results_tmp2 rfl _ _ _) rfl ⟨g1, rfl, ⟨n1.blk, h1, h2⟩, by have := n1.is; omega, n1.below⟩

theorem put_end {w w1 w2 w3 : World} {g : Nat} {k : List UInt8} (n1 : New w w1 g 26 ((row8 32).map cell8).toArray) (h2 : Below w.heap.size w w2) (h3 : Put w2 w3 g 26 (k.map cell8).toArray) : Below w.heap.size w w3 := below_grown h2 h3.grown (by have := n1.is; omega)

set_option maxHeartbeats 1000000 in
theorem hello_any (b : Nat) (sec : List UInt8) (w : World) (hR : IsRing w b sec) (ht : Tab w) :
    Calls Tryd.prog 18 #[.pointer (some ⟨b, 0, none⟩)] w fun e w' => e = .returned (.agg ((hmac sec (lay [104, 101, 108, 108, 111] [])).map cell8).toArray) ∧ Below w.heap.size w w' := by
  have htG := ht.1
  go_enter Tryd.func18, Tryd.ntmps18
  go_wp2_with (first | (with_reducible refine wpList_alloc_new rfl 26 rfl _ allocKey ?_; intro g1 w1 n1) | fail)
  refine (key_any b _ sec _ [] (fun _ => False) w1 (hR.below n1.below) (parts0 _ _) (fun i hi => hi.elim) (ht.below n1.below htG) (by decide) (by simp) (by decide)).mono ?_
  rintro e w2 ⟨rfl, hb2⟩
  have hbw2 : Below w.heap.size w w2 := n1.below.trans (hb2.mono n1.below.size)
  obtain ⟨k, hk⟩ : ∃ k, k = hmac sec (lay [104, 101, 108, 108, 111] []) := ⟨_, rfl⟩
  have hkl : k.length = 32 := by rw [hk]; exact sha_length _
  have hke : hmac sec (lay (⟨#[104, 101, 108, 108, 111]⟩ : ByteArray).data.toList []) = k := by rw [hk]
  rw [hke]
  have hK := n1.blk.same (same_below hb2) n1.blk.lt
  have HK := Lib.hid hK
  have HSS := Lib.hid (key_size k hkl)
  have HRS := Lib.hid (row_size k 32 hkl)
  have HKK := Lib.hid hk
  clear hK hkl hk hke hb2
  go_wp2_with (first | (with_reducible refine wpList_store_all rfl 26 (.tmp 2) (.tmp 4) rfl _ _ rfl rfl _ _ HK.out HSS.out HRS.out (all_cell8 k) ?_; intro w6 p6) | fail)
  exact bodyPost_ret (results_cell_row rfl _ _ g1 _ _ _ _ rfl p6.blk Tryd.underlying26 rfl HSS.out) rfl ⟨by rw [HKK.out], put_end n1 hbw2 p6⟩

set_option maxHeartbeats 1000000 in
theorem way_no (b : Value) (z : Int) (n1 n2 n3 n4 : Value) (w : World) (h0 : z ≠ 0) (h1 : z ≠ 1) :
    Calls Tryd.prog 19 #[b, .int .i64 z, n1, n2, n3, n4] w fun e w' => e = .returned (.agg ((row8 32).map cell8).toArray) ∧ Below w.heap.size w w' := by
  have e0 : (z != 0) = true := by simpa using h0
  have e1 : (z != 1) = true := by simpa using h1
  have HSS := Lib.hid (key_size (row8 32) (by simp [row8]))
  go_enter Tryd.func19, Tryd.ntmps19
  go_wp2_with (first | (with_reducible refine wpList_alloc_new rfl 26 rfl _ allocKey ?_; intro g1 w1 m1) | (with_reducible refine wpList_build_as rfl 26 _ rfl ((row8 32).map cell8).toArray (by kernel_rfl) ?_) | (with_reducible refine wpList_store_all rfl 26 (.tmp 12) (.tmp 19) rfl _ _ rfl rfl _ _ m1.blk HSS.out rfl (all_cell8 _) ?_; intro w6 p6) | fail)
  exact bodyPost_ret (results_cell_row rfl _ _ g1 _ _ _ _ rfl p6.blk Tryd.underlying26 rfl HSS.out) rfl ⟨rfl, put_end m1 m1.below p6⟩

/-- what a way's key is of -/
def wayParts (z s e c v : Nat) : List (List UInt8) := [[UInt8.ofNat z], be4 s, be4 e, be8 c, be8 v]
end Go.Proofs.YtnhomnaamlbnpaaDoor.Seal
