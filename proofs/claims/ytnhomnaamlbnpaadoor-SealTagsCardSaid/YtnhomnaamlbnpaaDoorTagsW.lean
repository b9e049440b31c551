/- The walk of SealTags. By an AI agent. -/
import Derived.Test.YtnhomnaamlbnpaaDoorWk
namespace Go.Proofs.YtnhomnaamlbnpaaDoor.Walks
open Go.RowKit Go.Proofs.YtnhomnaamlbnpaaDoor.M Go.Proofs.YtnhomnaamlbnpaaDoor.Sha Go.Proofs.YtnhomnaamlbnpaaDoor.Nw Go.Proofs.YtnhomnaamlbnpaaDoor.Ld Go.Proofs.YtnhomnaamlbnpaaDoor.Ord Go.Proofs.YtnhomnaamlbnpaaDoor.Ext Go.Proofs.YtnhomnaamlbnpaaDoor.Seal
open Go.Proofs.YtnhomnaamlbnpaaDoor.Rd (numOf numOf_snoc numOf_lt take_more pow_mono8)
set_option linter.unusedVariables false
set_option maxRecDepth 20000

/-- a key brought to 32 bytes -/
def keyOf (key : List UInt8) : List UInt8 := key.take 32 ++ List.replicate (32 - key.length) 0
theorem keyOf_length (key : List UInt8) : (keyOf key).length = 32 := by unfold keyOf; rw [List.length_append, List.length_take, List.length_replicate]; omega
theorem keyOf_splice (key : List UInt8) : splice ((row8 32).map cell8) 0 ((key.take 32).map cell8) = (keyOf key).map cell8 := by
  unfold splice keyOf row8
  simp only [List.take_zero, List.nil_append, Nat.zero_add, List.length_map, List.length_take, List.map_append, List.map_replicate, List.drop_replicate]
  congr 2
  omega
theorem info8 : (Tryd.prog.info? 5).map (·.size) = some 1 := by kernel_rfl

set_option maxHeartbeats 2000000 in
theorem sealTags (w : World) (v0 v1 : Value) (key0 l0 : List UInt8) (h0 : Byts w (fun k => k < w.heap.size) v0 key0) (h1 : Byts w (fun k => k < w.heap.size) v1 l0) (ht : Tab w) :
    Calls Tryd.prog 7 #[v0, v1] w fun e w' => e = .returned (.bool true) ∧ Below w.heap.size w w' := by
  obtain ⟨i0, hi0, hz0, hz1, hz2⟩ := info_parts infoSlice
  have htG := ht.1
  obtain ⟨A0, c0, rfl, hnc0, hm0, _⟩ := h0.row
  obtain ⟨A1, c1, rfl, hnc1, hm1, _⟩ := h1.row
  unfold maxLen at hm0 hm1
  have hmin : min (l0.length : Int) 300 = ((min l0.length 300 : Nat) : Int) := by omega
  have hx1 : (0 : Int) ≤ ((min l0.length 300 : Nat) : Int) := by omega
  have hx2 : ((min l0.length 300 : Nat) : Int) ≤ (c1 : Int) := by omega
  have hL := h1.take_ (k := min l0.length 300) (by omega)
  have hkl := keyOf_length key0
  have hks := keyOf_splice key0
  obtain ⟨b, hb⟩ : ∃ b, b = l0.take (min l0.length 300) := ⟨_, rfl⟩
  rw [← hb] at hL
  have hbl : b.length = min l0.length 300 := by rw [hb, List.length_take]; omega
  have hbm : b.length ≤ 300 := by omega
  rw [← hbl] at hmin hx1 hx2 hL
  generalize keyOf key0 = K at *
  have HKL := Lib.hid hkl
  have HKS := Lib.hid hks
  have HMIN := hmin
  clear hkl hks hb hbl
  go_enter Tryd.func7, Tryd.ntmps7
  go_wp2_with (first | (with_reducible refine wpList_alloc_new rfl 26 rfl _ allocKey ?_; intro g1 w1 n1) | (with_reducible refine wpList_copy_min rfl (.tmp 10) (.tmp 11) _ _ rfl _ Tryd.underlying22 info8 _ _ _ _ _ _ _ rfl rfl _ _ n1.blk _ key0 (h0.same (same_below n1.below)) (by simp [row8]) ?_; intro w2 p2) | (with_reducible refine wpList_slice1 rfl 23 _ (.tmp 19) rfl Tryd.underlying23 hi0 hz0 hz1 _ rfl rfl ?_; intro g3 w3 n3) | fail)
  have hbw2 : Below w.heap.size w w2 := below_grown n1.below p2.grown (by have := n1.is; omega)
  have hbw3 : Below w.heap.size w w3 := hbw2.trans (n3.below.mono hbw2.size)
  have hK2 := p2.blk
  rw [HKS.out] at hK2
  have hg1 : w.heap.size ≤ g1 := by have := n1.is; omega
  have hg1' : g1 < w2.heap.size := hK2.lt
  have hK3 := hK2.same (same_below n3.below) hg1'
  have hz3 := n3.size
  have hi3 := n3.is
  have hkb : Byts w3 (fun k => k = g1) (.slice (some ⟨g1, 0, none⟩) 32 32) K := byts_var hK3 HKL.out (by simp [maxLen])
  have hpp := parts1 n3 (hL.same (same_below hbw2)) (fun i hi => by have := hbw2.size; omega)
  refine (hmac_any _ _ K [b] _ _ w3 hkb hpp (by rintro i rfl; omega) (fun i hi => by rcases hi with hi | rfl; (have := hbw2.size; omega); omega) (ht.below hbw3 htG)).mono ?_
  rintro e w4 ⟨rfl, hb4⟩
  rw [flat1]
  have hK4 := hK3.same (same_below hb4) hK3.lt
  have hbw4 : Below w.heap.size w w4 := hbw3.trans (hb4.mono hbw3.size)
  obtain ⟨hm, hhm⟩ : ∃ hm, hm = hmac K b := ⟨_, rfl⟩
  have hlm : hm.length = 32 := by rw [hhm]; exact sha_length _
  rw [← hhm]
  have htg : tagOf K b = numOf (hm.take 8) := by rw [hhm]; rfl
  have HH := Lib.hid htg
  have HLM := Lib.hid hlm
  have HSS := Lib.hid (key_size K HKL.out)
  have HS4 := Lib.hid (sum_size hm hlm)
  have HR4 := Lib.hid (row_size hm 32 hlm)
  have HK4 := Lib.hid hK4
  have N1 := Lib.hid n1
  clear hhm hlm htg hK2 hK3 hK4 hkb hpp hz3 hi3 hb4 p2 n3 n1
  go_wp2_with (first | (with_reducible refine wpList_alloc_new rfl 56 rfl _ alloc24 ?_; intro g5 w5 n5) | (with_reducible refine wpList_store_all rfl 56 (.tmp 6) (.tmp 21) rfl _ _ rfl rfl _ _ n5.blk HS4.out HR4.out (all_cell8 hm) ?_; intro w6 p6) | fail)
  have hbw5 : Below w.heap.size w w5 := hbw4.trans (n5.below.mono hbw4.size)
  have hg5 : w.heap.size ≤ g5 := by have := n5.is; have := hbw4.size; omega
  have hbw6 : Below w.heap.size w w6 := below_grown hbw5 p6.grown hg5
  have hne : g1 ≠ g5 := by have := n5.is; have := HK4.out.lt; omega
  have hK6 := (HK4.out.same (same_below n5.below) HK4.out.lt).same (same_grown p6.grown) ⟨by have := n5.size; have := HK4.out.lt; omega, fun e => hne (Option.some.inj e)⟩
  have hM6 := p6.blk
  have HM6 := Lib.hid hM6
  have HK6 := Lib.hid hK6
  clear hM6 hK6 p6 n5 hne HK4
  go_loop [7, 24] (fun r i => ∃ k : Nat, k ≤ 8 ∧ i = .int .i64 k ∧ r = .int .u64 (numOf (hm.take k) : Nat)) (fun _ i => 8 - (intOf i).toNat)
  case atStart => exact ⟨0, by omega, rfl, rfl⟩
  case round =>
    obtain ⟨k, hk, rfl, rfl⟩ := hrel
    by_cases hlt : k < 8
    · have hkl : k < hm.length := by have := HLM.out; omega
      have hx := List.getElem?_eq_getElem hkl
      have hcell : w6.cell? ⟨g5, k, none⟩ = some (.int .u8 (hm[k].toNat : Int)) := by
        rw [HM6.out.cell]
        simp [cell8, hkl]
      have hs := numOf_snoc (hm.take k) hm[k]
      have hb := numOf_lt (hm.take k)
      have hb2 := hm[k].toNat_lt
      have hb3 : (hm.take k).length ≤ 7 := by rw [List.length_take]; omega
      have hb4 := pow_mono8 hb3
      rw [← take_more hm k _ hx] at hs
      generalize hm[k].toNat = y at *
      generalize hq : numOf (hm.take k) = q at *
      have hq56 : q < 72057594037927936 := by omega
      have e1 : bits .or .u64 ((q : Int) * 256) (y : Int) = ((q * 256 + y : Nat) : Int) := by
        rw [← nat_join 8 (q * 256) y (by omega) (by omega)]
        exact u64_or_nat (q * 256) y (by omega) (by omega)
      have HS := Lib.hid hs
      have HQ := Lib.hid hq
      clear hs hq hb hb4 hx hkl
      go_wp2
      go_round
      case rel => exact ⟨k + 1, by omega, by go_num, by rw [HS.out]; go_num⟩
      case measure => simp [intOf]; omega
    · obtain rfl : k = 8 := by omega
      obtain ⟨tg, htg⟩ : ∃ tg : Nat, tg = tagOf K b := ⟨_, rfl⟩
      rw [← HH.out, ← htg]
      have HTG := Lib.hid htg.symm
      clear htg
      go_wp2_with fail
      obtain ⟨B, hB⟩ : ∃ B, B = w6.heap.size := ⟨_, rfl⟩
      have ht5 := ht.below hbw6 htG
      have HWB := Lib.hid hB
      have HB5 := HK6
      have hbb : Bs b (.slice A1 b.length c1) w6 := (hL.same (same_below hbw6)).sub fun i hi => by have := hbw6.size; omega
      have HBB := Lib.hid hbb
      clear hB hbb
      have h0S : Ext B w6 w6.drew := ⟨rfl, rfl, rfl, Nat.le_refl _, fun _ _ => rfl, fun _ _ _ fr h => ⟨fr, h⟩⟩
      refine wp_region_spec (by kernel_rfl) (by kernel_rfl) (by kernel_rfl) (fun u => Ext B w6 u) (Ext B)
        [Spec.is (.agg (K.map cell8).toArray), Spec.is (.slice A1 b.length c1), Spec.is (.int .u64 (tg : Int)), Spec.is (.int .u64 (tg : Int)), Spec.is (.bool true), Spec.is (.bool true), Spec.is (.agg (K.map cell8).toArray), Spec.is (.slice A1 b.length c1), ⟨Bs b, fun _ _ _ h e => h.ext e⟩, Spec.is (.int .u64 (tg : Int)), Spec.is (.int .u64 (tg : Int)), Spec.is (.bool true), Spec.is (.bool true), Spec.is (.bool true), Spec.is (.bool true), Spec.is (.bool true), Spec.is (.bool true)] 17 (by kernel_rfl) h0S ⟨?_, ?_, ?_, ?_, ?_, ?_, ?_, ?_, ?_, ?_, ?_, ?_, ?_, ?_, ?_, ?_, ?_, trivial⟩ ?_
      · intro a w hS hd ho hsz   -- 0: load 26 t5
        have e5 : a.eval (.tmp 5) = .pointer (some ⟨g1, 0, none⟩) := other_ev ho (by decide +kernel) rfl
        have hB6 : Blk w g1 26 (K.map cell8).toArray := (hS.block g1 (by rw [HWB.out]; exact HB5.out.lt)).trans HB5.out
        refine duty_is (by rfl) (wanted_none rfl) (.agg (K.map cell8).toArray) ?_ rfl hS (Ext.refl _ _)
        exact run_load_blk 26 (.tmp 5) rfl g1 e5 _ _ _ hB6 Tryd.underlying26 rfl HSS.out
      · intro a w hS hd ho hsz   -- 1: move t1
        have e1 : a.eval (.tmp 1) = (.slice A1 b.length c1) := other_ev ho (by decide +kernel) rfl
        refine duty_is (by rfl) (wanted_none rfl) (.slice A1 b.length c1) ?_ rfl hS (Ext.refl _ _)
        simp only [execOp, List.getElem_toArray, List.getElem_cons_succ, List.getElem_cons_zero, e1, ev_const]
        go_simp
      · intro a w hS hd ho hsz   -- 2: call { value (Operand.func 13), args := #[t34, t35], argTypes := #[26, 22] }
        obtain ⟨_, l0, rfl⟩ := hd 0 (by decide +kernel)
        obtain ⟨_, l1, rfl⟩ := hd 1 (by decide +kernel)
        have e34 := left_ev l0 (d := 34) (by rfl) (by rw [hsz]; simp)
        have e35 := left_ev l1 (d := 35) (by rfl) (by rw [hsz]; simp)
        have hBw : B ≤ w.heap.size := by rw [HWB.out]; exact hS.size
        have ht6 := ht5.below hS.below (by rw [HWB.out]; exact ht5.1)
        have hb6 : Bs b (.slice A1 b.length c1) w := Bs.ext HBB.out hS
        refine duty_call (by rfl) (wanted_none rfl) 13 #[.agg (K.map cell8).toArray, .slice A1 b.length c1] ?_ (tag_any K b _ _ w HKL.out hb6 (fun i hi => hi) ht6) ?_
        · simp [Act.eval, hsz] at e34 e35
          simp only [execOp, List.getElem_toArray, List.getElem_cons_succ, List.getElem_cons_zero, List.map_toArray, List.map_cons, List.map_nil, e34, e35, ev_const]
          go_simp
        · rintro e w' ⟨rfl, hbl⟩
          have he := Ext.of hbl hBw
          exact ⟨_, rfl, by rw [HTG.out]; rfl, hS.trans he, he⟩
      · intro a w hS hd ho hsz   -- 3: move t7
        have e7 : a.eval (.tmp 7) = (.int .u64 (tg : Int)) := other_ev ho (by decide +kernel) rfl
        refine duty_is (by rfl) (wanted_none rfl) (.int .u64 (tg : Int)) ?_ rfl hS (Ext.refl _ _)
        simp only [execOp, List.getElem_toArray, List.getElem_cons_succ, List.getElem_cons_zero, e7, ev_const]
        go_simp
      · intro a w hS hd ho hsz   -- 4: binOp BinOp.eql 32 t36 t37 32
        obtain ⟨_, l2, rfl⟩ := hd 2 (by decide +kernel)
        obtain ⟨_, l3, rfl⟩ := hd 3 (by decide +kernel)
        have e36 := left_ev l2 (d := 36) (by rfl) (by rw [hsz]; simp)
        have e37 := left_ev l3 (d := 37) (by rfl) (by rw [hsz]; simp)
        refine duty_is (by rfl) (wanted_none rfl) (.bool true) ?_ rfl hS (Ext.refl _ _)
        simp only [execOp, List.getElem_toArray, List.getElem_cons_succ, List.getElem_cons_zero, e36, e37, ev_const]
        go_simp
      · intro a w hS hd ho hsz   -- 5: move t38
        obtain ⟨_, l4, rfl⟩ := hd 4 (by decide +kernel)
        have e38 := left_ev l4 (d := 38) (by rfl) (by rw [hsz]; simp)
        refine duty_is (by rfl) (wanted_none rfl) (.bool true) ?_ rfl hS (Ext.refl _ _)
        simp only [execOp, List.getElem_toArray, List.getElem_cons_succ, List.getElem_cons_zero, e38, ev_const]
        go_simp
      · intro a w hS hd ho hsz   -- 6: load 26 t5
        obtain ⟨_, l5, rfl⟩ := hd 5 (by decide +kernel)
        have e5 : a.eval (.tmp 5) = .pointer (some ⟨g1, 0, none⟩) := other_ev ho (by decide +kernel) rfl
        have hB6 : Blk w g1 26 (K.map cell8).toArray := (hS.block g1 (by rw [HWB.out]; exact HB5.out.lt)).trans HB5.out
        refine duty_is (by rfl) (wanted_guard rfl (by rfl) (left_at l5 (d := 39) (by rfl) (by rw [hsz]; simp))) (.agg (K.map cell8).toArray) ?_ rfl hS (Ext.refl _ _)
        exact run_load_blk 26 (.tmp 5) rfl g1 e5 _ _ _ hB6 Tryd.underlying26 rfl HSS.out
      · intro a w hS hd ho hsz   -- 7: move t1
        obtain ⟨_, l5, rfl⟩ := hd 5 (by decide +kernel)
        have e1 : a.eval (.tmp 1) = (.slice A1 b.length c1) := other_ev ho (by decide +kernel) rfl
        refine duty_is (by rfl) (wanted_guard rfl (by rfl) (left_at l5 (d := 39) (by rfl) (by rw [hsz]; simp))) (.slice A1 b.length c1) ?_ rfl hS (Ext.refl _ _)
        simp only [execOp, List.getElem_toArray, List.getElem_cons_succ, List.getElem_cons_zero, e1, ev_const]
        go_simp
      · intro a w hS hd ho hsz   -- 8: call { value (Operand.func 23), args := #[t41], argTypes := #[22] }
        obtain ⟨_, l5, rfl⟩ := hd 5 (by decide +kernel)
        obtain ⟨_, l7, rfl⟩ := hd 7 (by decide +kernel)
        have e41 := left_ev l7 (d := 41) (by rfl) (by rw [hsz]; simp)
        have hBw : B ≤ w.heap.size := by rw [HWB.out]; exact hS.size
        have ht6 := ht5.below hS.below (by rw [HWB.out]; exact ht5.1)
        have hb6 : Bs b (.slice A1 b.length c1) w := Bs.ext HBB.out hS
        refine duty_call (by rfl) (wanted_guard rfl (by rfl) (left_at l5 (d := 39) (by rfl) (by rw [hsz]; simp))) 23 #[.slice A1 b.length c1] ?_ (Byt.clone_any _ b _ w hb6 (by omega)) ?_
        · simp [Act.eval, hsz] at e41
          simp only [execOp, List.getElem_toArray, List.getElem_cons_succ, List.getElem_cons_zero, List.map_toArray, List.map_cons, List.map_nil, e41, ev_const]
          go_simp
        · rintro e w' ⟨A2, c2, rfl, hB2, hbl⟩
          have he := Ext.of hbl hBw
          exact ⟨_, rfl, hB2.sub fun i hi => hi.2, hS.trans he, he⟩
      · intro a w hS hd ho hsz   -- 9: call { value (Operand.func 13), args := #[t40, t42], argTypes := #[26, 22] }
        obtain ⟨_, l5, rfl⟩ := hd 5 (by decide +kernel)
        obtain ⟨_, l6, rfl⟩ := hd 6 (by decide +kernel)
        obtain ⟨v8, l8, q8⟩ := hd 8 (by decide +kernel)
        replace q8 : (Bs b) v8 w := q8
        have e40 := left_ev l6 (d := 40) (by rfl) (by rw [hsz]; simp)
        have e42 := left_ev l8 (d := 42) (by rfl) (by rw [hsz]; simp)
        have hBw : B ≤ w.heap.size := by rw [HWB.out]; exact hS.size
        have ht6 := ht5.below hS.below (by rw [HWB.out]; exact ht5.1)
        have hb6 : Bs b (.slice A1 b.length c1) w := Bs.ext HBB.out hS
        refine duty_call (by rfl) (wanted_guard rfl (by rfl) (left_at l5 (d := 39) (by rfl) (by rw [hsz]; simp))) 13 #[.agg (K.map cell8).toArray, v8] ?_ (tag_any K b _ _ w HKL.out q8 (fun i hi => hi) ht6) ?_
        · simp [Act.eval, hsz] at e40 e42
          simp only [execOp, List.getElem_toArray, List.getElem_cons_succ, List.getElem_cons_zero, List.map_toArray, List.map_cons, List.map_nil, e40, e42, ev_const]
          go_simp
        · rintro e w' ⟨rfl, hbl⟩
          have he := Ext.of hbl hBw
          exact ⟨_, rfl, by rw [HTG.out]; rfl, hS.trans he, he⟩
      · intro a w hS hd ho hsz   -- 10: move t7
        obtain ⟨_, l5, rfl⟩ := hd 5 (by decide +kernel)
        have e7 : a.eval (.tmp 7) = (.int .u64 (tg : Int)) := other_ev ho (by decide +kernel) rfl
        refine duty_is (by rfl) (wanted_guard rfl (by rfl) (left_at l5 (d := 39) (by rfl) (by rw [hsz]; simp))) (.int .u64 (tg : Int)) ?_ rfl hS (Ext.refl _ _)
        simp only [execOp, List.getElem_toArray, List.getElem_cons_succ, List.getElem_cons_zero, e7, ev_const]
        go_simp
      · intro a w hS hd ho hsz   -- 11: binOp BinOp.eql 32 t43 t44 32
        obtain ⟨_, l5, rfl⟩ := hd 5 (by decide +kernel)
        obtain ⟨_, l9, rfl⟩ := hd 9 (by decide +kernel)
        obtain ⟨_, l10, rfl⟩ := hd 10 (by decide +kernel)
        have e43 := left_ev l9 (d := 43) (by rfl) (by rw [hsz]; simp)
        have e44 := left_ev l10 (d := 44) (by rfl) (by rw [hsz]; simp)
        refine duty_is (by rfl) (wanted_guard rfl (by rfl) (left_at l5 (d := 39) (by rfl) (by rw [hsz]; simp))) (.bool true) ?_ rfl hS (Ext.refl _ _)
        simp only [execOp, List.getElem_toArray, List.getElem_cons_succ, List.getElem_cons_zero, e43, e44, ev_const]
        go_simp
      · intro a w hS hd ho hsz   -- 12: pick t39 t45 (const (Value.bool false))
        obtain ⟨_, l5, rfl⟩ := hd 5 (by decide +kernel)
        obtain ⟨_, l11, rfl⟩ := hd 11 (by decide +kernel)
        have e39 := left_ev l5 (d := 39) (by rfl) (by rw [hsz]; simp)
        have e45 := left_ev l11 (d := 45) (by rfl) (by rw [hsz]; simp)
        refine duty_is (by rfl) (wanted_none rfl) (.bool true) ?_ rfl hS (Ext.refl _ _)
        simp only [execOp, List.getElem_toArray, List.getElem_cons_succ, List.getElem_cons_zero, e39, e45, ev_const]
        go_simp
      · intro a w hS hd ho hsz   -- 13: move t46
        obtain ⟨_, l12, rfl⟩ := hd 12 (by decide +kernel)
        have e46 := left_ev l12 (d := 46) (by rfl) (by rw [hsz]; simp)
        refine duty_is (by rfl) (wanted_none rfl) (.bool true) ?_ rfl hS (Ext.refl _ _)
        simp only [execOp, List.getElem_toArray, List.getElem_cons_succ, List.getElem_cons_zero, e46, ev_const]
        go_simp
      · intro a w hS hd ho hsz   -- 14: call { value (Operand.func 15), args := #[], argTypes := #[] }
        obtain ⟨_, l13, rfl⟩ := hd 13 (by decide +kernel)
        have hBw : B ≤ w.heap.size := by rw [HWB.out]; exact hS.size
        have ht6 := ht5.below hS.below (by rw [HWB.out]; exact ht5.1)
        have hb6 : Bs b (.slice A1 b.length c1) w := Bs.ext HBB.out hS
        refine duty_call (by rfl) (wanted_guard rfl (by rfl) (left_at l13 (d := 47) (by rfl) (by rw [hsz]; simp))) 15 #[] ?_ (wakes_any w ht6) ?_
        · simp only [execOp, List.getElem_toArray, List.getElem_cons_succ, List.getElem_cons_zero, List.map_toArray, List.map_cons, List.map_nil, ev_const]
          go_simp
        · rintro e w' ⟨rfl, hbl⟩
          have he := Ext.of hbl hBw
          exact ⟨_, rfl, rfl, hS.trans he, he⟩
      · intro a w hS hd ho hsz   -- 15: pick t47 t48 (const (Value.bool false))
        obtain ⟨_, l13, rfl⟩ := hd 13 (by decide +kernel)
        obtain ⟨_, l14, rfl⟩ := hd 14 (by decide +kernel)
        have e47 := left_ev l13 (d := 47) (by rfl) (by rw [hsz]; simp)
        have e48 := left_ev l14 (d := 48) (by rfl) (by rw [hsz]; simp)
        refine duty_is (by rfl) (wanted_none rfl) (.bool true) ?_ rfl hS (Ext.refl _ _)
        simp only [execOp, List.getElem_toArray, List.getElem_cons_succ, List.getElem_cons_zero, e47, e48, ev_const]
        go_simp
      · intro a w hS hd ho hsz   -- 16: assign t49
        obtain ⟨_, l15, rfl⟩ := hd 15 (by decide +kernel)
        have e49 := left_ev l15 (d := 49) (by rfl) (by rw [hsz]; simp)
        refine duty_is (by rfl) (wanted_none rfl) (.bool true) ?_ rfl hS (Ext.refl _ _)
        simp only [execOp, List.getElem_toArray, List.getElem_cons_succ, List.getElem_cons_zero, e49, ev_const]
        go_simp
      · intro X w7 hS7 hX
        have x16 : X 16 = .bool true := hX 16 (by omega)
        clear hX
        simp only [frame, fillFrom, Act.put, List.setIfInBounds_toArray, List.set_cons_zero, List.set_cons_succ, x16]
        go_wp2
        go_ret
        exact ⟨rfl, hbw6.trans (hS7.below.mono (by rw [HWB.out]; exact hbw6.size))⟩
end Go.Proofs.YtnhomnaamlbnpaaDoor.Walks
