/- What every statement of layer 3 ends with: the chapter's example. By an AI agent. -/
import Derived.Test.YtnhomnaamlbnpaaDoorDer
import Derived.Test.YtnhomnaamlbnpaaDoorOrd
import Derived.Test.YtnhomnaamlbnpaaDoorExt
import Derived.Lib.SlBytesConst
import Derived.Stop.BytesEq
namespace Go.Proofs.YtnhomnaamlbnpaaDoor.Seal
open Go.RowKit Go.Proofs.YtnhomnaamlbnpaaDoor.M Go.Proofs.YtnhomnaamlbnpaaDoor.Sha Go.Proofs.YtnhomnaamlbnpaaDoor.Nw Go.Proofs.YtnhomnaamlbnpaaDoor.Ld Go.Proofs.YtnhomnaamlbnpaaDoor.Ord Go.Proofs.YtnhomnaamlbnpaaDoor.Ext
set_option linter.unusedVariables false
set_option maxRecDepth 20000

theorem parts0 (w : World) (S : Nat → Prop) : Parts w S (.slice none 0 0) [] := ⟨none, 0, rfl, Nat.le_refl _, Nat.zero_le _, fun i l h => by simp at h⟩
theorem eql_key (xs ys : List UInt8) (hx : xs.length = 32) (hy : ys.length = 32) (u : World) : (binOp .eql 26 (.agg (xs.map cell8).toArray) (.agg (ys.map cell8).toArray)).run Tryd.prog u = .ok (.bool (xs == ys)) u := by
  obtain ⟨i0, hi0, hs0⟩ := info1
  exact run_eql_bytes u 26 5 32 Tryd.underlying26 Tryd.underlying5 (fun w => by simp [sizeOf, typeInfo, hi0, hs0]) xs ys hx hy
theorem neq_key (xs ys : List UInt8) (hx : xs.length = 32) (hy : ys.length = 32) (u : World) : (binOp .neq 26 (.agg (xs.map cell8).toArray) (.agg (ys.map cell8).toArray)).run Tryd.prog u = .ok (.bool (!(xs == ys))) u := by
  obtain ⟨i0, hi0, hs0⟩ := info1
  have h := run_equalIn_bytes (P := Tryd.prog) (w := u) 9998 26 5 32 Tryd.underlying26 Tryd.underlying5 (fun w => by simp [sizeOf, typeInfo, hi0, hs0]) xs ys hx hy
  have h2 : (Op.equalIn 10000 26 (.agg (xs.map cell8).toArray) (.agg (ys.map cell8).toArray)).run Tryd.prog u = .ok (xs == ys) u := h
  rw [run_neq_struct, h2]
  rfl
theorem guardKeyTy : Tryd.prog.eqGuardType Tryd.prog.depth 26 = false := by kernel_rfl
theorem guard_key (b : BinOp) (x y : Operand) (A B : Array Value) (u : World) : (eqGuard b 26 x y (.agg A) (.agg B)).run Tryd.prog u = .ok () u := by
  simp [eqGuard, guardKeyTy, Sem.run_bind]
def k0 : List UInt8 := hmac [107, 101, 121] (lay [104, 101, 108, 108, 111] [])
theorem k0_ne : (k0 == row8 32) = false := by decide +kernel

set_option maxHeartbeats 1000000 in
theorem wakes_any (w : World) (ht : Tab w) :
    Calls Tryd.prog 15 #[] w fun e w' => e = .returned (.bool true) ∧ Below w.heap.size w w' := by
  have kc := fun (w : World) (C : Array Value) (n c : Nat) => Lib.run_convert_bytes_const (P := Tryd.prog) w 22 5 C n c Tryd.underlying22 Tryd.underlying5
  have htG := ht.1
  go_enter Tryd.func15, Tryd.ntmps15
  go_wp2_with fail
  have hb1 : Below w.heap.size w (w.alloc (.cells #[.int .u8 107, .int .u8 101, .int .u8 121] 5 (3, 4))) := (Below.refl _ _).alloc (Nat.le_refl _) _
  refine (derive_ok _ _ [107, 101, 121] _ [] _ (fun _ => False) _ (byts_new w #[.int .u8 107, .int .u8 101, .int .u8 121] 5 [107, 101, 121] 3 (by simp [maxLen]) rfl) (parts0 _ _) (by rintro i rfl; simp) (fun i hi => hi.elim) (ht.below hb1 htG) (by simp) (by simp) (by decide) (by simp) (by decide)).mono ?_
  rintro e w2 ⟨rfl, hb2⟩
  have hbw2 : Below w.heap.size w w2 := hb1.trans (hb2.mono hb1.size)
  obtain ⟨k, hk⟩ : ∃ k, k = k0 := ⟨_, rfl⟩
  have hke : hmac [107, 101, 121] (lay (⟨#[104, 101, 108, 108, 111]⟩ : ByteArray).data.toList []) = k := by rw [hk]; rfl
  rw [hke]
  have hkl : k.length = 32 := by rw [hk]; exact sha_length _
  have HKL := Lib.hid hkl
  have HK := Lib.hid hk
  have hkn : (k == row8 32) = false := by rw [hk]; exact k0_ne
  have HKN := Lib.hid hkn
  clear hkn
  have HSS := Lib.hid (key_size k hkl)
  have HRS := Lib.hid (row_size k 32 hkl)
  clear hkl hk hke kc hb1 hb2
  go_wp2_with (first | (with_reducible refine wpList_alloc_new rfl 26 rfl _ allocKey ?_; intro g4 w4 n4) | (with_reducible refine wpList_store_all rfl 26 (.tmp 1) (.tmp 7) rfl _ _ rfl rfl _ _ n4.blk HSS.out HRS.out (all_cell8 k) ?_; intro w5 p5) | fail)
  have hbw5 : Below w.heap.size w w5 := below_grown (hbw2.trans (n4.below.mono hbw2.size)) p5.grown (by have := n4.is; have := hbw2.size; omega)
  have hg4 : w.heap.size ≤ g4 := by have := n4.is; have := hbw2.size; omega
  have hB5 := p5.blk
  obtain ⟨B, hB⟩ : ∃ B, B = w5.heap.size := ⟨_, rfl⟩
  have ht5 := ht.below hbw5 htG
  have h0S : Ext B w5 w5.drew := ⟨rfl, rfl, rfl, Nat.le_refl _, fun _ _ => rfl, fun _ _ _ fr h => ⟨fr, h⟩⟩
  refine wp_region_spec (by kernel_rfl) (by kernel_rfl) (by kernel_rfl) (fun u => Ext B w5 u) (Ext B)
    [Spec.is (.int .i64 0), Spec.is (.bool true), Spec.is (.bool true), Spec.is (.agg (k.map cell8).toArray), Spec.is (.agg ((row8 32).map cell8).toArray), Spec.is (.bool true), Spec.is (.bool true), Spec.is (.bool true), Spec.is (.agg (k.map cell8).toArray), ⟨Row B #[.int .u8 107, .int .u8 101, .int .u8 121] 5 3, fun _ _ _ h e => h.ext e⟩, ⟨Bs [107, 101, 121], fun _ _ _ h e => h.ext e⟩, ⟨Row B #[.int .u8 0, .int .u8 5, .int .u8 104, .int .u8 101, .int .u8 108, .int .u8 108, .int .u8 111] 5 7, fun _ _ _ h e => h.ext e⟩, ⟨Bs [0, 5, 104, 101, 108, 108, 111], fun _ _ _ h e => h.ext e⟩, ⟨Ps [[0, 5, 104, 101, 108, 108, 111]], fun _ _ _ h e => h.ext e⟩, Spec.is (.agg (k.map cell8).toArray), Spec.is (.bool true), Spec.is (.bool true), Spec.is (.bool true)] 18 (by kernel_rfl) h0S ⟨?_, ?_, ?_, ?_, ?_, ?_, ?_, ?_, ?_, ?_, ?_, ?_, ?_, ?_, ?_, ?_, ?_, ?_, trivial⟩ ?_
  · intro a w hS hd ho hsz   -- 0: move t2
    have e2 : a.eval (.tmp 2) = .int .i64 0 := other_ev ho (by decide +kernel) rfl
    refine duty_is (by rfl) (wanted_none rfl) (.int .i64 0) ?_ rfl hS (Ext.refl _ _)
    simp only [execOp, List.getElem_toArray, List.getElem_cons_succ, List.getElem_cons_zero, e2, ev_const]
    go_simp
  · intro a w hS hd ho hsz   -- 1: binOp BinOp.eql 27 t9 (const (0:i64)) 27
    obtain ⟨_, l0, rfl⟩ := hd 0 (by decide +kernel)
    have e9 := left_ev l0 (d := 9) (by rfl) (by rw [hsz]; simp)
    refine duty_is (by rfl) (wanted_none rfl) (.bool true) ?_ rfl hS (Ext.refl _ _)
    simp only [execOp, List.getElem_toArray, List.getElem_cons_succ, List.getElem_cons_zero, e9, ev_const]
    go_simp
  · intro a w hS hd ho hsz   -- 2: move t10
    obtain ⟨_, l1, rfl⟩ := hd 1 (by decide +kernel)
    have e10 := left_ev l1 (d := 10) (by rfl) (by rw [hsz]; simp)
    refine duty_is (by rfl) (wanted_none rfl) (.bool true) ?_ rfl hS (Ext.refl _ _)
    simp only [execOp, List.getElem_toArray, List.getElem_cons_succ, List.getElem_cons_zero, e10, ev_const]
    go_simp
  · intro a w hS hd ho hsz   -- 3: load 26 t1
    obtain ⟨_, l2, rfl⟩ := hd 2 (by decide +kernel)
    have e1 : a.eval (.tmp 1) = .pointer (some ⟨g4, 0, none⟩) := other_ev ho (by decide +kernel) rfl
    have hB6 : Blk w g4 26 (k.map cell8).toArray := (hS.block g4 (by rw [hB]; exact hB5.lt)).trans hB5
    refine duty_is (by rfl) (wanted_guard rfl (by rfl) (left_at l2 (d := 11) (by rfl) (by rw [hsz]; simp))) (.agg (k.map cell8).toArray) ?_ rfl hS (Ext.refl _ _)
    exact run_load_blk 26 (.tmp 1) rfl g4 e1 _ _ _ hB6 Tryd.underlying26 rfl HSS.out
  · intro a w hS hd ho hsz   -- 4: build 26 #[]
    obtain ⟨_, l2, rfl⟩ := hd 2 (by decide +kernel)
    refine duty_is (by rfl) (wanted_guard rfl (by rfl) (left_at l2 (d := 11) (by rfl) (by rw [hsz]; simp))) (.agg ((row8 32).map cell8).toArray) ?_ rfl hS (Ext.refl _ _)
    simp only [execOp, List.getElem_toArray, List.getElem_cons_succ, List.getElem_cons_zero, List.map_toArray, List.map_cons, List.map_nil, ev_const]
    go_simp
    rfl
  · intro a w hS hd ho hsz   -- 5: binOp BinOp.neq 26 t12 t13 26
    obtain ⟨_, l2, rfl⟩ := hd 2 (by decide +kernel)
    obtain ⟨_, l3, rfl⟩ := hd 3 (by decide +kernel)
    obtain ⟨_, l4, rfl⟩ := hd 4 (by decide +kernel)
    have e12 := left_ev l3 (d := 12) (by rfl) (by rw [hsz]; simp)
    have e13 := left_ev l4 (d := 13) (by rfl) (by rw [hsz]; simp)
    have hnq := fun u => neq_key k (row8 32) HKL.out (by simp [row8]) u
    rw [HKN.out] at hnq
    have hgd := guard_key
    refine duty_is (by rfl) (wanted_guard rfl (by rfl) (left_at l2 (d := 11) (by rfl) (by rw [hsz]; simp))) (.bool true) ?_ rfl hS (Ext.refl _ _)
    simp only [execOp, List.getElem_toArray, List.getElem_cons_succ, List.getElem_cons_zero, List.map_toArray, List.map_cons, List.map_nil, e12, e13, ev_const]
    go_simp
  · intro a w hS hd ho hsz   -- 6: pick t11 t14 (const (Value.bool false))
    obtain ⟨_, l2, rfl⟩ := hd 2 (by decide +kernel)
    obtain ⟨_, l5, rfl⟩ := hd 5 (by decide +kernel)
    have e11 := left_ev l2 (d := 11) (by rfl) (by rw [hsz]; simp)
    have e14 := left_ev l5 (d := 14) (by rfl) (by rw [hsz]; simp)
    refine duty_is (by rfl) (wanted_none rfl) (.bool true) ?_ rfl hS (Ext.refl _ _)
    simp only [execOp, List.getElem_toArray, List.getElem_cons_succ, List.getElem_cons_zero, e11, e14, ev_const]
    go_simp
  · intro a w hS hd ho hsz   -- 7: move t15
    obtain ⟨_, l6, rfl⟩ := hd 6 (by decide +kernel)
    have e15 := left_ev l6 (d := 15) (by rfl) (by rw [hsz]; simp)
    refine duty_is (by rfl) (wanted_none rfl) (.bool true) ?_ rfl hS (Ext.refl _ _)
    simp only [execOp, List.getElem_toArray, List.getElem_cons_succ, List.getElem_cons_zero, e15, ev_const]
    go_simp
  · intro a w hS hd ho hsz   -- 8: load 26 t1
    obtain ⟨_, l7, rfl⟩ := hd 7 (by decide +kernel)
    have e1 : a.eval (.tmp 1) = .pointer (some ⟨g4, 0, none⟩) := other_ev ho (by decide +kernel) rfl
    have hB6 : Blk w g4 26 (k.map cell8).toArray := (hS.block g4 (by rw [hB]; exact hB5.lt)).trans hB5
    refine duty_is (by rfl) (wanted_guard rfl (by rfl) (left_at l7 (d := 16) (by rfl) (by rw [hsz]; simp))) (.agg (k.map cell8).toArray) ?_ rfl hS (Ext.refl _ _)
    exact run_load_blk 26 (.tmp 1) rfl g4 e1 _ _ _ hB6 Tryd.underlying26 rfl HSS.out
  · intro a w hS hd ho hsz   -- 9: buildSlice 22 3 #[(0, const (107:u8)), (1, const (101:u8)), (2, const (121:u8))]
    obtain ⟨_, l7, rfl⟩ := hd 7 (by decide +kernel)
    have hBw : B ≤ w.heap.size := by rw [hB]; exact hS.size
    have he : Ext B w (w.alloc (.cells #[.int .u8 107, .int .u8 101, .int .u8 121] 5)) := Ext.of ((Below.refl _ _).alloc (Nat.le_refl _) _) hBw
    refine duty_run (by rfl) (wanted_guard rfl (by rfl) (left_at l7 (d := 16) (by rfl) (by rw [hsz]; simp))) (.slice (some ⟨w.heap.size, 0, none⟩) 3 3) (w' := w.alloc (.cells #[.int .u8 107, .int .u8 101, .int .u8 121] 5)) ?_ ⟨_, (0, 0), rfl, hBw, heap_alloc_new w _⟩ (hS.trans he) he
    simp only [execOp, List.getElem_toArray, List.getElem_cons_succ, List.getElem_cons_zero, List.map_toArray, List.map_cons, List.map_nil, ev_const]
    go_simp
  · intro a w hS hd ho hsz   -- 10: convert 22 22 t18
    obtain ⟨_, l7, rfl⟩ := hd 7 (by decide +kernel)
    obtain ⟨v9, l9, q9⟩ := hd 9 (by decide +kernel)
    replace q9 : (Row B #[.int .u8 107, .int .u8 101, .int .u8 121] 5 3) v9 w := q9
    have e18 := left_ev l9 (d := 18) (by rfl) (by rw [hsz]; simp)
    obtain ⟨w', hrun, he, _⟩ := row_mark (P := Tryd.prog) q9 Tryd.underlying22 Tryd.underlying5
    refine duty_run (by rfl) (wanted_guard rfl (by rfl) (left_at l7 (d := 16) (by rfl) (by rw [hsz]; simp))) v9 ?_ ((q9.ext he).bytes (l := [107, 101, 121]) rfl rfl (by simp [maxLen])) (hS.trans he) he
    simp only [execOp, List.getElem_toArray, List.getElem_cons_succ, List.getElem_cons_zero, List.map_toArray, List.map_cons, List.map_nil, e18, ev_const, Sem.run_bind, hrun]
    rfl
  · intro a w hS hd ho hsz   -- 11: buildSlice 22 7 #[(0, const (0:u8)), (1, const (5:u8)), (2, const (104:u8)), (3, const (10
    obtain ⟨_, l7, rfl⟩ := hd 7 (by decide +kernel)
    have hBw : B ≤ w.heap.size := by rw [hB]; exact hS.size
    have he : Ext B w (w.alloc (.cells #[.int .u8 0, .int .u8 5, .int .u8 104, .int .u8 101, .int .u8 108, .int .u8 108, .int .u8 111] 5)) := Ext.of ((Below.refl _ _).alloc (Nat.le_refl _) _) hBw
    refine duty_run (by rfl) (wanted_guard rfl (by rfl) (left_at l7 (d := 16) (by rfl) (by rw [hsz]; simp))) (.slice (some ⟨w.heap.size, 0, none⟩) 7 7) (w' := w.alloc (.cells #[.int .u8 0, .int .u8 5, .int .u8 104, .int .u8 101, .int .u8 108, .int .u8 108, .int .u8 111] 5)) ?_ ⟨_, (0, 0), rfl, hBw, heap_alloc_new w _⟩ (hS.trans he) he
    simp only [execOp, List.getElem_toArray, List.getElem_cons_succ, List.getElem_cons_zero, List.map_toArray, List.map_cons, List.map_nil, ev_const]
    go_simp
  · intro a w hS hd ho hsz   -- 12: convert 22 22 t20
    obtain ⟨_, l7, rfl⟩ := hd 7 (by decide +kernel)
    obtain ⟨v11, l11, q11⟩ := hd 11 (by decide +kernel)
    replace q11 : (Row B #[.int .u8 0, .int .u8 5, .int .u8 104, .int .u8 101, .int .u8 108, .int .u8 108, .int .u8 111] 5 7) v11 w := q11
    have e20 := left_ev l11 (d := 20) (by rfl) (by rw [hsz]; simp)
    obtain ⟨w', hrun, he, _⟩ := row_mark (P := Tryd.prog) q11 Tryd.underlying22 Tryd.underlying5
    refine duty_run (by rfl) (wanted_guard rfl (by rfl) (left_at l7 (d := 16) (by rfl) (by rw [hsz]; simp))) v11 ?_ ((q11.ext he).bytes (l := [0, 5, 104, 101, 108, 108, 111]) rfl rfl (by simp [maxLen])) (hS.trans he) he
    simp only [execOp, List.getElem_toArray, List.getElem_cons_succ, List.getElem_cons_zero, List.map_toArray, List.map_cons, List.map_nil, e20, ev_const, Sem.run_bind, hrun]
    rfl
  · intro a w hS hd ho hsz   -- 13: buildSlice 23 1 #[(0, t21)]
    obtain ⟨_, l7, rfl⟩ := hd 7 (by decide +kernel)
    obtain ⟨v12, l12, q12⟩ := hd 12 (by decide +kernel)
    replace q12 : (Bs [0, 5, 104, 101, 108, 108, 111]) v12 w := q12
    have e21 := left_ev l12 (d := 21) (by rfl) (by rw [hsz]; simp)
    have hBw : B ≤ w.heap.size := by rw [hB]; exact hS.size
    have hpp := parts1 (New.of w 22 #[v12]) q12 (fun i hi => hi)
    obtain ⟨A12, c12, rfl, _⟩ := q12.row
    have he : Ext B w (w.alloc (.cells #[.slice A12 7 c12] 22)) := Ext.of ((Below.refl _ _).alloc (Nat.le_refl _) _) hBw
    refine duty_run (by rfl) (wanted_guard rfl (by rfl) (left_at l7 (d := 16) (by rfl) (by rw [hsz]; simp))) (.slice (some ⟨w.heap.size, 0, none⟩) 1 1) (w' := w.alloc (.cells #[.slice A12 7 c12] 22)) ?_ (hpp.sub fun i hi => by simp; omega) (hS.trans he) he
    simp only [execOp, List.getElem_toArray, List.getElem_cons_succ, List.getElem_cons_zero, List.map_toArray, List.map_cons, List.map_nil, e21, ev_const]
    go_simp
  · intro a w hS hd ho hsz   -- 14: call { value (Operand.func 25), args := #[t19, t22], argTypes := #[22, 23] }
    obtain ⟨_, l7, rfl⟩ := hd 7 (by decide +kernel)
    obtain ⟨v10, l10, q10⟩ := hd 10 (by decide +kernel)
    replace q10 : (Bs [107, 101, 121]) v10 w := q10
    obtain ⟨v13, l13, q13⟩ := hd 13 (by decide +kernel)
    replace q13 : (Ps [[0, 5, 104, 101, 108, 108, 111]]) v13 w := q13
    have e19 := left_ev l10 (d := 19) (by rfl) (by rw [hsz]; simp)
    have e22 := left_ev l13 (d := 22) (by rfl) (by rw [hsz]; simp)
    have hBw : B ≤ w.heap.size := by rw [hB]; exact hS.size
    have ht6 := ht5.below hS.below (by rw [hB]; exact ht5.1)
    refine duty_call (by rfl) (wanted_guard rfl (by rfl) (left_at l7 (d := 16) (by rfl) (by rw [hsz]; simp))) 25 #[v10, v13] ?_ (hmac_any v10 v13 [107, 101, 121] [[0, 5, 104, 101, 108, 108, 111]] _ _ w q10 q13 (fun i hi => hi) (fun i hi => hi) ht6) ?_
    · simp [Act.eval, hsz] at e19 e22
      simp only [execOp, List.getElem_toArray, List.getElem_cons_succ, List.getElem_cons_zero, List.map_toArray, List.map_cons, List.map_nil, e19, e22, ev_const]
      go_simp
    · rintro e w' ⟨rfl, hbl⟩
      have he := Ext.of hbl hBw
      exact ⟨_, rfl, by rw [flat1, HK.out]; rfl, hS.trans he, he⟩
  · intro a w hS hd ho hsz   -- 15: binOp BinOp.eql 26 t17 t23 26
    obtain ⟨_, l7, rfl⟩ := hd 7 (by decide +kernel)
    obtain ⟨_, l8, rfl⟩ := hd 8 (by decide +kernel)
    obtain ⟨_, l14, rfl⟩ := hd 14 (by decide +kernel)
    have e17 := left_ev l8 (d := 17) (by rfl) (by rw [hsz]; simp)
    have e23 := left_ev l14 (d := 23) (by rfl) (by rw [hsz]; simp)
    have hnq := fun u => eql_key k k HKL.out HKL.out u
    simp only [beq_self_eq_true] at hnq
    have hgd := guard_key
    refine duty_is (by rfl) (wanted_guard rfl (by rfl) (left_at l7 (d := 16) (by rfl) (by rw [hsz]; simp))) (.bool true) ?_ rfl hS (Ext.refl _ _)
    simp only [execOp, List.getElem_toArray, List.getElem_cons_succ, List.getElem_cons_zero, List.map_toArray, List.map_cons, List.map_nil, e17, e23, ev_const]
    go_simp
  · intro a w hS hd ho hsz   -- 16: pick t16 t24 (const (Value.bool false))
    obtain ⟨_, l7, rfl⟩ := hd 7 (by decide +kernel)
    obtain ⟨_, l15, rfl⟩ := hd 15 (by decide +kernel)
    have e16 := left_ev l7 (d := 16) (by rfl) (by rw [hsz]; simp)
    have e24 := left_ev l15 (d := 24) (by rfl) (by rw [hsz]; simp)
    refine duty_is (by rfl) (wanted_none rfl) (.bool true) ?_ rfl hS (Ext.refl _ _)
    simp only [execOp, List.getElem_toArray, List.getElem_cons_succ, List.getElem_cons_zero, e16, e24, ev_const]
    go_simp
  · intro a w hS hd ho hsz   -- 17: assign t25
    obtain ⟨_, l16, rfl⟩ := hd 16 (by decide +kernel)
    have e25 := left_ev l16 (d := 25) (by rfl) (by rw [hsz]; simp)
    refine duty_is (by rfl) (wanted_none rfl) (.bool true) ?_ rfl hS (Ext.refl _ _)
    simp only [execOp, List.getElem_toArray, List.getElem_cons_succ, List.getElem_cons_zero, e25, ev_const]
    go_simp

  · intro X w6 hS6 hX
    have x17 : X 17 = .bool true := hX 17 (by omega)
    clear hX
    simp only [frame, fillFrom, Act.put, List.setIfInBounds_toArray, List.set_cons_zero, List.set_cons_succ, x17]
    go_wp2
    go_ret
    exact ⟨rfl, hbw5.trans (hS6.below.mono (by rw [hB]; exact hbw5.size))⟩
end Go.Proofs.YtnhomnaamlbnpaaDoor.Seal
