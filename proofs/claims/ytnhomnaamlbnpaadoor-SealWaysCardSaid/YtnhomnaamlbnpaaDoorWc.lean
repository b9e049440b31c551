/- SealWays' own eight. By an AI agent. -/
import Derived.Test.YtnhomnaamlbnpaaDoorTok
import Derived.Test.YtnhomnaamlbnpaaDoorKp
namespace Go.Proofs.YtnhomnaamlbnpaaDoor.Seal
open Go.RowKit Go.Proofs.YtnhomnaamlbnpaaDoor.M Go.Proofs.YtnhomnaamlbnpaaDoor.Sha Go.Proofs.YtnhomnaamlbnpaaDoor.Nw Go.Proofs.YtnhomnaamlbnpaaDoor.Ld Go.Proofs.YtnhomnaamlbnpaaDoor.Ord Go.Proofs.YtnhomnaamlbnpaaDoor.Ext Go.Proofs.YtnhomnaamlbnpaaDoor.Kp
open Go.Proofs.YtnhomnaamlbnpaaDoor.Wr (IsW be2 be4 be8)
set_option linter.unusedVariables false
set_option maxRecDepth 20000

theorem be8_halves (n : Nat) (h : n < 18446744073709551616) : be4 (n / 4294967296) ++ be4 (n % 4294967296) = be8 n := by rfl
set_option maxHeartbeats 1000000 in
theorem lawEight_post (n g : Nat) (w : World) (hn : n < 18446744073709551616) (hC : w.cell? ⟨g, 0, none⟩ = some (.func (.func 33) #[] #[])) :
    Calls Tryd.prog 36 #[.int .u64 (n : Int), .pointer (some ⟨g, 0, none⟩)] w fun e w' => ∃ v, e = .returned v ∧ Bs (be8 n) v w' ∧ Below w.heap.size w w' := by
  have HC := Lib.hid hC
  have HSHR := Lib.hid (show IntKind.u64.wrap ((n : Int) >>> 32) = (n : Int) / 4294967296 by rw [Int.shiftRight_eq_div_pow]; simp only [IntKind.wrap, IntKind.signed, IntKind.bits]; simp; omega)
  have HW7 := Lib.hid (show IntKind.u32.wrap ((n : Int) / 4294967296) = (n : Int) / 4294967296 by simp only [IntKind.wrap, IntKind.signed, IntKind.bits]; simp; omega)
  have HW11 := Lib.hid (show IntKind.u32.wrap (n : Int) = (n : Int) % 4294967296 by simp only [IntKind.wrap, IntKind.signed, IntKind.bits]; simp)
  have HD := Lib.hid (show n / 4294967296 < 4294967296 by omega)
  have HM := Lib.hid (show n % 4294967296 < 4294967296 by omega)
  have HN := Lib.hid hn
  clear hC
  go_enter Tryd.func36, Tryd.ntmps36
  go_wp2_with fail
  have h0S : Below w.heap.size w w.drew := drew_kp w
  refine wp_region_spec (by kernel_rfl) (by kernel_rfl) (by kernel_rfl) (fun u => Below w.heap.size w u) Kp
    [Spec.is (.func (.func 33) #[] #[]), Spec.is (.int .u64 (n : Int)), Spec.is (.int .u64 ((n / 4294967296 : Nat) : Int)), Spec.is (.int .u32 ((n / 4294967296 : Nat) : Int)), ⟨Nm (be4 (n / 4294967296)), fun _ _ _ h e => h.kp e⟩, Spec.is (.func (.func 33) #[] #[]), Spec.is (.int .u64 (n : Int)), Spec.is (.int .u32 ((n % 4294967296 : Nat) : Int)), ⟨Nm (be4 (n % 4294967296)), fun _ _ _ h e => h.kp e⟩, ⟨Bs (be8 n), fun _ _ _ h e => h.kp e⟩, ⟨Bs (be8 n), fun _ _ _ h e => h.kp e⟩] 11 (by kernel_rfl) h0S ⟨?_, ?_, ?_, ?_, ?_, ?_, ?_, ?_, ?_, ?_, ?_, trivial⟩ ?_
  · intro a w hS hd ho hsz   -- 0: load 74 t1
    have e1 : a.eval (.tmp 1) = .pointer (some ⟨g, 0, none⟩) := other_ev ho (by decide +kernel) rfl
    have hc := ((same_below hS).cell (World.block_lt_of_cell? _ _ HC.out)).trans HC.out
    refine duty_is (by rfl) (wanted_none rfl) (.func (.func 33) #[] #[]) ?_ rfl hS (Kp.refl _)
    simp only [execOp, List.getElem_toArray, List.getElem_cons_succ, List.getElem_cons_zero, List.map_toArray, List.map_cons, List.map_nil, e1, ev_const, ev_func]
    go_simp
  · intro a w hS hd ho hsz   -- 1: move t0
    have e0 : a.eval (.tmp 0) = (.int .u64 (n : Int)) := other_ev ho (by decide +kernel) rfl
    refine duty_is (by rfl) (wanted_none rfl) (.int .u64 (n : Int)) ?_ rfl hS (Kp.refl _)
    simp only [execOp, List.getElem_toArray, List.getElem_cons_succ, List.getElem_cons_zero, List.map_toArray, List.map_cons, List.map_nil, e0, ev_const, ev_func]
    go_simp
  · intro a w hS hd ho hsz   -- 2: binOp BinOp.shr 32 t5 (const (32:u64)) 75
    obtain ⟨_, l1, rfl⟩ := hd 1 (by decide +kernel)
    have e5 := left_ev l1 (d := 5) (by rfl) (by rw [hsz]; simp)
    have hq := HSHR.out
    refine duty_is (by rfl) (wanted_none rfl) (.int .u64 ((n / 4294967296 : Nat) : Int)) ?_ rfl hS (Kp.refl _)
    simp only [execOp, List.getElem_toArray, List.getElem_cons_succ, List.getElem_cons_zero, List.map_toArray, List.map_cons, List.map_nil, e5, ev_const, ev_func]
    go_simp
  · intro a w hS hd ho hsz   -- 3: convert 32 37 t6
    obtain ⟨_, l2, rfl⟩ := hd 2 (by decide +kernel)
    have e6 := left_ev l2 (d := 6) (by rfl) (by rw [hsz]; simp)
    have hq := HW7.out
    refine duty_is (by rfl) (wanted_none rfl) (.int .u32 ((n / 4294967296 : Nat) : Int)) ?_ rfl hS (Kp.refl _)
    simp only [execOp, List.getElem_toArray, List.getElem_cons_succ, List.getElem_cons_zero, List.map_toArray, List.map_cons, List.map_nil, e6, ev_const, ev_func]
    go_simp
  · intro a w hS hd ho hsz   -- 4: call { value t4, args := #[t7], argTypes := #[37] }
    obtain ⟨_, l0, rfl⟩ := hd 0 (by decide +kernel)
    obtain ⟨_, l3, rfl⟩ := hd 3 (by decide +kernel)
    have e4 := left_ev l0 (d := 4) (by rfl) (by rw [hsz]; simp)
    have e7 := left_ev l3 (d := 7) (by rfl) (by rw [hsz]; simp)
    refine duty_call (by rfl) (wanted_none rfl) 33 #[(.int .u32 ((n / 4294967296 : Nat) : Int))] ?_ (lawFour_post _ w HD.out) ?_
    · simp [Act.eval, hsz] at e4 e7
      simp only [execOp, List.getElem_toArray, List.getElem_cons_succ, List.getElem_cons_zero, List.map_toArray, List.map_cons, List.map_nil, e4, e7, ev_const, ev_func]
      go_simp
    · rintro e w' ⟨g4, rfl, hg4, hB4, hbl⟩
      have he : Kp w w' := hbl
      exact ⟨_, rfl, ⟨g4, rfl, hB4⟩, Kp.to hS he, he⟩
  · intro a w hS hd ho hsz   -- 5: load 74 t1
    have e1 : a.eval (.tmp 1) = .pointer (some ⟨g, 0, none⟩) := other_ev ho (by decide +kernel) rfl
    have hc := ((same_below hS).cell (World.block_lt_of_cell? _ _ HC.out)).trans HC.out
    refine duty_is (by rfl) (wanted_none rfl) (.func (.func 33) #[] #[]) ?_ rfl hS (Kp.refl _)
    simp only [execOp, List.getElem_toArray, List.getElem_cons_succ, List.getElem_cons_zero, List.map_toArray, List.map_cons, List.map_nil, e1, ev_const, ev_func]
    go_simp
  · intro a w hS hd ho hsz   -- 6: move t0
    have e0 : a.eval (.tmp 0) = (.int .u64 (n : Int)) := other_ev ho (by decide +kernel) rfl
    refine duty_is (by rfl) (wanted_none rfl) (.int .u64 (n : Int)) ?_ rfl hS (Kp.refl _)
    simp only [execOp, List.getElem_toArray, List.getElem_cons_succ, List.getElem_cons_zero, List.map_toArray, List.map_cons, List.map_nil, e0, ev_const, ev_func]
    go_simp
  · intro a w hS hd ho hsz   -- 7: convert 32 37 t10
    obtain ⟨_, l6, rfl⟩ := hd 6 (by decide +kernel)
    have e10 := left_ev l6 (d := 10) (by rfl) (by rw [hsz]; simp)
    have hq := HW11.out
    refine duty_is (by rfl) (wanted_none rfl) (.int .u32 ((n % 4294967296 : Nat) : Int)) ?_ rfl hS (Kp.refl _)
    simp only [execOp, List.getElem_toArray, List.getElem_cons_succ, List.getElem_cons_zero, List.map_toArray, List.map_cons, List.map_nil, e10, ev_const, ev_func]
    go_simp
  · intro a w hS hd ho hsz   -- 8: call { value t9, args := #[t11], argTypes := #[37] }
    obtain ⟨_, l5, rfl⟩ := hd 5 (by decide +kernel)
    obtain ⟨_, l7, rfl⟩ := hd 7 (by decide +kernel)
    have e9 := left_ev l5 (d := 9) (by rfl) (by rw [hsz]; simp)
    have e11 := left_ev l7 (d := 11) (by rfl) (by rw [hsz]; simp)
    refine duty_call (by rfl) (wanted_none rfl) 33 #[(.int .u32 ((n % 4294967296 : Nat) : Int))] ?_ (lawFour_post _ w HM.out) ?_
    · simp [Act.eval, hsz] at e9 e11
      simp only [execOp, List.getElem_toArray, List.getElem_cons_succ, List.getElem_cons_zero, List.map_toArray, List.map_cons, List.map_nil, e9, e11, ev_const, ev_func]
      go_simp
    · rintro e w' ⟨g4, rfl, hg4, hB4, hbl⟩
      have he : Kp w w' := hbl
      exact ⟨_, rfl, ⟨g4, rfl, hB4⟩, Kp.to hS he, he⟩
  · intro a w hS hd ho hsz   -- 9: call { builtin append, args := #[t8, t12], argTypes := #[22, 22] }
    obtain ⟨v4, l4, q4⟩ := hd 4 (by decide +kernel)
    replace q4 : (Nm (be4 (n / 4294967296))) v4 w := q4
    obtain ⟨v8, l8, q8⟩ := hd 8 (by decide +kernel)
    replace q8 : (Nm (be4 (n % 4294967296))) v8 w := q8
    have e8 := left_ev l4 (d := 8) (by rfl) (by rw [hsz]; simp)
    have e12 := left_ev l8 (d := 12) (by rfl) (by rw [hsz]; simp)
    obtain ⟨v', w', hrun, hB, he⟩ := run_append_full q4 (q8.bs (by simp [Ld.be4_len, maxLen])) (by simp [Ld.be4_len]) (by simp [Ld.be4_len])
    rw [be8_halves n HN.out] at hB
    refine duty_run (by rfl) (wanted_none rfl) v' (w' := w') ?_ hB (Kp.to hS he) he
    simp only [execOp, resolve, invoke, builtin, Sem.run_bind, Sem.run_pure, Result.andThen_ok, List.getElem_toArray, List.getElem_cons_succ, List.getElem_cons_zero, List.map_toArray, List.map_cons, List.map_nil, e8, e12, ev_const, ev_func, hrun]
  · intro a w hS hd ho hsz   -- 10: assign t13
    obtain ⟨v9, l9, q9⟩ := hd 9 (by decide +kernel)
    replace q9 : (Bs (be8 n)) v9 w := q9
    have e13 := left_ev l9 (d := 13) (by rfl) (by rw [hsz]; simp)
    refine duty_is (by rfl) (wanted_none rfl) v9 ?_ q9 hS (Kp.refl _)
    simp only [execOp, List.getElem_toArray, List.getElem_cons_succ, List.getElem_cons_zero, List.map_toArray, List.map_cons, List.map_nil, e13, ev_const, ev_func]
    go_simp
  · intro X w7 hS7 hX
    obtain ⟨x10, q10⟩ : ∃ v, v = X 10 := ⟨_, rfl⟩
    have h10 : Bs (be8 n) (X 10) w7 := hX 10 (by omega)
    rw [← q10] at h10
    clear hX
    simp only [frame, fillFrom, Act.put, List.setIfInBounds_toArray, List.set_cons_zero, List.set_cons_succ, ← q10]
    go_wp2
    go_ret
    exact ⟨_, rfl, h10, hS7⟩
end Go.Proofs.YtnhomnaamlbnpaaDoor.Seal
