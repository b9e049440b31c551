/- The walk of SealWays. By an AI agent. -/
import Derived.Test.YtnhomnaamlbnpaaDoorWc
import Derived.Test.YtnhomnaamlbnpaaDoorTwo
import Derived.Laws.EntriesVeiled
import Derived.Great.BuildSlice
namespace Go.Proofs.YtnhomnaamlbnpaaDoor.Walks
open Go.RowKit Go.Great Go.Proofs.YtnhomnaamlbnpaaDoor.M Go.Proofs.YtnhomnaamlbnpaaDoor.Sha Go.Proofs.YtnhomnaamlbnpaaDoor.Nw Go.Proofs.YtnhomnaamlbnpaaDoor.Ld Go.Proofs.YtnhomnaamlbnpaaDoor.Ord Go.Proofs.YtnhomnaamlbnpaaDoor.Ext Go.Proofs.YtnhomnaamlbnpaaDoor.Kp Go.Proofs.YtnhomnaamlbnpaaDoor.Seal
open Go.Proofs.YtnhomnaamlbnpaaDoor.Wr (IsW be2 be4 be8)
set_option linter.unusedVariables false
set_option maxRecDepth 20000

/-- what stands behind every step of the walk -/
structure Env (w : World) (g3 g5 g7 g9 : Nat) (secV : Value) (sec : List UInt8) (z : Int) (s e c v : Nat) : Prop where
  told : Blk w g3 39 #[.int .i64 z, .int .u32 (s : Int), .int .u32 (e : Int), .int .u64 (c : Int), .int .u64 (v : Int)]
  one : IsRing w g5 sec
  two : IsRing w g7 sec
  fn : Blk w g9 74 #[.func (.func 33) #[] #[]]
  sec : Bs sec secV w
  tab : Tab w
  ls : s < 4294967296
  le : e < 4294967296
  lc : c < 18446744073709551616
  lv : v < 18446744073709551616
section
variable {w w' : World} {g3 g5 g7 g9 : Nat} {secV : Value} {sec : List UInt8} {z : Int} {s e c v : Nat}
theorem Env.below (h : Env w g3 g5 g7 g9 secV sec z s e c v) (hb : Below w.heap.size w w') : Env w' g3 g5 g7 g9 secV sec z s e c v :=
  ⟨bel h.told hb, h.one.below hb, h.two.below hb, bel h.fn hb, h.sec.below hb, h.tab.below hb h.tab.1, h.ls, h.le, h.lc, h.lv⟩
theorem Env.four (h : Env w g3 g5 g7 g9 secV sec z s e c v) : w.cell? ⟨g9, 0, none⟩ = some (.func (.func 33) #[] #[]) := h.fn.cell 0
theorem Env.f1 (h : Env w g3 g5 g7 g9 secV sec z s e c v) : w.cell? ⟨g3, 1, none⟩ = some (.int .u32 (s : Int)) := h.told.cell 1
theorem Env.f2 (h : Env w g3 g5 g7 g9 secV sec z s e c v) : w.cell? ⟨g3, 2, none⟩ = some (.int .u32 (e : Int)) := h.told.cell 2
theorem Env.f3 (h : Env w g3 g5 g7 g9 secV sec z s e c v) : w.cell? ⟨g3, 3, none⟩ = some (.int .u64 (c : Int)) := h.told.cell 3
theorem Env.f4 (h : Env w g3 g5 g7 g9 secV sec z s e c v) : w.cell? ⟨g3, 4, none⟩ = some (.int .u64 (v : Int)) := h.told.cell 4
end
theorem way_lt (z s e c v : Nat) : ∀ p ∈ wayParts z s e c v, p.length < 4294967296 := by
  intro p hp
  simp [wayParts] at hp
  rcases hp with rfl | rfl | rfl | rfl | rfl <;> simp [be4_len, be8_len]
theorem way_len (z s e c v : Nat) : (lay (⟨#[119, 97, 121]⟩ : ByteArray).data.toList (wayParts z s e c v)).length ≤ 140737488355328 := by
  simp [lay, many, wayParts, Ld.one, be2_len, be4_len, be8_len]

theorem allocFn (w : World) : (Instr.alloc 74 true (.tuple #[])).run Tryd.prog w = .ok (.pointer (some ⟨w.heap.size, 0, none⟩)) (w.alloc (.cells #[.nilFunc] 74)) :=
  run_alloc_zero (z := .nilFunc) (by kernel_rfl) rfl w
theorem alloc_run {P : Program} {t : TypeId} {w w' : World} {v : Value} (h : (Instr.alloc t true (.tuple #[])).run P w = .ok v w') : ((Instr.alloc t true (.tuple #[])).run P w) = .ok v w' := h
theorem bs_cells {l : List UInt8} {v : Value} {w : World} (h : Bs l v w) : v.cells = #[v] := by
  obtain ⟨A, n, c, rfl, _⟩ := h
  rfl
theorem five_run {w : World} {v0 v1 v2 v3 v4 : Value} {l0 l1 l2 l3 l4 : List UInt8} (h0 : Bs l0 v0 w) (h1 : Bs l1 v1 w) (h2 : Bs l2 v2 w) (h3 : Bs l3 v3 w) (h4 : Bs l4 v4 w) :
    ∃ P w', (Instr.buildSlice 23 5 #[(0, v0), (1, v1), (2, v2), (3, v3), (4, v4)]).run Tryd.prog w = .ok P w' ∧ Ps [l0, l1, l2, l3, l4] P w' ∧ Kp w w' := by
  obtain ⟨i0, hi0, hz0, hz1, hz2⟩ := info_parts infoSlice
  have hr : Array.range 5 = #[0, 1, 2, 3, 4] := rfl
  refine ⟨_, w.alloc (.cells #[v0, v1, v2, v3, v4] 22), run_buildSlice w 23 22 5 _ #[v0, v1, v2, v3, v4] i0 _ Tryd.underlying23 hi0 hz0 (by rw [hz1]; decide) (by rw [hz1]; decide)
    (by simp [hz1, Instr.fill, bs_cells h0, bs_cells h1, bs_cells h2, bs_cells h3, bs_cells h4, hr]), ?_, kp_alloc _ _⟩
  have hpp := parts_new (S := fun k => k < w.heap.size) (ls := [l0, l1, l2, l3, l4]) (us := [v0, v1, v2, v3, v4]) (New.of w 22 _) rfl (by simp [maxLen]) (fun j u l hu hl => by
      rcases j with _ | _ | _ | _ | _ | j
      · obtain rfl := Option.some.inj hu; obtain rfl := Option.some.inj hl; exact h0
      · obtain rfl := Option.some.inj hu; obtain rfl := Option.some.inj hl; exact h1
      · obtain rfl := Option.some.inj hu; obtain rfl := Option.some.inj hl; exact h2
      · obtain rfl := Option.some.inj hu; obtain rfl := Option.some.inj hl; exact h3
      · obtain rfl := Option.some.inj hu; obtain rfl := Option.some.inj hl; exact h4
      · simp at hu) (fun i hi => hi)
  exact hpp.sub fun i hi => by simp; omega
set_option maxHeartbeats 2000000 in
theorem sealWays (w : World) (v0 : Value) (l0 : List UInt8) (y : Int) (s e c v : Nat) (h0 : Byts w (fun k => k < w.heap.size) v0 l0) (hs : s < 4294967296) (he : e < 4294967296) (hc : c < 18446744073709551616) (hv : v < 18446744073709551616) (ht : Tab w) :
    Calls Tryd.prog 6 #[v0, .agg #[.int .i64 y, .int .u32 (s : Int), .int .u32 (e : Int), .int .u64 (c : Int), .int .u64 (v : Int)]] w fun e w' => e = .returned (.bool true) ∧ Below w.heap.size w w' := by
  obtain ⟨i0, hi0, hz0, hz1, hz2⟩ := info_parts infoSlice
  obtain ⟨i5, hi5, hz50, hz51, hz52⟩ := info_parts Wr.infoByte
  have htG := ht.1
  obtain ⟨A0, c0, rfl, hnc0, hm0, _⟩ := h0.row
  unfold maxLen at hm0
  have hmin : min (l0.length : Int) 63 = ((min l0.length 63 : Nat) : Int) := by omega
  have hx1 : (0 : Int) ≤ ((min l0.length 63 : Nat) : Int) := by omega
  have hx2 : ((min l0.length 63 : Nat) : Int) ≤ (c0 : Int) := by omega
  have hL := h0.take_ (k := min l0.length 63) (by omega)
  obtain ⟨b, hb⟩ : ∃ b, b = l0.take (min l0.length 63) := ⟨_, rfl⟩
  rw [← hb] at hL
  have hbl : b.length = min l0.length 63 := by rw [hb, List.length_take]; omega
  have hbm : b.length ≤ 63 := by omega
  rw [← hbl] at hmin hx1 hx2 hL
  have HL := Lib.hid hL
  clear hb hbl hL
  go_enter Tryd.func6, Tryd.ntmps6
  go_wp2_with (first | (with_reducible refine wpList_box_new rfl 39 (.tmp 1) rfl #[.int .i64 y, .int .u32 (s : Int), .int .u32 (e : Int), .int .u64 (c : Int), .int .u64 (v : Int)] rfl ?_; intro g3 w1 n1) | fail)
  have hL1 := HL.out.same (same_below n1.below)
  refine (Byt.clone_own _ b _ w1 hL1 (by omega)).mono ?_
  rintro r w2 ⟨v2, rfl, hown2, hb2⟩
  have hO2 : Own w2 w1.heap.size v2 b := hown2
  have hbw2 := n1.below.trans (hb2.mono n1.below.size)
  have HO2 := Lib.hid hO2
  have HB2 := Lib.hid hb2
  clear hO2 hown2 hL1 hb2
  go_wp2_with (first | (with_reducible refine wpList_slice1 rfl 22 _ (.const (.int .u8 107)) rfl Tryd.underlying22 hi5 hz50 hz51 _ rfl rfl ?_; intro g3x w3 n3; go_simp) | (at_builtin; refine wpList_append_own8 rfl (.tmp 24) (.tmp 25) rfl w1.heap.size _ _ rfl (HO2.out.below n3.below) _ _ [107] rfl (new_byts n3 rfl) (by simp; omega) (by have := HB2.out.size; have := n3.size; omega) ?_; intro v4 w4 o4) | fail)
  have hz3 := n3.size
  have hO3 := HO2.out.below n3.below
  have hB4 := o4.own.byts
  have hb4 : Below w.heap.size w w4 := (hbw2.trans (n3.below.mono hbw2.size)).trans ((o4.below hO3 (by have := HB2.out.size; omega)).mono n1.below.size)
  have hk4 : Blk w4 g3 39 #[.int .i64 y, .int .u32 (s : Int), .int .u32 (e : Int), .int .u64 (c : Int), .int .u64 (v : Int)] := (bel (bel n1.blk HB2.out) n3.below).same (same_below (o4.below hO3 (by have := HB2.out.size; omega))) n1.blk.lt
  obtain ⟨sec, hsec⟩ : ∃ sec, sec = b ++ [107] := ⟨_, rfl⟩
  have hq4 : Bs sec v4 w4 := by rw [hsec]; exact hB4.sub fun i hi => hi.2
  have hl1 : 1 ≤ sec.length := by rw [hsec]; simp
  have hl2 : sec.length ≤ 64 := by rw [hsec]; simp; omega
  obtain ⟨A, cc, rfl, _⟩ := hq4.row
  have HSEC := Lib.hid hsec
  have HL1 := Lib.hid hl1
  have HL2 := Lib.hid hl2
  clear hsec hB4 hO3 o4 n3 n1 hz3 HO2 HB2 hbw2 hl1 hl2 HL
  go_wp2_with fail
  refine (new_any _ sec _ w4 hq4 HL1.out HL2.out).mono ?_
  rintro r w5 ⟨g5, rfl, hR5, hg5, hb5⟩
  have hq5 := hq4.below hb5
  have hk5 := bel hk4 hb5
  have hbw5 := hb4.trans (hb5.mono hb4.size)
  go_wp2_with fail
  refine (new_any _ sec _ w5 hq5 HL1.out HL2.out).mono ?_
  rintro r w6 ⟨g7, rfl, hR7, hg7, hb6⟩
  have hq6 := hq5.below hb6
  have hk6 := bel hk5 hb6
  have hR6 := hR5.below hb6
  have hbw6 := hbw5.trans (hb6.mono hbw5.size)
  clear hq5 hk5 hR5 hb5 hb6 hbw5 hq4 hk4 hg5 hg7 hb4
  go_wp2_with (first | (with_reducible refine wpList_alloc_new rfl 74 rfl _ allocFn ?_; intro g9 w7 n9; have c9 := n9.blk.cell 0; have f9 := n9.blk.frozen 0; simp only [List.getElem?_toArray, List.getElem?_cons_zero] at c9) | fail)
  have hi9 := n9.is
  have hb9 : Below w6.heap.size w6 (w7.setCell ⟨g9, 0, none⟩ (.func (.func 33) #[] #[])) := n9.below.setCell (p := ⟨g9, 0, none⟩) (by rw [hi9]; exact Nat.le_refl _) _
  have hE0 : Env (w7.setCell ⟨g9, 0, none⟩ (.func (.func 33) #[] #[])) g3 g5 g7 g9 (.slice A sec.length cc) sec y s e c v :=
    ⟨bel hk6 hb9, hR6.below hb9, hR7.below hb9, n9.blk.set_ 0 _, hq6.below hb9, ht.below (hbw6.trans (hb9.mono hbw6.size)) htG, hs, he, hc, hv⟩
  have hbw9 := hbw6.trans (hb9.mono hbw6.size)
  generalize w7.setCell ⟨g9, 0, none⟩ (.func (.func 33) #[] #[]) = w9 at *
  clear hb9 hi9 n9 c9 f9 hk6 hR6 hR7 hq6 hbw6 ht htG
  go_loopw [44] (fun i wr => ∃ k : Nat, k ≤ 2 ∧ i = .int .i64 k ∧ Env wr g3 g5 g7 g9 (.slice A sec.length cc) sec y s e c v ∧ Below w.heap.size w wr) (fun i _ => 2 - (intOf i).toNat)
  case atStart => exact ⟨0, by omega, rfl, hE0, hbw9⟩
  case round =>
    obtain ⟨z, hz, rfl, hE, hbw0⟩ := hrel
    obtain ⟨w0, hw0⟩ : ∃ w0, w0 = wr := ⟨_, rfl⟩
    rw [← hw0] at hE hbw0 ⊢
    clear hw0 hE0 hbw9
    have HE := Lib.hid hE
    clear hE
    by_cases hz2 : z < 2
    · have HZW := Lib.hid (show IntKind.u8.wrap (z : Int) = (z : Int) by simp only [IntKind.wrap, IntKind.signed, IntKind.bits]; simp; omega)
      have HZB := Lib.hid (show Value.int .u8 (z : Int) = .int .u8 ((UInt8.ofNat z).toNat : Int) by rcases (by omega : z = 0 ∨ z = 1) with rfl | rfl <;> rfl)
      obtain ⟨K, hK⟩ : ∃ K, K = hmac sec (lay [119, 97, 121] (wayParts z s e c v)) := ⟨_, rfl⟩
      have hKl : K.length = 32 := by rw [hK]; exact sha_length _
      have HK := Lib.hid hK
      have HKL := Lib.hid hKl
      have HSS := Lib.hid (key_size K hKl)
      have HRS := Lib.hid (row_size K 32 hKl)
      clear hK hKl
      go_wp2_with fail
      have h0S := drew_kp w0
      refine wp_region_two (by kernel_rfl) (by kernel_rfl) (by kernel_rfl) (fun u => Below w0.heap.size w0 u) Kp
        [Sp2.is (.slice A sec.length cc), Sp2.is (.int .i64 (z : Int)), Sp2.is (.int .u8 (z : Int)), Sp2.of (Nm [UInt8.ofNat z]) (fun _ _ _ h e => h.kp e), Sp2.is (.func (.func 33) #[] #[]), Sp2.is (.pointer (some ⟨g3, 1, none⟩)), Sp2.is (.int .u32 (s : Int)), Sp2.of (Nm (be4 s)) (fun _ _ _ h e => h.kp e), Sp2.is (.func (.func 33) #[] #[]), Sp2.is (.pointer (some ⟨g3, 2, none⟩)), Sp2.is (.int .u32 (e : Int)), Sp2.of (Nm (be4 e)) (fun _ _ _ h e => h.kp e), Sp2.is (.func (.func 36) #[] #[.pointer (some ⟨g9, 0, none⟩)]), Sp2.is (.pointer (some ⟨g3, 3, none⟩)), Sp2.is (.int .u64 (c : Int)), Sp2.of (Bs (be8 c)) (fun _ _ _ h e => h.kp e), Sp2.is (.func (.func 36) #[] #[.pointer (some ⟨g9, 0, none⟩)]), Sp2.is (.pointer (some ⟨g3, 4, none⟩)), Sp2.is (.int .u64 (v : Int)), Sp2.of (Bs (be8 v)) (fun _ _ _ h e => h.kp e), Sp2.of (Ps (wayParts z s e c v)) (fun _ _ _ h e => h.kp e), Sp2.is (.tuple #[.agg (K.map cell8).toArray, .int .i64 0]), Sp2.is (.tuple #[.agg (K.map cell8).toArray, .int .i64 0]), Sp2.is (.agg (K.map cell8).toArray), Sp2.is (.int .i64 0), Sp2.of (fun u w => ∃ g, u = .pointer (some ⟨g, 0, none⟩) ∧ w0.heap.size ≤ g ∧ Blk w g 26 ((row8 32).map cell8).toArray) (fun _ _ _ h e => by obtain ⟨g, h1, h2, h3⟩ := h; exact ⟨g, h1, h2, bel h3 e⟩), Sp2.same, Sp2.is (.int .i64 0)] 28 (by kernel_rfl) [0, 1, 2, 3, 4, 5, 6, 7, 8, 9, 10, 11, 12, 13, 14, 15, 16, 17, 18, 19, 20, 21, 22, 23, 25, 26] 26 25 (by decide +kernel) (by decide +kernel) (by decide +kernel) (fun _ u w => ∃ g, u = .pointer (some ⟨g, 0, none⟩) ∧ w0.heap.size ≤ g ∧ Blk w g 26 (K.map cell8).toArray ∧ Below w0.heap.size w0 w) h0S ⟨.inr ?_, .inr ?_, .inr ?_, .inr ?_, .inr ?_, .inr ?_, .inr ?_, .inr ?_, .inr ?_, .inr ?_, .inr ?_, .inr ?_, .inr ?_, .inr ?_, .inr ?_, .inr ?_, .inr ?_, .inr ?_, .inr ?_, .inr ?_, .inr ?_, .inr ?_, .inr ?_, .inr ?_, .inr ?_, .inr ?_, .inl rfl, .inr ?_, trivial⟩ ?_ ⟨.inl (by decide +kernel), .inl (by decide +kernel), .inl (by decide +kernel), .inl (by decide +kernel), .inl (by decide +kernel), .inl (by decide +kernel), .inl (by decide +kernel), .inl (by decide +kernel), .inl (by decide +kernel), .inl (by decide +kernel), .inl (by decide +kernel), .inl (by decide +kernel), .inl (by decide +kernel), .inl (by decide +kernel), .inl (by decide +kernel), .inl (by decide +kernel), .inl (by decide +kernel), .inl (by decide +kernel), .inl (by decide +kernel), .inl (by decide +kernel), .inl (by decide +kernel), .inl (by decide +kernel), .inl (by decide +kernel), .inl (by decide +kernel), .inr ?_, .inl (by decide +kernel), .inl (by decide +kernel), .inr ?_, trivial⟩ ?_
      · intro a w hS hd ho hsz   -- 0: move t0
        have e0 : a.eval (.tmp 0) = (.slice A sec.length cc) := other_ev ho (by decide +kernel) rfl
        refine b_is (by rfl) (wanted_none rfl) (.slice A sec.length cc) ?_ rfl hS (Kp.refl _)
        simp only [execOp, List.getElem_toArray, List.getElem_cons_zero, e0]
        go_simp
      · intro a w hS hd ho hsz   -- 1: move t11
        have e11 : a.eval (.tmp 11) = (.int .i64 (z : Int)) := other_ev ho (by decide +kernel) rfl
        refine b_is (by rfl) (wanted_none rfl) (.int .i64 (z : Int)) ?_ rfl hS (Kp.refl _)
        simp only [execOp, List.getElem_toArray, List.getElem_cons_succ, List.getElem_cons_zero, e11]
        go_simp
      · intro a w hS hd ho hsz   -- 2: convert 3 5 t49
        obtain ⟨_, l1, rfl⟩ := hd 1 (by decide +kernel)
        have e49 := left_ev l1 (d := 49) (by rfl) (by rw [hsz]; simp)
        have hq := HZW.out
        refine b_is (by rfl) (wanted_none rfl) (.int .u8 (z : Int)) ?_ rfl hS (Kp.refl _)
        simp only [execOp, List.getElem_toArray, List.getElem_cons_succ, List.getElem_cons_zero, e49]
        go_simp
      · intro a w hS hd ho hsz   -- 3: buildSlice 22 1 #[(0, t50)]
        obtain ⟨_, l2, rfl⟩ := hd 2 (by decide +kernel)
        have e50 := left_ev l2 (d := 50) (by rfl) (by rw [hsz]; simp)
        have he := kp_alloc w (.cells #[.int .u8 (z : Int)] 5)
        refine b_run (by rfl) (wanted_none rfl) (.slice (some ⟨w.heap.size, 0, none⟩) 1 1) (w' := w.alloc (.cells #[.int .u8 (z : Int)] 5)) ?_ ⟨w.heap.size, rfl, by rw [HZB.out]; exact Blk.new w _ _⟩ (Kp.to hS he) he
        simp only [execOp, List.getElem_toArray, List.getElem_cons_succ, List.getElem_cons_zero, List.map_toArray, List.map_cons, List.map_nil, e50]
        go_simp
      · intro a w hS hd ho hsz   -- 4: load 74 t9
        have e9 : a.eval (.tmp 9) = (.pointer (some ⟨g9, 0, none⟩)) := other_ev ho (by decide +kernel) rfl
        have hc := ((same_below hS).cell (World.block_lt_of_cell? _ _ HE.out.four)).trans HE.out.four
        refine b_is (by rfl) (wanted_none rfl) (.func (.func 33) #[] #[]) ?_ rfl hS (Kp.refl _)
        simp only [execOp, List.getElem_toArray, List.getElem_cons_succ, List.getElem_cons_zero, e9]
        go_simp
      · intro a w hS hd ho hsz   -- 5: fieldAddr 39 t3 1
        have e3 : a.eval (.tmp 3) = (.pointer (some ⟨g3, 0, none⟩)) := other_ev ho (by decide +kernel) rfl
        refine b_is (by rfl) (wanted_none rfl) (.pointer (some ⟨g3, 1, none⟩)) ?_ rfl hS (Kp.refl _)
        simp only [execOp, List.getElem_toArray, List.getElem_cons_succ, List.getElem_cons_zero, e3]
        go_simp
      · intro a w hS hd ho hsz   -- 6: load 37 t53
        obtain ⟨_, l5, rfl⟩ := hd 5 (by decide +kernel)
        have e53 := left_ev l5 (d := 53) (by rfl) (by rw [hsz]; simp)
        have hc := ((same_below hS).cell (World.block_lt_of_cell? _ _ (HE.out.f1))).trans (HE.out.f1)
        refine b_is (by rfl) (wanted_none rfl) (.int .u32 (s : Int)) ?_ rfl hS (Kp.refl _)
        simp only [execOp, List.getElem_toArray, List.getElem_cons_succ, List.getElem_cons_zero, e53]
        go_simp
      · intro a w hS hd ho hsz   -- 7: call { value t52, args := #[t54], argTypes := #[37] }
        obtain ⟨_, l4, rfl⟩ := hd 4 (by decide +kernel)
        obtain ⟨_, l6, rfl⟩ := hd 6 (by decide +kernel)
        have e52 := left_ev l4 (d := 52) (by rfl) (by rw [hsz]; simp)
        have e54 := left_ev l6 (d := 54) (by rfl) (by rw [hsz]; simp)
        have hE := HE.out.below hS
        refine b_call (by rfl) (wanted_none rfl) 33 #[.int .u32 (s : Int)] ?_ (lawFour_post s w hE.ls) ?_
        · simp [Act.eval, hsz] at e52 e54
          simp only [execOp, List.getElem_toArray, List.getElem_cons_succ, List.getElem_cons_zero]
          go_simp
        · rintro e w' ⟨g4, rfl, hg4, hB4, hbl⟩
          have he : Kp w w' := hbl
          exact ⟨_, rfl, ⟨g4, rfl, hB4⟩, Kp.to hS he, he⟩
      · intro a w hS hd ho hsz   -- 8: load 74 t9
        have e9 : a.eval (.tmp 9) = (.pointer (some ⟨g9, 0, none⟩)) := other_ev ho (by decide +kernel) rfl
        have hc := ((same_below hS).cell (World.block_lt_of_cell? _ _ HE.out.four)).trans HE.out.four
        refine b_is (by rfl) (wanted_none rfl) (.func (.func 33) #[] #[]) ?_ rfl hS (Kp.refl _)
        simp only [execOp, List.getElem_toArray, List.getElem_cons_succ, List.getElem_cons_zero, e9]
        go_simp
      · intro a w hS hd ho hsz   -- 9: fieldAddr 39 t3 2
        have e3 : a.eval (.tmp 3) = (.pointer (some ⟨g3, 0, none⟩)) := other_ev ho (by decide +kernel) rfl
        refine b_is (by rfl) (wanted_none rfl) (.pointer (some ⟨g3, 2, none⟩)) ?_ rfl hS (Kp.refl _)
        simp only [execOp, List.getElem_toArray, List.getElem_cons_succ, List.getElem_cons_zero, e3]
        go_simp
      · intro a w hS hd ho hsz   -- 10: load 37 t57
        obtain ⟨_, l9, rfl⟩ := hd 9 (by decide +kernel)
        have e57 := left_ev l9 (d := 57) (by rfl) (by rw [hsz]; simp)
        have hc := ((same_below hS).cell (World.block_lt_of_cell? _ _ (HE.out.f2))).trans (HE.out.f2)
        refine b_is (by rfl) (wanted_none rfl) (.int .u32 (e : Int)) ?_ rfl hS (Kp.refl _)
        simp only [execOp, List.getElem_toArray, List.getElem_cons_succ, List.getElem_cons_zero, e57]
        go_simp
      · intro a w hS hd ho hsz   -- 11: call { value t56, args := #[t58], argTypes := #[37] }
        obtain ⟨_, l8, rfl⟩ := hd 8 (by decide +kernel)
        obtain ⟨_, l10, rfl⟩ := hd 10 (by decide +kernel)
        have e56 := left_ev l8 (d := 56) (by rfl) (by rw [hsz]; simp)
        have e58 := left_ev l10 (d := 58) (by rfl) (by rw [hsz]; simp)
        have hE := HE.out.below hS
        refine b_call (by rfl) (wanted_none rfl) 33 #[.int .u32 (e : Int)] ?_ (lawFour_post e w hE.le) ?_
        · simp [Act.eval, hsz] at e56 e58
          simp only [execOp, List.getElem_toArray, List.getElem_cons_succ, List.getElem_cons_zero]
          go_simp
        · rintro e w' ⟨g4, rfl, hg4, hB4, hbl⟩
          have he : Kp w w' := hbl
          exact ⟨_, rfl, ⟨g4, rfl, hB4⟩, Kp.to hS he, he⟩
      · intro a w hS hd ho hsz   -- 12: move t10
        have e10 : a.eval (.tmp 10) = (.func (.func 36) #[] #[.pointer (some ⟨g9, 0, none⟩)]) := other_ev ho (by decide +kernel) rfl
        refine b_is (by rfl) (wanted_none rfl) (.func (.func 36) #[] #[.pointer (some ⟨g9, 0, none⟩)]) ?_ rfl hS (Kp.refl _)
        simp only [execOp, List.getElem_toArray, List.getElem_cons_succ, List.getElem_cons_zero, e10]
        go_simp
      · intro a w hS hd ho hsz   -- 13: fieldAddr 39 t3 3
        have e3 : a.eval (.tmp 3) = (.pointer (some ⟨g3, 0, none⟩)) := other_ev ho (by decide +kernel) rfl
        refine b_is (by rfl) (wanted_none rfl) (.pointer (some ⟨g3, 3, none⟩)) ?_ rfl hS (Kp.refl _)
        simp only [execOp, List.getElem_toArray, List.getElem_cons_succ, List.getElem_cons_zero, e3]
        go_simp
      · intro a w hS hd ho hsz   -- 14: load 32 t61
        obtain ⟨_, l13, rfl⟩ := hd 13 (by decide +kernel)
        have e61 := left_ev l13 (d := 61) (by rfl) (by rw [hsz]; simp)
        have hc := ((same_below hS).cell (World.block_lt_of_cell? _ _ (HE.out.f3))).trans (HE.out.f3)
        refine b_is (by rfl) (wanted_none rfl) (.int .u64 (c : Int)) ?_ rfl hS (Kp.refl _)
        simp only [execOp, List.getElem_toArray, List.getElem_cons_succ, List.getElem_cons_zero, e61]
        go_simp
      · intro a w hS hd ho hsz   -- 15: call { value t60, args := #[t62], argTypes := #[32] }
        obtain ⟨_, l12, rfl⟩ := hd 12 (by decide +kernel)
        obtain ⟨_, l14, rfl⟩ := hd 14 (by decide +kernel)
        have e60 := left_ev l12 (d := 60) (by rfl) (by rw [hsz]; simp)
        have e62 := left_ev l14 (d := 62) (by rfl) (by rw [hsz]; simp)
        have hE := HE.out.below hS
        refine b_call (by rfl) (wanted_none rfl) 36 #[.int .u64 (c : Int), .pointer (some ⟨g9, 0, none⟩)] ?_ (lawEight_post c g9 w hE.lc hE.four) ?_
        · simp [Act.eval, hsz] at e60 e62
          simp only [execOp, List.getElem_toArray, List.getElem_cons_succ, List.getElem_cons_zero]
          go_simp
        · rintro e w' ⟨u4, rfl, hB4, hbl⟩
          have he : Kp w w' := hbl
          exact ⟨_, rfl, hB4, Kp.to hS he, he⟩
      · intro a w hS hd ho hsz   -- 16: move t10
        have e10 : a.eval (.tmp 10) = (.func (.func 36) #[] #[.pointer (some ⟨g9, 0, none⟩)]) := other_ev ho (by decide +kernel) rfl
        refine b_is (by rfl) (wanted_none rfl) (.func (.func 36) #[] #[.pointer (some ⟨g9, 0, none⟩)]) ?_ rfl hS (Kp.refl _)
        simp only [execOp, List.getElem_toArray, List.getElem_cons_succ, List.getElem_cons_zero, e10]
        go_simp
      · intro a w hS hd ho hsz   -- 17: fieldAddr 39 t3 4
        have e3 : a.eval (.tmp 3) = (.pointer (some ⟨g3, 0, none⟩)) := other_ev ho (by decide +kernel) rfl
        refine b_is (by rfl) (wanted_none rfl) (.pointer (some ⟨g3, 4, none⟩)) ?_ rfl hS (Kp.refl _)
        simp only [execOp, List.getElem_toArray, List.getElem_cons_succ, List.getElem_cons_zero, e3]
        go_simp
      · intro a w hS hd ho hsz   -- 18: load 32 t65
        obtain ⟨_, l17, rfl⟩ := hd 17 (by decide +kernel)
        have e65 := left_ev l17 (d := 65) (by rfl) (by rw [hsz]; simp)
        have hc := ((same_below hS).cell (World.block_lt_of_cell? _ _ (HE.out.f4))).trans (HE.out.f4)
        refine b_is (by rfl) (wanted_none rfl) (.int .u64 (v : Int)) ?_ rfl hS (Kp.refl _)
        simp only [execOp, List.getElem_toArray, List.getElem_cons_succ, List.getElem_cons_zero, e65]
        go_simp
      · intro a w hS hd ho hsz   -- 19: call { value t64, args := #[t66], argTypes := #[32] }
        obtain ⟨_, l16, rfl⟩ := hd 16 (by decide +kernel)
        obtain ⟨_, l18, rfl⟩ := hd 18 (by decide +kernel)
        have e64 := left_ev l16 (d := 64) (by rfl) (by rw [hsz]; simp)
        have e66 := left_ev l18 (d := 66) (by rfl) (by rw [hsz]; simp)
        have hE := HE.out.below hS
        refine b_call (by rfl) (wanted_none rfl) 36 #[.int .u64 (v : Int), .pointer (some ⟨g9, 0, none⟩)] ?_ (lawEight_post v g9 w hE.lv hE.four) ?_
        · simp [Act.eval, hsz] at e64 e66
          simp only [execOp, List.getElem_toArray, List.getElem_cons_succ, List.getElem_cons_zero]
          go_simp
        · rintro e w' ⟨u4, rfl, hB4, hbl⟩
          have he : Kp w w' := hbl
          exact ⟨_, rfl, hB4, Kp.to hS he, he⟩
      · intro a w hS hd ho hsz   -- 20: buildSlice 23 5 #[(0, t51), (1, t55), (2, t59), (3, t63), (4, t67)]
        obtain ⟨v3, l3, q3⟩ := hd 3 (by decide +kernel)
        replace q3 : (Nm [UInt8.ofNat z]) v3 w := q3
        obtain ⟨v7, l7, q7⟩ := hd 7 (by decide +kernel)
        replace q7 : (Nm (be4 s)) v7 w := q7
        obtain ⟨v11, l11, q11⟩ := hd 11 (by decide +kernel)
        replace q11 : (Nm (be4 e)) v11 w := q11
        obtain ⟨v15, l15, q15⟩ := hd 15 (by decide +kernel)
        replace q15 : (Bs (be8 c)) v15 w := q15
        obtain ⟨v19, l19, q19⟩ := hd 19 (by decide +kernel)
        replace q19 : (Bs (be8 v)) v19 w := q19
        have e51 := left_ev l3 (d := 51) (by rfl) (by rw [hsz]; simp)
        have e55 := left_ev l7 (d := 55) (by rfl) (by rw [hsz]; simp)
        have e59 := left_ev l11 (d := 59) (by rfl) (by rw [hsz]; simp)
        have e63 := left_ev l15 (d := 63) (by rfl) (by rw [hsz]; simp)
        have e67 := left_ev l19 (d := 67) (by rfl) (by rw [hsz]; simp)
        obtain ⟨P, w', hrun, hP, he⟩ := five_run (q3.bs (by simp [maxLen])) (q7.bs (by simp [maxLen, be4_len])) (q11.bs (by simp [maxLen, be4_len])) q15 q19
        refine b_run (by rfl) (wanted_none rfl) P (w' := w') ?_ hP (Kp.to hS he) he
        simp only [execOp, Sem.run_bind, List.getElem_toArray, List.getElem_cons_succ, List.getElem_cons_zero, List.map_toArray, List.map_cons, List.map_nil, e51, e55, e59, e63, e67, hrun]
        rfl
      · intro a w hS hd ho hsz   -- 21: call { value (Operand.func 11), args := #[t48, const (Value.string { data := #[119, 97, 12
        obtain ⟨_, l0, rfl⟩ := hd 0 (by decide +kernel)
        obtain ⟨v20, l20, q20⟩ := hd 20 (by decide +kernel)
        replace q20 : (Ps (wayParts z s e c v)) v20 w := q20
        have e48 := left_ev l0 (d := 48) (by rfl) (by rw [hsz]; simp)
        have e68 := left_ev l20 (d := 68) (by rfl) (by rw [hsz]; simp)
        have hE := HE.out.below hS
        refine b_call (by rfl) (wanted_none rfl) 11 #[.slice A sec.length cc, .string ⟨#[119, 97, 121]⟩, v20] ?_ (derive_ok _ _ sec _ (wayParts z s e c v) _ _ w hE.sec q20 (fun i hi => hi) (fun i hi => hi) hE.tab HL1.out HL2.out (by decide) (way_lt z s e c v) (way_len z s e c v)) ?_
        · simp [Act.eval, hsz] at e48 e68
          simp only [execOp, List.getElem_toArray, List.getElem_cons_succ, List.getElem_cons_zero]
          go_simp
        · rintro e w' ⟨rfl, hbl⟩
          have he : Kp w w' := hbl
          exact ⟨_, rfl, by rw [← HK.out]; rfl, Kp.to hS he, he⟩
      · intro a w hS hd ho hsz   -- 22: move t69
        obtain ⟨_, l21, rfl⟩ := hd 21 (by decide +kernel)
        have e69 := left_ev l21 (d := 69) (by rfl) (by rw [hsz]; simp)
        refine b_is (by rfl) (wanted_none rfl) (.tuple #[.agg (K.map cell8).toArray, .int .i64 0]) ?_ rfl hS (Kp.refl _)
        simp only [execOp, List.getElem_toArray, List.getElem_cons_succ, List.getElem_cons_zero, e69]
        go_simp
      · intro a w hS hd ho hsz   -- 23: extract t47 0
        obtain ⟨_, l22, rfl⟩ := hd 22 (by decide +kernel)
        have e47 := left_ev l22 (d := 47) (by rfl) (by rw [hsz]; simp)
        refine b_is (by rfl) (wanted_none rfl) (.agg (K.map cell8).toArray) ?_ rfl hS (Kp.refl _)
        simp only [execOp, List.getElem_toArray, List.getElem_cons_succ, List.getElem_cons_zero, e47]
        go_simp
      · intro a w hS hd ho hsz   -- 24: extract t47 1
        obtain ⟨_, l22, rfl⟩ := hd 22 (by decide +kernel)
        have e47 := left_ev l22 (d := 47) (by rfl) (by rw [hsz]; simp)
        refine b_is (by rfl) (wanted_none rfl) (.int .i64 0) ?_ rfl hS (Kp.refl _)
        simp only [execOp, List.getElem_toArray, List.getElem_cons_succ, List.getElem_cons_zero, e47]
        go_simp
      · intro a w hS hd ho hsz   -- 25: alloc 26
        have he := kp_alloc w (.cells ((row8 32).map cell8).toArray 26)
        refine b_run (by rfl) (wanted_none rfl) (.pointer (some ⟨w.heap.size, 0, none⟩)) (w' := w.alloc (.cells ((row8 32).map cell8).toArray 26)) ?_ ⟨w.heap.size, rfl, hS.size, Blk.new w _ _⟩ (Kp.to hS he) he
        simp only [execOp, List.getElem_toArray, List.getElem_cons_succ, List.getElem_cons_zero]
        go_simp
        rfl
      · intro a w hS hd ho hsz   -- 27: assign t71
        obtain ⟨_, _, hx⟩ := hd 26 (by decide +kernel)
        exact (show False from hx).elim
      · intro a w u hS lu qu hd ho hsz   -- THE WRITING, 26: store 26 t12 t70
        obtain ⟨_, l23, rfl⟩ := hd 23 (by decide +kernel)
        obtain ⟨v25, l25, q25⟩ := hd 25 (by decide +kernel)
        replace q25 : (fun u w => ∃ g, u = .pointer (some ⟨g, 0, none⟩) ∧ w0.heap.size ≤ g ∧ Blk w g 26 ((row8 32).map cell8).toArray) v25 w := q25
        have e12 := left_ev l25 (d := 12) (by rfl) (by rw [hsz]; simp)
        have e70 := left_ev l23 (d := 70) (by rfl) (by rw [hsz]; simp)
        have hu := left_same lu l25 (d := 12) (by rfl) (by rw [hsz]; simp)
        subst hu
        obtain ⟨g, rfl, hg, hB⟩ := qu
        have hp := put_of hB HRS.out
        exact step_op (by rfl) (wanted_none rfl) (wp_store_row 26 (.tmp 12) (.tmp 70) rfl g (K.map cell8).toArray e12 e70 _ _ hB HSS.out HRS.out (all_cell8 K) ⟨undef, rfl, rfl, g, rfl, hg, hp.blk, below_grown hS hp.grown hg⟩)
      · intro a w vs u hS1 hd hvs ho hsz   -- BEHIND, 24: extract t47 1
        obtain ⟨_, l22, rfl⟩ := hd 22 (by decide +kernel)
        have e47 := left_ev l22 (d := 47) (by rfl) (by rw [hsz]; simp)
        refine k_is (by rfl) (wanted_none rfl) (.int .i64 0) ?_ rfl hS1
        simp only [execOp, List.getElem_toArray, List.getElem_cons_succ, List.getElem_cons_zero, e47]
        go_simp
      · intro a w vs u hS1 hd hvs ho hsz   -- BEHIND, 27: assign t71
        obtain ⟨_, l24, rfl⟩ := hd 24 (by decide +kernel)
        have e71 := left_ev l24 (d := 71) (by rfl) (by rw [hsz]; simp)
        refine k_is (by rfl) (wanted_none rfl) (.int .i64 0) ?_ rfl hS1
        simp only [execOp, List.getElem_toArray, List.getElem_cons_succ, List.getElem_cons_zero, e71]
        go_simp
      · intro X w1 hS1 hX
        obtain ⟨g12, hx25, hg12, hB12, hb1⟩ := hS1
        have hx27 : X 27 = .int .i64 0 := hX 27 (by omega)
        clear hX
        simp only [frame, fillFrom, Act.put, List.setIfInBounds_toArray, List.set_cons_zero, List.set_cons_succ, hx25, hx27]
        have hE1 := HE.out.below hb1
        have hbw1 := hbw0.trans (hb1.mono hbw0.size)
        clear HE hb1 hbw0 h0S hx25 hx27
        have HE := Lib.hid hE1
        have HB12 := Lib.hid hB12
        have HZ1 := Lib.hid (show z ≤ 1 by omega)
        clear hE1 hB12
        go_wp2_with fail
        have h0S := drew_kp w1
        refine wp_region_spec (by kernel_rfl) (by kernel_rfl) (by kernel_rfl) (fun u => Below w1.heap.size w1 u) Kp
          [Spec.is (.pointer (some ⟨g5, 0, none⟩)), Spec.is (.int .i64 (z : Int)), Spec.is (.pointer (some ⟨g3, 1, none⟩)), Spec.is (.int .u32 (s : Int)), Spec.is (.pointer (some ⟨g3, 2, none⟩)), Spec.is (.int .u32 (e : Int)), Spec.is (.pointer (some ⟨g3, 3, none⟩)), Spec.is (.int .u64 (c : Int)), Spec.is (.pointer (some ⟨g3, 4, none⟩)), Spec.is (.int .u64 (v : Int)), Spec.is (.agg (K.map cell8).toArray), Spec.is (.agg (K.map cell8).toArray), Spec.is (.bool false), Spec.is (.bool false), Spec.is (.pointer (some ⟨g7, 0, none⟩)), Spec.is (.int .i64 (z : Int)), Spec.is (.pointer (some ⟨g3, 1, none⟩)), Spec.is (.int .u32 (s : Int)), Spec.is (.pointer (some ⟨g3, 2, none⟩)), Spec.is (.int .u32 (e : Int)), Spec.is (.pointer (some ⟨g3, 3, none⟩)), Spec.is (.int .u64 (c : Int)), Spec.is (.pointer (some ⟨g3, 4, none⟩)), Spec.is (.int .u64 (v : Int)), Spec.is (.agg (K.map cell8).toArray), Spec.is (.agg (K.map cell8).toArray), Spec.is (.bool false), Spec.is (.bool false)] 28 (by kernel_rfl) h0S ⟨?_, ?_, ?_, ?_, ?_, ?_, ?_, ?_, ?_, ?_, ?_, ?_, ?_, ?_, ?_, ?_, ?_, ?_, ?_, ?_, ?_, ?_, ?_, ?_, ?_, ?_, ?_, ?_, trivial⟩ ?_
        · intro a w hS hd ho hsz   -- 0: move t5
          have e5 : a.eval (.tmp 5) = (.pointer (some ⟨g5, 0, none⟩)) := other_ev ho (by decide +kernel) rfl
          refine duty_is (by rfl) (wanted_none rfl) (.pointer (some ⟨g5, 0, none⟩)) ?_ rfl hS (Kp.refl _)
          simp only [execOp, List.getElem_toArray, List.getElem_cons_zero, e5]
          go_simp
        · intro a w hS hd ho hsz   -- 1: move t11
          have e11 : a.eval (.tmp 11) = (.int .i64 (z : Int)) := other_ev ho (by decide +kernel) rfl
          refine duty_is (by rfl) (wanted_none rfl) (.int .i64 (z : Int)) ?_ rfl hS (Kp.refl _)
          simp only [execOp, List.getElem_toArray, List.getElem_cons_succ, List.getElem_cons_zero, e11]
          go_simp
        · intro a w hS hd ho hsz   -- 2: fieldAddr 39 t3 1
          have e3 : a.eval (.tmp 3) = (.pointer (some ⟨g3, 0, none⟩)) := other_ev ho (by decide +kernel) rfl
          refine duty_is (by rfl) (wanted_none rfl) (.pointer (some ⟨g3, 1, none⟩)) ?_ rfl hS (Kp.refl _)
          simp only [execOp, List.getElem_toArray, List.getElem_cons_succ, List.getElem_cons_zero, e3]
          go_simp
        · intro a w hS hd ho hsz   -- 3: load 37 t74
          obtain ⟨_, l2, rfl⟩ := hd 2 (by decide +kernel)
          have e74 := left_ev l2 (d := 74) (by rfl) (by rw [hsz]; simp)
          have hc := ((same_below hS).cell (World.block_lt_of_cell? _ _ (HE.out.f1))).trans (HE.out.f1)
          refine duty_is (by rfl) (wanted_none rfl) (.int .u32 (s : Int)) ?_ rfl hS (Kp.refl _)
          simp only [execOp, List.getElem_toArray, List.getElem_cons_succ, List.getElem_cons_zero, e74]
          go_simp
        · intro a w hS hd ho hsz   -- 4: fieldAddr 39 t3 2
          have e3 : a.eval (.tmp 3) = (.pointer (some ⟨g3, 0, none⟩)) := other_ev ho (by decide +kernel) rfl
          refine duty_is (by rfl) (wanted_none rfl) (.pointer (some ⟨g3, 2, none⟩)) ?_ rfl hS (Kp.refl _)
          simp only [execOp, List.getElem_toArray, List.getElem_cons_succ, List.getElem_cons_zero, e3]
          go_simp
        · intro a w hS hd ho hsz   -- 5: load 37 t76
          obtain ⟨_, l4, rfl⟩ := hd 4 (by decide +kernel)
          have e76 := left_ev l4 (d := 76) (by rfl) (by rw [hsz]; simp)
          have hc := ((same_below hS).cell (World.block_lt_of_cell? _ _ (HE.out.f2))).trans (HE.out.f2)
          refine duty_is (by rfl) (wanted_none rfl) (.int .u32 (e : Int)) ?_ rfl hS (Kp.refl _)
          simp only [execOp, List.getElem_toArray, List.getElem_cons_succ, List.getElem_cons_zero, e76]
          go_simp
        · intro a w hS hd ho hsz   -- 6: fieldAddr 39 t3 3
          have e3 : a.eval (.tmp 3) = (.pointer (some ⟨g3, 0, none⟩)) := other_ev ho (by decide +kernel) rfl
          refine duty_is (by rfl) (wanted_none rfl) (.pointer (some ⟨g3, 3, none⟩)) ?_ rfl hS (Kp.refl _)
          simp only [execOp, List.getElem_toArray, List.getElem_cons_succ, List.getElem_cons_zero, e3]
          go_simp
        · intro a w hS hd ho hsz   -- 7: load 32 t78
          obtain ⟨_, l6, rfl⟩ := hd 6 (by decide +kernel)
          have e78 := left_ev l6 (d := 78) (by rfl) (by rw [hsz]; simp)
          have hc := ((same_below hS).cell (World.block_lt_of_cell? _ _ (HE.out.f3))).trans (HE.out.f3)
          refine duty_is (by rfl) (wanted_none rfl) (.int .u64 (c : Int)) ?_ rfl hS (Kp.refl _)
          simp only [execOp, List.getElem_toArray, List.getElem_cons_succ, List.getElem_cons_zero, e78]
          go_simp
        · intro a w hS hd ho hsz   -- 8: fieldAddr 39 t3 4
          have e3 : a.eval (.tmp 3) = (.pointer (some ⟨g3, 0, none⟩)) := other_ev ho (by decide +kernel) rfl
          refine duty_is (by rfl) (wanted_none rfl) (.pointer (some ⟨g3, 4, none⟩)) ?_ rfl hS (Kp.refl _)
          simp only [execOp, List.getElem_toArray, List.getElem_cons_succ, List.getElem_cons_zero, e3]
          go_simp
        · intro a w hS hd ho hsz   -- 9: load 32 t80
          obtain ⟨_, l8, rfl⟩ := hd 8 (by decide +kernel)
          have e80 := left_ev l8 (d := 80) (by rfl) (by rw [hsz]; simp)
          have hc := ((same_below hS).cell (World.block_lt_of_cell? _ _ (HE.out.f4))).trans (HE.out.f4)
          refine duty_is (by rfl) (wanted_none rfl) (.int .u64 (v : Int)) ?_ rfl hS (Kp.refl _)
          simp only [execOp, List.getElem_toArray, List.getElem_cons_succ, List.getElem_cons_zero, e80]
          go_simp
        · intro a w hS hd ho hsz   -- 10: call { value (Operand.func 19), args := #[t72, t73, t75, t77, t79, t81], argTypes := #[40,
          obtain ⟨_, l0, rfl⟩ := hd 0 (by decide +kernel)
          obtain ⟨_, l1, rfl⟩ := hd 1 (by decide +kernel)
          obtain ⟨_, l3, rfl⟩ := hd 3 (by decide +kernel)
          obtain ⟨_, l5, rfl⟩ := hd 5 (by decide +kernel)
          obtain ⟨_, l7, rfl⟩ := hd 7 (by decide +kernel)
          obtain ⟨_, l9, rfl⟩ := hd 9 (by decide +kernel)
          have e72 := left_ev l0 (d := 72) (by rfl) (by rw [hsz]; simp)
          have e73 := left_ev l1 (d := 73) (by rfl) (by rw [hsz]; simp)
          have e75 := left_ev l3 (d := 75) (by rfl) (by rw [hsz]; simp)
          have e77 := left_ev l5 (d := 77) (by rfl) (by rw [hsz]; simp)
          have e79 := left_ev l7 (d := 79) (by rfl) (by rw [hsz]; simp)
          have e81 := left_ev l9 (d := 81) (by rfl) (by rw [hsz]; simp)
          have hE := HE.out.below hS
          refine duty_call (by rfl) (wanted_none rfl) 19 #[(.pointer (some ⟨g5, 0, none⟩)), .int .i64 (z : Int), .int .u32 (s : Int), .int .u32 (e : Int), .int .u64 (c : Int), .int .u64 (v : Int)] ?_ (way_yes g5 z s e c v sec w hE.one hE.tab HZ1.out hE.ls hE.le hE.lc hE.lv) ?_
          · simp [Act.eval, hsz] at e72 e73 e75 e77 e79 e81
            simp only [execOp, List.getElem_toArray, List.getElem_cons_succ, List.getElem_cons_zero]
            go_simp
          · rintro e w' ⟨rfl, hbl⟩
            have he : Kp w w' := hbl
            exact ⟨_, rfl, by rw [HK.out]; rfl, Kp.to hS he, he⟩
        · intro a w hS hd ho hsz   -- 11: load 26 t12
          have e12 : a.eval (.tmp 12) = (.pointer (some ⟨g12, 0, none⟩)) := other_ev ho (by decide +kernel) rfl
          have hB6 : Blk w g12 26 (K.map cell8).toArray := (hS.block g12 (Blk.lt HB12.out)).trans HB12.out
          refine duty_is (by rfl) (wanted_none rfl) (.agg (K.map cell8).toArray) ?_ rfl hS (Kp.refl _)
          exact run_load_blk 26 (.tmp 12) rfl g12 e12 _ _ _ hB6 Tryd.underlying26 rfl HSS.out
        · intro a w hS hd ho hsz   -- 12: binOp BinOp.neq 26 t82 t83 26
          obtain ⟨_, l10, rfl⟩ := hd 10 (by decide +kernel)
          obtain ⟨_, l11, rfl⟩ := hd 11 (by decide +kernel)
          have e82 := left_ev l10 (d := 82) (by rfl) (by rw [hsz]; simp)
          have e83 := left_ev l11 (d := 83) (by rfl) (by rw [hsz]; simp)
          have hnq := fun u => neq_key K K HKL.out HKL.out u
          simp only [beq_self_eq_true, Bool.not_true] at hnq
          have hgd := guard_key
          refine duty_is (by rfl) (wanted_none rfl) (.bool false) ?_ rfl hS (Kp.refl _)
          simp only [execOp, List.getElem_toArray, List.getElem_cons_succ, List.getElem_cons_zero, e82, e83]
          go_simp
        · intro a w hS hd ho hsz   -- 13: move t84
          obtain ⟨_, l12, rfl⟩ := hd 12 (by decide +kernel)
          have e84 := left_ev l12 (d := 84) (by rfl) (by rw [hsz]; simp)
          refine duty_is (by rfl) (wanted_none rfl) (.bool false) ?_ rfl hS (Kp.refl _)
          simp only [execOp, List.getElem_toArray, List.getElem_cons_succ, List.getElem_cons_zero, e84]
          go_simp
        · intro a w hS hd ho hsz   -- 14: move t7
          obtain ⟨_, l13, rfl⟩ := hd 13 (by decide +kernel)
          have e7 : a.eval (.tmp 7) = (.pointer (some ⟨g7, 0, none⟩)) := other_ev ho (by decide +kernel) rfl
          refine duty_is (by rfl) (wanted_guard rfl (by rfl) (left_at l13 (d := 85) (by rfl) (by rw [hsz]; simp))) (.pointer (some ⟨g7, 0, none⟩)) ?_ rfl hS (Kp.refl _)
          simp only [execOp, List.getElem_toArray, List.getElem_cons_succ, List.getElem_cons_zero, e7]
          go_simp
        · intro a w hS hd ho hsz   -- 15: move t11
          obtain ⟨_, l13, rfl⟩ := hd 13 (by decide +kernel)
          have e11 : a.eval (.tmp 11) = (.int .i64 (z : Int)) := other_ev ho (by decide +kernel) rfl
          refine duty_is (by rfl) (wanted_guard rfl (by rfl) (left_at l13 (d := 85) (by rfl) (by rw [hsz]; simp))) (.int .i64 (z : Int)) ?_ rfl hS (Kp.refl _)
          simp only [execOp, List.getElem_toArray, List.getElem_cons_succ, List.getElem_cons_zero, e11]
          go_simp
        · intro a w hS hd ho hsz   -- 16: fieldAddr 39 t3 1
          obtain ⟨_, l13, rfl⟩ := hd 13 (by decide +kernel)
          have e3 : a.eval (.tmp 3) = (.pointer (some ⟨g3, 0, none⟩)) := other_ev ho (by decide +kernel) rfl
          refine duty_is (by rfl) (wanted_guard rfl (by rfl) (left_at l13 (d := 85) (by rfl) (by rw [hsz]; simp))) (.pointer (some ⟨g3, 1, none⟩)) ?_ rfl hS (Kp.refl _)
          simp only [execOp, List.getElem_toArray, List.getElem_cons_succ, List.getElem_cons_zero, e3]
          go_simp
        · intro a w hS hd ho hsz   -- 17: load 37 t88
          obtain ⟨_, l13, rfl⟩ := hd 13 (by decide +kernel)
          obtain ⟨_, l16, rfl⟩ := hd 16 (by decide +kernel)
          have e88 := left_ev l16 (d := 88) (by rfl) (by rw [hsz]; simp)
          have hc := ((same_below hS).cell (World.block_lt_of_cell? _ _ (HE.out.f1))).trans (HE.out.f1)
          refine duty_is (by rfl) (wanted_guard rfl (by rfl) (left_at l13 (d := 85) (by rfl) (by rw [hsz]; simp))) (.int .u32 (s : Int)) ?_ rfl hS (Kp.refl _)
          simp only [execOp, List.getElem_toArray, List.getElem_cons_succ, List.getElem_cons_zero, e88]
          go_simp
        · intro a w hS hd ho hsz   -- 18: fieldAddr 39 t3 2
          obtain ⟨_, l13, rfl⟩ := hd 13 (by decide +kernel)
          have e3 : a.eval (.tmp 3) = (.pointer (some ⟨g3, 0, none⟩)) := other_ev ho (by decide +kernel) rfl
          refine duty_is (by rfl) (wanted_guard rfl (by rfl) (left_at l13 (d := 85) (by rfl) (by rw [hsz]; simp))) (.pointer (some ⟨g3, 2, none⟩)) ?_ rfl hS (Kp.refl _)
          simp only [execOp, List.getElem_toArray, List.getElem_cons_succ, List.getElem_cons_zero, e3]
          go_simp
        · intro a w hS hd ho hsz   -- 19: load 37 t90
          obtain ⟨_, l13, rfl⟩ := hd 13 (by decide +kernel)
          obtain ⟨_, l18, rfl⟩ := hd 18 (by decide +kernel)
          have e90 := left_ev l18 (d := 90) (by rfl) (by rw [hsz]; simp)
          have hc := ((same_below hS).cell (World.block_lt_of_cell? _ _ (HE.out.f2))).trans (HE.out.f2)
          refine duty_is (by rfl) (wanted_guard rfl (by rfl) (left_at l13 (d := 85) (by rfl) (by rw [hsz]; simp))) (.int .u32 (e : Int)) ?_ rfl hS (Kp.refl _)
          simp only [execOp, List.getElem_toArray, List.getElem_cons_succ, List.getElem_cons_zero, e90]
          go_simp
        · intro a w hS hd ho hsz   -- 20: fieldAddr 39 t3 3
          obtain ⟨_, l13, rfl⟩ := hd 13 (by decide +kernel)
          have e3 : a.eval (.tmp 3) = (.pointer (some ⟨g3, 0, none⟩)) := other_ev ho (by decide +kernel) rfl
          refine duty_is (by rfl) (wanted_guard rfl (by rfl) (left_at l13 (d := 85) (by rfl) (by rw [hsz]; simp))) (.pointer (some ⟨g3, 3, none⟩)) ?_ rfl hS (Kp.refl _)
          simp only [execOp, List.getElem_toArray, List.getElem_cons_succ, List.getElem_cons_zero, e3]
          go_simp
        · intro a w hS hd ho hsz   -- 21: load 32 t92
          obtain ⟨_, l13, rfl⟩ := hd 13 (by decide +kernel)
          obtain ⟨_, l20, rfl⟩ := hd 20 (by decide +kernel)
          have e92 := left_ev l20 (d := 92) (by rfl) (by rw [hsz]; simp)
          have hc := ((same_below hS).cell (World.block_lt_of_cell? _ _ (HE.out.f3))).trans (HE.out.f3)
          refine duty_is (by rfl) (wanted_guard rfl (by rfl) (left_at l13 (d := 85) (by rfl) (by rw [hsz]; simp))) (.int .u64 (c : Int)) ?_ rfl hS (Kp.refl _)
          simp only [execOp, List.getElem_toArray, List.getElem_cons_succ, List.getElem_cons_zero, e92]
          go_simp
        · intro a w hS hd ho hsz   -- 22: fieldAddr 39 t3 4
          obtain ⟨_, l13, rfl⟩ := hd 13 (by decide +kernel)
          have e3 : a.eval (.tmp 3) = (.pointer (some ⟨g3, 0, none⟩)) := other_ev ho (by decide +kernel) rfl
          refine duty_is (by rfl) (wanted_guard rfl (by rfl) (left_at l13 (d := 85) (by rfl) (by rw [hsz]; simp))) (.pointer (some ⟨g3, 4, none⟩)) ?_ rfl hS (Kp.refl _)
          simp only [execOp, List.getElem_toArray, List.getElem_cons_succ, List.getElem_cons_zero, e3]
          go_simp
        · intro a w hS hd ho hsz   -- 23: load 32 t94
          obtain ⟨_, l13, rfl⟩ := hd 13 (by decide +kernel)
          obtain ⟨_, l22, rfl⟩ := hd 22 (by decide +kernel)
          have e94 := left_ev l22 (d := 94) (by rfl) (by rw [hsz]; simp)
          have hc := ((same_below hS).cell (World.block_lt_of_cell? _ _ (HE.out.f4))).trans (HE.out.f4)
          refine duty_is (by rfl) (wanted_guard rfl (by rfl) (left_at l13 (d := 85) (by rfl) (by rw [hsz]; simp))) (.int .u64 (v : Int)) ?_ rfl hS (Kp.refl _)
          simp only [execOp, List.getElem_toArray, List.getElem_cons_succ, List.getElem_cons_zero, e94]
          go_simp
        · intro a w hS hd ho hsz   -- 24: call { value (Operand.func 19), args := #[t86, t87, t89, t91, t93, t95], argTypes := #[40,
          obtain ⟨_, l13, rfl⟩ := hd 13 (by decide +kernel)
          obtain ⟨_, l14, rfl⟩ := hd 14 (by decide +kernel)
          obtain ⟨_, l15, rfl⟩ := hd 15 (by decide +kernel)
          obtain ⟨_, l17, rfl⟩ := hd 17 (by decide +kernel)
          obtain ⟨_, l19, rfl⟩ := hd 19 (by decide +kernel)
          obtain ⟨_, l21, rfl⟩ := hd 21 (by decide +kernel)
          obtain ⟨_, l23, rfl⟩ := hd 23 (by decide +kernel)
          have e86 := left_ev l14 (d := 86) (by rfl) (by rw [hsz]; simp)
          have e87 := left_ev l15 (d := 87) (by rfl) (by rw [hsz]; simp)
          have e89 := left_ev l17 (d := 89) (by rfl) (by rw [hsz]; simp)
          have e91 := left_ev l19 (d := 91) (by rfl) (by rw [hsz]; simp)
          have e93 := left_ev l21 (d := 93) (by rfl) (by rw [hsz]; simp)
          have e95 := left_ev l23 (d := 95) (by rfl) (by rw [hsz]; simp)
          have hE := HE.out.below hS
          refine duty_call (by rfl) (wanted_guard rfl (by rfl) (left_at l13 (d := 85) (by rfl) (by rw [hsz]; simp))) 19 #[(.pointer (some ⟨g7, 0, none⟩)), .int .i64 (z : Int), .int .u32 (s : Int), .int .u32 (e : Int), .int .u64 (c : Int), .int .u64 (v : Int)] ?_ (way_yes g7 z s e c v sec w hE.two hE.tab HZ1.out hE.ls hE.le hE.lc hE.lv) ?_
          · simp [Act.eval, hsz] at e86 e87 e89 e91 e93 e95
            simp only [execOp, List.getElem_toArray, List.getElem_cons_succ, List.getElem_cons_zero]
            go_simp
          · rintro e w' ⟨rfl, hbl⟩
            have he : Kp w w' := hbl
            exact ⟨_, rfl, by rw [HK.out]; rfl, Kp.to hS he, he⟩
        · intro a w hS hd ho hsz   -- 25: load 26 t12
          obtain ⟨_, l13, rfl⟩ := hd 13 (by decide +kernel)
          have e12 : a.eval (.tmp 12) = (.pointer (some ⟨g12, 0, none⟩)) := other_ev ho (by decide +kernel) rfl
          have hB6 : Blk w g12 26 (K.map cell8).toArray := (hS.block g12 (Blk.lt HB12.out)).trans HB12.out
          refine duty_is (by rfl) (wanted_guard rfl (by rfl) (left_at l13 (d := 85) (by rfl) (by rw [hsz]; simp))) (.agg (K.map cell8).toArray) ?_ rfl hS (Kp.refl _)
          exact run_load_blk 26 (.tmp 12) rfl g12 e12 _ _ _ hB6 Tryd.underlying26 rfl HSS.out
        · intro a w hS hd ho hsz   -- 26: binOp BinOp.neq 26 t96 t97 26
          obtain ⟨_, l13, rfl⟩ := hd 13 (by decide +kernel)
          obtain ⟨_, l24, rfl⟩ := hd 24 (by decide +kernel)
          obtain ⟨_, l25, rfl⟩ := hd 25 (by decide +kernel)
          have e96 := left_ev l24 (d := 96) (by rfl) (by rw [hsz]; simp)
          have e97 := left_ev l25 (d := 97) (by rfl) (by rw [hsz]; simp)
          have hnq := fun u => neq_key K K HKL.out HKL.out u
          simp only [beq_self_eq_true, Bool.not_true] at hnq
          have hgd := guard_key
          refine duty_is (by rfl) (wanted_guard rfl (by rfl) (left_at l13 (d := 85) (by rfl) (by rw [hsz]; simp))) (.bool false) ?_ rfl hS (Kp.refl _)
          simp only [execOp, List.getElem_toArray, List.getElem_cons_succ, List.getElem_cons_zero, e96, e97]
          go_simp
        · intro a w hS hd ho hsz   -- 27: pick t85 (const (Value.bool true)) t98
          obtain ⟨_, l13, rfl⟩ := hd 13 (by decide +kernel)
          obtain ⟨_, l26, rfl⟩ := hd 26 (by decide +kernel)
          have e85 := left_ev l13 (d := 85) (by rfl) (by rw [hsz]; simp)
          have e98 := left_ev l26 (d := 98) (by rfl) (by rw [hsz]; simp)
          refine duty_is (by rfl) (wanted_none rfl) (.bool false) ?_ rfl hS (Kp.refl _)
          simp only [execOp, List.getElem_toArray, List.getElem_cons_succ, List.getElem_cons_zero, e85, e98, ev_const]
          go_simp
        · intro X w2 hS2 hX
          have hx27 : X 27 = .bool false := hX 27 (by omega)
          clear hX
          simp only [frame, fillFrom, Act.put, List.setIfInBounds_toArray, List.set_cons_zero, List.set_cons_succ, hx27]
          have hE2 := HE.out.below hS2
          have hbw2 := hbw1.trans (hS2.mono hbw1.size)
          clear HE HB12 h0S hx27
          go_wp2_with fail
          go_roundw
          case rel => exact ⟨z + 1, by omega, by go_num, hE2, hbw2⟩
          case measure => simp [intOf]; omega
    · obtain rfl : z = 2 := by omega
      rw [show ((2 : Nat) : Int) = 2 from rfl]
      go_wp2_with fail
      refine (derive_ok _ _ sec _ [] _ (fun _ => False) w0 HE.out.sec (parts0 _ _) (fun i hi => hi) (fun i hi => hi.elim) HE.out.tab HL1.out HL2.out (by decide) (by simp) (by decide)).mono ?_
      rintro r w1 ⟨rfl, hb1⟩
      obtain ⟨T, hT⟩ : ∃ T, T = hmac sec (lay [116, 111, 107, 101, 110] []) := ⟨_, rfl⟩
      have hTl : T.length = 32 := by rw [hT]; exact sha_length _
      have hTe : hmac sec (lay (⟨#[116, 111, 107, 101, 110]⟩ : ByteArray).data.toList []) = T := by rw [hT]
      rw [hTe]
      have HTT := Lib.hid hT
      have HTL := Lib.hid hTl
      have HST := Lib.hid (key_size T hTl)
      have HRT := Lib.hid (row_size T 32 hTl)
      have hE1 := HE.out.below hb1
      have hbw1 := hbw0.trans (hb1.mono hbw0.size)
      clear hT hTl hTe HE hb1 hbw0
      go_wp2_with (first | (with_reducible refine wpList_alloc_new rfl 26 rfl _ allocKey ?_; intro g14 w2 n2) | (with_reducible refine wpList_store_all rfl 26 (.tmp 14) (.tmp 104) rfl _ _ rfl rfl _ _ n2.blk HST.out HRT.out (all_cell8 T) ?_; intro w3 p3) | fail)
      have hb3 : Below w1.heap.size w1 w3 := below_grown n2.below p3.grown (by have := n2.is; omega)
      have hE3 := hE1.below hb3
      have hbw3 := hbw1.trans (hb3.mono hbw1.size)
      have hB14 := p3.blk
      have HE := Lib.hid hE3
      have HB14 := Lib.hid hB14
      obtain ⟨tk, htk⟩ : ∃ tk, tk = tokenOf sec s e := ⟨_, rfl⟩
      have htk2 : tagOf T (be4 s ++ be4 e) = tk := by rw [htk, HTT.out]; rfl
      have HTK := Lib.hid htk
      have HTK2 := Lib.hid htk2
      clear hE1 hb3 hbw1 hB14 n2 p3 hE3 htk htk2
      have h0S := drew_kp w3
      refine wp_region_spec (by kernel_rfl) (by kernel_rfl) (by kernel_rfl) (fun u => Below w3.heap.size w3 u) Kp
        [Spec.is (.agg (T.map cell8).toArray), Spec.is (.func (.func 33) #[] #[]), Spec.is (.pointer (some ⟨g3, 1, none⟩)), Spec.is (.int .u32 (s : Int)), ⟨Nm (be4 s), fun _ _ _ h e => h.kp e⟩, Spec.is (.func (.func 33) #[] #[]), Spec.is (.pointer (some ⟨g3, 2, none⟩)), Spec.is (.int .u32 (e : Int)), ⟨Nm (be4 e), fun _ _ _ h e => h.kp e⟩, ⟨Bs (be4 s ++ be4 e), fun _ _ _ h e => h.kp e⟩, Spec.is (.int .u64 (tk : Int)), Spec.is (.int .u64 (tk : Int))] 12 (by kernel_rfl) h0S ⟨?_, ?_, ?_, ?_, ?_, ?_, ?_, ?_, ?_, ?_, ?_, ?_, trivial⟩ ?_
      · intro a w hS hd ho hsz   -- 0: load 26 t14
        have e14 : a.eval (.tmp 14) = (.pointer (some ⟨g14, 0, none⟩)) := other_ev ho (by decide +kernel) rfl
        have hB6 : Blk w g14 26 (T.map cell8).toArray := (hS.block g14 (Blk.lt HB14.out)).trans HB14.out
        refine duty_is (by rfl) (wanted_none rfl) (.agg (T.map cell8).toArray) ?_ rfl hS (Kp.refl _)
        exact run_load_blk 26 (.tmp 14) rfl g14 e14 _ _ _ hB6 Tryd.underlying26 rfl HST.out
      · intro a w hS hd ho hsz   -- 1: load 74 t9
        have e9 : a.eval (.tmp 9) = (.pointer (some ⟨g9, 0, none⟩)) := other_ev ho (by decide +kernel) rfl
        have hc := ((same_below hS).cell (World.block_lt_of_cell? _ _ HE.out.four)).trans HE.out.four
        refine duty_is (by rfl) (wanted_none rfl) (.func (.func 33) #[] #[]) ?_ rfl hS (Kp.refl _)
        simp only [execOp, List.getElem_toArray, List.getElem_cons_succ, List.getElem_cons_zero, e9]
        go_simp
      · intro a w hS hd ho hsz   -- 2: fieldAddr 39 t3 1
        have e3 : a.eval (.tmp 3) = (.pointer (some ⟨g3, 0, none⟩)) := other_ev ho (by decide +kernel) rfl
        refine duty_is (by rfl) (wanted_none rfl) (.pointer (some ⟨g3, 1, none⟩)) ?_ rfl hS (Kp.refl _)
        simp only [execOp, List.getElem_toArray, List.getElem_cons_succ, List.getElem_cons_zero, e3]
        go_simp
      · intro a w hS hd ho hsz   -- 3: load 37 t108
        obtain ⟨_, l2, rfl⟩ := hd 2 (by decide +kernel)
        have e108 := left_ev l2 (d := 108) (by rfl) (by rw [hsz]; simp)
        have hc := ((same_below hS).cell (World.block_lt_of_cell? _ _ (HE.out.f1))).trans (HE.out.f1)
        refine duty_is (by rfl) (wanted_none rfl) (.int .u32 (s : Int)) ?_ rfl hS (Kp.refl _)
        simp only [execOp, List.getElem_toArray, List.getElem_cons_succ, List.getElem_cons_zero, e108]
        go_simp
      · intro a w hS hd ho hsz   -- 4: call { value t107, args := #[t109], argTypes := #[37] }
        obtain ⟨_, l1, rfl⟩ := hd 1 (by decide +kernel)
        obtain ⟨_, l3, rfl⟩ := hd 3 (by decide +kernel)
        have e107 := left_ev l1 (d := 107) (by rfl) (by rw [hsz]; simp)
        have e109 := left_ev l3 (d := 109) (by rfl) (by rw [hsz]; simp)
        have hE := HE.out.below hS
        refine duty_call (by rfl) (wanted_none rfl) 33 #[.int .u32 (s : Int)] ?_ (lawFour_post s w hE.ls) ?_
        · simp [Act.eval, hsz] at e107 e109
          simp only [execOp, List.getElem_toArray, List.getElem_cons_succ, List.getElem_cons_zero]
          go_simp
        · rintro e w' ⟨g4, rfl, hg4, hB4, hbl⟩
          have he : Kp w w' := hbl
          exact ⟨_, rfl, ⟨g4, rfl, hB4⟩, Kp.to hS he, he⟩
      · intro a w hS hd ho hsz   -- 5: load 74 t9
        have e9 : a.eval (.tmp 9) = (.pointer (some ⟨g9, 0, none⟩)) := other_ev ho (by decide +kernel) rfl
        have hc := ((same_below hS).cell (World.block_lt_of_cell? _ _ HE.out.four)).trans HE.out.four
        refine duty_is (by rfl) (wanted_none rfl) (.func (.func 33) #[] #[]) ?_ rfl hS (Kp.refl _)
        simp only [execOp, List.getElem_toArray, List.getElem_cons_succ, List.getElem_cons_zero, e9]
        go_simp
      · intro a w hS hd ho hsz   -- 6: fieldAddr 39 t3 2
        have e3 : a.eval (.tmp 3) = (.pointer (some ⟨g3, 0, none⟩)) := other_ev ho (by decide +kernel) rfl
        refine duty_is (by rfl) (wanted_none rfl) (.pointer (some ⟨g3, 2, none⟩)) ?_ rfl hS (Kp.refl _)
        simp only [execOp, List.getElem_toArray, List.getElem_cons_succ, List.getElem_cons_zero, e3]
        go_simp
      · intro a w hS hd ho hsz   -- 7: load 37 t112
        obtain ⟨_, l6, rfl⟩ := hd 6 (by decide +kernel)
        have e112 := left_ev l6 (d := 112) (by rfl) (by rw [hsz]; simp)
        have hc := ((same_below hS).cell (World.block_lt_of_cell? _ _ (HE.out.f2))).trans (HE.out.f2)
        refine duty_is (by rfl) (wanted_none rfl) (.int .u32 (e : Int)) ?_ rfl hS (Kp.refl _)
        simp only [execOp, List.getElem_toArray, List.getElem_cons_succ, List.getElem_cons_zero, e112]
        go_simp
      · intro a w hS hd ho hsz   -- 8: call { value t111, args := #[t113], argTypes := #[37] }
        obtain ⟨_, l5, rfl⟩ := hd 5 (by decide +kernel)
        obtain ⟨_, l7, rfl⟩ := hd 7 (by decide +kernel)
        have e111 := left_ev l5 (d := 111) (by rfl) (by rw [hsz]; simp)
        have e113 := left_ev l7 (d := 113) (by rfl) (by rw [hsz]; simp)
        have hE := HE.out.below hS
        refine duty_call (by rfl) (wanted_none rfl) 33 #[.int .u32 (e : Int)] ?_ (lawFour_post e w hE.le) ?_
        · simp [Act.eval, hsz] at e111 e113
          simp only [execOp, List.getElem_toArray, List.getElem_cons_succ, List.getElem_cons_zero]
          go_simp
        · rintro e w' ⟨g4, rfl, hg4, hB4, hbl⟩
          have he : Kp w w' := hbl
          exact ⟨_, rfl, ⟨g4, rfl, hB4⟩, Kp.to hS he, he⟩
      · intro a w hS hd ho hsz   -- 9: call { builtin append, args := #[t110, t114], argTypes := #[22, 22] }
        obtain ⟨v4, l4, q4⟩ := hd 4 (by decide +kernel)
        replace q4 : (Nm (be4 s)) v4 w := q4
        obtain ⟨v8, l8, q8⟩ := hd 8 (by decide +kernel)
        replace q8 : (Nm (be4 e)) v8 w := q8
        have e110 := left_ev l4 (d := 110) (by rfl) (by rw [hsz]; simp)
        have e114 := left_ev l8 (d := 114) (by rfl) (by rw [hsz]; simp)
        obtain ⟨v', w', hrun, hB, he⟩ := run_append_full q4 (q8.bs (by simp [be4_len, maxLen])) (by simp [be4_len]) (by simp [be4_len])
        refine duty_run (by rfl) (wanted_none rfl) v' (w' := w') ?_ hB (Kp.to hS he) he
        simp only [execOp, resolve, invoke, builtin, Sem.run_bind, Sem.run_pure, Result.andThen_ok, List.getElem_toArray, List.getElem_cons_succ, List.getElem_cons_zero, List.map_toArray, List.map_cons, List.map_nil, e110, e114, hrun]
      · intro a w hS hd ho hsz   -- 10: call { value (Operand.func 13), args := #[t106, t115], argTypes := #[26, 22] }
        obtain ⟨_, l0, rfl⟩ := hd 0 (by decide +kernel)
        obtain ⟨v9, l9, q9⟩ := hd 9 (by decide +kernel)
        replace q9 : (Bs (be4 s ++ be4 e)) v9 w := q9
        have e106 := left_ev l0 (d := 106) (by rfl) (by rw [hsz]; simp)
        have e115 := left_ev l9 (d := 115) (by rfl) (by rw [hsz]; simp)
        have hE := HE.out.below hS
        refine duty_call (by rfl) (wanted_none rfl) 13 #[.agg (T.map cell8).toArray, v9] ?_ (tag_any T _ _ _ w HTL.out q9 (fun i hi => hi) hE.tab) ?_
        · simp [Act.eval, hsz] at e106 e115
          simp only [execOp, List.getElem_toArray, List.getElem_cons_succ, List.getElem_cons_zero]
          go_simp
        · rintro e w' ⟨rfl, hbl⟩
          have he : Kp w w' := hbl
          exact ⟨_, rfl, by rw [HTK2.out]; rfl, Kp.to hS he, he⟩
      · intro a w hS hd ho hsz   -- 11: assign t116
        obtain ⟨_, l10, rfl⟩ := hd 10 (by decide +kernel)
        have e116 := left_ev l10 (d := 116) (by rfl) (by rw [hsz]; simp)
        refine duty_is (by rfl) (wanted_none rfl) (.int .u64 (tk : Int)) ?_ rfl hS (Kp.refl _)
        simp only [execOp, List.getElem_toArray, List.getElem_cons_succ, List.getElem_cons_zero, e116]
        go_simp
      · intro X w4 hS4 hX
        have hx11 : X 11 = .int .u64 (tk : Int) := hX 11 (by omega)
        clear hX
        simp only [frame, fillFrom, Act.put, List.setIfInBounds_toArray, List.set_cons_zero, List.set_cons_succ, hx11]
        have hE4 := HE.out.below hS4
        have hbw4 := hbw3.trans (hS4.mono hbw3.size)
        clear HE h0S hx11 HB14
        go_wp2_with fail
        refine (derive_ok _ _ sec _ [] _ (fun _ => False) w4 hE4.sec (parts0 _ _) (fun i hi => hi) (fun i hi => hi.elim) hE4.tab HL1.out HL2.out (by decide) (by simp) (by decide)).mono ?_
        rintro r w5 ⟨rfl, hb5⟩
        obtain ⟨K, hK⟩ : ∃ K, K = hmac sec (lay [104, 101, 108, 108, 111] []) := ⟨_, rfl⟩
        have hKl : K.length = 32 := by rw [hK]; exact sha_length _
        have hKe : hmac sec (lay (⟨#[104, 101, 108, 108, 111]⟩ : ByteArray).data.toList []) = K := by rw [hK]
        rw [hKe]
        have HK := Lib.hid hK
        have HKL := Lib.hid hKl
        have HSS := Lib.hid (key_size K hKl)
        have HRS := Lib.hid (row_size K 32 hKl)
        have hE5 := hE4.below hb5
        have hbw5 := hbw4.trans (hb5.mono hbw4.size)
        clear hK hKl hKe hE4 hb5 hbw4 hS4
        go_wp2_with (first | (with_reducible refine wpList_alloc_new rfl 26 rfl _ allocKey ?_; intro g17 w6 n6) | (with_reducible refine wpList_store_all rfl 26 (.tmp 17) (.tmp 120) rfl _ _ rfl rfl _ _ n6.blk HSS.out HRS.out (all_cell8 K) ?_; intro w7 p7) | fail)
        have hb7 : Below w5.heap.size w5 w7 := below_grown n6.below p7.grown (by have := n6.is; omega)
        have hE7 := hE5.below hb7
        have hbw7 := hbw5.trans (hb7.mono hbw5.size)
        have HB17 := Lib.hid p7.blk
        have HE := Lib.hid hE7
        have HZR := Lib.hid (show (row8 32).length = 32 by simp [row8])
        clear hE5 hb7 hbw5 n6 p7 hE7
        have h0S := drew_kp w7
        refine wp_region_spec (by kernel_rfl) (by kernel_rfl) (by kernel_rfl) (fun u => Below w7.heap.size w7 u) Kp
          [Spec.is (.pointer (some ⟨g5, 0, none⟩)), Spec.is (.pointer (some ⟨g3, 1, none⟩)), Spec.is (.int .u32 (s : Int)), Spec.is (.pointer (some ⟨g3, 2, none⟩)), Spec.is (.int .u32 (e : Int)), Spec.is (.int .u64 (tk : Int)), Spec.is (.int .u64 (tk : Int)), Spec.is (.bool true), Spec.is (.bool true), Spec.is (.pointer (some ⟨g7, 0, none⟩)), Spec.is (.pointer (some ⟨g3, 1, none⟩)), Spec.is (.int .u32 (s : Int)), Spec.is (.pointer (some ⟨g3, 2, none⟩)), Spec.is (.int .u32 (e : Int)), Spec.is (.int .u64 (tk : Int)), Spec.is (.int .u64 (tk : Int)), Spec.is (.bool true), Spec.is (.bool true), Spec.is (.bool true), Spec.is (.pointer (some ⟨g5, 0, none⟩)), Spec.is (.agg (K.map cell8).toArray), Spec.is (.agg (K.map cell8).toArray), Spec.is (.bool true), Spec.is (.bool true), Spec.is (.bool true), Spec.is (.pointer (some ⟨g5, 0, none⟩)), Spec.is (.agg ((row8 32).map cell8).toArray), Spec.is (.agg ((row8 32).map cell8).toArray), Spec.is (.bool true), Spec.is (.bool true), Spec.is (.bool true), Spec.is (.pointer (some ⟨g5, 0, none⟩)), Spec.is (.agg ((row8 32).map cell8).toArray), Spec.is (.agg ((row8 32).map cell8).toArray), Spec.is (.bool true), Spec.is (.bool true), Spec.is (.bool true), Spec.is (.bool true), Spec.is (.bool true), Spec.is (.bool true)] 40 (by kernel_rfl) h0S ⟨?_, ?_, ?_, ?_, ?_, ?_, ?_, ?_, ?_, ?_, ?_, ?_, ?_, ?_, ?_, ?_, ?_, ?_, ?_, ?_, ?_, ?_, ?_, ?_, ?_, ?_, ?_, ?_, ?_, ?_, ?_, ?_, ?_, ?_, ?_, ?_, ?_, ?_, ?_, ?_, trivial⟩ ?_
        · intro a w hS hd ho hsz   -- 0: move t5
          have e5 : a.eval (.tmp 5) = (.pointer (some ⟨g5, 0, none⟩)) := other_ev ho (by decide +kernel) rfl
          refine duty_is (by rfl) (wanted_none rfl) (.pointer (some ⟨g5, 0, none⟩)) ?_ rfl hS (Kp.refl _)
          simp only [execOp, List.getElem_toArray, List.getElem_cons_zero, e5]
          go_simp
        · intro a w hS hd ho hsz   -- 1: fieldAddr 39 t3 1
          have e3 : a.eval (.tmp 3) = (.pointer (some ⟨g3, 0, none⟩)) := other_ev ho (by decide +kernel) rfl
          refine duty_is (by rfl) (wanted_none rfl) (.pointer (some ⟨g3, 1, none⟩)) ?_ rfl hS (Kp.refl _)
          simp only [execOp, List.getElem_toArray, List.getElem_cons_succ, List.getElem_cons_zero, e3]
          go_simp
        · intro a w hS hd ho hsz   -- 2: load 37 t123
          obtain ⟨_, l1, rfl⟩ := hd 1 (by decide +kernel)
          have e123 := left_ev l1 (d := 123) (by rfl) (by rw [hsz]; simp)
          have hc := ((same_below hS).cell (World.block_lt_of_cell? _ _ (HE.out.f1))).trans (HE.out.f1)
          refine duty_is (by rfl) (wanted_none rfl) (.int .u32 (s : Int)) ?_ rfl hS (Kp.refl _)
          simp only [execOp, List.getElem_toArray, List.getElem_cons_succ, List.getElem_cons_zero, e123]
          go_simp
        · intro a w hS hd ho hsz   -- 3: fieldAddr 39 t3 2
          have e3 : a.eval (.tmp 3) = (.pointer (some ⟨g3, 0, none⟩)) := other_ev ho (by decide +kernel) rfl
          refine duty_is (by rfl) (wanted_none rfl) (.pointer (some ⟨g3, 2, none⟩)) ?_ rfl hS (Kp.refl _)
          simp only [execOp, List.getElem_toArray, List.getElem_cons_succ, List.getElem_cons_zero, e3]
          go_simp
        · intro a w hS hd ho hsz   -- 4: load 37 t125
          obtain ⟨_, l3, rfl⟩ := hd 3 (by decide +kernel)
          have e125 := left_ev l3 (d := 125) (by rfl) (by rw [hsz]; simp)
          have hc := ((same_below hS).cell (World.block_lt_of_cell? _ _ (HE.out.f2))).trans (HE.out.f2)
          refine duty_is (by rfl) (wanted_none rfl) (.int .u32 (e : Int)) ?_ rfl hS (Kp.refl _)
          simp only [execOp, List.getElem_toArray, List.getElem_cons_succ, List.getElem_cons_zero, e125]
          go_simp
        · intro a w hS hd ho hsz   -- 5: call { value (Operand.func 21), args := #[t122, t124, t126], argTypes := #[40, 37, 37] }
          obtain ⟨_, l0, rfl⟩ := hd 0 (by decide +kernel)
          obtain ⟨_, l2, rfl⟩ := hd 2 (by decide +kernel)
          obtain ⟨_, l4, rfl⟩ := hd 4 (by decide +kernel)
          have e122 := left_ev l0 (d := 122) (by rfl) (by rw [hsz]; simp)
          have e124 := left_ev l2 (d := 124) (by rfl) (by rw [hsz]; simp)
          have e126 := left_ev l4 (d := 126) (by rfl) (by rw [hsz]; simp)
          have hE := HE.out.below hS
          refine duty_call (by rfl) (wanted_none rfl) 21 #[(.pointer (some ⟨g5, 0, none⟩)), .int .u32 (s : Int), .int .u32 (e : Int)] ?_ (token_any g5 s e sec w hE.one hE.tab hE.ls hE.le) ?_
          · simp [Act.eval, hsz] at e122 e124 e126
            simp only [execOp, List.getElem_toArray, List.getElem_cons_succ, List.getElem_cons_zero]
            go_simp
          · rintro e w' ⟨rfl, hbl⟩
            have he : Kp w w' := hbl
            exact ⟨_, rfl, by rw [← HTK.out]; rfl, Kp.to hS he, he⟩
        · intro a w hS hd ho hsz   -- 6: move t16
          have e16 : a.eval (.tmp 16) = (.int .u64 (tk : Int)) := other_ev ho (by decide +kernel) rfl
          refine duty_is (by rfl) (wanted_none rfl) (.int .u64 (tk : Int)) ?_ rfl hS (Kp.refl _)
          simp only [execOp, List.getElem_toArray, List.getElem_cons_succ, List.getElem_cons_zero, e16]
          go_simp
        · intro a w hS hd ho hsz   -- 7: binOp BinOp.eql 32 t127 t128 32
          obtain ⟨_, l5, rfl⟩ := hd 5 (by decide +kernel)
          obtain ⟨_, l6, rfl⟩ := hd 6 (by decide +kernel)
          have e127 := left_ev l5 (d := 127) (by rfl) (by rw [hsz]; simp)
          have e128 := left_ev l6 (d := 128) (by rfl) (by rw [hsz]; simp)
          refine duty_is (by rfl) (wanted_none rfl) (.bool true) ?_ rfl hS (Kp.refl _)
          simp only [execOp, List.getElem_toArray, List.getElem_cons_succ, List.getElem_cons_zero, e127, e128]
          go_simp
        · intro a w hS hd ho hsz   -- 8: move t129
          obtain ⟨_, l7, rfl⟩ := hd 7 (by decide +kernel)
          have e129 := left_ev l7 (d := 129) (by rfl) (by rw [hsz]; simp)
          refine duty_is (by rfl) (wanted_none rfl) (.bool true) ?_ rfl hS (Kp.refl _)
          simp only [execOp, List.getElem_toArray, List.getElem_cons_succ, List.getElem_cons_zero, e129]
          go_simp
        · intro a w hS hd ho hsz   -- 9: move t7
          obtain ⟨_, l8, rfl⟩ := hd 8 (by decide +kernel)
          have e7 : a.eval (.tmp 7) = (.pointer (some ⟨g7, 0, none⟩)) := other_ev ho (by decide +kernel) rfl
          refine duty_is (by rfl) (wanted_guard rfl (by rfl) (left_at l8 (d := 130) (by rfl) (by rw [hsz]; simp))) (.pointer (some ⟨g7, 0, none⟩)) ?_ rfl hS (Kp.refl _)
          simp only [execOp, List.getElem_toArray, List.getElem_cons_succ, List.getElem_cons_zero, e7]
          go_simp
        · intro a w hS hd ho hsz   -- 10: fieldAddr 39 t3 1
          obtain ⟨_, l8, rfl⟩ := hd 8 (by decide +kernel)
          have e3 : a.eval (.tmp 3) = (.pointer (some ⟨g3, 0, none⟩)) := other_ev ho (by decide +kernel) rfl
          refine duty_is (by rfl) (wanted_guard rfl (by rfl) (left_at l8 (d := 130) (by rfl) (by rw [hsz]; simp))) (.pointer (some ⟨g3, 1, none⟩)) ?_ rfl hS (Kp.refl _)
          simp only [execOp, List.getElem_toArray, List.getElem_cons_succ, List.getElem_cons_zero, e3]
          go_simp
        · intro a w hS hd ho hsz   -- 11: load 37 t132
          obtain ⟨_, l8, rfl⟩ := hd 8 (by decide +kernel)
          obtain ⟨_, l10, rfl⟩ := hd 10 (by decide +kernel)
          have e132 := left_ev l10 (d := 132) (by rfl) (by rw [hsz]; simp)
          have hc := ((same_below hS).cell (World.block_lt_of_cell? _ _ (HE.out.f1))).trans (HE.out.f1)
          refine duty_is (by rfl) (wanted_guard rfl (by rfl) (left_at l8 (d := 130) (by rfl) (by rw [hsz]; simp))) (.int .u32 (s : Int)) ?_ rfl hS (Kp.refl _)
          simp only [execOp, List.getElem_toArray, List.getElem_cons_succ, List.getElem_cons_zero, e132]
          go_simp
        · intro a w hS hd ho hsz   -- 12: fieldAddr 39 t3 2
          obtain ⟨_, l8, rfl⟩ := hd 8 (by decide +kernel)
          have e3 : a.eval (.tmp 3) = (.pointer (some ⟨g3, 0, none⟩)) := other_ev ho (by decide +kernel) rfl
          refine duty_is (by rfl) (wanted_guard rfl (by rfl) (left_at l8 (d := 130) (by rfl) (by rw [hsz]; simp))) (.pointer (some ⟨g3, 2, none⟩)) ?_ rfl hS (Kp.refl _)
          simp only [execOp, List.getElem_toArray, List.getElem_cons_succ, List.getElem_cons_zero, e3]
          go_simp
        · intro a w hS hd ho hsz   -- 13: load 37 t134
          obtain ⟨_, l8, rfl⟩ := hd 8 (by decide +kernel)
          obtain ⟨_, l12, rfl⟩ := hd 12 (by decide +kernel)
          have e134 := left_ev l12 (d := 134) (by rfl) (by rw [hsz]; simp)
          have hc := ((same_below hS).cell (World.block_lt_of_cell? _ _ (HE.out.f2))).trans (HE.out.f2)
          refine duty_is (by rfl) (wanted_guard rfl (by rfl) (left_at l8 (d := 130) (by rfl) (by rw [hsz]; simp))) (.int .u32 (e : Int)) ?_ rfl hS (Kp.refl _)
          simp only [execOp, List.getElem_toArray, List.getElem_cons_succ, List.getElem_cons_zero, e134]
          go_simp
        · intro a w hS hd ho hsz   -- 14: call { value (Operand.func 21), args := #[t131, t133, t135], argTypes := #[40, 37, 37] }
          obtain ⟨_, l8, rfl⟩ := hd 8 (by decide +kernel)
          obtain ⟨_, l9, rfl⟩ := hd 9 (by decide +kernel)
          obtain ⟨_, l11, rfl⟩ := hd 11 (by decide +kernel)
          obtain ⟨_, l13, rfl⟩ := hd 13 (by decide +kernel)
          have e131 := left_ev l9 (d := 131) (by rfl) (by rw [hsz]; simp)
          have e133 := left_ev l11 (d := 133) (by rfl) (by rw [hsz]; simp)
          have e135 := left_ev l13 (d := 135) (by rfl) (by rw [hsz]; simp)
          have hE := HE.out.below hS
          refine duty_call (by rfl) (wanted_guard rfl (by rfl) (left_at l8 (d := 130) (by rfl) (by rw [hsz]; simp))) 21 #[(.pointer (some ⟨g7, 0, none⟩)), .int .u32 (s : Int), .int .u32 (e : Int)] ?_ (token_any g7 s e sec w hE.two hE.tab hE.ls hE.le) ?_
          · simp [Act.eval, hsz] at e131 e133 e135
            simp only [execOp, List.getElem_toArray, List.getElem_cons_succ, List.getElem_cons_zero]
            go_simp
          · rintro e w' ⟨rfl, hbl⟩
            have he : Kp w w' := hbl
            exact ⟨_, rfl, by rw [← HTK.out]; rfl, Kp.to hS he, he⟩
        · intro a w hS hd ho hsz   -- 15: move t16
          obtain ⟨_, l8, rfl⟩ := hd 8 (by decide +kernel)
          have e16 : a.eval (.tmp 16) = (.int .u64 (tk : Int)) := other_ev ho (by decide +kernel) rfl
          refine duty_is (by rfl) (wanted_guard rfl (by rfl) (left_at l8 (d := 130) (by rfl) (by rw [hsz]; simp))) (.int .u64 (tk : Int)) ?_ rfl hS (Kp.refl _)
          simp only [execOp, List.getElem_toArray, List.getElem_cons_succ, List.getElem_cons_zero, e16]
          go_simp
        · intro a w hS hd ho hsz   -- 16: binOp BinOp.eql 32 t136 t137 32
          obtain ⟨_, l8, rfl⟩ := hd 8 (by decide +kernel)
          obtain ⟨_, l14, rfl⟩ := hd 14 (by decide +kernel)
          obtain ⟨_, l15, rfl⟩ := hd 15 (by decide +kernel)
          have e136 := left_ev l14 (d := 136) (by rfl) (by rw [hsz]; simp)
          have e137 := left_ev l15 (d := 137) (by rfl) (by rw [hsz]; simp)
          refine duty_is (by rfl) (wanted_guard rfl (by rfl) (left_at l8 (d := 130) (by rfl) (by rw [hsz]; simp))) (.bool true) ?_ rfl hS (Kp.refl _)
          simp only [execOp, List.getElem_toArray, List.getElem_cons_succ, List.getElem_cons_zero, e136, e137]
          go_simp
        · intro a w hS hd ho hsz   -- 17: pick t130 t138 (const (Value.bool false))
          obtain ⟨_, l8, rfl⟩ := hd 8 (by decide +kernel)
          obtain ⟨_, l16, rfl⟩ := hd 16 (by decide +kernel)
          have e130 := left_ev l8 (d := 130) (by rfl) (by rw [hsz]; simp)
          have e138 := left_ev l16 (d := 138) (by rfl) (by rw [hsz]; simp)
          refine duty_is (by rfl) (wanted_none rfl) (.bool true) ?_ rfl hS (Kp.refl _)
          simp only [execOp, List.getElem_toArray, List.getElem_cons_succ, List.getElem_cons_zero, e130, e138, ev_const]
          go_simp
        · intro a w hS hd ho hsz   -- 18: move t139
          obtain ⟨_, l17, rfl⟩ := hd 17 (by decide +kernel)
          have e139 := left_ev l17 (d := 139) (by rfl) (by rw [hsz]; simp)
          refine duty_is (by rfl) (wanted_none rfl) (.bool true) ?_ rfl hS (Kp.refl _)
          simp only [execOp, List.getElem_toArray, List.getElem_cons_succ, List.getElem_cons_zero, e139]
          go_simp
        · intro a w hS hd ho hsz   -- 19: move t5
          obtain ⟨_, l18, rfl⟩ := hd 18 (by decide +kernel)
          have e5 : a.eval (.tmp 5) = (.pointer (some ⟨g5, 0, none⟩)) := other_ev ho (by decide +kernel) rfl
          refine duty_is (by rfl) (wanted_guard rfl (by rfl) (left_at l18 (d := 140) (by rfl) (by rw [hsz]; simp))) (.pointer (some ⟨g5, 0, none⟩)) ?_ rfl hS (Kp.refl _)
          simp only [execOp, List.getElem_toArray, List.getElem_cons_succ, List.getElem_cons_zero, e5]
          go_simp
        · intro a w hS hd ho hsz   -- 20: call { value (Operand.func 18), args := #[t141], argTypes := #[40] }
          obtain ⟨_, l18, rfl⟩ := hd 18 (by decide +kernel)
          obtain ⟨_, l19, rfl⟩ := hd 19 (by decide +kernel)
          have e141 := left_ev l19 (d := 141) (by rfl) (by rw [hsz]; simp)
          have hE := HE.out.below hS
          refine duty_call (by rfl) (wanted_guard rfl (by rfl) (left_at l18 (d := 140) (by rfl) (by rw [hsz]; simp))) 18 #[(.pointer (some ⟨g5, 0, none⟩))] ?_ (hello_any g5 sec w hE.one hE.tab) ?_
          · simp [Act.eval, hsz] at e141
            simp only [execOp, List.getElem_toArray, List.getElem_cons_succ, List.getElem_cons_zero]
            go_simp
          · rintro e w' ⟨rfl, hbl⟩
            have he : Kp w w' := hbl
            exact ⟨_, rfl, by rw [← HK.out]; rfl, Kp.to hS he, he⟩
        · intro a w hS hd ho hsz   -- 21: load 26 t17
          obtain ⟨_, l18, rfl⟩ := hd 18 (by decide +kernel)
          have e17 : a.eval (.tmp 17) = (.pointer (some ⟨g17, 0, none⟩)) := other_ev ho (by decide +kernel) rfl
          have hB6 : Blk w g17 26 (K.map cell8).toArray := (hS.block g17 (Blk.lt HB17.out)).trans HB17.out
          refine duty_is (by rfl) (wanted_guard rfl (by rfl) (left_at l18 (d := 140) (by rfl) (by rw [hsz]; simp))) (.agg (K.map cell8).toArray) ?_ rfl hS (Kp.refl _)
          exact run_load_blk 26 (.tmp 17) rfl g17 e17 _ _ _ hB6 Tryd.underlying26 rfl HSS.out
        · intro a w hS hd ho hsz   -- 22: binOp BinOp.eql 26 t142 t143 26
          obtain ⟨_, l18, rfl⟩ := hd 18 (by decide +kernel)
          obtain ⟨_, l20, rfl⟩ := hd 20 (by decide +kernel)
          obtain ⟨_, l21, rfl⟩ := hd 21 (by decide +kernel)
          have e142 := left_ev l20 (d := 142) (by rfl) (by rw [hsz]; simp)
          have e143 := left_ev l21 (d := 143) (by rfl) (by rw [hsz]; simp)
          have hnq := fun u => eql_key K K HKL.out HKL.out u
          simp only [beq_self_eq_true] at hnq
          have hgd := guard_key
          refine duty_is (by rfl) (wanted_guard rfl (by rfl) (left_at l18 (d := 140) (by rfl) (by rw [hsz]; simp))) (.bool true) ?_ rfl hS (Kp.refl _)
          simp only [execOp, List.getElem_toArray, List.getElem_cons_succ, List.getElem_cons_zero, e142, e143]
          go_simp
        · intro a w hS hd ho hsz   -- 23: pick t140 t144 (const (Value.bool false))
          obtain ⟨_, l18, rfl⟩ := hd 18 (by decide +kernel)
          obtain ⟨_, l22, rfl⟩ := hd 22 (by decide +kernel)
          have e140 := left_ev l18 (d := 140) (by rfl) (by rw [hsz]; simp)
          have e144 := left_ev l22 (d := 144) (by rfl) (by rw [hsz]; simp)
          refine duty_is (by rfl) (wanted_none rfl) (.bool true) ?_ rfl hS (Kp.refl _)
          simp only [execOp, List.getElem_toArray, List.getElem_cons_succ, List.getElem_cons_zero, e140, e144, ev_const]
          go_simp
        · intro a w hS hd ho hsz   -- 24: move t145
          obtain ⟨_, l23, rfl⟩ := hd 23 (by decide +kernel)
          have e145 := left_ev l23 (d := 145) (by rfl) (by rw [hsz]; simp)
          refine duty_is (by rfl) (wanted_none rfl) (.bool true) ?_ rfl hS (Kp.refl _)
          simp only [execOp, List.getElem_toArray, List.getElem_cons_succ, List.getElem_cons_zero, e145]
          go_simp
        · intro a w hS hd ho hsz   -- 25: move t5
          obtain ⟨_, l24, rfl⟩ := hd 24 (by decide +kernel)
          have e5 : a.eval (.tmp 5) = (.pointer (some ⟨g5, 0, none⟩)) := other_ev ho (by decide +kernel) rfl
          refine duty_is (by rfl) (wanted_guard rfl (by rfl) (left_at l24 (d := 146) (by rfl) (by rw [hsz]; simp))) (.pointer (some ⟨g5, 0, none⟩)) ?_ rfl hS (Kp.refl _)
          simp only [execOp, List.getElem_toArray, List.getElem_cons_succ, List.getElem_cons_zero, e5]
          go_simp
        · intro a w hS hd ho hsz   -- 26: call { value (Operand.func 19), args := #[t147, const (2:i64), const (1:u32), const (1:u32
          obtain ⟨_, l24, rfl⟩ := hd 24 (by decide +kernel)
          obtain ⟨_, l25, rfl⟩ := hd 25 (by decide +kernel)
          have e147 := left_ev l25 (d := 147) (by rfl) (by rw [hsz]; simp)
          have hE := HE.out.below hS
          refine duty_call (by rfl) (wanted_guard rfl (by rfl) (left_at l24 (d := 146) (by rfl) (by rw [hsz]; simp))) 19 #[(.pointer (some ⟨g5, 0, none⟩)), .int .i64 2, .int .u32 1, .int .u32 1, .int .u64 1, .int .u64 1] ?_ (way_no _ 2 _ _ _ _ w (by decide) (by decide)) ?_
          · simp [Act.eval, hsz] at e147
            simp only [execOp, List.getElem_toArray, List.getElem_cons_succ, List.getElem_cons_zero]
            go_simp
          · rintro e w' ⟨rfl, hbl⟩
            have he : Kp w w' := hbl
            exact ⟨_, rfl, rfl, Kp.to hS he, he⟩
        · intro a w hS hd ho hsz   -- 27: build 26 #[]
          obtain ⟨_, l24, rfl⟩ := hd 24 (by decide +kernel)
          refine duty_is (by rfl) (wanted_guard rfl (by rfl) (left_at l24 (d := 146) (by rfl) (by rw [hsz]; simp))) (.agg ((row8 32).map cell8).toArray) ?_ rfl hS (Kp.refl _)
          simp only [execOp, List.getElem_toArray, List.getElem_cons_succ, List.getElem_cons_zero, List.map_toArray, List.map_nil]
          go_simp
          rfl
        · intro a w hS hd ho hsz   -- 28: binOp BinOp.eql 26 t148 t149 26
          obtain ⟨_, l24, rfl⟩ := hd 24 (by decide +kernel)
          obtain ⟨_, l26, rfl⟩ := hd 26 (by decide +kernel)
          obtain ⟨_, l27, rfl⟩ := hd 27 (by decide +kernel)
          have e148 := left_ev l26 (d := 148) (by rfl) (by rw [hsz]; simp)
          have e149 := left_ev l27 (d := 149) (by rfl) (by rw [hsz]; simp)
          have hnq := fun u => eql_key (row8 32) (row8 32) HZR.out HZR.out u
          simp only [beq_self_eq_true] at hnq
          have hgd := guard_key
          refine duty_is (by rfl) (wanted_guard rfl (by rfl) (left_at l24 (d := 146) (by rfl) (by rw [hsz]; simp))) (.bool true) ?_ rfl hS (Kp.refl _)
          simp only [execOp, List.getElem_toArray, List.getElem_cons_succ, List.getElem_cons_zero, e148, e149]
          go_simp
        · intro a w hS hd ho hsz   -- 29: pick t146 t150 (const (Value.bool false))
          obtain ⟨_, l24, rfl⟩ := hd 24 (by decide +kernel)
          obtain ⟨_, l28, rfl⟩ := hd 28 (by decide +kernel)
          have e146 := left_ev l24 (d := 146) (by rfl) (by rw [hsz]; simp)
          have e150 := left_ev l28 (d := 150) (by rfl) (by rw [hsz]; simp)
          refine duty_is (by rfl) (wanted_none rfl) (.bool true) ?_ rfl hS (Kp.refl _)
          simp only [execOp, List.getElem_toArray, List.getElem_cons_succ, List.getElem_cons_zero, e146, e150, ev_const]
          go_simp
        · intro a w hS hd ho hsz   -- 30: move t151
          obtain ⟨_, l29, rfl⟩ := hd 29 (by decide +kernel)
          have e151 := left_ev l29 (d := 151) (by rfl) (by rw [hsz]; simp)
          refine duty_is (by rfl) (wanted_none rfl) (.bool true) ?_ rfl hS (Kp.refl _)
          simp only [execOp, List.getElem_toArray, List.getElem_cons_succ, List.getElem_cons_zero, e151]
          go_simp
        · intro a w hS hd ho hsz   -- 31: move t5
          obtain ⟨_, l30, rfl⟩ := hd 30 (by decide +kernel)
          have e5 : a.eval (.tmp 5) = (.pointer (some ⟨g5, 0, none⟩)) := other_ev ho (by decide +kernel) rfl
          refine duty_is (by rfl) (wanted_guard rfl (by rfl) (left_at l30 (d := 152) (by rfl) (by rw [hsz]; simp))) (.pointer (some ⟨g5, 0, none⟩)) ?_ rfl hS (Kp.refl _)
          simp only [execOp, List.getElem_toArray, List.getElem_cons_succ, List.getElem_cons_zero, e5]
          go_simp
        · intro a w hS hd ho hsz   -- 32: call { value (Operand.func 19), args := #[t153, const (Value.int IntKind.i64 (-1)), const 
          obtain ⟨_, l30, rfl⟩ := hd 30 (by decide +kernel)
          obtain ⟨_, l31, rfl⟩ := hd 31 (by decide +kernel)
          have e153 := left_ev l31 (d := 153) (by rfl) (by rw [hsz]; simp)
          have hE := HE.out.below hS
          refine duty_call (by rfl) (wanted_guard rfl (by rfl) (left_at l30 (d := 152) (by rfl) (by rw [hsz]; simp))) 19 #[(.pointer (some ⟨g5, 0, none⟩)), .int .i64 (-1), .int .u32 1, .int .u32 1, .int .u64 1, .int .u64 1] ?_ (way_no _ (-1) _ _ _ _ w (by decide) (by decide)) ?_
          · simp [Act.eval, hsz] at e153
            simp only [execOp, List.getElem_toArray, List.getElem_cons_succ, List.getElem_cons_zero]
            go_simp
          · rintro e w' ⟨rfl, hbl⟩
            have he : Kp w w' := hbl
            exact ⟨_, rfl, rfl, Kp.to hS he, he⟩
        · intro a w hS hd ho hsz   -- 33: build 26 #[]
          obtain ⟨_, l30, rfl⟩ := hd 30 (by decide +kernel)
          refine duty_is (by rfl) (wanted_guard rfl (by rfl) (left_at l30 (d := 152) (by rfl) (by rw [hsz]; simp))) (.agg ((row8 32).map cell8).toArray) ?_ rfl hS (Kp.refl _)
          simp only [execOp, List.getElem_toArray, List.getElem_cons_succ, List.getElem_cons_zero, List.map_toArray, List.map_nil]
          go_simp
          rfl
        · intro a w hS hd ho hsz   -- 34: binOp BinOp.eql 26 t154 t155 26
          obtain ⟨_, l30, rfl⟩ := hd 30 (by decide +kernel)
          obtain ⟨_, l32, rfl⟩ := hd 32 (by decide +kernel)
          obtain ⟨_, l33, rfl⟩ := hd 33 (by decide +kernel)
          have e154 := left_ev l32 (d := 154) (by rfl) (by rw [hsz]; simp)
          have e155 := left_ev l33 (d := 155) (by rfl) (by rw [hsz]; simp)
          have hnq := fun u => eql_key (row8 32) (row8 32) HZR.out HZR.out u
          simp only [beq_self_eq_true] at hnq
          have hgd := guard_key
          refine duty_is (by rfl) (wanted_guard rfl (by rfl) (left_at l30 (d := 152) (by rfl) (by rw [hsz]; simp))) (.bool true) ?_ rfl hS (Kp.refl _)
          simp only [execOp, List.getElem_toArray, List.getElem_cons_succ, List.getElem_cons_zero, e154, e155]
          go_simp
        · intro a w hS hd ho hsz   -- 35: pick t152 t156 (const (Value.bool false))
          obtain ⟨_, l30, rfl⟩ := hd 30 (by decide +kernel)
          obtain ⟨_, l34, rfl⟩ := hd 34 (by decide +kernel)
          have e152 := left_ev l30 (d := 152) (by rfl) (by rw [hsz]; simp)
          have e156 := left_ev l34 (d := 156) (by rfl) (by rw [hsz]; simp)
          refine duty_is (by rfl) (wanted_none rfl) (.bool true) ?_ rfl hS (Kp.refl _)
          simp only [execOp, List.getElem_toArray, List.getElem_cons_succ, List.getElem_cons_zero, e152, e156, ev_const]
          go_simp
        · intro a w hS hd ho hsz   -- 36: move t157
          obtain ⟨_, l35, rfl⟩ := hd 35 (by decide +kernel)
          have e157 := left_ev l35 (d := 157) (by rfl) (by rw [hsz]; simp)
          refine duty_is (by rfl) (wanted_none rfl) (.bool true) ?_ rfl hS (Kp.refl _)
          simp only [execOp, List.getElem_toArray, List.getElem_cons_succ, List.getElem_cons_zero, e157]
          go_simp
        · intro a w hS hd ho hsz   -- 37: call { value (Operand.func 15), args := #[], argTypes := #[] }
          obtain ⟨_, l36, rfl⟩ := hd 36 (by decide +kernel)
          have hE := HE.out.below hS
          refine duty_call (by rfl) (wanted_guard rfl (by rfl) (left_at l36 (d := 158) (by rfl) (by rw [hsz]; simp))) 15 #[] ?_ (wakes_any w hE.tab) ?_
          · simp only [execOp, List.getElem_toArray, List.getElem_cons_succ, List.getElem_cons_zero]
            go_simp
          · rintro e w' ⟨rfl, hbl⟩
            have he : Kp w w' := hbl
            exact ⟨_, rfl, rfl, Kp.to hS he, he⟩
        · intro a w hS hd ho hsz   -- 38: pick t158 t159 (const (Value.bool false))
          obtain ⟨_, l36, rfl⟩ := hd 36 (by decide +kernel)
          obtain ⟨_, l37, rfl⟩ := hd 37 (by decide +kernel)
          have e158 := left_ev l36 (d := 158) (by rfl) (by rw [hsz]; simp)
          have e159 := left_ev l37 (d := 159) (by rfl) (by rw [hsz]; simp)
          refine duty_is (by rfl) (wanted_none rfl) (.bool true) ?_ rfl hS (Kp.refl _)
          simp only [execOp, List.getElem_toArray, List.getElem_cons_succ, List.getElem_cons_zero, e158, e159, ev_const]
          go_simp
        · intro a w hS hd ho hsz   -- 39: assign t160
          obtain ⟨_, l38, rfl⟩ := hd 38 (by decide +kernel)
          have e160 := left_ev l38 (d := 160) (by rfl) (by rw [hsz]; simp)
          refine duty_is (by rfl) (wanted_none rfl) (.bool true) ?_ rfl hS (Kp.refl _)
          simp only [execOp, List.getElem_toArray, List.getElem_cons_succ, List.getElem_cons_zero, e160]
          go_simp
        · intro X w8 hS8 hX
          have hx39 : X 39 = .bool true := hX 39 (by omega)
          clear hX
          simp only [frame, fillFrom, Act.put, List.setIfInBounds_toArray, List.set_cons_zero, List.set_cons_succ, hx39]
          have hbw8 := hbw7.trans (hS8.mono hbw7.size)
          go_wp2
          go_ret
          exact ⟨rfl, hbw8⟩
end Go.Proofs.YtnhomnaamlbnpaaDoor.Walks
