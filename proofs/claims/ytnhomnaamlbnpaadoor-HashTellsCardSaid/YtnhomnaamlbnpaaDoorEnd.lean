/- A hash told: end; Sha256. By an AI agent. -/
import Derived.Test.YtnhomnaamlbnpaaDoorAdd
import Derived.Deep.RegionHeld3
namespace Go.Proofs.YtnhomnaamlbnpaaDoor.Sha
open Go.RowKit Go.Proofs.YtnhomnaamlbnpaaDoor.M
set_option linter.unusedVariables false

theorem alloc24 (w : World) : (Instr.alloc 56 true (.tuple #[])).run Tryd.prog w = .ok (.pointer (some ⟨w.heap.size, 0, none⟩)) (w.alloc (.cells ((row8 32).map cell8).toArray 56)) :=
  run_alloc_zero (z := .agg ((row8 32).map cell8).toArray) (by kernel_rfl) rfl w
theorem parts_one (w : World) (S : Nat → Prop) (t : TypeId) (u : Value) (l : List UInt8) (h : Byts w S u l) (hS : ∀ i, S i → i < w.heap.size) :
    Parts (w.alloc (.cells #[u] t)) (fun k => S k ∨ k = w.heap.size) (.slice (some ⟨w.heap.size, 0, none⟩) 1 1) [l] := by
  refine ⟨_, 1, rfl, Nat.le_refl _, by simp [maxLen], fun i l' hl' => ?_⟩
  have hb := heap_alloc_new w (.cells #[u] t)
  rcases i with _ | i
  · obtain rfl : l = l' := by simpa using hl'
    exact ⟨_, _, u, rfl, .inr rfl, by rw [cell_of_row _ _ _ _ _ _ hb]; rfl, (h.same ((same_alloc w _).sub hS)).sub fun i hi => .inl hi⟩
  · simp at hl'
theorem parts_two (w : World) (S : Nat → Prop) (t : TypeId) (u v : Value) (l m : List UInt8) (h : Byts w S u l) (h2 : Byts w S v m) (hS : ∀ i, S i → i < w.heap.size) :
    Parts (w.alloc (.cells #[u, v] t)) (fun k => S k ∨ k = w.heap.size) (.slice (some ⟨w.heap.size, 0, none⟩) 2 2) [l, m] := by
  refine ⟨_, 2, rfl, Nat.le_refl _, by simp [maxLen], fun i l' hl' => ?_⟩
  have hb := heap_alloc_new w (.cells #[u, v] t)
  rcases i with _ | _ | i
  · obtain rfl : l = l' := by simpa using hl'
    exact ⟨_, _, u, rfl, .inr rfl, by rw [cell_of_row _ _ _ _ _ _ hb]; rfl, (h.same ((same_alloc w _).sub hS)).sub fun i hi => .inl hi⟩
  · obtain rfl : m = l' := by simpa using hl'
    exact ⟨_, _, v, rfl, .inr rfl, by rw [cell_of_row _ _ _ _ _ _ hb]; rfl, (h2.same ((same_alloc w _).sub hS)).sub fun i hi => .inl hi⟩
  · simp at hl'
theorem Blk.byts {w : World} {g : Nat} {t : TypeId} {l : List UInt8} (h : Blk w g t (l.map cell8).toArray) (hm : l.length ≤ maxLen) : Byts w (fun k => k = g) (.slice (some ⟨g, 0, none⟩) l.length l.length) l := by
  refine ⟨_, _, _, rfl, rfl, Nat.le_refl _, hm, (fun h0 => by cases h0), ?_⟩
  intro ad h1 _
  cases h1
  refine ⟨rfl, fun j b hj => ?_⟩
  rw [Addr.add_lit, h.cell]
  simp [hj, cell8]

theorem map_splice (A B : List UInt8) (k : Nat) : splice (A.map cell8) k (B.map cell8) = (splice A k B).map cell8 := by
  simp [splice, List.map_take, List.map_drop]
theorem grown_row {a w : World} {row : Option Nat} (h : a.grownBy w row) {g : Nat} (hg : a.heap.size ≤ g) (cs : Array Value) : a.grownBy (w.setRow g cs) row :=
  ⟨h.os, h.tape, h.output, by simpa [World.setRow] using h.size, fun i hi hne => (setRow_other w g i cs (by omega)).trans (h.block i hi hne)⟩
theorem sum_succ (s : H8) (j : Nat) (hj : j < 8) : splice ((sumOf s).take (4 * j) ++ row8 (32 - 4 * j)) (4 * j) (beBytes (s.list.getD j 0) 4) = (sumOf s).take (4 * (j + 1)) ++ row8 (32 - 4 * (j + 1)) := by
  rcases (by omega : j = 0 ∨ j = 1 ∨ j = 2 ∨ j = 3 ∨ j = 4 ∨ j = 5 ∨ j = 6 ∨ j = 7) with rfl | rfl | rfl | rfl | rfl | rfl | rfl | rfl <;> rfl

set_option maxRecDepth 100000 in
set_option maxHeartbeats 2000000 in
theorem end_any (b : Nat) (m : List UInt8) (w : World) (hst : IsSt w b m (m.length % 18446744073709551616)) (ht : Tab w) (hbG : b ≠ 2) :
    Calls Tryd.prog 57 #[.pointer (some ⟨b, 0, none⟩)] w fun e w' => e = .returned (.agg ((sha256 m).map cell8).toArray) ∧ w.grownBy w' (some b) := by
  have hblt : b < w.heap.size := by obtain ⟨_, _, _, h⟩ := hst; exact h.lt
  have hst1 : IsSt (w.alloc (.cells ((row8 32).map cell8).toArray 56)) b m (m.length % 18446744073709551616) := hst.grown (grown_below ((Below.refl _ _).alloc (Nat.le_refl _) _) none) (by simp)
  have hbel1 : Below w.heap.size w (w.alloc (.cells ((row8 32).map cell8).toArray 56)) := (Below.refl _ _).alloc (Nat.le_refl _) _
  have hg0 : Blk (w.alloc (.cells ((row8 32).map cell8).toArray 56)) w.heap.size 56 ((row8 32).map cell8).toArray := Blk.new w _ _
  have hz1 : (w.alloc (.cells ((row8 32).map cell8).toArray 56)).heap.size = w.heap.size + 1 := World.size_alloc ..
  obtain ⟨wait0, hw0, _, hblk0⟩ := hst
  have c73 : w.cell? ⟨b, 73, none⟩ = some (.int .u64 ((m.length % 18446744073709551616 : Nat) : Int)) := (hblk0.cell 73).trans (st_cell _ _ _ _ hw0).2
  have hmul : IntKind.u64.wrap (8 * ((m.length % 18446744073709551616 : Nat) : Int)) = ((8 * m.length % 18446744073709551616 : Nat) : Int) := by
    simp only [IntKind.wrap, IntKind.signed, IntKind.bits]; simp; omega
  have hL : 8 * m.length % 18446744073709551616 < 18446744073709551616 := Nat.mod_lt _ (by omega)
  obtain ⟨L, hLd⟩ : ∃ L, L = 8 * m.length % 18446744073709551616 := ⟨_, rfl⟩
  rw [← hLd] at hmul hL
  obtain ⟨ml, hml⟩ : ∃ ml, ml = m.length % 18446744073709551616 := ⟨_, rfl⟩
  rw [← hml] at hst1 c73 hmul
  have HML := Lib.hid hml
  clear hml
  have HLD := Lib.hid hLd
  have HZ1 := Lib.hid hz1
  have HG0 := Lib.hid hg0
  clear hz1 hg0 hw0 hblk0 hLd
  go_enter Tryd.func57, Tryd.ntmps57
  go_wp2_with (first | (with_reducible refine wpList_alloc_as rfl 56 rfl _ alloc24 ?_) | fail)
  have hg0 := HG0.out
  have hz1 := HZ1.out
  generalize w.alloc (.cells ((row8 32).map cell8).toArray 56) = w1 at *
  refine (bytesOf_any L 8 w1 hL (by omega)).mono ?_
  rintro e w2 ⟨rfl, hlen, hb2⟩
  have hst2 := hst1.grown (grown_below hb2 none) (by simp)
  have hbel2 : Below w.heap.size w w2 := hbel1.trans (hb2.mono hbel1.size)
  have hg02 := hg0.same (same_below hb2) (by rw [hz1]; omega)
  have hz2 := hb2.size
  rw [hz1] at hlen hz2 ⊢
  have HG02 := Lib.hid hg02
  have HZ2 := Lib.hid hz2
  clear hst1 hbel1 hb2 hg0 hz1 hg02 hz2 HZ1 HG0 c73 hmul
  go_wp2_with fail
  have hp1 := parts_one (w2.alloc (.cells #[.int .u8 128] 5)) _ 22 _ [128] (byts_new w2 #[.int .u8 128] 5 [128] 1 (by simp [maxLen]) rfl) (by rintro i rfl; simp)
  rw [World.size_alloc] at hp1
  have hst4 : IsSt ((w2.alloc (.cells #[.int .u8 128] 5)).alloc (.cells #[.slice (some ⟨w2.heap.size, 0, none⟩) 1 1] 22)) b m ml :=
    (hst2.grown (grown_below ((Below.refl _ _).alloc (Nat.le_refl _) _) none) (by simp)).grown (grown_below ((Below.refl _ _).alloc (Nat.le_refl _) _) none) (by simp)
  have hbel4 : Below w.heap.size w ((w2.alloc (.cells #[.int .u8 128] 5)).alloc (.cells #[.slice (some ⟨w2.heap.size, 0, none⟩) 1 1] 22)) := (hbel2.alloc hbel2.size _).alloc (by simp; exact Nat.le_succ_of_le hbel2.size) _
  have hlen4 := (hlen.alloc (.cells #[.int .u8 128] 5)).alloc (.cells #[.slice (some ⟨w2.heap.size, 0, none⟩) 1 1] 22)
  have hg04 := (HG02.out.alloc (.cells #[.int .u8 128] 5)).alloc (.cells #[.slice (some ⟨w2.heap.size, 0, none⟩) 1 1] 22)
  have hz4 : ((w2.alloc (.cells #[.int .u8 128] 5)).alloc (.cells #[.slice (some ⟨w2.heap.size, 0, none⟩) 1 1] 22)).heap.size = w2.heap.size + 2 := by simp
  generalize (w2.alloc (.cells #[.int .u8 128] 5)).alloc (.cells #[.slice (some ⟨w2.heap.size, 0, none⟩) 1 1] 22) = w4 at *
  have z2 := HZ2.out
  rw [HML.out] at hst4
  refine (add_any b m _ [[128]] _ w4 hst4 hp1 (by rintro i (rfl | rfl) <;> omega) (ht.below hbel4 ht.1) hbG).mono ?_
  rintro e w5 ⟨rfl, hst5, hg5⟩
  rw [show m ++ [[(128 : UInt8)]].flatten = m ++ [128] from rfl] at hst5
  have hlen5 := hlen4.same (same_grown hg5) ⟨hlen4.lt, fun e => by have := Option.some.inj e; omega⟩
  have hg05 := hg04.same (same_grown hg5) ⟨hg04.lt, fun e => by have := Option.some.inj e; omega⟩
  have hgr5 : w.grownBy w5 (some b) := grown_trans (grown_below hbel4 _) hg5
  have hz5 : w.heap.size + 3 ≤ w5.heap.size := by have := hg5.size; omega
  obtain ⟨wait5, hw5, htk5, hblk5⟩ := hst5
  have c72 : w5.cell? ⟨b, 72, none⟩ = some (.int .i64 (((m ++ [128]).length % 64 : Nat) : Int)) := (hblk5.cell 72).trans (st_cell _ _ _ _ hw5).1
  have hst5 : IsSt w5 b (m ++ [128]) ((m ++ [128]).length % 18446744073709551616) := ⟨wait5, hw5, htk5, hblk5⟩
  have hr : (m ++ [(128 : UInt8)]).length % 64 = (m.length + 1) % 64 := by simp
  rw [hr] at c72
  have hzz : ((120 : Int) - (((m.length + 1) % 64 : Nat) : Int)) % 64 = ((zeros m.length : Nat) : Int) := by unfold zeros; omega
  have hzl : zeros m.length < 64 := by unfold zeros; omega
  have hr64 : (m.length + 1) % 64 < 64 := Nat.mod_lt _ (by omega)
  generalize (m.length + 1) % 64 = r at *
  obtain ⟨z, hz⟩ : ∃ z, z = zeros m.length := ⟨_, rfl⟩
  rw [← hz] at hzz hzl
  have hmk := make8 z (by omega)
  have HZ := Lib.hid hz
  have HST := Lib.hid hst5
  have HLEN := Lib.hid hlen5
  have HG05 := Lib.hid hg05
  clear hlen4 hg04 hst4 hp1 hbel4 hz4 hst2 hbel2 hlen HG02 HZ2 z2 hw5 htk5 hblk5 hst5 hr hz hlen5 hg05
  go_wp2_with fail
  have hzl' : (row8 z).length = z := by simp [row8]
  have hBz : Byts (w5.alloc (.cells ((row8 z).map cell8).toArray 5)) (fun k => k = w5.heap.size ∨ k = w.heap.size + 1) (.slice (some ⟨w5.heap.size, 0, none⟩) z z) (row8 z) := by
    have h := (Blk.byts (Blk.new w5 5 ((row8 z).map cell8).toArray) (by rw [hzl']; unfold maxLen; omega)).sub (T := fun k => k = w5.heap.size ∨ k = w.heap.size + 1) fun i hi => .inl hi
    rw [hzl'] at h
    exact h
  have hBl : Byts (w5.alloc (.cells ((row8 z).map cell8).toArray 5)) (fun k => k = w5.heap.size ∨ k = w.heap.size + 1) (.slice (some ⟨w.heap.size + 1, 0, none⟩) 8 8) (beBytes L 8) := by
    have h := (Blk.byts (HLEN.out.alloc (.cells ((row8 z).map cell8).toArray 5)) (by rw [beBytes_length]; simp [maxLen])).sub (T := fun k => k = w5.heap.size ∨ k = w.heap.size + 1) fun i hi => .inr hi
    rw [beBytes_length] at h
    exact h
  have hp2 := parts_two _ _ 22 _ _ _ _ hBz hBl (by rintro i (rfl | rfl) <;> simp <;> omega)
  rw [World.size_alloc] at hp2
  have hg6 : w5.grownBy ((w5.alloc (.cells ((row8 z).map cell8).toArray 5)).alloc (.cells #[.slice (some ⟨w5.heap.size, 0, none⟩) z z, .slice (some ⟨w.heap.size + 1, 0, none⟩) 8 8] 22)) none :=
    grown_alloc (grown_alloc (World.grownBy.refl _ _) _) _
  have hst6 := HST.out.grown hg6 (by simp)
  have hg06 := (HG05.out.alloc (.cells ((row8 z).map cell8).toArray 5)).alloc (.cells #[.slice (some ⟨w5.heap.size, 0, none⟩) z z, .slice (some ⟨w.heap.size + 1, 0, none⟩) 8 8] 22)
  have hgr6 : w.grownBy ((w5.alloc (.cells ((row8 z).map cell8).toArray 5)).alloc (.cells #[.slice (some ⟨w5.heap.size, 0, none⟩) z z, .slice (some ⟨w.heap.size + 1, 0, none⟩) 8 8] 22)) (some b) := grown_alloc (grown_alloc hgr5 _) _
  have hz6 : ((w5.alloc (.cells ((row8 z).map cell8).toArray 5)).alloc (.cells #[.slice (some ⟨w5.heap.size, 0, none⟩) z z, .slice (some ⟨w.heap.size + 1, 0, none⟩) 8 8] 22)).heap.size = w5.heap.size + 2 := by simp
  generalize (w5.alloc (.cells ((row8 z).map cell8).toArray 5)).alloc (.cells #[.slice (some ⟨w5.heap.size, 0, none⟩) z z, .slice (some ⟨w.heap.size + 1, 0, none⟩) 8 8] 22) = w6 at *
  refine (add_any b (m ++ [128]) _ [row8 z, beBytes L 8] _ w6 hst6 hp2 (by rintro i ((rfl | rfl) | rfl) <;> omega) (ht.grown hgr6 fun e => hbG (Option.some.inj e)) hbG).mono ?_
  rintro e w7 ⟨rfl, hst7, hg7⟩
  have hpad : m ++ [128] ++ [row8 z, beBytes L 8].flatten = pad m := by rw [HLD.out, HZ.out]; simp [pad, row8, List.append_assoc]
  rw [hpad] at hst7
  have hg07 := hg06.same (same_grown hg7) ⟨hg06.lt, fun e => by have := Option.some.inj e; omega⟩
  have hgr7 : w.grownBy w7 (some b) := grown_trans hgr6 hg7
  have hz7 := hg7.size
  obtain ⟨wait7, hw7, _, hblk7⟩ := hst7
  have hso : sha256 m = sumOf (behind (pad m)) := rfl
  have hok := behind_ok (pad m)
  generalize behind (pad m) = s at *
  have h24 : (w7.alloc (.cells ((row8 32).map cell8).toArray 56)).heap[w7.heap.size]? = some (.cells ((row8 32).map cell8).toArray 56 (0, 0)) := heap_alloc_new w7 _
  have hcs : ∀ j v, (s.list.map cell32)[j]? = some v → (w7.alloc (.cells ((row8 32).map cell8).toArray 56)).cell? ((⟨b, 0, none⟩ : Addr).add j) = some v := fun j v hj => by
    rw [Addr.add_lit, (hblk7.alloc _).cell]
    have hjl := (List.getElem?_eq_some_iff.1 hj).1
    simp only [stCells, List.getElem?_toArray]
    rw [List.getElem?_append_left (by simpa using hjl), Nat.zero_add]
    exact hj
  obtain ⟨i48, hi48, hs48⟩ : ∃ i, Tryd.prog.info? 108 = some i ∧ i.size = (s.list.map cell32).length := by
    have h : (Tryd.prog.info? 108).map (·.size) = some 8 := by kernel_rfl
    cases hq : Tryd.prog.info? 108 with
    | none => simp [hq] at h
    | some i => exact ⟨i, rfl, by simpa [hq, H8.list] using h⟩
  have HCS := Lib.hid hcs
  have H24 := Lib.hid h24
  have HI48 := Lib.hid hi48
  have HS48 := Lib.hid hs48
  have HSO := Lib.hid hso
  have HG07 := Lib.hid hg07
  have HZ7 := Lib.hid hz7
  have HZ6 := Lib.hid hz6
  clear hcs h24 hi48 hs48 hso hg07 hz7 hz6 hblk7 hpad hg06 hst6 hp2 hBz hBl hg6 hzl' hmk c72 hzz HST HLEN HG05 hw7
  go_wp2_with (first | (with_reducible refine wpList_alloc_as rfl 56 rfl _ alloc24 ?_) | (with_reducible refine wpList_load_at rfl 108 (.tmp 35) rfl _ rfl (s.list.map cell32) _ _ Tryd.underlying108 rfl HI48.out HS48.out HCS.out ?_) | fail)
  have hg8 : Blk (w7.alloc (.cells ((row8 32).map cell8).toArray 56)) w7.heap.size 56 ((row8 32).map cell8).toArray := Blk.new w7 _ _
  have hg08 := HG07.out.alloc (.cells ((row8 32).map cell8).toArray 56)
  have hgr8 : w.grownBy (w7.alloc (.cells ((row8 32).map cell8).toArray 56)) (some b) := grown_alloc hgr7 _
  have hz8 : w.heap.size < w7.heap.size := by have := HZ7.out; have := HZ6.out; omega
  generalize w7.alloc (.cells ((row8 32).map cell8).toArray 56) = w8 at *
  generalize w7.heap.size = g at *
  have hix : ∀ j : Nat, j < 8 → ∀ u, (Instr.index 108 (.agg (s.list.map cell32).toArray) (.int .i64 (j : Int))).run Tryd.prog u = .ok (.int .u32 (s.list.getD j 0 : Nat)) u := fun j hj u => by
    obtain ⟨i0, hi0, _, hz1, _⟩ := info_parts infoWord
    refine run_index1 u _ 37 8 i0 _ _ .i64 j _ Tryd.underlying108 hi0 hz1 Tryd.underlying37 rfl hj ?_
    rcases (by omega : j = 0 ∨ j = 1 ∨ j = 2 ∨ j = 3 ∨ j = 4 ∨ j = 5 ∨ j = 6 ∨ j = 7) with rfl | rfl | rfl | rfl | rfl | rfl | rfl | rfl <;> rfl
  have HIX := Lib.hid hix
  clear hix HCS HI48 HS48 H24 HG07 hgr7 hg7 hgr6 hgr5 hg5
  go_loopw [37] (fun i wr => ∃ j : Nat, j ≤ 8 ∧ i = .int .i64 j ∧ w.grownBy wr (some b) ∧ g < wr.heap.size ∧ Blk wr w.heap.size 56 ((row8 32).map cell8).toArray ∧ Blk wr g 56 (((sumOf s).take (4 * j) ++ row8 (32 - 4 * j)).map cell8).toArray) (fun i _ => 8 - (intOf i).toNat)
  case atStart => exact ⟨0, by omega, rfl, hgr8, hg8.lt, hg08, hg8⟩
  case round =>
    obtain ⟨j, hj, rfl, hgr, hgl, hB0, hB⟩ := hrel
    by_cases hj8 : j < 8
    · have hix := HIX.out j hj8
      have hx := list_lt hok j
      have hspl := sum_succ s j hj8
      have hcl : 4 * j + ((beBytes (s.list.getD j 0) 4).map cell8).length ≤ (((sumOf s).take (4 * j) ++ row8 (32 - 4 * j)).map cell8).length := by
        simp [beBytes_length, sumOf_length, row8]; omega
      generalize s.list.getD j 0 = x at *
      have hu64 : IntKind.u64.wrap (x : Int) = (x : Int) := by simp only [IntKind.wrap, IntKind.signed, IntKind.bits]; simp; omega
      have hw4 : IntKind.i64.wrap (4 * (j : Int)) = 4 * (j : Int) := IntWalk.i64_in _ (by omega)
      have hp4 : (0 : Int) ≤ 4 * (j : Int) := by omega
      have hq4 : 4 * (j : Int) ≤ 32 := by omega
      have hn4 : (4 * (j : Int)).toNat = 4 * j := by omega
      have hne : ¬ 32 = 4 * j := by omega
      have hbl : ((beBytes x 4).map cell8).length = 4 := by rw [List.length_map, beBytes_length]
      obtain ⟨X, hX⟩ : ∃ X, X = (beBytes x 4).map cell8 := ⟨_, rfl⟩
      obtain ⟨cur, hcu⟩ : ∃ cur, cur = ((sumOf s).take (4 * j) ++ row8 (32 - 4 * j)).map cell8 := ⟨_, rfl⟩
      have hone : ∀ v ∈ X, v.oneCell' = true := by rw [hX]; exact oneCell8 _
      rw [← hcu] at hB hcl
      rw [← hX] at hcl hbl
      have hfin : splice cur (4 * j) X = ((sumOf s).take (4 * (j + 1)) ++ row8 (32 - 4 * (j + 1))).map cell8 := by rw [hX, hcu, map_splice, hspl]
      have HSP := Lib.hid hfin
      have HCL := Lib.hid hcl
      have HB := Lib.hid hB
      have HX := Lib.hid hX
      have HO := Lib.hid hone
      have HBL := Lib.hid hbl
      clear hspl hcl hB hX hcu hone hbl hfin
      go_wp2_with fail
      go_region_law (first
        | (go_simp; go_at_call 68; refine (bytesOf_any x 4 _ (by omega) (by omega)).mono ?_; rintro e w9 ⟨rfl, hb9, hbel9⟩; have hB9 := HB.out.same (same_below (undrew hbel9)) hgl; have hb9' : Blk w9 wr.heap.size 5 X.toArray := (by rw [HX.out]; exact hb9))
        | (refine step_copy_set rfl (.tmp 43) (.tmp 46) _ _ rfl 5 Tryd.underlying22 (by kernel_rfl) ⟨wr.heap.size, 0, none⟩ g (4 * j) (32 - 4 * j) (32 - 4 * j) 4 4 rfl rfl cur 56 hB9 X (by rw [HBL.out]; exact (Nat.min_eq_left (by omega)).symm) (fun jj v hjj => by rw [Addr.add_lit, hb9'.cell]; simpa using hjj) HCL.out HO.out ?_))
      have hbel9' := undrew hbel9
      have hgr9 : w.grownBy (w9.setRow g (splice cur (4 * j) X).toArray) (some b) := grown_row (grown_trans hgr (grown_below hbel9' _)) (by omega) _
      have hB10 : Blk (w9.setRow g (splice cur (4 * j) X).toArray) g 56 (splice cur (4 * j) X).toArray := setRow_heap _ _ _ _ _ _ hB9
      have hB11 : Blk (w9.setRow g (splice cur (4 * j) X).toArray) w.heap.size 56 ((row8 32).map cell8).toArray := (setRow_other w9 g _ _ (by omega)).trans (hB0.same (same_below hbel9') hB0.lt)
      generalize w9.setRow g (splice cur (4 * j) X).toArray = w10 at *
      rw [HSP.out] at hB10
      have HB10 := Lib.hid hB10
      have HB11 := Lib.hid hB11
      have hgl10 : g < w10.heap.size := hB10.lt
      clear hB10 hB11 hb9 hb9' hB9 hbel9 hbel9'
      go_wp2
      go_roundw
      case rel => exact ⟨j + 1, by omega, by go_num, hgr9, hgl10, HB11.out, HB10.out⟩
      case measure => simp [intOf]; omega
    · obtain rfl : j = 8 := by omega
      have hfin : (sumOf s).take (4 * 8) ++ row8 (32 - 4 * 8) = sumOf s := by rw [List.take_of_length_le (by rw [sumOf_length]; decide)]; simp [row8]
      rw [hfin] at hB
      have hl32 : ((sumOf s).map cell8).toArray.size = 32 := by simp [sumOf_length]
      have hi32 : (Tryd.prog.info? 56).map (·.size) = some ((sumOf s).map cell8).toArray.size := by rw [hl32]; kernel_rfl
      have hl0 : ((row8 32).map cell8).toArray.size = ((sumOf s).map cell8).toArray.size := by rw [hl32]; simp [row8]
      have hB' : wr.heap[g]? = some (.cells ((sumOf s).map cell8).toArray 56 (0, 0)) := hB
      have hB0' : wr.heap[w.heap.size]? = some (.cells ((row8 32).map cell8).toArray 56 (0, 0)) := hB0
      have HI32 := Lib.hid hi32
      have HL0 := Lib.hid hl0
      have HBB := Lib.hid hB'
      have HB0 := Lib.hid hB0'
      rw [show ((8 : Nat) : Int) = 8 from rfl]
      clear hfin hl32 hi32 hl0 hB hB' hB0 hB0' hgr8 hg8 hg08 HIX
      generalize hss : sumOf s = ss at *
      have HSS := Lib.hid hss
      clear hss
      go_wp2_with (first | (with_reducible refine wpList_load_row rfl 56 (.tmp 5) rfl g rfl _ _ _ _ HBB.out Tryd.underlying56 rfl HI32.out ?_) | (with_reducible refine wpList_store_row rfl 56 (.tmp 2) (.tmp 49) rfl w.heap.size _ rfl rfl _ _ HB0.out HI32.out HL0.out (all_cell8 ss) ?_) | fail)
      refine bodyPost_ret (results_cell_row rfl _ _ w.heap.size _ _ _ _ rfl (setRow_heap _ _ _ _ _ _ HB0.out) Tryd.underlying56 rfl HI32.out) rfl ⟨by rw [HSO.out], ?_⟩
      exact grown_row hgr (Nat.le_refl _) _
end Go.Proofs.YtnhomnaamlbnpaaDoor.Sha
