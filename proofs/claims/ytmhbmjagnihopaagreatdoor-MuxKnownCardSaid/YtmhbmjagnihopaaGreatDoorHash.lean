/- Sha256, Hmac: their contracts. By an AI agent. -/
import Derived.Test.YtmhbmjagnihopaaGreatDoorAdd
import Derived.Deep.RegionHeld3
namespace Go.Proofs.YtmhbmjagnihopaaGreatDoor.Sha
open Go.RowKit Go.Proofs.YtmhbmjagnihopaaGreatDoor.M
set_option linter.unusedVariables false

theorem alloc24 (w : World) : (Instr.alloc 176 true (.tuple #[])).run Tryz.prog w = .ok (.pointer (some ⟨w.heap.size, 0, none⟩)) (w.alloc (.cells ((row8 32).map cell8).toArray 176)) :=
  run_alloc_zero (z := .agg ((row8 32).map cell8).toArray) (by kernel_rfl) rfl w
theorem parts_one (w : World) (S : Nat → Prop) (t : TypeId) (u : Value) (l : List UInt8) (h : Byts w S u l) (hS : ∀ i, S i → i < w.heap.size) :
    Parts (w.alloc (.cells #[u] t)) (fun k => S k ∨ k = w.heap.size) (.slice (some ⟨w.heap.size, 0, none⟩) 1 1) [l] := by
  refine ⟨_, 1, rfl, Nat.le_refl _, by simp [maxLen], fun i l' hl' => ?_⟩
  have hb := heap_alloc_new w (.cells #[u] t)
  rcases i with _ | i
  · obtain rfl : l = l' := by simpa using hl'
    exact ⟨_, _, u, rfl, .inr rfl, by rw [cell_of_row _ _ _ _ _ _ hb]; rfl, (h.same ((same_alloc w _).sub hS)).sub fun i hi => .inl hi⟩
  · simp at hl'
theorem parts_two (w : World) (S : Nat → Prop) (t : TypeId) (u v : Value) (l m : List UInt8) (h : Byts w S u l) (h2 : Byts w S v m) (hS : ∀ i, S i → i < w.heap.size) :
    Parts (w.alloc (.cells #[u, v] t)) (fun k => S k ∨ k = w.heap.size) (.slice (some ⟨w.heap.size, 0, none⟩) 2 2) [l, m] := by
  refine ⟨_, 2, rfl, Nat.le_refl _, by simp [maxLen], fun i l' hl' => ?_⟩
  have hb := heap_alloc_new w (.cells #[u, v] t)
  rcases i with _ | _ | i
  · obtain rfl : l = l' := by simpa using hl'
    exact ⟨_, _, u, rfl, .inr rfl, by rw [cell_of_row _ _ _ _ _ _ hb]; rfl, (h.same ((same_alloc w _).sub hS)).sub fun i hi => .inl hi⟩
  · obtain rfl : m = l' := by simpa using hl'
    exact ⟨_, _, v, rfl, .inr rfl, by rw [cell_of_row _ _ _ _ _ _ hb]; rfl, (h2.same ((same_alloc w _).sub hS)).sub fun i hi => .inl hi⟩
  · simp at hl'
theorem Blk.byts {w : World} {g : Nat} {t : TypeId} {l : List UInt8} (h : Blk w g t (l.map cell8).toArray) (hm : l.length ≤ maxLen) : Byts w (fun k => k = g) (.slice (some ⟨g, 0, none⟩) l.length l.length) l := by
  refine ⟨_, _, _, rfl, rfl, Nat.le_refl _, hm, (fun h0 => by cases h0), ?_⟩
  intro ad h1 _
  cases h1
  refine ⟨rfl, fun j b hj => ?_⟩
  rw [Addr.add_lit, h.cell]
  simp [hj, cell8]

theorem map_splice (A B : List UInt8) (k : Nat) : splice (A.map cell8) k (B.map cell8) = (splice A k B).map cell8 := by
  simp [splice, List.map_take, List.map_drop]
theorem grown_row {a w : World} {row : Option Nat} (h : a.grownBy w row) {g : Nat} (hg : a.heap.size ≤ g) (cs : Array Value) : a.grownBy (w.setRow g cs) row :=
  ⟨h.os, h.tape, h.output, by simpa [World.setRow] using h.size, fun i hi hne => (setRow_other w g i cs (by omega)).trans (h.block i hi hne)⟩
theorem sum_succ (s : H8) (j : Nat) (hj : j < 8) : splice ((sumOf s).take (4 * j) ++ row8 (32 - 4 * j)) (4 * j) (beBytes (s.list.getD j 0) 4) = (sumOf s).take (4 * (j + 1)) ++ row8 (32 - 4 * (j + 1)) := by
  rcases (by omega : j = 0 ∨ j = 1 ∨ j = 2 ∨ j = 3 ∨ j = 4 ∨ j = 5 ∨ j = 6 ∨ j = 7) with rfl | rfl | rfl | rfl | rfl | rfl | rfl | rfl <;> rfl

set_option maxRecDepth 100000 in
set_option maxHeartbeats 2000000 in
theorem end_any (b : Nat) (m : List UInt8) (w : World) (hst : IsSt w b m (m.length % 18446744073709551616)) (ht : Tab w) (hbG : b ≠ 0) :
    Calls Tryz.prog 123 #[.pointer (some ⟨b, 0, none⟩)] w fun e w' => e = .returned (.agg ((sha256 m).map cell8).toArray) ∧ w.grownBy w' (some b) := by
  have hblt : b < w.heap.size := by obtain ⟨_, _, _, h⟩ := hst; exact h.lt
  have hst1 : IsSt (w.alloc (.cells ((row8 32).map cell8).toArray 176)) b m (m.length % 18446744073709551616) := hst.grown (grown_below ((Below.refl _ _).alloc (Nat.le_refl _) _) none) (by simp)
  have hbel1 : Below w.heap.size w (w.alloc (.cells ((row8 32).map cell8).toArray 176)) := (Below.refl _ _).alloc (Nat.le_refl _) _
  have hg0 : Blk (w.alloc (.cells ((row8 32).map cell8).toArray 176)) w.heap.size 176 ((row8 32).map cell8).toArray := Blk.new w _ _
  have hz1 : (w.alloc (.cells ((row8 32).map cell8).toArray 176)).heap.size = w.heap.size + 1 := World.size_alloc ..
  obtain ⟨wait0, hw0, _, hblk0⟩ := hst
  have c73 : w.cell? ⟨b, 73, none⟩ = some (.int .u64 ((m.length % 18446744073709551616 : Nat) : Int)) := (hblk0.cell 73).trans (st_cell _ _ _ _ hw0).2
  have hmul : IntKind.u64.wrap (8 * ((m.length % 18446744073709551616 : Nat) : Int)) = ((8 * m.length % 18446744073709551616 : Nat) : Int) := by
    simp only [IntKind.wrap, IntKind.signed, IntKind.bits]; simp; omega
  have hL : 8 * m.length % 18446744073709551616 < 18446744073709551616 := Nat.mod_lt _ (by omega)
  obtain ⟨L, hLd⟩ : ∃ L, L = 8 * m.length % 18446744073709551616 := ⟨_, rfl⟩
  rw [← hLd] at hmul hL
  obtain ⟨ml, hml⟩ : ∃ ml, ml = m.length % 18446744073709551616 := ⟨_, rfl⟩
  rw [← hml] at hst1 c73 hmul
  have HML := Lib.hid hml
  clear hml
  have HLD := Lib.hid hLd
  have HZ1 := Lib.hid hz1
  have HG0 := Lib.hid hg0
  clear hz1 hg0 hw0 hblk0 hLd
  go_enter Tryz.func123, Tryz.ntmps123
  go_wp2_with (first | (with_reducible refine wpList_alloc_as rfl 176 rfl _ alloc24 ?_) | fail)
  have hg0 := HG0.out
  have hz1 := HZ1.out
  generalize w.alloc (.cells ((row8 32).map cell8).toArray 176) = w1 at *
  refine (bytesOf_any L 8 w1 hL (by omega)).mono ?_
  rintro e w2 ⟨rfl, hlen, hb2⟩
  have hst2 := hst1.grown (grown_below hb2 none) (by simp)
  have hbel2 : Below w.heap.size w w2 := hbel1.trans (hb2.mono hbel1.size)
  have hg02 := hg0.same (same_below hb2) (by rw [hz1]; omega)
  have hz2 := hb2.size
  rw [hz1] at hlen hz2 ⊢
  have HG02 := Lib.hid hg02
  have HZ2 := Lib.hid hz2
  clear hst1 hbel1 hb2 hg0 hz1 hg02 hz2 HZ1 HG0 c73 hmul
  go_wp2_with fail
  have hp1 := parts_one (w2.alloc (.cells #[.int .u8 128] 5)) _ 32 _ [128] (byts_new w2 #[.int .u8 128] 5 [128] 1 (by simp [maxLen]) rfl) (by rintro i rfl; simp)
  rw [World.size_alloc] at hp1
  have hst4 : IsSt ((w2.alloc (.cells #[.int .u8 128] 5)).alloc (.cells #[.slice (some ⟨w2.heap.size, 0, none⟩) 1 1] 32)) b m ml :=
    (hst2.grown (grown_below ((Below.refl _ _).alloc (Nat.le_refl _) _) none) (by simp)).grown (grown_below ((Below.refl _ _).alloc (Nat.le_refl _) _) none) (by simp)
  have hbel4 : Below w.heap.size w ((w2.alloc (.cells #[.int .u8 128] 5)).alloc (.cells #[.slice (some ⟨w2.heap.size, 0, none⟩) 1 1] 32)) := (hbel2.alloc hbel2.size _).alloc (by simp; exact Nat.le_succ_of_le hbel2.size) _
  have hlen4 := (hlen.alloc (.cells #[.int .u8 128] 5)).alloc (.cells #[.slice (some ⟨w2.heap.size, 0, none⟩) 1 1] 32)
  have hg04 := (HG02.out.alloc (.cells #[.int .u8 128] 5)).alloc (.cells #[.slice (some ⟨w2.heap.size, 0, none⟩) 1 1] 32)
  have hz4 : ((w2.alloc (.cells #[.int .u8 128] 5)).alloc (.cells #[.slice (some ⟨w2.heap.size, 0, none⟩) 1 1] 32)).heap.size = w2.heap.size + 2 := by simp
  generalize (w2.alloc (.cells #[.int .u8 128] 5)).alloc (.cells #[.slice (some ⟨w2.heap.size, 0, none⟩) 1 1] 32) = w4 at *
  have z2 := HZ2.out
  rw [HML.out] at hst4
  refine (add_any b m _ [[128]] _ w4 hst4 hp1 (by rintro i (rfl | rfl) <;> omega) (ht.below hbel4 ht.1) hbG).mono ?_
  rintro e w5 ⟨rfl, hst5, hg5⟩
  rw [show m ++ [[(128 : UInt8)]].flatten = m ++ [128] from rfl] at hst5
  have hlen5 := hlen4.same (same_grown hg5) ⟨hlen4.lt, fun e => by have := Option.some.inj e; omega⟩
  have hg05 := hg04.same (same_grown hg5) ⟨hg04.lt, fun e => by have := Option.some.inj e; omega⟩
  have hgr5 : w.grownBy w5 (some b) := grown_trans (grown_below hbel4 _) hg5
  have hz5 : w.heap.size + 3 ≤ w5.heap.size := by have := hg5.size; omega
  obtain ⟨wait5, hw5, htk5, hblk5⟩ := hst5
  have c72 : w5.cell? ⟨b, 72, none⟩ = some (.int .i64 (((m ++ [128]).length % 64 : Nat) : Int)) := (hblk5.cell 72).trans (st_cell _ _ _ _ hw5).1
  have hst5 : IsSt w5 b (m ++ [128]) ((m ++ [128]).length % 18446744073709551616) := ⟨wait5, hw5, htk5, hblk5⟩
  have hr : (m ++ [(128 : UInt8)]).length % 64 = (m.length + 1) % 64 := by simp
  rw [hr] at c72
  have hzz : ((120 : Int) - (((m.length + 1) % 64 : Nat) : Int)) % 64 = ((zeros m.length : Nat) : Int) := by unfold zeros; omega
  have hzl : zeros m.length < 64 := by unfold zeros; omega
  have hr64 : (m.length + 1) % 64 < 64 := Nat.mod_lt _ (by omega)
  generalize (m.length + 1) % 64 = r at *
  obtain ⟨z, hz⟩ : ∃ z, z = zeros m.length := ⟨_, rfl⟩
  rw [← hz] at hzz hzl
  have hmk := make8 z (by omega)
  have HZ := Lib.hid hz
  have HST := Lib.hid hst5
  have HLEN := Lib.hid hlen5
  have HG05 := Lib.hid hg05
  clear hlen4 hg04 hst4 hp1 hbel4 hz4 hst2 hbel2 hlen HG02 HZ2 z2 hw5 htk5 hblk5 hst5 hr hz hlen5 hg05
  go_wp2_with fail
  have hzl' : (row8 z).length = z := by simp [row8]
  have hBz : Byts (w5.alloc (.cells ((row8 z).map cell8).toArray 5)) (fun k => k = w5.heap.size ∨ k = w.heap.size + 1) (.slice (some ⟨w5.heap.size, 0, none⟩) z z) (row8 z) := by
    have h := (Blk.byts (Blk.new w5 5 ((row8 z).map cell8).toArray) (by rw [hzl']; unfold maxLen; omega)).sub (T := fun k => k = w5.heap.size ∨ k = w.heap.size + 1) fun i hi => .inl hi
    rw [hzl'] at h
    exact h
  have hBl : Byts (w5.alloc (.cells ((row8 z).map cell8).toArray 5)) (fun k => k = w5.heap.size ∨ k = w.heap.size + 1) (.slice (some ⟨w.heap.size + 1, 0, none⟩) 8 8) (beBytes L 8) := by
    have h := (Blk.byts (HLEN.out.alloc (.cells ((row8 z).map cell8).toArray 5)) (by rw [beBytes_length]; simp [maxLen])).sub (T := fun k => k = w5.heap.size ∨ k = w.heap.size + 1) fun i hi => .inr hi
    rw [beBytes_length] at h
    exact h
  have hp2 := parts_two _ _ 32 _ _ _ _ hBz hBl (by rintro i (rfl | rfl) <;> simp <;> omega)
  rw [World.size_alloc] at hp2
  have hg6 : w5.grownBy ((w5.alloc (.cells ((row8 z).map cell8).toArray 5)).alloc (.cells #[.slice (some ⟨w5.heap.size, 0, none⟩) z z, .slice (some ⟨w.heap.size + 1, 0, none⟩) 8 8] 32)) none :=
    grown_alloc (grown_alloc (World.grownBy.refl _ _) _) _
  have hst6 := HST.out.grown hg6 (by simp)
  have hg06 := (HG05.out.alloc (.cells ((row8 z).map cell8).toArray 5)).alloc (.cells #[.slice (some ⟨w5.heap.size, 0, none⟩) z z, .slice (some ⟨w.heap.size + 1, 0, none⟩) 8 8] 32)
  have hgr6 : w.grownBy ((w5.alloc (.cells ((row8 z).map cell8).toArray 5)).alloc (.cells #[.slice (some ⟨w5.heap.size, 0, none⟩) z z, .slice (some ⟨w.heap.size + 1, 0, none⟩) 8 8] 32)) (some b) := grown_alloc (grown_alloc hgr5 _) _
  have hz6 : ((w5.alloc (.cells ((row8 z).map cell8).toArray 5)).alloc (.cells #[.slice (some ⟨w5.heap.size, 0, none⟩) z z, .slice (some ⟨w.heap.size + 1, 0, none⟩) 8 8] 32)).heap.size = w5.heap.size + 2 := by simp
  generalize (w5.alloc (.cells ((row8 z).map cell8).toArray 5)).alloc (.cells #[.slice (some ⟨w5.heap.size, 0, none⟩) z z, .slice (some ⟨w.heap.size + 1, 0, none⟩) 8 8] 32) = w6 at *
  refine (add_any b (m ++ [128]) _ [row8 z, beBytes L 8] _ w6 hst6 hp2 (by rintro i ((rfl | rfl) | rfl) <;> omega) (ht.grown hgr6 fun e => hbG (Option.some.inj e)) hbG).mono ?_
  rintro e w7 ⟨rfl, hst7, hg7⟩
  have hpad : m ++ [128] ++ [row8 z, beBytes L 8].flatten = pad m := by rw [HLD.out, HZ.out]; simp [pad, row8, List.append_assoc]
  rw [hpad] at hst7
  have hg07 := hg06.same (same_grown hg7) ⟨hg06.lt, fun e => by have := Option.some.inj e; omega⟩
  have hgr7 : w.grownBy w7 (some b) := grown_trans hgr6 hg7
  have hz7 := hg7.size
  obtain ⟨wait7, hw7, _, hblk7⟩ := hst7
  have hso : sha256 m = sumOf (behind (pad m)) := rfl
  have hok := behind_ok (pad m)
  generalize behind (pad m) = s at *
  have h24 : (w7.alloc (.cells ((row8 32).map cell8).toArray 176)).heap[w7.heap.size]? = some (.cells ((row8 32).map cell8).toArray 176 (0, 0)) := heap_alloc_new w7 _
  have hcs : ∀ j v, (s.list.map cell32)[j]? = some v → (w7.alloc (.cells ((row8 32).map cell8).toArray 176)).cell? ((⟨b, 0, none⟩ : Addr).add j) = some v := fun j v hj => by
    rw [Addr.add_lit, (hblk7.alloc _).cell]
    have hjl := (List.getElem?_eq_some_iff.1 hj).1
    simp only [stCells, List.getElem?_toArray]
    rw [List.getElem?_append_left (by simpa using hjl), Nat.zero_add]
    exact hj
  obtain ⟨i48, hi48, hs48⟩ : ∃ i, Tryz.prog.info? 224 = some i ∧ i.size = (s.list.map cell32).length := by
    have h : (Tryz.prog.info? 224).map (·.size) = some 8 := by kernel_rfl
    cases hq : Tryz.prog.info? 224 with
    | none => simp [hq] at h
    | some i => exact ⟨i, rfl, by simpa [hq, H8.list] using h⟩
  have HCS := Lib.hid hcs
  have H24 := Lib.hid h24
  have HI48 := Lib.hid hi48
  have HS48 := Lib.hid hs48
  have HSO := Lib.hid hso
  have HG07 := Lib.hid hg07
  have HZ7 := Lib.hid hz7
  have HZ6 := Lib.hid hz6
  clear hcs h24 hi48 hs48 hso hg07 hz7 hz6 hblk7 hpad hg06 hst6 hp2 hBz hBl hg6 hzl' hmk c72 hzz HST HLEN HG05 hw7
  go_wp2_with (first | (with_reducible refine wpList_alloc_as rfl 176 rfl _ alloc24 ?_) | (with_reducible refine wpList_load_at rfl 224 (.tmp 35) rfl _ rfl (s.list.map cell32) _ _ Tryz.underlying224 rfl HI48.out HS48.out HCS.out ?_) | fail)
  have hg8 : Blk (w7.alloc (.cells ((row8 32).map cell8).toArray 176)) w7.heap.size 176 ((row8 32).map cell8).toArray := Blk.new w7 _ _
  have hg08 := HG07.out.alloc (.cells ((row8 32).map cell8).toArray 176)
  have hgr8 : w.grownBy (w7.alloc (.cells ((row8 32).map cell8).toArray 176)) (some b) := grown_alloc hgr7 _
  have hz8 : w.heap.size < w7.heap.size := by have := HZ7.out; have := HZ6.out; omega
  generalize w7.alloc (.cells ((row8 32).map cell8).toArray 176) = w8 at *
  generalize w7.heap.size = g at *
  have hix : ∀ j : Nat, j < 8 → ∀ u, (Instr.index 224 (.agg (s.list.map cell32).toArray) (.int .i64 (j : Int))).run Tryz.prog u = .ok (.int .u32 (s.list.getD j 0 : Nat)) u := fun j hj u => by
    obtain ⟨i0, hi0, _, hz1, _⟩ := info_parts infoWord
    refine run_index1 u _ 68 8 i0 _ _ .i64 j _ Tryz.underlying224 hi0 hz1 Tryz.underlying68 rfl hj ?_
    rcases (by omega : j = 0 ∨ j = 1 ∨ j = 2 ∨ j = 3 ∨ j = 4 ∨ j = 5 ∨ j = 6 ∨ j = 7) with rfl | rfl | rfl | rfl | rfl | rfl | rfl | rfl <;> rfl
  have HIX := Lib.hid hix
  clear hix HCS HI48 HS48 H24 HG07 hgr7 hg7 hgr6 hgr5 hg5
  go_loopw [37] (fun i wr => ∃ j : Nat, j ≤ 8 ∧ i = .int .i64 j ∧ w.grownBy wr (some b) ∧ g < wr.heap.size ∧ Blk wr w.heap.size 176 ((row8 32).map cell8).toArray ∧ Blk wr g 176 (((sumOf s).take (4 * j) ++ row8 (32 - 4 * j)).map cell8).toArray) (fun i _ => 8 - (intOf i).toNat)
  case atStart => exact ⟨0, by omega, rfl, hgr8, hg8.lt, hg08, hg8⟩
  case round =>
    obtain ⟨j, hj, rfl, hgr, hgl, hB0, hB⟩ := hrel
    by_cases hj8 : j < 8
    · have hix := HIX.out j hj8
      have hx := list_lt hok j
      have hspl := sum_succ s j hj8
      have hcl : 4 * j + ((beBytes (s.list.getD j 0) 4).map cell8).length ≤ (((sumOf s).take (4 * j) ++ row8 (32 - 4 * j)).map cell8).length := by
        simp [beBytes_length, sumOf_length, row8]; omega
      generalize s.list.getD j 0 = x at *
      have hu64 : IntKind.u64.wrap (x : Int) = (x : Int) := by simp only [IntKind.wrap, IntKind.signed, IntKind.bits]; simp; omega
      have hw4 : IntKind.i64.wrap (4 * (j : Int)) = 4 * (j : Int) := IntWalk.i64_in _ (by omega)
      have hp4 : (0 : Int) ≤ 4 * (j : Int) := by omega
      have hq4 : 4 * (j : Int) ≤ 32 := by omega
      have hn4 : (4 * (j : Int)).toNat = 4 * j := by omega
      have hne : ¬ 32 = 4 * j := by omega
      have hbl : ((beBytes x 4).map cell8).length = 4 := by rw [List.length_map, beBytes_length]
      obtain ⟨X, hX⟩ : ∃ X, X = (beBytes x 4).map cell8 := ⟨_, rfl⟩
      obtain ⟨cur, hcu⟩ : ∃ cur, cur = ((sumOf s).take (4 * j) ++ row8 (32 - 4 * j)).map cell8 := ⟨_, rfl⟩
      have hone : ∀ v ∈ X, v.oneCell' = true := by rw [hX]; exact oneCell8 _
      rw [← hcu] at hB hcl
      rw [← hX] at hcl hbl
      have hfin : splice cur (4 * j) X = ((sumOf s).take (4 * (j + 1)) ++ row8 (32 - 4 * (j + 1))).map cell8 := by rw [hX, hcu, map_splice, hspl]
      have HSP := Lib.hid hfin
      have HCL := Lib.hid hcl
      have HB := Lib.hid hB
      have HX := Lib.hid hX
      have HO := Lib.hid hone
      have HBL := Lib.hid hbl
      clear hspl hcl hB hX hcu hone hbl hfin
      go_wp2_with fail
      go_region_law (first
        | (go_simp; go_at_call 138; refine (bytesOf_any x 4 _ (by omega) (by omega)).mono ?_; rintro e w9 ⟨rfl, hb9, hbel9⟩; have hB9 := HB.out.same (same_below (undrew hbel9)) hgl; have hb9' : Blk w9 wr.heap.size 5 X.toArray := (by rw [HX.out]; exact hb9))
        | (refine step_copy_set rfl (.tmp 43) (.tmp 46) _ _ rfl 5 Tryz.underlying32 (by kernel_rfl) ⟨wr.heap.size, 0, none⟩ g (4 * j) (32 - 4 * j) (32 - 4 * j) 4 4 rfl rfl cur 176 hB9 X (by rw [HBL.out]; exact (Nat.min_eq_left (by omega)).symm) (fun jj v hjj => by rw [Addr.add_lit, hb9'.cell]; simpa using hjj) HCL.out HO.out ?_))
      have hbel9' := undrew hbel9
      have hgr9 : w.grownBy (w9.setRow g (splice cur (4 * j) X).toArray) (some b) := grown_row (grown_trans hgr (grown_below hbel9' _)) (by omega) _
      have hB10 : Blk (w9.setRow g (splice cur (4 * j) X).toArray) g 176 (splice cur (4 * j) X).toArray := setRow_heap _ _ _ _ _ _ hB9
      have hB11 : Blk (w9.setRow g (splice cur (4 * j) X).toArray) w.heap.size 176 ((row8 32).map cell8).toArray := (setRow_other w9 g _ _ (by omega)).trans (hB0.same (same_below hbel9') hB0.lt)
      generalize w9.setRow g (splice cur (4 * j) X).toArray = w10 at *
      rw [HSP.out] at hB10
      have HB10 := Lib.hid hB10
      have HB11 := Lib.hid hB11
      have hgl10 : g < w10.heap.size := hB10.lt
      clear hB10 hB11 hb9 hb9' hB9 hbel9 hbel9'
      go_wp2
      go_roundw
      case rel => exact ⟨j + 1, by omega, by go_num, hgr9, hgl10, HB11.out, HB10.out⟩
      case measure => simp [intOf]; omega
    · obtain rfl : j = 8 := by omega
      have hfin : (sumOf s).take (4 * 8) ++ row8 (32 - 4 * 8) = sumOf s := by rw [List.take_of_length_le (by rw [sumOf_length]; decide)]; simp [row8]
      rw [hfin] at hB
      have hl32 : ((sumOf s).map cell8).toArray.size = 32 := by simp [sumOf_length]
      have hi32 : (Tryz.prog.info? 176).map (·.size) = some ((sumOf s).map cell8).toArray.size := by rw [hl32]; kernel_rfl
      have hl0 : ((row8 32).map cell8).toArray.size = ((sumOf s).map cell8).toArray.size := by rw [hl32]; simp [row8]
      have hB' : wr.heap[g]? = some (.cells ((sumOf s).map cell8).toArray 176 (0, 0)) := hB
      have hB0' : wr.heap[w.heap.size]? = some (.cells ((row8 32).map cell8).toArray 176 (0, 0)) := hB0
      have HI32 := Lib.hid hi32
      have HL0 := Lib.hid hl0
      have HBB := Lib.hid hB'
      have HB0 := Lib.hid hB0'
      rw [show ((8 : Nat) : Int) = 8 from rfl]
      clear hfin hl32 hi32 hl0 hB hB' hB0 hB0' hgr8 hg8 hg08 HIX
      generalize hss : sumOf s = ss at *
      have HSS := Lib.hid hss
      clear hss
      go_wp2_with (first | (with_reducible refine wpList_load_row rfl 176 (.tmp 5) rfl g rfl _ _ _ _ HBB.out Tryz.underlying176 rfl HI32.out ?_) | (with_reducible refine wpList_store_row rfl 176 (.tmp 2) (.tmp 49) rfl w.heap.size _ rfl rfl _ _ HB0.out HI32.out HL0.out (all_cell8 ss) ?_) | fail)
      refine bodyPost_ret (results_cell_row rfl _ _ w.heap.size _ _ _ _ rfl (setRow_heap _ _ _ _ _ _ HB0.out) Tryz.underlying176 rfl HI32.out) rfl ⟨by rw [HSO.out], ?_⟩
      exact grown_row hgr (Nat.le_refl _) _
end Go.Proofs.YtmhbmjagnihopaaGreatDoor.Sha
namespace Go.Proofs.YtmhbmjagnihopaaGreatDoor.Sha
open Go.RowKit Go.Proofs.YtmhbmjagnihopaaGreatDoor.M
set_option linter.unusedVariables false

theorem isSt_start {w : World} {g : Nat} (h : Blk w g 226 (stCells init (row8 64) [.int .i64 0, .int .u64 0]).toArray) : IsSt w g [] 0 :=
  ⟨row8 64, by simp [row8], rfl, h⟩
theorem sum_size (l : List UInt8) (h : l.length = 32) : (Tryz.prog.info? 176).map (·.size) = some (l.map cell8).toArray.size := by
  rw [show (l.map cell8).toArray.size = 32 from by simp [h]]; kernel_rfl
theorem row_size (l : List UInt8) (n : Nat) (h : l.length = n) : ((row8 n).map cell8).toArray.size = (l.map cell8).toArray.size := by simp [row8, h]

set_option maxHeartbeats 1000000 in
theorem sha_any (v : Value) (ls : List (List UInt8)) (S : Nat → Prop) (w : World) (hp : Parts w S v ls) (hS : ∀ i, S i → i < w.heap.size) (ht : Tab w) :
    Calls Tryz.prog 135 #[v] w fun e w' => e = .returned (.agg ((sha256 ls.flatten).map cell8).toArray) ∧ Below w.heap.size w w' := by
  have hb1 : Below w.heap.size w (w.alloc (.cells ((row8 32).map cell8).toArray 176)) := (Below.refl _ _).alloc (Nat.le_refl _) _
  have hg1 : Blk (w.alloc (.cells ((row8 32).map cell8).toArray 176)) w.heap.size 176 ((row8 32).map cell8).toArray := Blk.new w _ _
  have hz1 : (w.alloc (.cells ((row8 32).map cell8).toArray 176)).heap.size = w.heap.size + 1 := World.size_alloc ..
  have HB1 := Lib.hid hb1
  have HG1 := Lib.hid hg1
  have HZ1 := Lib.hid hz1
  clear hb1 hg1 hz1
  go_enter Tryz.func135, Tryz.ntmps135
  go_wp2_with (first | (with_reducible refine wpList_alloc_as rfl 176 rfl _ alloc24 ?_) | fail)
  have hb1 := HB1.out
  have hg1 := HG1.out
  have hz1 := HZ1.out
  generalize w.alloc (.cells ((row8 32).map cell8).toArray 176) = w1 at *
  clear HB1 HG1 HZ1
  refine (start_any w1).mono ?_
  rintro e w2 ⟨rfl, hst, hb2⟩
  rw [hz1] at hst hb2 ⊢
  have hb02 : Below w.heap.size w w2 := hb1.trans (hb2.mono (by omega))
  have hg2 := hg1.same (same_below hb2) (by omega)
  have hp2 := hp.same ((same_below hb02).sub hS)
  have hst2 := isSt_start hst
  have htG := ht.1
  have ht2 := ht.below hb02 htG
  have hz2 := hst.lt
  have HST := Lib.hid hst2
  have HG2 := Lib.hid hg2
  clear hst hg1 hg2 hst2 hb1 hb2 hz1
  go_wp2_with fail
  refine (add_any (w.heap.size + 1) [] v ls S w2 HST.out hp2 (fun i hi => by have := hS i hi; omega) ht2 (by omega)).mono ?_
  rintro e w3 ⟨rfl, hst3, hg3⟩
  rw [List.nil_append] at hst3
  have hb03 : Below w.heap.size w w3 := below_grown hb02 hg3 (by omega)
  have ht3 := ht.below hb03 htG
  have hG3 := HG2.out.same (same_grown hg3) ⟨by omega, fun e => by have := Option.some.inj e; omega⟩
  have hz3 := hg3.size
  have HST3 := Lib.hid hst3
  have HG3 := Lib.hid hG3
  clear hst3 hG3 hp2 HST HG2
  go_wp2_with fail
  refine (end_any (w.heap.size + 1) ls.flatten w3 HST3.out ht3 (by omega)).mono ?_
  rintro e w4 ⟨rfl, hg4⟩
  have hb04 : Below w.heap.size w w4 := below_grown hb03 hg4 (by omega)
  have hG4 : w4.heap[w.heap.size]? = some (.cells ((row8 32).map cell8).toArray 176 (0, 0)) := HG3.out.same (same_grown hg4) ⟨by omega, fun e => by have := Option.some.inj e; omega⟩
  have hs := sum_size (sha256 ls.flatten) (sha_length _)
  have hr := row_size (sha256 ls.flatten) 32 (sha_length _)
  generalize hss : sha256 ls.flatten = ss at *
  have HSS := Lib.hid hss
  clear hss
  have HG4 := Lib.hid hG4
  have HS := Lib.hid hs
  have HR := Lib.hid hr
  clear hG4 hs hr HST3 HG3
  go_wp2_with (first | (with_reducible refine wpList_store_row rfl 176 (.tmp 2) (.tmp 9) rfl w.heap.size _ rfl rfl _ _ HG4.out HS.out HR.out (all_cell8 ss) ?_) | fail)
  refine bodyPost_ret (results_cell_row rfl _ _ w.heap.size _ _ _ _ rfl (setRow_heap _ _ _ _ _ _ HG4.out) Tryz.underlying176 rfl HS.out) rfl ⟨by rw [HSS.out], ?_⟩
  exact below_setRow hb04 (Nat.le_refl _) _

theorem parts_get {w : World} {S : Nat → Prop} {v : Value} {l : List UInt8} (h : Byts w S v l) : ∃ A n c, v = .slice A n c := by
  obtain ⟨A, n, c, rfl, _⟩ := h
  exact ⟨A, n, c, rfl⟩
theorem keyed_length (b : List UInt8) (x : UInt8) : (keyed b x).length = b.length := by simp [keyed]
theorem keyed_more (bs : List UInt8) (x b : UInt8) (i : Nat) (hb : bs[i]? = some b) : keyed (bs.take (i + 1)) x ++ bs.drop (i + 1) = (keyed (bs.take i) x ++ bs.drop i).set i (b ^^^ x) := by
  have hlt := (List.getElem?_eq_some_iff.1 hb).1
  have hl : (keyed (bs.take i) x).length = i := by rw [keyed_length, List.length_take]; omega
  have hbe : bs[i] = b := (List.getElem?_eq_some_iff.1 hb).2
  rw [List.set_append_right _ _ (by omega), hl, Nat.sub_self, List.drop_eq_getElem_cons hlt, List.set_cons_zero, List.take_add_one, hb]
  simp [keyed]
set_option maxRecDepth 100000 in
set_option maxHeartbeats 1000000 in
theorem keyed_any (bs : List UInt8) (x : UInt8) (w : World) (hl : bs.length = 64) (ht : Tab w) :
    Calls Tryz.prog 121 #[.agg (bs.map cell8).toArray, .int .u8 (x.toNat : Int)] w fun e w' => ∃ g, e = .returned (.pointer (some ⟨g, 0, none⟩)) ∧ IsSt w' g (keyed bs x) 64 ∧ w.heap.size ≤ g ∧ Below w.heap.size w w' := by
  have hb1 : Below w.heap.size w (w.alloc (.cells (bs.map cell8).toArray 205)) := (Below.refl _ _).alloc (Nat.le_refl _) _
  have hg1 : Blk (w.alloc (.cells (bs.map cell8).toArray 205)) w.heap.size 205 (bs.map cell8).toArray := Blk.new w _ _
  have hz1 : (w.alloc (.cells (bs.map cell8).toArray 205)).heap.size = w.heap.size + 1 := World.size_alloc ..
  have HB1 := Lib.hid hb1
  have HG1 := Lib.hid hg1
  have HZ1 := Lib.hid hz1
  clear hb1 hg1 hz1
  have hxl := x.toNat_lt
  go_enter Tryz.func121, Tryz.ntmps121
  go_wp2_with fail
  have hb1 := HB1.out
  have hg1 := HG1.out
  have hz1 := HZ1.out
  generalize w.alloc (.cells (bs.map cell8).toArray 205) = w1 at *
  clear HB1 HG1 HZ1
  go_loopw [7] (fun i wr => ∃ j : Nat, j ≤ 64 ∧ i = .int .i64 j ∧ Below w.heap.size w wr ∧ wr.heap.size = w.heap.size + 1 ∧ Blk wr w.heap.size 205 ((keyed (bs.take j) x ++ bs.drop j).map cell8).toArray) (fun i _ => 64 - (intOf i).toNat)
  case atStart => exact ⟨0, by omega, rfl, hb1, hz1, by simpa [keyed] using hg1⟩
  case round =>
    obtain ⟨j, hj, rfl, hb, hz, hB⟩ := hrel
    by_cases hlt : j < 64
    · have hbj := List.getElem?_eq_getElem (show j < bs.length by omega)
      have hmore := keyed_more bs x _ j hbj
      have hcell : wr.cell? ⟨w.heap.size, j, none⟩ = some (.int .u8 (bs[j].toNat : Int)) := by
        rw [hB.cell]
        have hkl : (keyed (bs.take j) x).length = j := by rw [keyed_length, List.length_take]; omega
        simp only [List.getElem?_toArray, List.getElem?_map]
        rw [List.getElem?_append_right (by omega), hkl, Nat.sub_self, List.getElem?_drop, Nat.add_zero, hbj]
        rfl
      have hbl := bs[j].toNat_lt
      have hxor : bits .xor .u8 (bs[j].toNat : Int) (x.toNat : Int) = ((bs[j] ^^^ x).toNat : Int) := by rw [UInt8.toNat_xor]; exact u8_xor_nat _ _ (by omega) (by omega)
      have hset := hB.set_ j (cell8 (bs[j] ^^^ x))
      rw [List.setIfInBounds_toArray, ← List.map_set, ← hmore] at hset
      generalize bs[j] ^^^ x = y at *
      have hfz := hB.frozen j
      generalize bs[j] = b at *
      have HSET := Lib.hid hset
      clear hset hmore hbj hB hg1 hb1 hz1
      go_wp2
      go_roundw
      case rel => exact ⟨j + 1, by omega, by go_num, hb.setCell (Nat.le_refl _) _, by simp [World.setCell, hz], HSET.out⟩
      case measure => simp [intOf]; omega
    · obtain rfl : j = 64 := by omega
      rw [List.take_of_length_le (by omega), List.drop_of_length_le (by omega), List.append_nil] at hB
      rw [show ((64 : Nat) : Int) = 64 from rfl]
      clear hg1 hb1 hz1
      go_wp2_with fail
      refine (start_any wr).mono ?_
      rintro e w2 ⟨rfl, hst, hb2⟩
      have hB2 := hB.same (same_below hb2) hB.lt
      have hst2 := isSt_start hst
      have hb02 := hb.trans (hb2.mono hb.size)
      have hz2 := hst.lt
      rw [hz] at hst2 hz2 ⊢
      have HST := Lib.hid hst2
      have HB2 := Lib.hid hB2
      have HZ := Lib.hid hz
      clear hst hB hB2 hst2 hb2 hb hz
      go_wp2_with fail
      have hkl : (keyed bs x).length = 64 := by rw [keyed_length, hl]
      have hby := Blk.byts HB2.out (by rw [hkl]; simp [maxLen])
      rw [hkl] at hby
      have hp := parts_one w2 _ 32 _ _ hby (by rintro i rfl; omega)
      have hst3 := HST.out.grown (grown_below ((Below.refl w2.heap.size w2).alloc (Nat.le_refl _) (.cells #[.slice (some ⟨w.heap.size, 0, none⟩) 64 64] 32)) none) (by simp)
      have hb3 : Below w.heap.size w (w2.alloc (.cells #[.slice (some ⟨w.heap.size, 0, none⟩) 64 64] 32)) := hb02.alloc hb02.size _
      have hz3 : (w2.alloc (.cells #[.slice (some ⟨w.heap.size, 0, none⟩) 64 64] 32)).heap.size = w2.heap.size + 1 := World.size_alloc ..
      generalize w2.alloc (.cells #[.slice (some ⟨w.heap.size, 0, none⟩) 64 64] 32) = w3 at *
      have htG := ht.1
      refine (add_any (w.heap.size + 1) [] _ [keyed bs x] _ w3 hst3 hp (by rintro i (rfl | rfl) <;> omega) (ht.below hb3 htG) (by omega)).mono ?_
      rintro e w4 ⟨rfl, hst4, hg4⟩
      have hfl : [] ++ [keyed bs x].flatten = keyed bs x := by simp
      rw [hfl, hkl] at hst4
      have hb4 : Below w.heap.size w w4 := below_grown hb3 hg4 (by omega)
      clear hp hst3 hb3 hg4 hfl hby HST HB2 hz3 hkl
      go_wp2
      go_ret
      exact ⟨_, rfl, hst4, by omega, hb4⟩

theorem zero51 : (Tryz.prog.info? 205).map (·.zero) = some (some (.agg ((row8 64).map cell8).toArray)) := by kernel_rfl
theorem alloc51 (w : World) : (Instr.alloc 205 true (.tuple #[])).run Tryz.prog w = .ok (.pointer (some ⟨w.heap.size, 0, none⟩)) (w.alloc (.cells ((row8 64).map cell8).toArray 205)) :=
  run_alloc_zero (z := .agg ((row8 64).map cell8).toArray) zero51 rfl w
theorem block_length (key : List UInt8) : (block key).length = 64 := by
  unfold block
  by_cases h : key.length ≤ 64
  · simp [h]
  · simp [h, sha_length]
theorem arr64_size (l : List UInt8) (h : l.length = 64) : (Tryz.prog.info? 205).map (·.size) = some (l.map cell8).toArray.size := by
  rw [show (l.map cell8).toArray.size = 64 from by simp [h]]; kernel_rfl

set_option maxRecDepth 100000 in
set_option maxHeartbeats 1000000 in
theorem blockOf_any (v : Value) (key : List UInt8) (S : Nat → Prop) (w : World) (hk : Byts w S v key) (hS : ∀ i, S i → i < w.heap.size) (ht : Tab w) :
    Calls Tryz.prog 120 #[v] w fun e w' => e = .returned (.agg ((block key).map cell8).toArray) ∧ Below w.heap.size w w' := by
  obtain ⟨A, c, rfl, hnc, hm, hrow⟩ := hk.row
  have hb1 : Below w.heap.size w ((w.alloc (.cells ((row8 64).map cell8).toArray 205)).alloc (.cells ((row8 64).map cell8).toArray 205)) := ((Below.refl _ _).alloc (Nat.le_refl _) _).alloc (by simp) _
  have hg0 : Blk ((w.alloc (.cells ((row8 64).map cell8).toArray 205)).alloc (.cells ((row8 64).map cell8).toArray 205)) w.heap.size 205 ((row8 64).map cell8).toArray := (Blk.new w _ _).alloc _
  have hg1 : Blk ((w.alloc (.cells ((row8 64).map cell8).toArray 205)).alloc (.cells ((row8 64).map cell8).toArray 205)) (w.heap.size + 1) 205 ((row8 64).map cell8).toArray := by
    have := Blk.new (w.alloc (.cells ((row8 64).map cell8).toArray 205)) 205 ((row8 64).map cell8).toArray
    rwa [World.size_alloc] at this
  have hz1 : ((w.alloc (.cells ((row8 64).map cell8).toArray 205)).alloc (.cells ((row8 64).map cell8).toArray 205)).heap.size = w.heap.size + 2 := by simp
  unfold maxLen at hm
  obtain ⟨W2, hW2⟩ : ∃ W2, W2 = (w.alloc (.cells ((row8 64).map cell8).toArray 205)).alloc (.cells ((row8 64).map cell8).toArray 205) := ⟨_, rfl⟩
  rw [← hW2] at hb1 hg0 hg1 hz1
  obtain ⟨cur, hcur⟩ : ∃ cur, cur = (row8 64).map cell8 := ⟨_, rfl⟩
  have hcl : cur.length = 64 := by rw [hcur]; simp [row8]
  have hgc : W2.heap[w.heap.size + 1]? = some (.cells cur.toArray 205 (0, 0)) := by rw [hcur]; exact hg1
  have hsz := arr64_size (block key) (block_length key)
  have hrs := row_size (block key) 64 (block_length key)
  have hkb2 : Byts W2 S (.slice A key.length c) key := hk.same ((same_below hb1).sub hS)
  have HW2 := Lib.hid hW2
  have HG0 := Lib.hid hg0
  have HGC := Lib.hid hgc
  have HZ1 := Lib.hid hz1
  have HCL := Lib.hid hcl
  have HCUR := Lib.hid hcur
  have HSZ := Lib.hid hsz
  have HRS := Lib.hid hrs
  clear hW2 hg0 hg1 hgc hz1 hcl hrow hsz hrs
  by_cases h64 : key.length ≤ 64
  · have hbk : block key = key ++ row8 (64 - key.length) := by simp [block, h64, row8]
    have hspl : splice cur 0 (key.map cell8) = (block key).map cell8 := by
      rw [hbk, hcur, List.map_append]
      unfold splice row8
      rw [List.take_zero, List.nil_append, Nat.zero_add, List.length_map, ← List.map_drop, List.drop_replicate]
    have hf : 0 + key.length ≤ cur.length := by rw [HCL.out]; omega
    have h3 : (W2.setRow (w.heap.size + 1) (splice cur 0 (key.map cell8)).toArray).heap[w.heap.size + 1]? = some (.cells ((block key).map cell8).toArray 205 (0, 0)) := by
      rw [← hspl]; exact setRow_heap _ _ _ _ _ _ HGC.out
    have h30 : (W2.setRow (w.heap.size + 1) (splice cur 0 (key.map cell8)).toArray).heap[w.heap.size]? = some (.cells ((row8 64).map cell8).toArray 205 (0, 0)) :=
      (setRow_other W2 _ _ _ (by omega)).trans HG0.out
    have hfin : Below w.heap.size w ((W2.setRow (w.heap.size + 1) (splice cur 0 (key.map cell8)).toArray).setRow w.heap.size ((block key).map cell8).toArray) := below_setRow (below_setRow hb1 (by omega) _) (Nat.le_refl _) _
    obtain ⟨bk, hbk'⟩ : ∃ bk, bk = block key := ⟨_, rfl⟩
    rw [← hbk'] at h3 hfin HSZ HRS
    have HKB := Lib.hid hkb2
    have HF := Lib.hid hf
    have H3 := Lib.hid h3
    have H30 := Lib.hid h30
    have HFIN := Lib.hid hfin
    have HBK := Lib.hid hbk'
    clear hspl hf hbk hcur hkb2 h3 h30 hfin hbk'
    go_enter Tryz.func120, Tryz.ntmps120
    go_wp2_with (first | (with_reducible refine wpList_alloc_as rfl 205 rfl _ alloc51 ?_) | fail)
    rw [← HW2.out, run_copy_byts W2 _ _ _ 5 Tryz.underlying32 (by kernel_rfl) (w.heap.size + 1) 0 64 64 A key.length c cur 205 HGC.out S key HKB.out h64 HF.out]
    go_simp
    go_wp2_with (first | (with_reducible refine wpList_load_row rfl 205 (.tmp 3) rfl (w.heap.size + 1) rfl _ _ _ _ H3.out Tryz.underlying205 rfl HSZ.out ?_) | (with_reducible refine wpList_store_row rfl 205 (.tmp 2) (.tmp 11) rfl w.heap.size _ rfl rfl _ _ H30.out HSZ.out HRS.out (all_cell8 bk) ?_) | fail)
    refine bodyPost_ret (results_cell_row rfl _ _ w.heap.size _ _ _ _ rfl (setRow_heap _ _ _ _ _ _ H30.out) Tryz.underlying205 rfl HSZ.out) rfl ⟨by rw [HBK.out], ?_⟩
    exact HFIN.out
  · have hbk : block key = sha256 key ++ row8 32 := by
      unfold block row8
      rw [if_neg h64]
      dsimp only
      rw [sha_length]
    have hslen := sha_length key
    obtain ⟨ss, hss⟩ : ∃ ss, ss = sha256 key := ⟨_, rfl⟩
    rw [← hss] at hbk hslen
    obtain ⟨bk, hbk'⟩ : ∃ bk, bk = block key := ⟨_, rfl⟩
    rw [← hbk'] at hbk HSZ HRS
    have hspl : splice cur 0 (ss.map cell8) = bk.map cell8 := by
      rw [hbk, hcur, List.map_append]
      unfold splice row8
      rw [List.take_zero, List.nil_append, Nat.zero_add, List.length_map, ← List.map_drop, List.drop_replicate, hslen]
    have hp := parts_one W2 S 32 _ key hkb2 (fun i hi => by have := hS i hi; have := hb1.size; omega)
    have hp' : Parts (W2.alloc (.cells #[.slice A key.length c] 32)) (fun k => S k ∨ k = W2.heap.size) (.slice (some ⟨w.heap.size + 1 + 1, 0, none⟩) 1 1) [key] := by rw [HZ1.out] at hp ⊢; exact hp
    have hbp : Below w.heap.size w (W2.alloc (.cells #[.slice A key.length c] 32)) := hb1.alloc hb1.size _
    have hg0p := HG0.out.alloc (.cells #[.slice A key.length c] 32)
    have hgcp : Blk (W2.alloc (.cells #[.slice A key.length c] 32)) (w.heap.size + 1) 205 cur.toArray := Blk.alloc (show Blk W2 _ _ _ from HGC.out) _
    have hzp : (W2.alloc (.cells #[.slice A key.length c] 32)).heap.size = w.heap.size + 3 := by rw [World.size_alloc, HZ1.out]
    have HP := Lib.hid hp'
    have HBP := Lib.hid hbp
    have HG0P := Lib.hid hg0p
    have HGCP := Lib.hid hgcp
    have HZP := Lib.hid hzp
    have HSP := Lib.hid hspl
    have HSS := Lib.hid hss
    have HBK := Lib.hid hbk'
    have HSL := Lib.hid hslen
    have HZ := HZ1.out
    clear hspl hss hbk hbk' hslen hp hp' hbp hg0p hgcp hzp hcur hkb2 hb1
    go_enter Tryz.func120, Tryz.ntmps120
    go_wp2_with (first | (with_reducible refine wpList_alloc_as rfl 205 rfl _ alloc51 ?_) | fail)
    rw [← HW2.out]
    have hp := HP.out
    have hbp := HBP.out
    have hg0p := HG0P.out
    have hgcp := HGCP.out
    have hzp := HZP.out
    generalize W2.alloc (.cells #[.slice A key.length c] 32) = W3 at *
    have htG := ht.1
    refine (sha_any _ [key] _ W3 hp (by rintro i (hi | rfl) <;> first | (have := hS i hi; omega) | omega) (ht.below hbp htG)).mono ?_
    rintro e W4 ⟨rfl, hb4⟩
    have hfl : [key].flatten = key := by simp
    rw [hfl, ← HSS.out]
    have hz4 := hb4.size
    have hbw4 : Below w.heap.size w W4 := hbp.trans (hb4.mono (by omega))
    have hg04 := hg0p.same (same_below hb4) hg0p.lt
    have hgc4 := hgcp.same (same_below hb4) hgcp.lt
    have hnew : (W4.alloc (.cells ((row8 32).map cell8).toArray 176)).heap[W4.heap.size]? = some (.cells ((row8 32).map cell8).toArray 176 (0, 0)) := heap_alloc_new W4 _
    have hss32 := sum_size ss HSL.out
    have hrs32 := row_size ss 32 HSL.out
    obtain ⟨W5, hW5⟩ : ∃ W5, W5 = (W4.alloc (.cells ((row8 32).map cell8).toArray 176)).setRow W4.heap.size (ss.map cell8).toArray := ⟨_, rfl⟩
    have hb5 : Below w.heap.size w W5 := by rw [hW5]; exact below_setRow (hbw4.alloc hbw4.size _) hbw4.size _
    have h55 : Blk W5 W4.heap.size 176 (ss.map cell8).toArray := by rw [hW5]; exact setRow_heap _ _ _ _ _ _ hnew
    have h50 : Blk W5 w.heap.size 205 ((row8 64).map cell8).toArray := by rw [hW5]; exact (setRow_other _ _ _ _ (by omega)).trans (hg04.alloc _)
    have h51 : Blk W5 (w.heap.size + 1) 205 cur.toArray := by rw [hW5]; exact (setRow_other _ _ _ _ (by omega)).trans (hgc4.alloc _)
    have HNEW := Lib.hid hnew
    have HS32 := Lib.hid hss32
    have HR32 := Lib.hid hrs32
    have HW5 := Lib.hid hW5
    clear hp hg0p hgcp hfl hg04 hgc4 hnew hss32 hrs32 hW5 HP HBP HG0P HGCP HZP
    go_wp2_with (first | (with_reducible refine wpList_alloc_as rfl 176 rfl _ alloc24 ?_) | (with_reducible refine wpList_store_row rfl 176 (.tmp 4) (.tmp 14) rfl _ _ rfl rfl _ _ HNEW.out HS32.out HR32.out (all_cell8 ss) ?_) | fail)
    rw [← HW5.out]
    go_simp
    have hby := Blk.byts h55 (by rw [HSL.out]; simp [maxLen])
    rw [HSL.out] at hby
    have h51d : W5.drew.heap[w.heap.size + 1]? = some (.cells cur.toArray 205 (0, 0)) := h51
    have hbyd : Byts W5.drew (fun k => k = W4.heap.size) (.slice (some ⟨W4.heap.size, 0, none⟩) 32 32) ss := hby
    have HBY := Lib.hid hbyd
    have H51 := Lib.hid h51d
    clear hby h51 h51d hbyd
    go_region_law (refine step_copy_byts rfl (.tmp 15) (.tmp 16) _ _ rfl 5 Tryz.underlying32 (by kernel_rfl) (w.heap.size + 1) 0 64 64 (some ⟨W4.heap.size, 0, none⟩) 32 32 rfl rfl cur 205 H51.out _ ss HBY.out (by omega) (by rw [HCL.out]; omega) ?_)
    have h61 : (W5.drew.setRow (w.heap.size + 1) (splice cur 0 (ss.map cell8)).toArray).heap[w.heap.size + 1]? = some (.cells (bk.map cell8).toArray 205 (0, 0)) := by
      rw [← HSP.out]; exact setRow_heap _ _ _ _ _ _ H51.out
    have h60 : (W5.drew.setRow (w.heap.size + 1) (splice cur 0 (ss.map cell8)).toArray).heap[w.heap.size]? = some (.cells ((row8 64).map cell8).toArray 205 (0, 0)) :=
      (setRow_other _ _ _ _ (by omega)).trans h50
    have hb6 : Below w.heap.size w (W5.drew.setRow (w.heap.size + 1) (splice cur 0 (ss.map cell8)).toArray) := below_setRow hb5.drew (by omega) _
    generalize W5.drew.setRow (w.heap.size + 1) (splice cur 0 (ss.map cell8)).toArray = W6 at *
    have H61 := Lib.hid h61
    have H60 := Lib.hid h60
    clear h61 h60 h55 h50 HNEW HS32 HR32 HW5 HBY H51
    go_wp2_with (first | (with_reducible refine wpList_load_row rfl 205 (.tmp 3) rfl (w.heap.size + 1) rfl _ _ _ _ H61.out Tryz.underlying205 rfl HSZ.out ?_) | (with_reducible refine wpList_store_row rfl 205 (.tmp 2) (.tmp 18) rfl w.heap.size _ rfl rfl _ _ H60.out HSZ.out HRS.out (all_cell8 bk) ?_) | fail)
    refine bodyPost_ret (results_cell_row rfl _ _ w.heap.size _ _ _ _ rfl (setRow_heap _ _ _ _ _ _ H60.out) Tryz.underlying205 rfl HSZ.out) rfl ⟨by rw [HBK.out], ?_⟩
    exact below_setRow hb6 (Nat.le_refl _) _

set_option maxRecDepth 100000 in
set_option maxHeartbeats 2000000 in
theorem hmac_any (v0 v1 : Value) (key : List UInt8) (ls : List (List UInt8)) (S T : Nat → Prop) (w : World) (hk : Byts w S v0 key) (hp : Parts w T v1 ls) (hS : ∀ i, S i → i < w.heap.size) (hT : ∀ i, T i → i < w.heap.size) (ht : Tab w) :
    Calls Tryz.prog 96 #[v0, v1] w fun e w' => e = .returned (.agg ((hmac key ls.flatten).map cell8).toArray) ∧ Below w.heap.size w w' := by
  have htG := ht.1
  have hb1 : Below w.heap.size w (w.alloc (.cells ((row8 32).map cell8).toArray 176)) := (Below.refl _ _).alloc (Nat.le_refl _) _
  have hg1 : Blk (w.alloc (.cells ((row8 32).map cell8).toArray 176)) w.heap.size 176 ((row8 32).map cell8).toArray := Blk.new w _ _
  have hz1 : (w.alloc (.cells ((row8 32).map cell8).toArray 176)).heap.size = w.heap.size + 1 := World.size_alloc ..
  have HB1 := Lib.hid hb1
  have HG1 := Lib.hid hg1
  have HZ1 := Lib.hid hz1
  clear hb1 hg1 hz1
  go_enter Tryz.func96, Tryz.ntmps96
  go_wp2_with (first | (with_reducible refine wpList_alloc_as rfl 176 rfl _ alloc24 ?_) | fail)
  have hb1 := HB1.out
  have hg1 := HG1.out
  have hz1 := HZ1.out
  generalize w.alloc (.cells ((row8 32).map cell8).toArray 176) = w1 at *
  clear HB1 HG1 HZ1
  refine (blockOf_any v0 key S w1 (hk.same ((same_below hb1).sub hS)) (fun i hi => by have := hS i hi; omega) (ht.below hb1 htG)).mono ?_
  rintro e w2 ⟨rfl, hb2⟩
  have hbl := block_length key
  obtain ⟨bk, hbk⟩ : ∃ bk, bk = block key := ⟨_, rfl⟩
  rw [← hbk] at hbl ⊢
  have hsz := arr64_size bk hbl
  have hrs := row_size bk 64 hbl
  have hnew : (w2.alloc (.cells ((row8 64).map cell8).toArray 205)).heap[w2.heap.size]? = some (.cells ((row8 64).map cell8).toArray 205 (0, 0)) := heap_alloc_new w2 _
  obtain ⟨w3, hw3⟩ : ∃ w3, w3 = (w2.alloc (.cells ((row8 64).map cell8).toArray 205)).setRow w2.heap.size (bk.map cell8).toArray := ⟨_, rfl⟩
  have hz2 := hb2.size
  have hbw2 : Below w.heap.size w w2 := hb1.trans (hb2.mono (by omega))
  have hbw3 : Below w.heap.size w w3 := by rw [hw3]; exact below_setRow (hbw2.alloc hbw2.size _) hbw2.size _
  have hg3 : Blk w3 w.heap.size 176 ((row8 32).map cell8).toArray := by
    rw [hw3]; exact (setRow_other _ _ _ _ (by omega)).trans ((hg1.same (same_below hb2) hg1.lt).alloc _)
  have hk3 : Blk w3 w2.heap.size 205 (bk.map cell8).toArray := by rw [hw3]; exact setRow_heap _ _ _ _ _ _ hnew
  have hz3 : w3.heap.size = w2.heap.size + 1 := by rw [hw3]; simp [World.setRow]
  have HN := Lib.hid hnew
  have HSZ := Lib.hid hsz
  have HRS := Lib.hid hrs
  have HW3 := Lib.hid hw3
  have HBK := Lib.hid hbk
  have HK3 := Lib.hid hk3
  have HG3 := Lib.hid hg3
  have hk3' : w3.heap[w2.heap.size]? = some (.cells (bk.map cell8).toArray 205 (0, 0)) := hk3
  rw [hw3] at hk3'
  have HK3' := Lib.hid hk3'
  clear hnew hsz hrs hw3 hbk hk3 hg3 hk3' hg1 hb2 hb1 hz1 hk
  go_wp2_with (first | (with_reducible refine wpList_alloc_as rfl 205 rfl _ alloc51 ?_) | (with_reducible refine wpList_store_row rfl 205 (.tmp 5) (.tmp 10) rfl _ _ rfl rfl _ _ HN.out HSZ.out HRS.out (all_cell8 bk) ?_) | (with_reducible refine wpList_load_row rfl 205 (.tmp 5) rfl w2.heap.size rfl _ _ _ _ HK3'.out Tryz.underlying205 rfl HSZ.out ?_) | fail)
  rw [← HW3.out]
  have hlt1 : w.heap.size < w3.heap.size := by have := hbw2.size; omega
  have hkl : ∀ x, (keyed bk x).length = 64 := fun x => by rw [keyed_length, hbl]
  refine (keyed_any bk 54 w3 hbl (ht.below hbw3 htG)).mono ?_
  rintro e w4 ⟨b, rfl, hst4, hbg, hb4⟩
  have hbw4 : Below w.heap.size w w4 := hbw3.trans (hb4.mono hbw3.size)
  have hp4 := hp.same ((same_below hbw4).sub hT)
  have hst4' : IsSt w4 b (keyed bk 54) ((keyed bk 54).length % 18446744073709551616) := by rw [hkl]; exact hst4
  have hk4 := HK3.out.same (same_below hb4) HK3.out.lt
  have hg4 := HG3.out.same (same_below hb4) HG3.out.lt
  have hblt : b < w4.heap.size := by obtain ⟨_, _, _, h⟩ := hst4; exact h.lt
  have hz4 := hb4.size
  have HP4 := Lib.hid hp4
  have HST4 := Lib.hid hst4'
  have HK4 := Lib.hid hk4
  have HG4 := Lib.hid hg4
  have HKL := Lib.hid hkl
  clear hp4 hst4 hst4' hk4 hg4 hkl HK3 HK3' HG3 HW3 HN hb4
  go_wp2_with fail
  refine (add_any b (keyed bk 54) v1 ls T w4 HST4.out HP4.out (fun i hi => by have := hT i hi; have := hbw3.size; omega) (ht.below hbw4 htG) (by have := hbw3.size; omega)).mono ?_
  rintro e w5 ⟨rfl, hst5, hg5⟩
  have hbw5 : Below w.heap.size w w5 := below_grown hbw4 hg5 (by have := hbw3.size; omega)
  have hk5 := HK4.out.same (same_grown hg5) ⟨HK4.out.lt, fun e => by have := Option.some.inj e; omega⟩
  have hg5' := HG4.out.same (same_grown hg5) ⟨HG4.out.lt, fun e => by have := Option.some.inj e; have := hbw3.size; omega⟩
  have hz5 := hg5.size
  have HST5 := Lib.hid hst5
  have HK5 := Lib.hid hk5
  have HG5 := Lib.hid hg5'
  clear hst5 hk5 hg5' hg5 HP4 HST4 HK4 HG4
  go_wp2_with fail
  refine (end_any b (keyed bk 54 ++ ls.flatten) w5 HST5.out (ht.below hbw5 htG) (by have := hbw3.size; omega)).mono ?_
  rintro e w6 ⟨rfl, hg6⟩
  have hbw6 : Below w.heap.size w w6 := below_grown hbw5 hg6 (by have := hbw3.size; omega)
  have hk6 := HK5.out.same (same_grown hg6) ⟨HK5.out.lt, fun e => by have := Option.some.inj e; omega⟩
  have hg6' := HG5.out.same (same_grown hg6) ⟨HG5.out.lt, fun e => by have := Option.some.inj e; have := hbw3.size; omega⟩
  have hz6 := hg6.size
  obtain ⟨h1, hh1⟩ : ∃ h1, h1 = sha256 (keyed bk 54 ++ ls.flatten) := ⟨_, rfl⟩
  have hl1 : h1.length = 32 := by rw [hh1]; exact sha_length _
  rw [← hh1]
  have hs1 := sum_size h1 hl1
  have hr1 := row_size h1 32 hl1
  have hnew : (w6.alloc (.cells ((row8 32).map cell8).toArray 176)).heap[w6.heap.size]? = some (.cells ((row8 32).map cell8).toArray 176 (0, 0)) := heap_alloc_new w6 _
  obtain ⟨w7, hw7⟩ : ∃ w7, w7 = (w6.alloc (.cells ((row8 32).map cell8).toArray 176)).setRow w6.heap.size (h1.map cell8).toArray := ⟨_, rfl⟩
  have hbw7 : Below w.heap.size w w7 := by rw [hw7]; exact below_setRow (hbw6.alloc hbw6.size _) hbw6.size _
  have hz7 : w7.heap.size = w6.heap.size + 1 := by rw [hw7]; simp [World.setRow]
  have hh7 : Blk w7 w6.heap.size 176 (h1.map cell8).toArray := by rw [hw7]; exact setRow_heap _ _ _ _ _ _ hnew
  have hk7 : w7.heap[w2.heap.size]? = some (.cells (bk.map cell8).toArray 205 (0, 0)) := by rw [hw7]; exact (setRow_other _ _ _ _ (by omega)).trans (hk6.alloc _)
  have hg7 : Blk w7 w.heap.size 176 ((row8 32).map cell8).toArray := by rw [hw7]; exact (setRow_other _ _ _ _ (by have := hbw3.size; omega)).trans (hg6'.alloc _)
  have hk7' := hk7
  rw [hw7] at hk7'
  have HNEW := Lib.hid hnew
  have HS1 := Lib.hid hs1
  have HR1 := Lib.hid hr1
  have HW7 := Lib.hid hw7
  have HH7 := Lib.hid hh7
  have HK7 := Lib.hid hk7'
  have HG7 := Lib.hid hg7
  have HH1 := Lib.hid hh1
  have HL1 := Lib.hid hl1
  clear hnew hs1 hr1 hw7 hh7 hk7 hk7' hg7 hh1 hl1 hk6 hg6' hg6 HST5 HK5 HG5
  go_wp2_with (first | (with_reducible refine wpList_alloc_as rfl 176 rfl _ alloc24 ?_) | (with_reducible refine wpList_store_row rfl 176 (.tmp 7) (.tmp 17) rfl _ _ rfl rfl _ _ HNEW.out HS1.out HR1.out (all_cell8 h1) ?_) | (with_reducible refine wpList_load_row rfl 205 (.tmp 5) rfl w2.heap.size rfl _ _ _ _ HK7.out Tryz.underlying205 rfl HSZ.out ?_) | fail)
  rw [← HW7.out]
  refine (keyed_any bk 92 w7 hbl (ht.below hbw7 htG)).mono ?_
  rintro e w8 ⟨b2, rfl, hst8, hbg2, hb8⟩
  have hbw8 : Below w.heap.size w w8 := hbw7.trans (hb8.mono hbw7.size)
  have hh8 := HH7.out.same (same_below hb8) HH7.out.lt
  have hg8 := HG7.out.same (same_below hb8) HG7.out.lt
  have hblt2 : b2 < w8.heap.size := by obtain ⟨_, _, _, h⟩ := hst8; exact h.lt
  have hby := Blk.byts hh8 (by rw [HL1.out]; simp [maxLen])
  rw [HL1.out] at hby
  have hp9 := parts_one w8 _ 32 _ h1 hby (by rintro i rfl; have := hb8.size; omega)
  obtain ⟨w9, hw9⟩ : ∃ w9, w9 = w8.alloc (.cells #[.slice (some ⟨w6.heap.size, 0, none⟩) 32 32] 32) := ⟨_, rfl⟩
  have hst9 : IsSt w9 b2 (keyed bk 92) ((keyed bk 92).length % 18446744073709551616) := by
    rw [HKL.out, hw9]; exact hst8.grown (grown_below ((Below.refl _ _).alloc (Nat.le_refl _) _) none) (by simp)
  rw [← hw9] at hp9
  have hbw9 : Below w.heap.size w w9 := by rw [hw9]; exact hbw8.alloc hbw8.size _
  have hg9 : Blk w9 w.heap.size 176 ((row8 32).map cell8).toArray := by rw [hw9]; exact hg8.alloc _
  have hz9 : w9.heap.size = w8.heap.size + 1 := by rw [hw9]; simp
  have HP9 := Lib.hid hp9
  have HST9 := Lib.hid hst9
  have HG9 := Lib.hid hg9
  have HW9 := Lib.hid hw9
  clear hp9 hst9 hg9 hw9 hst8 hh8 hg8 hby HH7 HG7 HK7 HW7 HNEW
  go_wp2_with fail
  rw [← HW9.out]
  have hz8 := hb8.size
  refine (add_any b2 (keyed bk 92) _ [h1] _ w9 HST9.out HP9.out (by rintro i (rfl | rfl) <;> omega) (ht.below hbw9 htG) (by have := hbw7.size; omega)).mono ?_
  rintro e w10 ⟨rfl, hst10, hg10⟩
  have hbw10 : Below w.heap.size w w10 := below_grown hbw9 hg10 (by have := hbw7.size; omega)
  have hg10' := HG9.out.same (same_grown hg10) ⟨HG9.out.lt, fun e => by have := Option.some.inj e; have := hbw7.size; have := hbw6.size; omega⟩
  have hz10 := hg10.size
  have HST10 := Lib.hid hst10
  have HG10 := Lib.hid hg10'
  clear hst10 hg10' hg10 HP9 HST9 HG9 HW9
  go_wp2_with fail
  refine (end_any b2 (keyed bk 92 ++ [h1].flatten) w10 HST10.out (ht.below hbw10 htG) (by have := hbw7.size; omega)).mono ?_
  rintro e w11 ⟨rfl, hg11⟩
  have hbw11 : Below w.heap.size w w11 := below_grown hbw10 hg11 (by have := hbw7.size; omega)
  have hg11' : w11.heap[w.heap.size]? = some (.cells ((row8 32).map cell8).toArray 176 (0, 0)) := HG10.out.same (same_grown hg11) ⟨HG10.out.lt, fun e => by have := Option.some.inj e; have := hbw7.size; have := hbw6.size; omega⟩
  have hfin : sha256 (keyed bk 92 ++ [h1].flatten) = hmac key ls.flatten := by
    unfold hmac
    rw [← HBK.out, ← HH1.out]
    simp
  have hl2 := sha_length (keyed bk 92 ++ [h1].flatten)
  rw [hfin] at hl2 ⊢
  obtain ⟨h2, hh2⟩ : ∃ h2, h2 = hmac key ls.flatten := ⟨_, rfl⟩
  rw [← hh2] at hl2 ⊢
  have hs2 := sum_size h2 hl2
  have hr2 := row_size h2 32 hl2
  have HG11 := Lib.hid hg11'
  have HS2 := Lib.hid hs2
  have HR2 := Lib.hid hr2
  have HH2 := Lib.hid hh2
  clear hg11' hs2 hr2 hh2 hfin hl2 HST10 HG10
  go_wp2_with (first | (with_reducible refine wpList_store_row rfl 176 (.tmp 4) (.tmp 25) rfl _ _ rfl rfl _ _ HG11.out HS2.out HR2.out (all_cell8 h2) ?_) | fail)
  refine bodyPost_ret (results_cell_row rfl _ _ w.heap.size _ _ _ _ rfl (setRow_heap _ _ _ _ _ _ HG11.out) Tryz.underlying176 rfl HS2.out) rfl ⟨by rw [HH2.out], ?_⟩
  exact below_setRow hbw11 (Nat.le_refl _) _
end Go.Proofs.YtmhbmjagnihopaaGreatDoor.Sha
