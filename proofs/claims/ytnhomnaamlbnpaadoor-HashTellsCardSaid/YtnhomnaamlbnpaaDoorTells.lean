/- What every statement of layer 2 ends with: the chapter's rows. By an AI agent. -/
import Derived.Test.YtnhomnaamlbnpaaDoorHash
import Derived.Lib.SlBytesConst
namespace Go.Proofs.YtnhomnaamlbnpaaDoor.Sha
open Go.RowKit Go.Proofs.YtnhomnaamlbnpaaDoor.M
set_option linter.unusedVariables false

theorem known_a : sha256 [97, 98, 99] = [0xba, 0x78, 0x16, 0xbf, 0x8f, 0x01, 0xcf, 0xea, 0x41, 0x41, 0x40, 0xde, 0x5d, 0xae, 0x22, 0x23, 0xb0, 0x03, 0x61, 0xa3, 0x96, 0x17, 0x7a, 0x9c, 0xb4, 0x10, 0xff, 0x61, 0xf2, 0x00, 0x15, 0xad] := by decide +kernel
theorem known_b : hmac [74, 101, 102, 101] ([119, 104, 97, 116, 32, 100, 111, 32, 121, 97, 32, 119, 97, 110, 116, 32] ++ [102, 111, 114, 32, 110, 111, 116, 104, 105, 110, 103, 63]) = [0x5b, 0xdc, 0xc1, 0x46, 0xbf, 0x60, 0x75, 0x4e, 0x6a, 0x04, 0x24, 0x26, 0x08, 0x95, 0x75, 0xc7, 0x5a, 0x00, 0x3f, 0x08, 0x9d, 0x27, 0x39, 0x83, 0x9d, 0xec, 0x58, 0xb9, 0x64, 0xec, 0x38, 0x43] := by decide +kernel

theorem str_of {P : Program} (w : World) (g : Nat) (t : TypeId) (l : List UInt8) (h : Blk w g t (l.map cell8).toArray) (off n c : Nat) (m : List UInt8) (hm : (l.drop off).take n = m) (hn : m.length = n) (hnc : n ≤ c) (hmx : n ≤ maxLen) (src dst e : TypeId)
    (hs : P.underlying src = some (.slice e)) (he : P.underlying e = some (.int .u8)) (hd : P.underlying dst = some .string) : (convert src dst (.slice (some ⟨g, off, none⟩) n c)).run P w = .ok (.string ⟨m.toArray⟩) w := by
  refine conv_str (S := fun k => k = g) (l := m) ⟨_, n, c, rfl, hn, hnc, hmx, (fun h0 => by cases h0), ?_⟩ src dst e hs he hd
  intro ad h1 _
  cases h1
  refine ⟨rfl, fun j b hj => ?_⟩
  have hjl : j < n := by have := (List.getElem?_eq_some_iff.1 hj).1; omega
  rw [← hm, List.getElem?_take_of_lt hjl, List.getElem?_drop] at hj
  rw [Addr.add_lit, h.cell]
  simp [hj, cell8]

set_option maxRecDepth 100000 in
set_option maxHeartbeats 2000000 in
theorem tells_any (w : World) (ht : Tab w) :
    Calls Tryd.prog 40 #[] w fun e w' => e = .returned (.bool true) ∧ Below w.heap.size w w' := by
  have kc := fun (w : World) (C : Array Value) (n c : Nat) => Lib.run_convert_bytes_const (P := Tryd.prog) w 22 5 C n c Tryd.underlying22 Tryd.underlying5
  have htG := ht.1
  go_enter Tryd.func40, Tryd.ntmps40
  go_wp2_with fail
  have hp1 : Parts ((w.alloc (.cells #[.int .u8 97, .int .u8 98, .int .u8 99] 5 (3, 4))).alloc (.cells #[.slice (some ⟨w.heap.size, 0, none⟩) 3 3] 22)) (fun k => k = w.heap.size ∨ k = w.heap.size + 1) (.slice (some ⟨w.heap.size + 1, 0, none⟩) 1 1) [[97, 98, 99]] := by
    have h := parts_one (w.alloc (.cells #[.int .u8 97, .int .u8 98, .int .u8 99] 5 (3, 4))) _ 22 _ [97, 98, 99] (byts_new w #[.int .u8 97, .int .u8 98, .int .u8 99] 5 [97, 98, 99] 3 (by simp [maxLen]) rfl) (by rintro i rfl; simp)
    rw [World.size_alloc] at h
    exact h
  have hb1 : Below w.heap.size w ((w.alloc (.cells #[.int .u8 97, .int .u8 98, .int .u8 99] 5 (3, 4))).alloc (.cells #[.slice (some ⟨w.heap.size, 0, none⟩) 3 3] 22)) := ((Below.refl _ _).alloc (Nat.le_refl _) _).alloc (by simp) _
  have hz1 : ((w.alloc (.cells #[.int .u8 97, .int .u8 98, .int .u8 99] 5 (3, 4))).alloc (.cells #[.slice (some ⟨w.heap.size, 0, none⟩) 3 3] 22)).heap.size = w.heap.size + 2 := by simp
  generalize (w.alloc (.cells #[.int .u8 97, .int .u8 98, .int .u8 99] 5 (3, 4))).alloc (.cells #[.slice (some ⟨w.heap.size, 0, none⟩) 3 3] 22) = w1 at *
  refine (sha_any _ [[97, 98, 99]] _ w1 hp1 (by rintro i (rfl | rfl) <;> omega) (ht.below hb1 htG)).mono ?_
  rintro e w2 ⟨rfl, hb2⟩
  rw [show [[97, 98, 99]].flatten = ([97, 98, 99] : List UInt8) from rfl]
  obtain ⟨ha, hha⟩ : ∃ ha, ha = sha256 [97, 98, 99] := ⟨_, rfl⟩
  have hla : ha.length = 32 := by rw [hha]; exact sha_length _
  rw [← hha]
  have hbw2 : Below w.heap.size w w2 := hb1.trans (hb2.mono (by omega))
  have hz2 := hb2.size
  have hnew : (w2.alloc (.cells ((row8 32).map cell8).toArray 56)).heap[w2.heap.size]? = some (.cells ((row8 32).map cell8).toArray 56 (0, 0)) := heap_alloc_new w2 _
  have hsa := sum_size ha hla
  have hra := row_size ha 32 hla
  obtain ⟨w3, hw3⟩ : ∃ w3, w3 = (w2.alloc (.cells ((row8 32).map cell8).toArray 56)).setRow w2.heap.size (ha.map cell8).toArray := ⟨_, rfl⟩
  have hbw3 : Below w.heap.size w w3 := by rw [hw3]; exact below_setRow (hbw2.alloc hbw2.size _) hbw2.size _
  have hA3 : Blk w3 w2.heap.size 56 (ha.map cell8).toArray := by rw [hw3]; exact setRow_heap _ _ _ _ _ _ hnew
  have hz3 : w3.heap.size = w2.heap.size + 1 := by rw [hw3]; simp [World.setRow]
  have HN := Lib.hid hnew
  have HSA := Lib.hid hsa
  have HRA := Lib.hid hra
  have HW3 := Lib.hid hw3
  have HA3 := Lib.hid hA3
  have HHA := Lib.hid hha
  clear hnew hsa hra hw3 hA3 hha hp1
  go_wp2_with (first | (with_reducible refine wpList_alloc_as rfl 56 rfl _ alloc24 ?_) | (with_reducible refine wpList_store_row rfl 56 (.tmp 1) (.tmp 6) rfl _ _ rfl rfl _ _ HN.out HSA.out HRA.out (all_cell8 ha) ?_) | fail)
  rw [← HW3.out, ← hz3, kc w3]
  have HZ3 := Lib.hid hz3
  have hz3l : w2.heap.size < w3.heap.size := by omega
  clear hz3
  have kc1 := fun (A : Obj) (C : Array Value) (n c : Nat) => Lib.run_convert_bytes_const (P := Tryd.prog) (w3.alloc A) 22 5 C n c Tryd.underlying22 Tryd.underlying5
  have kc2 := fun (A B : Obj) (C : Array Value) (n c : Nat) => Lib.run_convert_bytes_const (P := Tryd.prog) ((w3.alloc A).alloc B) 22 5 C n c Tryd.underlying22 Tryd.underlying5
  simp only [World.size_alloc] at kc1 kc2
  go_simp
  go_wp2_with fail
  have hkb : Byts (w3.alloc (.cells #[.int .u8 74, .int .u8 101, .int .u8 102, .int .u8 101] 5 (4, 5))) (fun k => k = w3.heap.size) (.slice (some ⟨w3.heap.size, 0, none⟩) 4 4) [74, 101, 102, 101] := byts_new w3 #[.int .u8 74, .int .u8 101, .int .u8 102, .int .u8 101] 5 [74, 101, 102, 101] 4 (by simp [maxLen]) rfl
  have hp1b : Byts ((w3.alloc (.cells #[.int .u8 74, .int .u8 101, .int .u8 102, .int .u8 101] 5 (4, 5))).alloc (.cells #[.int .u8 119, .int .u8 104, .int .u8 97, .int .u8 116, .int .u8 32, .int .u8 100, .int .u8 111, .int .u8 32, .int .u8 121, .int .u8 97, .int .u8 32, .int .u8 119, .int .u8 97, .int .u8 110, .int .u8 116, .int .u8 32] 5 (16, 17))) (fun k => k = w3.heap.size + 1) (.slice (some ⟨w3.heap.size + 1, 0, none⟩) 16 16) [119, 104, 97, 116, 32, 100, 111, 32, 121, 97, 32, 119, 97, 110, 116, 32] := by
    have h := byts_new (fr := (16, 17)) (w3.alloc (.cells #[.int .u8 74, .int .u8 101, .int .u8 102, .int .u8 101] 5 (4, 5))) #[.int .u8 119, .int .u8 104, .int .u8 97, .int .u8 116, .int .u8 32, .int .u8 100, .int .u8 111, .int .u8 32, .int .u8 121, .int .u8 97, .int .u8 32, .int .u8 119, .int .u8 97, .int .u8 110, .int .u8 116, .int .u8 32] 5 [119, 104, 97, 116, 32, 100, 111, 32, 121, 97, 32, 119, 97, 110, 116, 32] 16 (by simp [maxLen]) rfl
    rw [World.size_alloc] at h
    exact h
  have hp2b : Byts (((w3.alloc (.cells #[.int .u8 74, .int .u8 101, .int .u8 102, .int .u8 101] 5 (4, 5))).alloc (.cells #[.int .u8 119, .int .u8 104, .int .u8 97, .int .u8 116, .int .u8 32, .int .u8 100, .int .u8 111, .int .u8 32, .int .u8 121, .int .u8 97, .int .u8 32, .int .u8 119, .int .u8 97, .int .u8 110, .int .u8 116, .int .u8 32] 5 (16, 17))).alloc (.cells #[.int .u8 102, .int .u8 111, .int .u8 114, .int .u8 32, .int .u8 110, .int .u8 111, .int .u8 116, .int .u8 104, .int .u8 105, .int .u8 110, .int .u8 103, .int .u8 63] 5 (12, 13))) (fun k => k = w3.heap.size + 1 + 1) (.slice (some ⟨w3.heap.size + 1 + 1, 0, none⟩) 12 12) [102, 111, 114, 32, 110, 111, 116, 104, 105, 110, 103, 63] := by
    have h := byts_new (fr := (12, 13)) ((w3.alloc (.cells #[.int .u8 74, .int .u8 101, .int .u8 102, .int .u8 101] 5 (4, 5))).alloc (.cells #[.int .u8 119, .int .u8 104, .int .u8 97, .int .u8 116, .int .u8 32, .int .u8 100, .int .u8 111, .int .u8 32, .int .u8 121, .int .u8 97, .int .u8 32, .int .u8 119, .int .u8 97, .int .u8 110, .int .u8 116, .int .u8 32] 5 (16, 17))) #[.int .u8 102, .int .u8 111, .int .u8 114, .int .u8 32, .int .u8 110, .int .u8 111, .int .u8 116, .int .u8 104, .int .u8 105, .int .u8 110, .int .u8 103, .int .u8 63] 5 [102, 111, 114, 32, 110, 111, 116, 104, 105, 110, 103, 63] 12 (by simp [maxLen]) rfl
    rw [World.size_alloc, World.size_alloc] at h
    exact h
  have hp1c := (hp1b.same ((same_alloc _ (.cells #[.int .u8 102, .int .u8 111, .int .u8 114, .int .u8 32, .int .u8 110, .int .u8 111, .int .u8 116, .int .u8 104, .int .u8 105, .int .u8 110, .int .u8 103, .int .u8 63] 5 (12, 13))).sub (by rintro i rfl; simp))).sub (T := fun k => k = w3.heap.size + 1 ∨ k = w3.heap.size + 1 + 1) (fun i hi => .inl hi)
  have hp2c := hp2b.sub (T := fun k => k = w3.heap.size + 1 ∨ k = w3.heap.size + 1 + 1) (fun i hi => .inr hi)
  have hpp := parts_two _ _ 22 _ _ _ _ hp1c hp2c (by rintro i (rfl | rfl) <;> simp)
  rw [World.size_alloc, World.size_alloc, World.size_alloc] at hpp
  have hkc := ((hkb.same ((same_alloc _ (.cells #[.int .u8 119, .int .u8 104, .int .u8 97, .int .u8 116, .int .u8 32, .int .u8 100, .int .u8 111, .int .u8 32, .int .u8 121, .int .u8 97, .int .u8 32, .int .u8 119, .int .u8 97, .int .u8 110, .int .u8 116, .int .u8 32] 5 (16, 17))).sub (by rintro i rfl; simp))).same ((same_alloc _ (.cells #[.int .u8 102, .int .u8 111, .int .u8 114, .int .u8 32, .int .u8 110, .int .u8 111, .int .u8 116, .int .u8 104, .int .u8 105, .int .u8 110, .int .u8 103, .int .u8 63] 5 (12, 13))).sub (by rintro i rfl; simp; omega))).same ((same_alloc _ (.cells #[.slice (some ⟨w3.heap.size + 1, 0, none⟩) 16 16, .slice (some ⟨w3.heap.size + 1 + 1, 0, none⟩) 12 12] 22)).sub (by rintro i rfl; simp; omega))
  have hb4 : Below w3.heap.size w3 ((((w3.alloc (.cells #[.int .u8 74, .int .u8 101, .int .u8 102, .int .u8 101] 5 (4, 5))).alloc (.cells #[.int .u8 119, .int .u8 104, .int .u8 97, .int .u8 116, .int .u8 32, .int .u8 100, .int .u8 111, .int .u8 32, .int .u8 121, .int .u8 97, .int .u8 32, .int .u8 119, .int .u8 97, .int .u8 110, .int .u8 116, .int .u8 32] 5 (16, 17))).alloc (.cells #[.int .u8 102, .int .u8 111, .int .u8 114, .int .u8 32, .int .u8 110, .int .u8 111, .int .u8 116, .int .u8 104, .int .u8 105, .int .u8 110, .int .u8 103, .int .u8 63] 5 (12, 13))).alloc (.cells #[.slice (some ⟨w3.heap.size + 1, 0, none⟩) 16 16, .slice (some ⟨w3.heap.size + 1 + 1, 0, none⟩) 12 12] 22)) :=
    ((((Below.refl _ _).alloc (Nat.le_refl _) _).alloc (by simp) _).alloc (by simp; omega) _).alloc (by simp; omega) _
  have hz4 : ((((w3.alloc (.cells #[.int .u8 74, .int .u8 101, .int .u8 102, .int .u8 101] 5 (4, 5))).alloc (.cells #[.int .u8 119, .int .u8 104, .int .u8 97, .int .u8 116, .int .u8 32, .int .u8 100, .int .u8 111, .int .u8 32, .int .u8 121, .int .u8 97, .int .u8 32, .int .u8 119, .int .u8 97, .int .u8 110, .int .u8 116, .int .u8 32] 5 (16, 17))).alloc (.cells #[.int .u8 102, .int .u8 111, .int .u8 114, .int .u8 32, .int .u8 110, .int .u8 111, .int .u8 116, .int .u8 104, .int .u8 105, .int .u8 110, .int .u8 103, .int .u8 63] 5 (12, 13))).alloc (.cells #[.slice (some ⟨w3.heap.size + 1, 0, none⟩) 16 16, .slice (some ⟨w3.heap.size + 1 + 1, 0, none⟩) 12 12] 22)).heap.size = w3.heap.size + 4 := by simp
  generalize (((w3.alloc (.cells #[.int .u8 74, .int .u8 101, .int .u8 102, .int .u8 101] 5 (4, 5))).alloc (.cells #[.int .u8 119, .int .u8 104, .int .u8 97, .int .u8 116, .int .u8 32, .int .u8 100, .int .u8 111, .int .u8 32, .int .u8 121, .int .u8 97, .int .u8 32, .int .u8 119, .int .u8 97, .int .u8 110, .int .u8 116, .int .u8 32] 5 (16, 17))).alloc (.cells #[.int .u8 102, .int .u8 111, .int .u8 114, .int .u8 32, .int .u8 110, .int .u8 111, .int .u8 116, .int .u8 104, .int .u8 105, .int .u8 110, .int .u8 103, .int .u8 63] 5 (12, 13))).alloc (.cells #[.slice (some ⟨w3.heap.size + 1, 0, none⟩) 16 16, .slice (some ⟨w3.heap.size + 1 + 1, 0, none⟩) 12 12] 22) = w4 at *
  clear hkb hp1b hp2b hp1c hp2c
  have hbw4 : Below w.heap.size w w4 := hbw3.trans (hb4.mono hbw3.size)
  have hA4 := HA3.out.same (same_below hb4) HA3.out.lt
  refine (hmac_any _ _ [74, 101, 102, 101] [[119, 104, 97, 116, 32, 100, 111, 32, 121, 97, 32, 119, 97, 110, 116, 32], [102, 111, 114, 32, 110, 111, 116, 104, 105, 110, 103, 63]] _ _ w4 hkc hpp (by rintro i rfl; omega) (by rintro i ((rfl | rfl) | rfl) <;> omega) (ht.below hbw4 htG)).mono ?_
  rintro e w5 ⟨rfl, hb5⟩
  have hfl : [[119, 104, 97, 116, 32, 100, 111, 32, 121, 97, 32, 119, 97, 110, 116, 32], [102, 111, 114, 32, 110, 111, 116, 104, 105, 110, 103, 63]].flatten = ([119, 104, 97, 116, 32, 100, 111, 32, 121, 97, 32, 119, 97, 110, 116, 32] ++ [102, 111, 114, 32, 110, 111, 116, 104, 105, 110, 103, 63] : List UInt8) := rfl
  rw [hfl]
  obtain ⟨hb, hhb⟩ : ∃ hb, hb = hmac [74, 101, 102, 101] ([119, 104, 97, 116, 32, 100, 111, 32, 121, 97, 32, 119, 97, 110, 116, 32] ++ [102, 111, 114, 32, 110, 111, 116, 104, 105, 110, 103, 63]) := ⟨_, rfl⟩
  have hlb : hb.length = 32 := by rw [hhb]; exact sha_length _
  rw [← hhb]
  have hbw5 : Below w.heap.size w w5 := hbw4.trans (hb5.mono hbw4.size)
  have hA5 := hA4.same (same_below hb5) hA4.lt
  have hz5 := hb5.size
  have hnew5 : (w5.alloc (.cells ((row8 32).map cell8).toArray 56)).heap[w5.heap.size]? = some (.cells ((row8 32).map cell8).toArray 56 (0, 0)) := heap_alloc_new w5 _
  have hsb := sum_size hb hlb
  have hrb := row_size hb 32 hlb
  have hA6 : Blk ((w5.alloc (.cells ((row8 32).map cell8).toArray 56)).setRow w5.heap.size (hb.map cell8).toArray) w2.heap.size 56 (ha.map cell8).toArray := (setRow_other _ _ _ _ (by omega)).trans (hA5.alloc _)
  have hB6 : Blk ((w5.alloc (.cells ((row8 32).map cell8).toArray 56)).setRow w5.heap.size (hb.map cell8).toArray) w5.heap.size 56 (hb.map cell8).toArray := setRow_heap _ _ _ _ _ _ hnew5
  have hfin : Below w.heap.size w ((w5.alloc (.cells ((row8 32).map cell8).toArray 56)).setRow w5.heap.size (hb.map cell8).toArray) := below_setRow (hbw5.alloc hbw5.size _) hbw5.size _
  have hca := HHA.out.trans known_a
  have hcb := hhb.trans known_b
  have k1 := str_of _ _ _ _ hA6 0 4 32 [186, 120, 22, 191] (by rw [hca]; rfl) rfl (by omega) (by simp [maxLen]) 22 9 5 Tryd.underlying22 Tryd.underlying5 Tryd.underlying9
  have k2 := str_of _ _ _ _ hA6 28 4 4 [242, 0, 21, 173] (by rw [hca]; rfl) rfl (by omega) (by simp [maxLen]) 22 9 5 Tryd.underlying22 Tryd.underlying5 Tryd.underlying9
  have k3 := str_of _ _ _ _ hB6 0 4 32 [91, 220, 193, 70] (by rw [hcb]; rfl) rfl (by omega) (by simp [maxLen]) 22 9 5 Tryd.underlying22 Tryd.underlying5 Tryd.underlying9
  have k4 := str_of _ _ _ _ hB6 28 4 4 [100, 236, 56, 67] (by rw [hcb]; rfl) rfl (by omega) (by simp [maxLen]) 22 9 5 Tryd.underlying22 Tryd.underlying5 Tryd.underlying9
  have HN5 := Lib.hid hnew5
  have HSB := Lib.hid hsb
  have HRB := Lib.hid hrb
  have HFIN := Lib.hid hfin
  clear hnew5 hsb hrb hfin hA6 hB6 hca hcb hhb hA5 hA4 hpp hkc HA3 HHA HW3 HN HSA HRA kc kc1 kc2
  generalize hw6 : (w5.alloc (.cells ((row8 32).map cell8).toArray 56)).setRow w5.heap.size (hb.map cell8).toArray = w6 at k1 k2 k3 k4 HFIN
  have HW6 := Lib.hid hw6
  clear hw6
  go_wp2_with (first | (with_reducible refine wpList_alloc_as rfl 56 rfl _ alloc24 ?_) | (with_reducible refine wpList_store_row rfl 56 (.tmp 2) (.tmp 14) rfl _ _ rfl rfl _ _ HN5.out HSB.out HRB.out (all_cell8 hb) ?_) | fail)
  rw [HW6.out, k1]
  go_simp
  go_wp2
  go_ret
  exact ⟨rfl, HFIN.out⟩
end Go.Proofs.YtnhomnaamlbnpaaDoor.Sha
