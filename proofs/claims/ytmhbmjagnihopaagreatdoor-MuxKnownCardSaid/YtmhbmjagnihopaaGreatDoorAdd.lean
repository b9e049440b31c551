/- Parts taken in: add. By an AI agent. -/
import Derived.Deep.RegionLaw
import Derived.Test.YtmhbmjagnihopaaGreatDoorMix
namespace Go.Proofs.YtmhbmjagnihopaaGreatDoor.Sha
open Go.RowKit Go.Proofs.YtmhbmjagnihopaaGreatDoor.M
set_option linter.unusedVariables false

theorem behind_small (m x : List UInt8) (h : m.length % 64 + x.length < 64) : behind (m ++ x) = behind m := by
  unfold behind
  rw [show (m ++ x).length / 64 = m.length / 64 by rw [List.length_append]; omega]
  exact blocks_append _ _ _ _ (by omega)
theorem behind_full (m x : List UInt8) (h : m.length % 64 + x.length = 64) : behind (m ++ x) = mix (behind m) (m.drop (64 * (m.length / 64)) ++ x) := by
  unfold behind
  rw [show (m ++ x).length / 64 = m.length / 64 + 1 by rw [List.length_append]; omega, blocks_snoc, blocks_append _ _ _ _ (by omega)]
  congr 1
  rw [List.drop_append_of_le_length (by omega), List.take_of_length_le]
  rw [List.length_append, List.length_drop]
  omega
theorem splice_cells (s : H8) (wait x : List UInt8) (rest : List Value) (r : Nat) (hr : r + x.length ≤ wait.length) :
    splice (stCells s wait rest) (8 + r) (x.map cell8) = stCells s (splice wait r x) rest := by
  unfold splice stCells
  have h8 : (s.list.map cell32).length = 8 := rfl
  rw [List.length_map]
  rw [List.take_append, h8, List.take_of_length_le (by rw [h8]; omega), show 8 + r - 8 = r by omega]
  rw [List.take_append_of_le_length (by rw [List.length_map]; omega)]
  rw [List.drop_append, h8, List.drop_of_length_le (by rw [h8]; omega), show 8 + r + x.length - 8 = r + x.length by omega, List.nil_append]
  rw [List.drop_append_of_le_length (by rw [List.length_map]; omega)]
  simp only [List.map_append, List.map_take, List.map_drop, List.append_assoc]
theorem splice_take (wait x : List UInt8) (r : Nat) (hr : r + x.length ≤ wait.length) : (splice wait r x).take (r + x.length) = wait.take r ++ x := by
  unfold splice
  rw [List.take_append, List.take_of_length_le (by rw [List.length_take]; omega)]
  rw [List.length_take, Nat.min_eq_left (by omega), show r + x.length - r = x.length by omega, List.take_left]
def stRest (r many : Nat) : List Value := [.int .i64 (r : Int), .int .u64 (many : Int)]
/-- block b is a state that took the message m in; so many bytes are told -/
def IsSt (w : World) (b : Nat) (m : List UInt8) (many : Nat) : Prop :=
  ∃ wait : List UInt8, wait.length = 64 ∧ wait.take (m.length % 64) = m.drop (64 * (m.length / 64)) ∧ Blk w b 226 (stCells (behind m) wait (stRest (m.length % 64) many)).toArray
theorem IsSt.grown {w w' : World} {b : Nat} {m : List UInt8} {many : Nat} {row : Option Nat} (h : IsSt w b m many) (hg : w.grownBy w' row) (hr : row ≠ some b) : IsSt w' b m many := by
  obtain ⟨wait, h1, h2, h3⟩ := h
  exact ⟨wait, h1, h2, h3.same (same_grown hg) ⟨h3.lt, fun e => hr e.symm⟩⟩
theorem st_cell (s : H8) (wait : List UInt8) (r many : Nat) (hw : wait.length = 64) : (stCells s wait (stRest r many)).toArray[72]? = some (.int .i64 (r : Int)) ∧ (stCells s wait (stRest r many)).toArray[73]? = some (.int .u64 (many : Int)) := by
  have h8 : (s.list.map cell32).length = 8 := rfl
  unfold stCells stRest
  simp only [List.getElem?_toArray]
  constructor
  · rw [List.getElem?_append_right (by rw [h8]; omega), List.getElem?_append_right (by rw [h8, List.length_map]; omega), h8, List.length_map, hw]; rfl
  · rw [List.getElem?_append_right (by rw [h8]; omega), List.getElem?_append_right (by rw [h8, List.length_map]; omega), h8, List.length_map, hw]; rfl
theorem st_set (s : H8) (wait : List UInt8) (r many r' many' : Nat) (hw : wait.length = 64) : (stCells s wait (stRest r many)).toArray.setIfInBounds 72 (.int .i64 (r' : Int)) = (stCells s wait (stRest r' many)).toArray ∧
    (stCells s wait (stRest r many)).toArray.setIfInBounds 73 (.int .u64 (many' : Int)) = (stCells s wait (stRest r many')).toArray := by
  have h8 : (s.list.map cell32).length = 8 := rfl
  unfold stCells stRest
  rw [List.setIfInBounds_toArray, List.setIfInBounds_toArray]
  constructor
  · rw [List.set_append_right _ _ (by rw [h8]; omega), List.set_append_right _ _ (by rw [h8, List.length_map]; omega), h8, List.length_map, hw]; rfl
  · rw [List.set_append_right _ _ (by rw [h8]; omega), List.set_append_right _ _ (by rw [h8, List.length_map]; omega), h8, List.length_map, hw]; rfl
theorem st_length (s : H8) (wait : List UInt8) (r many : Nat) (hw : wait.length = 64) : (stCells s wait (stRest r many)).length = 74 := by
  simp [stCells, stRest, H8.list, hw]
theorem setRow_grown {a w : World} {g : Nat} (h : a.grownBy w (some g)) (cs : Array Value) : a.grownBy (w.setRow g cs) (some g) :=
  ⟨h.os, h.tape, h.output, by simpa [World.setRow] using h.size, fun i hi hne => (setRow_other w g i cs (fun e => hne (by rw [e]))).trans (h.block i hi hne)⟩
end Go.Proofs.YtmhbmjagnihopaaGreatDoor.Sha
namespace Go.Proofs.YtmhbmjagnihopaaGreatDoor.Sha
open Go.RowKit Go.Proofs.YtmhbmjagnihopaaGreatDoor.M
set_option linter.unusedVariables false

/-- a row of slices of bytes -/
def Parts (w : World) (S : Nat → Prop) (v : Value) (ls : List (List UInt8)) : Prop :=
  ∃ (A : Option Addr) (c : Nat), v = .slice A ls.length c ∧ ls.length ≤ c ∧ ls.length ≤ maxLen ∧
    ∀ i l, ls[i]? = some l → ∃ g off u, A = some ⟨g, off, none⟩ ∧ S g ∧ w.cell? ⟨g, off + i, none⟩ = some u ∧ Byts w S u l
theorem Parts.same {w w' : World} {S : Nat → Prop} {v : Value} {ls : List (List UInt8)} (h : Parts w S v ls) (hs : Same S w w') : Parts w' S v ls := by
  obtain ⟨A, c, rfl, h1, h2, h3⟩ := h
  refine ⟨A, c, rfl, h1, h2, fun i l hl => ?_⟩
  obtain ⟨g, off, u, rfl, hg, hc, hb⟩ := h3 i l hl
  exact ⟨g, off, u, rfl, hg, by rw [hs.cell (p := ⟨g, off + i, none⟩) hg]; exact hc, hb.same hs⟩
theorem Parts.sub {w : World} {S T : Nat → Prop} {v : Value} {ls : List (List UInt8)} (h : Parts w S v ls) (k : ∀ i, S i → T i) : Parts w T v ls := by
  obtain ⟨A, c, rfl, h1, h2, h3⟩ := h
  refine ⟨A, c, rfl, h1, h2, fun i l hl => ?_⟩
  obtain ⟨g, off, u, rfl, hg, hc, hb⟩ := h3 i l hl
  exact ⟨g, off, u, rfl, k _ hg, hc, hb.sub k⟩
def sliceLen : Value → Nat
  | .slice _ n _ => n
  | _ => 0
theorem info1 : ∃ i, Tryz.prog.info? 5 = some i ∧ i.size = 1 := by
  obtain ⟨i0, hi0, _, hz1, _⟩ := info_parts infoByte
  exact ⟨i0, hi0, hz1⟩
/-- what holds at the head of a part's loop -/
def PartRel (w : World) (b : Nat) (S : Nat → Prop) (mm l : List UInt8) (many : Nat) (v : Value) (wr : World) : Prop :=
  ∃ k : Nat, k ≤ l.length ∧ IsSt wr b (mm ++ l.take k) many ∧ Byts wr S v (l.drop k) ∧ w.grownBy wr (some b)

theorem st_next_full (M x wait : List UInt8) (r n : Nat) (hr : M.length % 64 = r) (hx : x.length = n) (hf : r + n = 64) (hw : wait.length = 64) (ht : wait.take (r + n) = M.drop (64 * (M.length / 64)) ++ x) :
    mix (behind M) wait = behind (M ++ x) ∧ (M ++ x).length % 64 = 0 ∧ (M ++ x).drop (64 * ((M ++ x).length / 64)) = [] := by
  rw [List.take_of_length_le (by omega)] at ht
  refine ⟨by rw [behind_full M x (by omega), ht], by rw [List.length_append]; omega, List.drop_of_length_le ?_⟩
  have : (M ++ x).length % 64 = 0 := by rw [List.length_append]; omega
  omega
theorem st_next_part (M x wait : List UInt8) (r n : Nat) (hr : M.length % 64 = r) (hx : x.length = n) (hf : r + n < 64) (ht : wait.take (r + n) = M.drop (64 * (M.length / 64)) ++ x) :
    behind (M ++ x) = behind M ∧ (M ++ x).length % 64 = r + n ∧ wait.take (r + n) = (M ++ x).drop (64 * ((M ++ x).length / 64)) := by
  refine ⟨behind_small M x (by omega), by rw [List.length_append]; omega, ?_⟩
  rw [ht, show (M ++ x).length / 64 = M.length / 64 by rw [List.length_append]; omega, List.drop_append_of_le_length (by omega)]
theorem take_more {mm l M x : List UInt8} {k n : Nat} (hx : x = (l.drop k).take n) (hM : M = mm ++ l.take k) : mm ++ l.take (k + n) = M ++ x := by
  rw [hx, hM, List.take_add, List.append_assoc]

set_option maxRecDepth 100000 in
set_option maxHeartbeats 2000000 in
theorem add_any (b : Nat) (m : List UInt8) (v : Value) (ls : List (List UInt8)) (S : Nat → Prop) (w : World) (hst : IsSt w b m (m.length % 18446744073709551616)) (hp : Parts w S v ls) (hS : ∀ i, S i → i < w.heap.size ∧ i ≠ b)
    (ht : Tab w) (hbG : b ≠ 0) :
    Calls Tryz.prog 122 #[.pointer (some ⟨b, 0, none⟩), v] w fun e w' => e = .returned (.tuple #[]) ∧ IsSt w' b (m ++ ls.flatten) ((m ++ ls.flatten).length % 18446744073709551616) ∧ w.grownBy w' (some b) := by
  obtain ⟨A, c, rfl, hc, hmx, hat⟩ := hp
  unfold maxLen at hmx
  have HAT := Lib.hid hat
  have HT := Lib.hid ht
  clear hat ht
  have HSS := Lib.hid hS
  clear hS
  go_enter Tryz.func122, Tryz.ntmps122
  go_wp2
  go_loopw [9] (fun i wr => ∃ j : Nat, j ≤ ls.length ∧ i = .int .i64 j ∧ IsSt wr b (m ++ (ls.take j).flatten) ((m ++ (ls.take j).flatten).length % 18446744073709551616) ∧ w.grownBy wr (some b)) (fun i _ => ls.length - (intOf i).toNat)
  case atStart => exact ⟨0, by omega, rfl, by simpa using hst, World.grownBy.refl _ _⟩
  case round =>
    obtain ⟨j, hj, rfl, hs, hg⟩ := hrel
    by_cases hlt : j < ls.length
    · obtain ⟨g, off, u, rfl, hSg, hcu, hbu⟩ := HAT.out j _ (List.getElem?_eq_getElem hlt)
      have hfl : m ++ (ls.take (j + 1)).flatten = m ++ (ls.take j).flatten ++ ls[j] := by
        rw [List.take_add_one, List.getElem?_eq_getElem hlt, List.flatten_append]; simp
      generalize ls[j] = l at *
      generalize m ++ (ls.take j).flatten = mm at *
      have HFL := Lib.hid hfl
      clear hfl
      have hsame : Same S w wr := (same_grown hg).sub fun i hi => ⟨(HSS.out i hi).1, fun e => (HSS.out i hi).2 (Option.some.inj e)⟩
      have hcw : wr.cell? ⟨g, off + j, none⟩ = some u := (hsame.cell (p := ⟨g, off + j, none⟩) hSg).trans hcu
      have hbw := hbu.same hsame
      obtain ⟨A1, n1, c1, rfl, hl1, hnc1, hm1, h01, hcc1⟩ := hbw
      have hbw : Byts wr S (.slice A1 n1 c1) l := ⟨A1, n1, c1, rfl, hl1, hnc1, hm1, h01, hcc1⟩
      clear hcu hbu hsame h01 hcc1
      obtain ⟨wait, hw64, htk, hblk⟩ := hs
      have c73 : wr.cell? ⟨b, 73, none⟩ = some (.int .u64 ((mm.length % 18446744073709551616 : Nat) : Int)) := (hblk.cell 73).trans (st_cell _ _ _ _ hw64).2
      have f73 := hblk.frozen 73
      unfold maxLen at hm1
      have hsum : IntKind.u64.wrap (((mm.length % 18446744073709551616 : Nat) : Int) + (n1 : Int)) = (((mm.length + n1) % 18446744073709551616 : Nat) : Int) := by
        simp only [IntKind.wrap, IntKind.signed, IntKind.bits]; simp
      have hset := hblk.set_ 73 (.int .u64 (((mm.length + n1) % 18446744073709551616 : Nat) : Int))
      rw [(st_set _ _ _ _ (mm.length % 64) ((mm.length + n1) % 18446744073709551616) hw64).2] at hset
      generalize mm.length % 18446744073709551616 = many at *
      generalize hmany : (mm.length + n1) % 18446744073709551616 = many' at *
      have hu64 : IntKind.u64.wrap (n1 : Int) = (n1 : Int) := by simp only [IntKind.wrap, IntKind.signed, IntKind.bits]; simp; omega
      have HSET := Lib.hid hset
      have HBLK := Lib.hid hblk
      have HTK := Lib.hid htk
      have HL1 := Lib.hid hl1
      have HMANY := Lib.hid hmany
      have HW := Lib.hid hw64
      clear hset hblk htk hl1 hmany hw64
      go_wp2_with fail
      have hst0 : IsSt (wr.setCell ⟨b, 73, none⟩ (.int .u64 (many' : Int))) b mm many' := ⟨wait, HW.out, HTK.out, HSET.out⟩
      have hbw0 : Byts (wr.setCell ⟨b, 73, none⟩ (.int .u64 (many' : Int))) S (.slice A1 n1 c1) l := hbw.same ((same_set _ _ _).sub fun i hi => (HSS.out i hi).2)
      have hgw0 : w.grownBy (wr.setCell ⟨b, 73, none⟩ (.int .u64 (many' : Int))) (some b) := grown_set hg (.inl rfl) _
      generalize wr.setCell ⟨b, 73, none⟩ (.int .u64 (many' : Int)) = w0 at *
      clear hcw f73 c73 hsum hu64 HSET HBLK HTK HW
      go_loopw [5] (fun v wr => PartRel w b S mm l many' v wr) (fun v _ => sliceLen v)
      case atStart => exact ⟨0, Nat.zero_le _, by simpa using hst0, by simpa using hbw0, hgw0⟩
      case round =>
        obtain ⟨k, hk, hst2, hb2, hg2⟩ := hrel
        have hdl : (l.drop k).length = l.length - k := List.length_drop
        obtain ⟨A2, n2, c2, rfl, hl2, hnc2, hm2, h02, hcc2⟩ := hb2
        have hb2 : Byts wr S (.slice A2 n2 c2) (l.drop k) := ⟨A2, n2, c2, rfl, hl2, hnc2, hm2, h02, hcc2⟩
        unfold maxLen at hm2
        by_cases hpos : 0 < n2
        · obtain ⟨ad, rfl⟩ : ∃ ad, A2 = some ad := by
            cases A2 with
            | none => have := h02 rfl; omega
            | some ad => exact ⟨ad, rfl⟩
          obtain ⟨hSad, hcells⟩ := hcc2 ad rfl hpos
          obtain ⟨wait2, hw64, htk, hblk⟩ := hst2
          obtain ⟨M, hM⟩ : ∃ M, M = mm ++ l.take k := ⟨_, rfl⟩
          rw [← hM] at htk hblk
          have hr64 : M.length % 64 < 64 := Nat.mod_lt _ (by omega)
          have c72 : wr.cell? ⟨b, 72, none⟩ = some (.int .i64 ((M.length % 64 : Nat) : Int)) := (hblk.cell 72).trans (st_cell _ _ _ _ hw64).1
          generalize hr : M.length % 64 = r at *
          obtain ⟨n, hn⟩ : ∃ n, n = min n2 (64 - r) := ⟨_, rfl⟩
          obtain ⟨x, hx⟩ : ∃ x, x = (l.drop k).take n := ⟨_, rfl⟩
          have hxl : x.length = n := by rw [hx, List.length_take]; omega
          have hmin : (x.map cell8).length = Nat.min n2 (64 - r) := by rw [List.length_map, hxl, hn]
          have hsrc : ∀ jj vv, (x.map cell8)[jj]? = some vv → wr.drew.cell? (ad.add jj) = some vv := fun jj vv hjj => by
            obtain ⟨y, hy, rfl⟩ : ∃ y, x[jj]? = some y ∧ cell8 y = vv := by simpa using hjj
            rw [hx] at hy
            have hjl : jj < n := by
              have := (List.getElem?_eq_some_iff.1 hy).1
              rw [List.length_take] at this; omega
            rw [List.getElem?_take_of_lt hjl] at hy
            exact hcells jj y hy
          have hfit : 8 + r + (x.map cell8).length ≤ (stCells (behind M) wait2 (stRest r many')).length := by rw [st_length _ _ _ _ hw64, List.length_map]; omega
          have hcur : wr.drew.heap[b]? = some (.cells (stCells (behind M) wait2 (stRest r many')).toArray 226 (0, 0)) := hblk
          have hspl := splice_cells (behind M) wait2 x (stRest r many') r (by rw [hw64, hxl]; omega)
          have HMN := Lib.hid hmin
          have HSR := Lib.hid hsrc
          have HFT := Lib.hid hfit
          have HCU := Lib.hid hcur
          have HSP := Lib.hid hspl
          have HXL := Lib.hid hxl
          have HX := Lib.hid hx
          have HN := Lib.hid hn
          have HR := Lib.hid hr
          have HM := Lib.hid hM
          have HDL := Lib.hid hdl
          have HL2 := Lib.hid hl2
          have HTK := Lib.hid htk
          have HW := Lib.hid hw64
          clear hmin hsrc hfit hcur hspl hxl hx hn hr hM hdl hl2 htk hw64 hcells hcc2 h02 hblk hst0 hbw0
          go_wp2_with fail
          have hne : ¬ 64 = r := by omega
          have hi0 : (0 : Int) ≤ (r : Int) := by omega
          have hi1 : (r : Int) ≤ 64 := by omega
          go_region_law (refine step_copy_set rfl (.tmp 33) (.tmp 34) _ _ rfl 5 Tryz.underlying32 (by kernel_rfl) ad b (8 + r) (64 - r) (64 - r) n2 c2 rfl rfl _ 226 HCU.out (x.map cell8) HMN.out HSR.out HFT.out (oneCell8 x) ?_)
          rw [HXL.out]
          have hg5 : w.grownBy (wr.drew.setRow b (splice (stCells (behind M) wait2 (stRest r many')) (8 + r) (x.map cell8)).toArray) (some b) := setRow_grown (grown_drew hg2) _
          have hb5 : Blk (wr.drew.setRow b (splice (stCells (behind M) wait2 (stRest r many')) (8 + r) (x.map cell8)).toArray) b 226 (stCells (behind M) (splice wait2 r x) (stRest r many')).toArray := by
            rw [← HSP.out]; exact setRow_heap _ _ _ _ _ _ HCU.out
          have hB5 : Byts (wr.drew.setRow b (splice (stCells (behind M) wait2 (stRest r many')) (8 + r) (x.map cell8)).toArray) S (.slice (some ad) n2 c2) (l.drop k) :=
            hb2.same fun i hi => setRow_other wr.drew b i _ (HSS.out i hi).2
          generalize wr.drew.setRow b (splice (stCells (behind M) wait2 (stRest r many')) (8 + r) (x.map cell8)).toArray = w5 at *
          have hn1 : n ≤ n2 := by rw [HN.out]; omega
          have hn2 : r + n ≤ 64 := by rw [HN.out]; omega
          have hn3 : 0 < n := by rw [HN.out]; omega
          have hsw : (splice wait2 r x).length = 64 := by rw [length_splice _ _ _ (by rw [HW.out, HXL.out]; omega)]; exact HW.out
          have hst5 := splice_take wait2 x r (by rw [HW.out, HXL.out]; omega)
          rw [HXL.out, HTK.out] at hst5
          generalize splice wait2 r x = wait5 at *
          have hB6 := hB5.drop_ hn1
          rw [List.drop_drop] at hB6
          obtain ⟨i0, hi0', hs0⟩ := info1
          have hsl := fun u => run_slice_low u 32 5 i0 Tryz.underlying32 hi0' hs0 (some ad) n2 c2 n .i64 hn1
          obtain ⟨A3, hA3⟩ : ∃ A3, A3 = (if c2 = n then some ad else (some ad).map (·.add n)) := ⟨_, rfl⟩
          rw [← hA3] at hB6
          simp only [← hA3] at hsl
          have d72 : w5.cell? ⟨b, 72, none⟩ = some (.int .i64 (r : Int)) := (hb5.cell 72).trans (st_cell _ _ _ _ hsw).1
          have e72 := hb5.frozen 72
          have hset := hb5.set_ 72 (.int .i64 ((r + n : Nat) : Int))
          rw [(st_set _ _ _ _ (r + n) many' hsw).1] at hset
          have HMIX := Lib.hid hset
          have HS5 := Lib.hid hst5
          have HSW := Lib.hid hsw
          have HB5 := Lib.hid hb5
          clear hA3 hset hst5 hsw hb5 c72 hb2 HSP HFT HCU HSR HMN hi0' hs0 HW HTK
          by_cases hfull : r + n = 64
          · have hsum : (r : Int) + (n : Int) = 64 := by omega
            go_simp
            go_wp2_with fail
            have hB7 : Blk (w5.setCell ⟨b, 72, none⟩ (.int .i64 64)) b 226 (stCells (behind M) wait5 (stRest 64 many')).toArray := by
              have := HMIX.out
              rw [hfull] at this
              exact this
            have hg7 : w.grownBy (w5.setCell ⟨b, 72, none⟩ (.int .i64 64)) (some b) := grown_set hg5 (.inl rfl) _
            have ht7 := HT.out.grown hg7 (fun e => hbG (Option.some.inj e))
            have hS7 : Byts (w5.setCell ⟨b, 72, none⟩ (.int .i64 64)) S (.slice A3 (n2 - n) (c2 - n)) (l.drop (k + n)) := hB6.same ((same_set _ _ _).sub fun i hi => (HSS.out i hi).2)
            refine (mix_any b (behind M) wait5 _ _ (behind_ok M) HSW.out ht7 hbG hB7).mono ?_
            rintro e w8 ⟨rfl, hb8, hg8⟩
            have hg9 := grown_trans hg7 hg8
            have hS8 : Byts w8 S (.slice A3 (n2 - n) (c2 - n)) (l.drop (k + n)) := hS7.same ((same_grown hg8).sub fun i hi => ⟨Nat.lt_of_lt_of_le (HSS.out i hi).1 hg7.size, fun e => (HSS.out i hi).2 (Option.some.inj e)⟩)
            have f72 := hb8.frozen 72
            have g72 : w8.cell? ⟨b, 72, none⟩ = some (.int .i64 ((64 : Nat) : Int)) := (hb8.cell 72).trans (st_cell _ _ _ _ HSW.out).1
            have hset8 := hb8.set_ 72 (.int .i64 ((0 : Nat) : Int))
            rw [(st_set _ _ _ _ 0 many' HSW.out).1] at hset8
            have HSET8 := Lib.hid hset8
            clear hset8 hb8 hg8 hB7 hg7 hS7 ht7 hsl hB5 hB6
            go_wp2
            go_roundw
            case rel =>
              obtain ⟨q1, q2, q3⟩ := st_next_full M x wait5 r n HR.out HXL.out hfull HSW.out HS5.out
              refine ⟨k + n, by have := HDL.out; have := HL2.out; omega, ⟨wait5, HSW.out, ?_, ?_⟩, hS8.same ((same_set _ _ _).sub fun i hi => (HSS.out i hi).2), grown_set hg9 (.inl rfl) _⟩
              · rw [take_more HX.out HM.out, q2, q3]; rfl
              · rw [take_more HX.out HM.out, q2, ← q1]; exact HSET8.out
            case measure => simp [sliceLen]; omega
          · have hsum : ¬ ((r : Int) + (n : Int) = 64) := by omega
            have hB7 : Blk (w5.setCell ⟨b, 72, none⟩ (.int .i64 ((r : Int) + (n : Int)))) b 226 (stCells (behind M) wait5 (stRest (r + n) many')).toArray := by
              have := HMIX.out
              rw [show ((r + n : Nat) : Int) = (r : Int) + (n : Int) from by omega] at this
              exact this
            have hg7 : w.grownBy (w5.setCell ⟨b, 72, none⟩ (.int .i64 ((r : Int) + (n : Int)))) (some b) := grown_set hg5 (.inl rfl) _
            have hS7 : Byts (w5.setCell ⟨b, 72, none⟩ (.int .i64 ((r : Int) + (n : Int)))) S (.slice A3 (n2 - n) (c2 - n)) (l.drop (k + n)) := hB6.same ((same_set _ _ _).sub fun i hi => (HSS.out i hi).2)
            have HB7 := Lib.hid hB7
            clear hB7 hB5 hB6
            go_simp
            go_wp2
            go_roundw
            case rel =>
              obtain ⟨q1, q2, q3⟩ := st_next_part M x wait5 r n HR.out HXL.out (by omega) HS5.out
              refine ⟨k + n, by have := HDL.out; have := HL2.out; omega, ⟨wait5, HSW.out, ?_, ?_⟩, hS7, hg7⟩
              · rw [take_more HX.out HM.out, q2, q3]
              · rw [take_more HX.out HM.out, q2, q1]; exact HB7.out
            case measure => simp [sliceLen]; omega
        · have hn0 : n2 = 0 := by omega
          have hkl : k = l.length := by omega
          have hst3 : IsSt wr b (m ++ (ls.take (j + 1)).flatten) ((m ++ (ls.take (j + 1)).flatten).length % 18446744073709551616) := by
            rw [HFL.out, List.length_append, HL1.out, HMANY.out]
            rw [hkl, List.take_length] at hst2
            exact hst2
          have HST := Lib.hid hst3
          subst hn0
          clear hst3 hst2 hcc2 h02 hkl hl2 hdl hb2 hst0 hbw0
          go_wp2
          go_roundw
          case rel => exact ⟨j + 1, by omega, by go_num, HST.out, hg2⟩
          case measure => simp [intOf]; omega
    · obtain rfl : j = ls.length := by omega
      rw [List.take_length] at hs
      have HSO := Lib.hid hs
      clear hs
      go_wp2
      go_end0
      exact ⟨rfl, HSO.out, hg⟩
end Go.Proofs.YtmhbmjagnihopaaGreatDoor.Sha
