/- A block taken in: mix. By an AI agent. -/
import Derived.Test.YtmhbmjagnihopaaGreatDoorStr
import Derived.Deep.RegionWith
namespace Go.Proofs.YtmhbmjagnihopaaGreatDoor.Sha
open Go.RowKit Go.Proofs.YtmhbmjagnihopaaGreatDoor.M
set_option linter.unusedVariables false

/-- the constants' table holds its words -/
def Tab (w : World) : Prop := 0 < w.heap.size ∧ ∀ t, t < 64 → w.cell? ⟨0, t, none⟩ = some (.int .u32 (K.getD t 0 : Nat))
theorem Tab.of_block {w w' : World} (h : Tab w) (hs : w.heap.size ≤ w'.heap.size) (hb : w'.heap[0]? = w.heap[0]?) : Tab w' :=
  ⟨by have := h.1; omega, fun t ht => (World.cell?_of_block (a := ⟨0, t, none⟩) hb).trans (h.2 t ht)⟩
theorem Tab.grown {w w' : World} {row : Option Nat} (h : Tab w) (hg : w.grownBy w' row) (hr : row ≠ some 0) : Tab w' :=
  h.of_block hg.size (hg.block _ h.1 (fun e => hr e.symm))
theorem Tab.below {w w' : World} {B : Nat} (h : Tab w) (hb : Below B w w') (hB : 0 < B) : Tab w' := h.of_block hb.size (hb.block _ hB)
/-- a state's cells -/
def stCells (s : H8) (bs : List UInt8) (rest : List Value) : List Value := s.list.map cell32 ++ (bs.map cell8 ++ rest)
theorem K_at_lt (t : Nat) : K.getD t 0 < 4294967296 := by
  rw [List.getD]
  cases hq : K[t]? with
  | none => simp
  | some x => exact K_lt x (List.mem_of_getElem? hq)
theorem big1_int (x : Nat) (h : x < 4294967296) : bits .xor .u32 (bits .xor .u32 (rotr x 6 : Nat) (rotr x 11 : Nat)) (rotr x 25 : Nat) = ((big1 x : Nat) : Int) := by
  have a := rotr_lt h (k := 6) (by omega)
  have b := rotr_lt h (k := 11) (by omega)
  have c := rotr_lt h (k := 25) (by omega)
  rw [u32_xor_nat _ _ a b, u32_xor_nat _ _ (xor_lt a b) c]
  rfl
theorem big0_int (x : Nat) (h : x < 4294967296) : bits .xor .u32 (bits .xor .u32 (rotr x 2 : Nat) (rotr x 13 : Nat)) (rotr x 22 : Nat) = ((big0 x : Nat) : Int) := by
  have a := rotr_lt h (k := 2) (by omega)
  have b := rotr_lt h (k := 13) (by omega)
  have c := rotr_lt h (k := 22) (by omega)
  rw [u32_xor_nat _ _ a b, u32_xor_nat _ _ (xor_lt a b) c]
  rfl
theorem big1_lt {x : Nat} (h : x < 4294967296) : big1 x < 4294967296 := xor_lt (xor_lt (rotr_lt h (by omega)) (rotr_lt h (by omega))) (rotr_lt h (by omega))
theorem big0_lt {x : Nat} (h : x < 4294967296) : big0 x < 4294967296 := xor_lt (xor_lt (rotr_lt h (by omega)) (rotr_lt h (by omega))) (rotr_lt h (by omega))
theorem choose_lt {e f g : Nat} (he : e < 4294967296) : choose e f g < 4294967296 := xor_lt (and_lt he) (and_lt (by omega))
theorem major_lt {a b c : Nat} (ha : a < 4294967296) (hb : b < 4294967296) : major a b c < 4294967296 := xor_lt (xor_lt (and_lt ha) (and_lt ha)) (and_lt hb)

def RoundRel (l : List Nat) (s : H8) (w : World) (v3 v4 v5 v6 v7 v8 v9 v10 i : Value) (wr : World) : Prop :=
  ∃ t : Nat, t ≤ 64 ∧ i = .int .i64 t ∧ v3 = .int .u32 ((rounds l t s).a : Nat) ∧ v4 = .int .u32 ((rounds l t s).b : Nat) ∧ v5 = .int .u32 ((rounds l t s).c : Nat) ∧ v6 = .int .u32 ((rounds l t s).d : Nat) ∧
    v7 = .int .u32 ((rounds l t s).e : Nat) ∧ v8 = .int .u32 ((rounds l t s).f : Nat) ∧ v9 = .int .u32 ((rounds l t s).g : Nat) ∧ v10 = .int .u32 ((rounds l t s).h : Nat) ∧ ∃ n, wr = w.drewN n
theorem infoWord : (Tryz.prog.info? 68).map (fun i => (i.zero, i.size, i.bytes)) = some (some (.int .u32 0), 1, 4) := by kernel_rfl
/-- the first j words with the others added -/
def mixed (s r : List Nat) (j : Nat) : List Nat := (List.range 8).map fun i => if i < j then (s.getD i 0 + r.getD i 0) % 4294967296 else s.getD i 0
theorem mixed_length (s r : List Nat) (j : Nat) : (mixed s r j).length = 8 := by simp [mixed]
theorem mixed_at (s r : List Nat) (tail : List Value) (j : Nat) (hj : j < 8) : (((mixed s r j).map cell32) ++ tail).toArray[j]? = some (.int .u32 (s.getD j 0 : Nat)) := by
  simp only [List.getElem?_toArray]
  rw [List.getElem?_append_left (by rw [List.length_map, mixed_length]; exact hj)]
  simp [mixed, hj, cell32]
theorem mixed_succ (s r : List Nat) (j : Nat) (hj : j < 8) : mixed s r (j + 1) = (mixed s r j).set j ((s.getD j 0 + r.getD j 0) % 4294967296) := by
  apply List.ext_getElem
  · simp [mixed]
  · intro i h1 h2
    rw [List.getElem_set]
    simp only [mixed, List.getElem_map, List.getElem_range]
    by_cases hi : j = i
    · subst hi
      simp
    · rw [if_neg hi]
      by_cases hc : i < j
      · rw [if_pos hc, if_pos (by omega)]
      · rw [if_neg hc, if_neg (by omega)]
theorem mixed_all (s r : H8) : mixed s.list r.list 8 = (s.add r).list := rfl
theorem list_lt {s : H8} (h : s.Ok) (j : Nat) : s.list.getD j 0 < 4294967296 := by
  obtain ⟨h1, h2, h3, h4, h5, h6, h7, h8⟩ := h
  match j with
  | 0 => exact h1
  | 1 => exact h2
  | 2 => exact h3
  | 3 => exact h4
  | 4 => exact h5
  | 5 => exact h6
  | 6 => exact h7
  | 7 => exact h8
  | j + 8 => simp [H8.list, List.getD]
theorem not_int (x : Nat) (h : x < 4294967296) : bits .xor .u32 IntKind.u32.max (x : Int) = ((4294967295 - x : Nat) : Int) := by
  have e := u32_xor_nat 4294967295 x (by omega) h
  rw [show (4294967295 : Nat) ^^^ x = 4294967295 - x from by
    have e := BitVec.toNat_not (x := BitVec.ofNat 32 x)
    have h2 : (BitVec.ofNat 32 x).toNat = x := by rw [BitVec.toNat_ofNat]; exact Nat.mod_eq_of_lt h
    have h3 : (BitVec.allOnes 32 ^^^ BitVec.ofNat 32 x) = ~~~ (BitVec.ofNat 32 x) := BitVec.allOnes_xor
    have h4 := congrArg BitVec.toNat h3
    rw [BitVec.toNat_xor, h2, e, h2] at h4
    simpa using h4] at e
  exact e
theorem right_i (x : Nat) (n : Int) (w : World) (hx : x < 4294967296) (h0 : 0 < n) (hn : n < 32) :
    Calls Tryz.prog 149 #[.int .u32 (x : Int), .int .i64 n] w fun e w' => e = .returned (.int .u32 (rotr x n.toNat : Nat)) ∧ w = w' :=
  (right_q x n w hx h0 hn).mono fun e w' h => ⟨h.1, h.2.symm⟩
theorem all_cell32 (l : List Nat) : (l.map cell32).toArray.all (·.oneCell') = true := by
  rw [Array.all_eq_true_iff_forall_mem]
  intro v hv
  obtain ⟨x, _, rfl⟩ := List.mem_map.1 (show v ∈ l.map cell32 from by simpa using hv)
  rfl
theorem all_cell8 (l : List UInt8) : (l.map cell8).toArray.all (·.oneCell') = true := by
  rw [Array.all_eq_true_iff_forall_mem]
  intro v hv
  obtain ⟨x, _, rfl⟩ := List.mem_map.1 (show v ∈ l.map cell8 from by simpa using hv)
  rfl
theorem sched_length (bs : List UInt8) (h : bs.length = 64) : (sched bs).length = 64 := by
  unfold sched
  rw [extend_length, words_length 16 bs h]
theorem sched_lt (bs : List UInt8) : ∀ x ∈ sched bs, x < 4294967296 := extend_lt 48 (words_lt bs)

set_option maxRecDepth 100000 in
set_option maxHeartbeats 2000000 in
theorem mix_any (b : Nat) (s : H8) (bs : List UInt8) (rest : List Value) (w : World) (hs : s.Ok) (hl : bs.length = 64) (ht : Tab w) (hbG : b ≠ 0)
    (hb : Blk w b 226 (stCells s bs rest).toArray) :
    Calls Tryz.prog 137 #[.pointer (some ⟨b, 0, none⟩)] w fun e w' => e = .returned (.tuple #[]) ∧ Blk w' b 226 (stCells (mix s bs) bs rest).toArray ∧ w.grownBy w' (some b) := by
  obtain ⟨i8, hi8, hz8, hs8⟩ : ∃ i, Tryz.prog.info? 205 = some i ∧ True ∧ i.size = 64 := by
    have h : (Tryz.prog.info? 205).map (·.size) = some 64 := by kernel_rfl
    cases hq : Tryz.prog.info? 205 with
    | none => simp [hq] at h
    | some i => exact ⟨i, rfl, trivial, by simpa [hq] using h⟩
  have hsz : i8.size = (bs.map cell8).length := by rw [hs8, List.length_map, hl]
  have hbytes : ∀ j v, (bs.map cell8)[j]? = some v → w.cell? ((⟨b, 8, none⟩ : Addr).add j) = some v := fun j v hj => by
    rw [Addr.add_lit, hb.cell]
    have hjl := (List.getElem?_eq_some_iff.1 hj).1
    simp only [stCells, List.getElem?_toArray]
    rw [List.getElem?_append_right (by simp [H8.list]), List.getElem?_append_left (by simpa [H8.list] using hjl)]
    simpa [H8.list] using hj
  have HS := Lib.hid hsz
  have HB := Lib.hid hbytes
  have HI := Lib.hid hi8
  clear hsz hbytes hi8
  go_enter Tryz.func137, Tryz.ntmps137
  go_wp2_with (first | (with_reducible refine wpList_load_at rfl 205 (.tmp 18) rfl _ rfl (bs.map cell8) _ _ Tryz.underlying205 rfl HI.out HS.out HB.out ?_) | fail)
  refine (stretched_any bs w hl).mono ?_
  rintro e w1 ⟨rfl, hb1⟩
  have hwl : (sched bs).length = 64 := sched_length bs hl
  have hwb := sched_lt bs
  obtain ⟨l, hls⟩ : ∃ l, l = sched bs := ⟨_, rfl⟩
  have hmix : mix s bs = s.add (rounds l 64 s) := by rw [hls]; rfl
  rw [← hls] at hwl hwb ⊢
  have hi64 : (Tryz.prog.info? 232).map (·.size) = some (l.map cell32).toArray.size := by
    rw [show (l.map cell32).toArray.size = 64 from by simp [hwl]]; kernel_rfl
  have hone : (l.map cell32).toArray.all (·.oneCell') = true := all_cell32 l
  have hl1 : ((row32 64).map cell32).toArray.size = (l.map cell32).toArray.size := by simp [row32, hwl]
  have hnew : (w1.alloc (.cells ((row32 64).map cell32).toArray 232)).heap[w1.heap.size]? = some (.cells ((row32 64).map cell32).toArray 232 (0, 0)) := heap_alloc_new w1 _
  have HL1 := Lib.hid hl1
  have HI64 := Lib.hid hi64
  have HO := Lib.hid hone
  have HN := Lib.hid hnew
  have HM := Lib.hid hmix
  clear hl1 hi64 hone hnew hmix hls HB HI HS hs8
  go_wp2_with (first | (with_reducible refine wpList_alloc_as rfl 232 rfl _ alloc63 ?_) | (with_reducible refine wpList_store_row rfl 232 (.tmp 2) (.tmp 20) rfl _ _ rfl rfl _ _ HN.out HI64.out HL1.out HO.out ?_) | fail)
  go_simp
  have hz1 := hb1.size
  have hblt := hb.lt
  have hg2 : Blk ((w1.alloc (.cells ((row32 64).map cell32).toArray 232)).setRow w1.heap.size (l.map cell32).toArray) w1.heap.size 232 (l.map cell32).toArray := setRow_heap _ _ _ _ _ _ HN.out
  have hbel : Below w.heap.size w ((w1.alloc (.cells ((row32 64).map cell32).toArray 232)).setRow w1.heap.size (l.map cell32).toArray) := below_setRow (hb1.alloc hz1 _) hz1 _
  generalize (w1.alloc (.cells ((row32 64).map cell32).toArray 232)).setRow w1.heap.size (l.map cell32).toArray = w2 at *
  have hgb : w1.heap.size ≠ b := by omega
  generalize w1.heap.size = g at *
  have htG := ht.1
  have ht2 := ht.below hbel htG
  have hb2 : Blk w2 b 226 (stCells s bs rest).toArray := hb.same (same_below hbel) hblt
  have hgr : w.grownBy w2 (some b) := grown_below hbel _
  clear hb1 HN HI64 HO HL1 hb hbel ht
  obtain ⟨a, bb, c, d, e, f, gg, h⟩ := s
  have c0 : w2.cell? ⟨b, 0, none⟩ = some (.int .u32 (a : Int)) := hb2.cell 0
  have c1 : w2.cell? ⟨b, 1, none⟩ = some (.int .u32 (bb : Int)) := hb2.cell 1
  have c2 : w2.cell? ⟨b, 2, none⟩ = some (.int .u32 (c : Int)) := hb2.cell 2
  have c3 : w2.cell? ⟨b, 3, none⟩ = some (.int .u32 (d : Int)) := hb2.cell 3
  have c4 : w2.cell? ⟨b, 4, none⟩ = some (.int .u32 (e : Int)) := hb2.cell 4
  have c5 : w2.cell? ⟨b, 5, none⟩ = some (.int .u32 (f : Int)) := hb2.cell 5
  have c6 : w2.cell? ⟨b, 6, none⟩ = some (.int .u32 (gg : Int)) := hb2.cell 6
  have c7 : w2.cell? ⟨b, 7, none⟩ = some (.int .u32 (h : Int)) := hb2.cell 7
  go_quiet (fail)
  generalize nq = n1
  go_wp2_with fail
  go_quiet (fail)
  generalize nq = n2
  go_wp2_with fail
  have ht3 : Tab ((w2.drewN n1).drewN n2) := ht2
  have hg3 : Blk ((w2.drewN n1).drewN n2) g 232 (l.map cell32).toArray := hg2
  have hb3 : Blk ((w2.drewN n1).drewN n2) b 226 (stCells ⟨a, bb, c, d, e, f, gg, h⟩ bs rest).toArray := hb2
  have hr3 : w.grownBy ((w2.drewN n1).drewN n2) (some b) := ⟨hgr.os, hgr.tape, hgr.output, hgr.size, hgr.block⟩
  generalize (w2.drewN n1).drewN n2 = w3 at *
  clear c0 c1 c2 c3 c4 c5 c6 c7 hb2 hg2 ht2 hgr
  go_loopw [3, 4, 5, 6, 7, 8, 9, 10, 61] (fun v3 v4 v5 v6 v7 v8 v9 v10 i wr => RoundRel l ⟨a, bb, c, d, e, f, gg, h⟩ w3 v3 v4 v5 v6 v7 v8 v9 v10 i wr) (fun _ _ _ _ _ _ _ _ i _ => 64 - (intOf i).toNat)
  case atStart => exact ⟨0, by omega, rfl, rfl, rfl, rfl, rfl, rfl, rfl, rfl, rfl, 0, rfl⟩
  case round =>
    obtain ⟨t, ht, rfl, rfl, rfl, rfl, rfl, rfl, rfl, rfl, rfl, n, rfl⟩ := hrel
    have hok := rounds_ok l hs t
    have hsucc : rounds l (t + 1) ⟨a, bb, c, d, e, f, gg, h⟩ = round (rounds l t ⟨a, bb, c, d, e, f, gg, h⟩) (K.getD t 0) (l.getD t 0) := rfl
    generalize hr : rounds l t ⟨a, bb, c, d, e, f, gg, h⟩ = r at *
    obtain ⟨ra, rb, rc, rd, re, rf, rg, rh⟩ := r
    have HSU := Lib.hid hsucc
    have HR := Lib.hid hr
    clear hsucc hr
    by_cases hlt : t < 64
    · have hK := ht3.2 t hlt
      have hKl := K_at_lt t
      have hW : w3.cell? ⟨g, t, none⟩ = some (.int .u32 (l.getD t 0 : Nat)) := by
        rw [hg3.cell]
        simp [List.getD, show t < l.length by omega, cell32]
      have hWl : l.getD t 0 < 4294967296 := hwb _ (by rw [List.getD, List.getElem?_eq_getElem (by omega)]; exact List.getElem_mem _)
      generalize K.getD t 0 = k at *
      generalize l.getD t 0 = x at *
      obtain ⟨q1, q2, q3, q4, q5, q6, q7, q8⟩ := hok
      dsimp only at q1 q2 q3 q4 q5 q6 q7 q8 ⊢
      go_wp2_with fail
      have p0 : (0 : Int) ≤ (t : Int) := by omega
      have e1 := big1_int re q5
      have e2 : bits .and .u32 (re : Int) (rf : Int) = ((re &&& rf : Nat) : Int) := u32_and_nat _ _ q5 q6
      have e3 : bits .xor .u32 IntKind.u32.max (re : Int) = ((4294967295 - re : Nat) : Int) := not_int re q5
      have e4 : bits .and .u32 ((4294967295 - re : Nat) : Int) (rg : Int) = (((4294967295 - re) &&& rg : Nat) : Int) := u32_and_nat _ _ (by omega) q7
      have e5 : bits .xor .u32 ((re &&& rf : Nat) : Int) (((4294967295 - re) &&& rg : Nat) : Int) = ((choose re rf rg : Nat) : Int) := u32_xor_nat _ _ (and_lt q5) (and_lt (by omega))
      have y1l := big1_lt q5
      have chl : choose re rf rg < 4294967296 := choose_lt q5
      have f1 := big0_int ra q1
      have f2 : bits .and .u32 (ra : Int) (rb : Int) = ((ra &&& rb : Nat) : Int) := u32_and_nat _ _ q1 q2
      have f3 : bits .and .u32 (ra : Int) (rc : Int) = ((ra &&& rc : Nat) : Int) := u32_and_nat _ _ q1 q3
      have f4 : bits .and .u32 (rb : Int) (rc : Int) = ((rb &&& rc : Nat) : Int) := u32_and_nat _ _ q2 q3
      have f5 : bits .xor .u32 ((ra &&& rb : Nat) : Int) ((ra &&& rc : Nat) : Int) = (((ra &&& rb) ^^^ (ra &&& rc) : Nat) : Int) := u32_xor_nat _ _ (and_lt q1) (and_lt q1)
      have f6 : bits .xor .u32 (((ra &&& rb) ^^^ (ra &&& rc) : Nat) : Int) ((rb &&& rc : Nat) : Int) = ((major ra rb rc : Nat) : Int) := u32_xor_nat _ _ (xor_lt (and_lt q1) (and_lt q1)) (and_lt q2)
      have y0l := big0_lt q1
      have mjl : major ra rb rc < 4294967296 := major_lt q1 q2
      have hone : one ⟨ra, rb, rc, rd, re, rf, rg, rh⟩ k x = (rh + big1 re + choose re rf rg + k + x) % 4294967296 := rfl
      have htwo : two ⟨ra, rb, rc, rd, re, rf, rg, rh⟩ = (big0 ra + major ra rb rc) % 4294967296 := rfl
      have hround : round ⟨ra, rb, rc, rd, re, rf, rg, rh⟩ k x = ⟨(one ⟨ra, rb, rc, rd, re, rf, rg, rh⟩ k x + two ⟨ra, rb, rc, rd, re, rf, rg, rh⟩) % 4294967296, ra, rb, rc, (rd + one ⟨ra, rb, rc, rd, re, rf, rg, rh⟩ k x) % 4294967296, re, rf, rg⟩ := rfl
      rw [hround, hone, htwo] at HSU
      clear hone htwo hround
      generalize big1 re = y1 at *
      generalize choose re rf rg = ch at *
      generalize big0 ra = y0 at *
      generalize major ra rb rc = mj at *
      generalize 4294967295 - re = nre at *
      generalize re &&& rf = ref at *
      generalize nre &&& rg = nrg at *
      generalize (ra &&& rb) ^^^ (ra &&& rc) = m1 at *
      generalize ra &&& rb = m2 at *
      generalize ra &&& rc = m3 at *
      generalize rb &&& rc = m4 at *
      have hK4 : (w3.drewN n).cell? ⟨0, t, none⟩ = some (.int .u32 (k : Int)) := hK
      have hW4 : (w3.drewN n).cell? ⟨g, t, none⟩ = some (.int .u32 (x : Int)) := hW
      generalize hw4 : w3.drewN n = w4 at *
      have HW4 := Lib.hid hw4
      clear hw4 hK hW
      go_quiet ((go_at_call 149; exact Calls.quiet_of_same (right_q _ _ _ (by assumption) (by decide) (by decide))))
      generalize nq = n3
      go_wp2_with (go_at_call 149; refine (right_i _ _ _ (by assumption) (by decide) (by decide)).mono ?_; rintro e w5 ⟨rfl, rfl⟩)
      go_roundw
      case rel =>
        have hif : (if IntKind.u32.signed = true then (-1 : Int) else IntKind.u32.max) = IntKind.u32.max := rfl
        rw [hif, e3, e4, e5]
        have hsu := HSU.out
        refine ⟨t + 1, by omega, by go_num, ?_, ?_, ?_, ?_, ?_, ?_, ?_, ?_, n + n3, ?_⟩
        all_goals try rw [hsu]
        all_goals try simp
        rw [← HW4.out, World.drewN_drewN]
      case measure => simp [intOf]; omega
    · obtain rfl : t = 64 := by omega
      rw [show ((64 : Nat) : Int) = 64 from rfl]
      dsimp only
      have hr4 : w.grownBy (w3.drewN n) (some b) := ⟨hr3.os, hr3.tape, hr3.output, hr3.size, hr3.block⟩
      have hb4 : Blk (w3.drewN n) b 226 (((mixed [a, bb, c, d, e, f, gg, h] [ra, rb, rc, rd, re, rf, rg, rh] 0).map cell32) ++ (bs.map cell8 ++ rest)).toArray := hb3
      generalize w3.drewN n = w4 at *
      clear HSU hg3 ht3 hb3 hr3
      have hix : ∀ j : Nat, j < 8 → ∀ u, (Instr.index 224 (.agg #[.int .u32 (ra : Int), .int .u32 (rb : Int), .int .u32 (rc : Int), .int .u32 (rd : Int), .int .u32 (re : Int), .int .u32 (rf : Int), .int .u32 (rg : Int), .int .u32 (rh : Int)]) (.int .i64 (j : Int))).run Tryz.prog u = .ok (.int .u32 ([ra, rb, rc, rd, re, rf, rg, rh].getD j 0 : Nat)) u := fun j hj u => by
        obtain ⟨i0, hi0, _, hz1, _⟩ := info_parts infoWord
        refine run_index1 u _ 68 8 i0 _ _ .i64 j _ Tryz.underlying224 hi0 hz1 Tryz.underlying68 rfl hj ?_
        rcases (by omega : j = 0 ∨ j = 1 ∨ j = 2 ∨ j = 3 ∨ j = 4 ∨ j = 5 ∨ j = 6 ∨ j = 7) with rfl | rfl | rfl | rfl | rfl | rfl | rfl | rfl <;> rfl
      have HIX := Lib.hid hix
      clear hix
      go_wp2_with fail
      go_loopw [133] (fun i wr => ∃ j : Nat, j ≤ 8 ∧ i = .int .i64 j ∧ w.grownBy wr (some b) ∧ Blk wr b 226 (((mixed [a, bb, c, d, e, f, gg, h] [ra, rb, rc, rd, re, rf, rg, rh] j).map cell32) ++ (bs.map cell8 ++ rest)).toArray) (fun i _ => 8 - (intOf i).toNat)
      case atStart => exact ⟨0, by omega, rfl, hr4, hb4⟩
      case round =>
        obtain ⟨j, hj, rfl, hgr, hblk⟩ := hrel
        by_cases hj8 : j < 8
        · have hix := HIX.out j hj8
          have hcell : wr.cell? ⟨b, j, none⟩ = some (.int .u32 ([a, bb, c, d, e, f, gg, h].getD j 0 : Nat)) := by
            rw [hblk.cell]
            exact mixed_at _ _ _ j hj8
          have hfz := hblk.frozen j
          have hs8 := mixed_succ [a, bb, c, d, e, f, gg, h] [ra, rb, rc, rd, re, rf, rg, rh] j hj8
          have hx1 : [a, bb, c, d, e, f, gg, h].getD j 0 < 4294967296 := list_lt hs j
          have hx2 : [ra, rb, rc, rd, re, rf, rg, rh].getD j 0 < 4294967296 := list_lt hok j
          generalize [a, bb, c, d, e, f, gg, h].getD j 0 = x1 at *
          generalize [ra, rb, rc, rd, re, rf, rg, rh].getD j 0 = x2 at *
          have HS8 := Lib.hid hs8
          clear hs8
          go_wp2_with fail
          have hp0 : (0 : Int) ≤ (j : Int) := by omega
          go_region
          go_wp2
          go_roundw
          case rel =>
            refine ⟨j + 1, by omega, by go_num, grown_drew (grown_set hgr (.inl rfl) _), ?_⟩
            have e := hblk.set_ j (cell32 ((x1 + x2) % 4294967296))
            rw [List.setIfInBounds_toArray, List.set_append_left _ _ (by rw [List.length_map, mixed_length]; exact hj8), ← List.map_set, ← HS8.out] at e
            have e2 : cell32 ((x1 + x2) % 4294967296) = Value.int .u32 (((x1 : Int) + x2) % 4294967296) := by simp [cell32]
            rw [e2] at e
            exact e
          case measure => simp [intOf]; omega
        · obtain rfl : j = 8 := by omega
          rw [show mixed [a, bb, c, d, e, f, gg, h] [ra, rb, rc, rd, re, rf, rg, rh] 8 = (H8.add ⟨a, bb, c, d, e, f, gg, h⟩ ⟨ra, rb, rc, rd, re, rf, rg, rh⟩).list from rfl] at hblk
          have HM' : mix ⟨a, bb, c, d, e, f, gg, h⟩ bs = H8.add ⟨a, bb, c, d, e, f, gg, h⟩ ⟨ra, rb, rc, rd, re, rf, rg, rh⟩ := by rw [HM.out, HR.out]
          have HMM := Lib.hid HM'
          clear HM' HIX hb4
          rw [show ((8 : Nat) : Int) = 8 from rfl]
          go_wp2
          go_end0
          exact ⟨rfl, by rw [HMM.out]; exact hblk, hgr⟩
end Go.Proofs.YtmhbmjagnihopaaGreatDoor.Sha
namespace Go.Proofs.YtmhbmjagnihopaaGreatDoor.Sha
open Go.RowKit Go.Proofs.YtmhbmjagnihopaaGreatDoor.M
set_option linter.unusedVariables false

theorem beBytes_at (n : Nat) : ∀ (k i : Nat), i < k → (beBytes n k)[i]? = some (byteAt n (k - 1 - i))
  | 0, i, h => by omega
  | k + 1, 0, _ => by simp [beBytes]
  | k + 1, i + 1, h => by
    simp only [beBytes, List.getElem?_cons_succ]
    rw [beBytes_at n k i (by omega)]
    congr 2
    omega
theorem take_row_succ (l : List UInt8) (k i : Nat) (b : UInt8) (hl : l.length = k) (hb : l[i]? = some b) : l.take (i + 1) ++ row8 (k - (i + 1)) = (l.take i ++ row8 (k - i)).set i b := by
  have hlt := (List.getElem?_eq_some_iff.1 hb).1
  rw [List.set_append, if_neg (by rw [List.length_take]; omega), List.length_take, Nat.min_eq_left (by omega), Nat.sub_self, show k - i = (k - (i + 1)) + 1 by omega, List.take_add_one, hb]
  simp [row8, List.replicate_succ]
theorem byteAt_int (n m : Nat) : ((byteAt n m).toNat : Int) = (n : Int) / 2 ^ (8 * m) % 256 := by
  unfold byteAt
  rw [UInt8.toNat_ofNat', show 256 ^ m = 2 ^ (8 * m) from by rw [Nat.pow_mul]]
  simp
theorem make8 (k : Nat) (hk : k ≤ 140737488355328) (u : World) : (Instr.makeSlice 32 (.int .i64 (k : Int)) (.int .i64 (k : Int))).run Tryz.prog u =
      .ok (.slice (some ⟨u.heap.size, 0, none⟩) k k) (u.alloc (.cells ((row8 k).map cell8).toArray 5)) := by
  obtain ⟨i0, hi, hz0, hz1, hz2⟩ := info_parts infoByte
  have h := run_make (P := Tryz.prog) u _ _ i0 (.int .u8 0) Tryz.underlying32 hi hz0 .i64 .i64 (k : Int) (k : Int) (by omega) (Int.le_refl _) (by rw [hz2]; omega) (by omega)
  have e : ((k : Int)).toNat = k := by omega
  rw [e] at h
  have hm : madeCells (Value.int .u8 0).cells k = ((row8 k).map cell8).toArray := by
    apply Array.ext
    · simp [madeCells, row8]
    · intro i h1 h2
      simp [madeCells, row8, Nat.mod_one, cell8, Value.cells]
  rw [hz1, Nat.mul_one, hm] at h
  exact h

set_option maxHeartbeats 800000 in
theorem bytesOf_any (n k : Nat) (w : World) (hn : n < 18446744073709551616) (hk : k ≤ 8) :
    Calls Tryz.prog 138 #[.int .u64 (n : Int), .int .i64 (k : Int)] w fun e w' => e = .returned (.slice (some ⟨w.heap.size, 0, none⟩) k k) ∧ Blk w' w.heap.size 5 ((beBytes n k).map cell8).toArray ∧ Below w.heap.size w w' := by
  have hmk := make8 k (by omega)
  have hlen := beBytes_length n k
  go_enter Tryz.func138, Tryz.ntmps138
  go_wp2
  have h0 : Blk (w.alloc (.cells ((row8 k).map cell8).toArray 5)) w.heap.size 5 ((row8 k).map cell8).toArray := Blk.new w _ _
  have hb0 : Below w.heap.size w (w.alloc (.cells ((row8 k).map cell8).toArray 5)) := (Below.refl _ _).alloc (Nat.le_refl _) _
  generalize w.alloc (.cells ((row8 k).map cell8).toArray 5) = w1 at *
  generalize hg : w.heap.size = g at *
  have HG := Lib.hid hg
  clear hg hmk
  go_loopw [11] (fun i wr => ∃ j : Nat, j ≤ k ∧ i = .int .i64 j ∧ Below g w wr ∧ Blk wr g 5 (((beBytes n k).take j ++ row8 (k - j)).map cell8).toArray) (fun i _ => k - (intOf i).toNat)
  case atStart => exact ⟨0, by omega, rfl, hb0, by simpa using h0⟩
  case round =>
    obtain ⟨j, hj, rfl, hbel, hblk⟩ := hrel
    by_cases hlt : j < k
    · have hat := beBytes_at n k j hlt
      have hset := take_row_succ _ k j _ hlen hat
      obtain ⟨m, hm⟩ : ∃ m, m = k - 1 - j := ⟨_, rfl⟩
      rw [← hm] at hat hset
      have hby := byteAt_int n m
      have hex : (8 : Int) * ((k : Int) - 1 - (j : Int)) = ((8 * m : Nat) : Int) := by omega
      have hm7 : m ≤ 7 := by omega
      have hcell : wr.cell? ⟨g, j, none⟩ = some (.int .u8 0) := by
        rw [hblk.cell]
        simp [List.getElem?_append_right, hlen, row8, cell8, Nat.min_eq_left hj, List.getElem?_replicate]
        omega
      have hfz := hblk.frozen j
      have HS := Lib.hid hset
      have HM := Lib.hid hm
      clear hat hset hm hlen
      go_wp2
      go_roundw
      case rel =>
        refine ⟨j + 1, by omega, by go_num, hbel.setCell (Nat.le_refl _) _, ?_⟩
        have e := hblk.set_ j (cell8 (byteAt n m))
        rw [List.setIfInBounds_toArray, ← List.map_set, ← HS.out] at e
        unfold cell8 at e ⊢
        rw [hby] at e
        exact e
      case measure => simp [intOf]; omega
    · obtain rfl : j = k := by omega
      have hfin : (beBytes n j).take j ++ row8 (j - j) = beBytes n j := by rw [Nat.sub_self, List.take_of_length_le (by omega)]; simp [row8]
      rw [hfin] at hblk
      have HF := Lib.hid hfin
      clear hfin hlen
      go_wp2
      go_ret
      exact ⟨by rw [HG.out]; rfl, by rw [HG.out]; exact hblk, by rw [HG.out]; exact hbel⟩
set_option maxRecDepth 100000 in
set_option maxHeartbeats 800000 in
theorem start_any (w : World) : Calls Tryz.prog 136 #[] w fun e w' => e = .returned (.pointer (some ⟨w.heap.size, 0, none⟩)) ∧ Blk w' w.heap.size 226 (stCells init (row8 64) [.int .i64 0, .int .u64 0]).toArray ∧ Below w.heap.size w w' := by
  go_enter Tryz.func136, Tryz.ntmps136
  go_wp2_with (first | (refine wpList_build_as rfl 224 _ rfl (init.list.map cell32).toArray (by kernel_rfl) ?_) | (refine wpList_build_as rfl 226 _ rfl (stCells init (row8 64) [.int .i64 0, .int .u64 0]).toArray (by kernel_rfl) ?_) | fail)
  go_ret
  exact ⟨rfl, Blk.new w _ _, (Below.refl _ _).alloc (Nat.le_refl _) _⟩
end Go.Proofs.YtmhbmjagnihopaaGreatDoor.Sha
