/- The walk of HashKeys. By an AI agent. -/
import Derived.Test.YtdlolbgaljdfdaaDoorZer
import Derived.Test.YtdlolbgaljdfdaaDoorPartsW
import Derived.Deep.DeepCutAuto
namespace Go.Proofs.YtdlolbgaljdfdaaDoor.Walks
open Go.RowKit Go.Proofs.YtdlolbgaljdfdaaDoor.M Go.Proofs.YtdlolbgaljdfdaaDoor.Sl Go.Proofs.YtdlolbgaljdfdaaDoor.Sha
set_option linter.unusedVariables false

theorem eqlIn_nil {P : Program} (w : World) (d : Nat) (t e : TypeId) (a : Option Addr) (l c : Nat) (h : P.underlying t = some (.slice e)) : (Op.equalIn (d + 1) t (.slice a l c) (.slice none 0 0)).run P w = .ok a.isNone w := by
  cases a <;> simp [Op.equalIn, run_underlying h]
theorem eql_nil {P : Program} (w : World) (t e : TypeId) (a : Option Addr) (l c : Nat) (h : P.underlying t = some (.slice e)) : (binOp .eql t (.slice a l c) (.slice none 0 0)).run P w = .ok (.bool a.isNone) w := by
  have h2 : (Op.equal t (.slice a l c) (.slice none 0 0)).run P w = .ok a.isNone w := eqlIn_nil w 9999 t e a l c h
  simp [binOp, h2]
set_option maxHeartbeats 800000 in
theorem clone_any (v : Value) (l : List UInt8) (S : Nat → Prop) (w : World) (hb : Byts w S v l) (hS : ∀ i, S i → i < w.heap.size) (hbig : l.length ≤ 1048576) :
    Calls Tryd.prog 13 #[v] w fun e w' => ∃ v', e = .returned v' ∧ w'.ownsRow w.heap.size 5 1 v' l.length (u8cells l) ∧ Below w.heap.size w w' := by
  obtain ⟨i0, hi0, hz0, hz1, hz2⟩ := info_parts infoByte
  have hsl := sl_of_byts hb
  obtain ⟨A, n, c, rfl, rfl, hnc, hm, h0, _⟩ := hb
  cases A with
  | none =>
    have hl0 : l.length = 0 := h0 rfl
    obtain rfl : l = [] := List.eq_nil_of_length_eq_zero hl0
    have hnil := fun u => eql_nil (P := Tryd.prog) u 22 5 none 0 c Tryd.underlying22
    simp only [Option.isNone_none] at hnil
    clear hsl h0 hl0
    go_enter Tryd.func13, Tryd.ntmps13
    go_wp2
    go_ret
    exact ⟨_, rfl, World.ownsRow_nil _ _ _ _, Below.refl _ _⟩
  | some ad =>
    have hnil := fun u => eql_nil (P := Tryd.prog) u 22 5 (some ad) l.length c Tryd.underlying22
    simp only [Option.isNone_some] at hnil
    have hown : (w.alloc (.cells #[] 5)).ownsRow w.heap.size 5 1 (.slice (some ⟨w.heap.size, 0, none⟩) 0 0) 0 [] := World.ownsRow_made w #[] 0 (Nat.le_refl _) (by simp [maxLen]) rfl
    have hsl2 := hsl.same ((same_alloc w (.cells #[] 5)).sub hS)
    have hb0 : Below w.heap.size w (w.alloc (.cells #[] 5)) := (Below.refl _ _).alloc (Nat.le_refl _) _
    have hz : (w.alloc (.cells #[] 5)).heap.size = w.heap.size + 1 := World.size_alloc ..
    have HOWN := Lib.hid hown
    have HSL := Lib.hid hsl2
    have HB0 := Lib.hid hb0
    have HZ := Lib.hid hz
    have HBIG := Lib.hid hbig
    clear hown hsl2 hb0 hz hsl h0 hm hbig
    go_enter Tryd.func13, Tryd.ntmps13
    go_wp2_with (at_builtin; refine wpList_append_sl _ rfl (.tmp 5) (.tmp 6) _ rfl w.heap.size _ i0 _ 1 1 Tryd.underlying22 hi0 hz0 hz1 hz2 rfl (by omega) _ _ _ rfl HOWN.out _ _ _ _ rfl HSL.out (oneCell_bytes l) (by have := HBIG.out; unfold maxLen; omega) (by have := HBIG.out; omega) (by have := HZ.out; omega) ?_; intro v9 w9 hown9 hg9 hnil9)
    go_ret
    refine ⟨_, rfl, by simpa [u8cells] using hown9, HB0.out.grown hg9 (by have := HZ.out; omega) (fun i hi => (HOWN.out.lt i hi).1)⟩

/-- what stays: the key, the message, the table -/
def Kenv (w : World) (uk : Value) (key : List UInt8) (ub : Value) (b : List UInt8) : Prop := Byts w (fun k => k < w.heap.size) uk key ∧ Byts w (fun k => k < w.heap.size) ub b ∧ Tab w
theorem Kenv.below {w w' : World} {uk : Value} {key : List UInt8} {ub : Value} {b : List UInt8} (h : Kenv w uk key ub b) (hb : Below w.heap.size w w') : Kenv w' uk key ub b := by
  have hz := hb.size
  obtain ⟨h1, h2, h3⟩ := h
  exact ⟨(h1.same (same_below hb)).sub fun i hi => by omega, (h2.same (same_below hb)).sub fun i hi => by omega, h3.below hb h3.1⟩
/-- a variable that a digest is put into -/
theorem sum_var (w : World) (l : List UInt8) (hl : l.length = 32) : Blk ((w.alloc (.cells ((row8 32).map cell8).toArray 24)).setRow w.heap.size (l.map cell8).toArray) w.heap.size 24 (l.map cell8).toArray ∧
    Below w.heap.size w ((w.alloc (.cells ((row8 32).map cell8).toArray 24)).setRow w.heap.size (l.map cell8).toArray) ∧
    (w.alloc (.cells ((row8 32).map cell8).toArray 24)).heap[w.heap.size]? = some (.cells ((row8 32).map cell8).toArray 24 (0, 0)) := by
  have hA0 : Blk (w.alloc (.cells ((row8 32).map cell8).toArray 24)) w.heap.size 24 ((row8 32).map cell8).toArray := Blk.new w _ _
  exact ⟨setRow_heap _ _ _ _ _ _ hA0, below_setRow ((Below.refl _ _).alloc (Nat.le_refl _) _) (Nat.le_refl _) _, hA0⟩

def own (key : List UInt8) : List UInt8 := if key.length ≤ 64 then key else sha256 key
theorem own_le (key : List UInt8) : (own key).length ≤ 64 := by
  unfold own; split
  · assumption
  · rw [sha_length]; omega
theorem own_of_blk {w : World} {base g : Nat} {t : TypeId} {l : List UInt8} (hb : base ≤ g) (h : Blk w g t (l.map cell8).toArray) (hl : l.length = 32) : w.ownsRow base t 1 (.slice (some ⟨g, 0, none⟩) 32 32) 32 (u8cells l) :=
  ⟨by simp [u8cells, hl], .inr ⟨g, 32, _, rfl, hb, h, Nat.le_refl _, by simp [maxLen], by simp [hl], by rw [Nat.mul_one]; show (l.map cell8).take 32 = _; rw [List.take_of_length_le (by simp [hl])]; rfl⟩⟩

theorem neq_sum (xs : List UInt8) (hx : xs.length = 32) (u : World) : (binOp .neq 24 (.agg (xs.map cell8).toArray) (.agg (xs.map cell8).toArray)).run Tryd.prog u = .ok (.bool false) u := by
  obtain ⟨i0, hi0, hs0⟩ := info1
  have h := run_equalIn_bytes (P := Tryd.prog) (w := u) 9998 24 5 32 Tryd.underlying24 Tryd.underlying5 (fun w => by simp [sizeOf, typeInfo, hi0, hs0]) xs xs hx hx
  have h2 : (Op.equalIn 10000 24 (.agg (xs.map cell8).toArray) (.agg (xs.map cell8).toArray)).run Tryd.prog u = .ok (xs == xs) u := h
  rw [run_neq_struct, h2]
  simp
theorem guard_neq (x y : Operand) (A B : Array Value) (u : World) : (eqGuard .neq 24 x y (.agg A) (.agg B)).run Tryd.prog u = .ok () u := by
  simp [eqGuard, guardTy, Sem.run_bind]
theorem range_one {w w' : World} {B g : Nat} {cs : List Value} (hr : w.rangeAt g 0 cs) (hb : Below B w w') (hg : g < B) : w'.rangeAt g 0 cs :=
  fun j v hj => ((same_below hb).cell (p := ⟨g, 0 + j, none⟩) (show g < B by omega)).trans (hr j v hj)
theorem block_own (key : List UInt8) (k : Nat) (hk : (own key).length + k ≤ 64) : block (own key ++ List.replicate k 0) = block key := by
  have h1 : block key = own key ++ List.replicate (64 - (own key).length) 0 := rfl
  have h2 : (own key ++ List.replicate k (0 : UInt8)).length ≤ 64 := by simpa using hk
  have h3 : block (own key ++ List.replicate k 0) = (own key ++ List.replicate k 0) ++ List.replicate (64 - (own key ++ List.replicate k (0 : UInt8)).length) 0 := by
    unfold block; simp only [h2, if_true]
  rw [h3, h1, List.append_assoc, List.replicate_append_replicate]
  congr 2
  simp; omega
theorem hmac_own (key b : List UInt8) (k : Nat) (hk : (own key).length + k ≤ 64) : hmac (own key ++ List.replicate k 0) b = hmac key b := by
  unfold hmac; rw [block_own key k hk]

theorem own_below {w w' : World} {base e size n : Nat} {v : Value} {xs : List Value} (h : w.ownsRow base e size v n xs) (hb : Below w.heap.size w w') : w'.ownsRow base e size v n xs := by
  refine ⟨h.1, ?_⟩
  rcases h.2 with hn | ⟨g, cap, cur, rfl, hbb, hgg, rest⟩
  · exact .inl hn
  · exact .inr ⟨g, cap, cur, rfl, hbb, (hb.block g (Array.getElem?_eq_some_iff.1 hgg).1).trans hgg, rest⟩

set_option maxRecDepth 100000 in
set_option maxHeartbeats 4000000 in
theorem hashKeys (w : World) (v0 v1 : Value) (key0 b0 : List UInt8) (z : Nat) (h0 : Byts w (fun k => k < w.heap.size) v0 key0) (h1 : Byts w (fun k => k < w.heap.size) v1 b0) (hz : z < 256) (ht : Tab w) :
    Calls Tryd.prog 5 #[v0, v1, .int .u8 (z : Int)] w fun e w' => e = .returned (.bool true) ∧ Below w.heap.size w w' := by
  obtain ⟨A0, c0, rfl, hnc0, hm0, _⟩ := h0.row
  obtain ⟨A1, c1, rfl, hnc1, hm1, _⟩ := h1.row
  unfold maxLen at hm0 hm1
  have hmin0 : (if (150 : Int) < (key0.length : Int) then (150 : Int) else (key0.length : Int)) = ((min key0.length 150 : Nat) : Int) := by split <;> omega
  have hmin1 : (if (150 : Int) < (b0.length : Int) then (150 : Int) else (b0.length : Int)) = ((min b0.length 150 : Nat) : Int) := by split <;> omega
  have hx1 : (0 : Int) ≤ ((min key0.length 150 : Nat) : Int) := by omega
  have hx2 : ((min key0.length 150 : Nat) : Int) ≤ (c0 : Int) := by omega
  have hx3 : (0 : Int) ≤ ((min b0.length 150 : Nat) : Int) := by omega
  have hx4 : ((min b0.length 150 : Nat) : Int) ≤ (c1 : Int) := by omega
  have hK := h0.take_ (k := min key0.length 150) (by omega)
  have hB := h1.take_ (k := min b0.length 150) (by omega)
  have hkl : (key0.take (min key0.length 150)).length = min key0.length 150 := by rw [List.length_take]; omega
  have hk150 : min key0.length 150 ≤ 150 := by omega
  generalize key0.take (min key0.length 150) = key at hK hkl
  generalize min key0.length 150 = kn at *
  generalize b0.take (min b0.length 150) = b at hB
  generalize min b0.length 150 = bn at *
  subst hkl
  have HK := Lib.hid hK
  have HB := Lib.hid hB
  have HT := Lib.hid ht
  clear h0 h1 hK hB ht
  go_enter Tryd.func5, Tryd.ntmps5
  go_wp2_with fail
  go_region
  have hb1 : Below w.heap.size w w.drew := (Below.refl _ _).drew
  have hE1 : Kenv w.drew (.slice A0 key.length c0) key (.slice A1 bn c1) b := Kenv.below ⟨HK.out, HB.out, HT.out⟩ hb1
  generalize w.drew = w1 at *
  have HE1 := Lib.hid hE1
  have HBW1 := Lib.hid hb1
  clear hE1 hb1 HK HB HT hmin0 hmin1 hx1 hx2 hx3 hx4
  go_wp2_with fail
  have hp := parts_one w1 _ 22 _ b HE1.out.2.1 (fun i hi => hi)
  have hb2 : Below w1.heap.size w1 (w1.alloc (.cells #[.slice A1 bn c1] 22)) := (Below.refl _ _).alloc (Nat.le_refl _) _
  have hE2 := HE1.out.below hb2
  have hbw2 := HBW1.out.trans (hb2.mono HBW1.out.size)
  have hz2 : (w1.alloc (.cells #[.slice A1 bn c1] 22)).heap.size = w1.heap.size + 1 := World.size_alloc ..
  generalize w1.alloc (.cells #[.slice A1 bn c1] 22) = w2 at *
  refine (hmac_any _ _ key [b] _ _ w2 hE2.1 hp (fun i hi => hi) (fun i hi => by omega) hE2.2.2).mono ?_
  rintro e w3 ⟨rfl, hb3⟩
  rw [show [b].flatten = b from by simp]
  have hE3 := hE2.below hb3
  have hbw3 := hbw2.trans (hb3.mono hbw2.size)
  obtain ⟨wt, hwt⟩ : ∃ wt, wt = hmac key b := ⟨_, rfl⟩
  have hlw : wt.length = 32 := by rw [hwt]; exact sha_length _
  rw [← hwt]
  obtain ⟨q1, q2, q3⟩ := sum_var w3 wt hlw
  have hsz := sum_size wt hlw
  have hrw := row_size wt 32 hlw
  obtain ⟨w4, hw4⟩ : ∃ w4, w4 = (w3.alloc (.cells ((row8 32).map cell8).toArray 24)).setRow w3.heap.size (wt.map cell8).toArray := ⟨_, rfl⟩
  rw [← hw4] at q1 q2
  have hE4 := hE3.below q2
  have hbw4 := hbw3.trans (q2.mono hbw3.size)
  have HSZ := Lib.hid hsz
  have HRW := Lib.hid hrw
  have HQ1 := Lib.hid q1
  have HQ3 := Lib.hid q3
  have HW4 := Lib.hid hw4
  have HE4 := Lib.hid hE4
  have HBW4 := Lib.hid hbw4
  have HWT := Lib.hid hwt
  have HLW := Lib.hid hlw
  clear hsz hrw q1 q2 q3 hw4 hE4 hbw4 hwt hlw hE3 hbw3 hb3 hp hb2 hE2 hbw2 hz2 HE1 HBW1
  go_wp2_with (first | (with_reducible refine wpList_alloc_as rfl 24 rfl _ alloc24 ?_) | (with_reducible refine wpList_store_row rfl 24 (.tmp 7) (.tmp 29) rfl w3.heap.size _ rfl rfl _ _ HQ3.out HSZ.out HRW.out (all_cell8 wt) ?_) | fail)
  rw [← HW4.out]
  refine (clone_any _ key _ w4 HE4.out.1 (fun i hi => hi) (by omega)).mono ?_
  rintro e w5 ⟨v8, rfl, hown5, hb5⟩
  have HOWN5 := Lib.hid hown5
  have HE5 := Lib.hid (HE4.out.below hb5)
  have HB5 := Lib.hid hb5
  clear hown5 hb5
  go_upto_if 34 with fail
  go_cut [8] (fun v wx => ∃ e0, wx.ownsRow w4.heap.size e0 1 v (own key).length (u8cells (own key)) ∧ Below w4.heap.size w4 wx)
  case first =>
    by_cases h64 : 64 < key.length
    · have hd : decide ((64 : Int) < (key.length : Int)) = true := by simp; omega
      have how : own key = sha256 key := by unfold own; rw [if_neg (by omega)]
      have HOW := Lib.hid how
      clear how
      simp only [hd]
      go_wp2_with fail
      have hp := parts_one w5 _ 22 _ key HE5.out.1 (fun i hi => hi)
      have hb6 : Below w5.heap.size w5 (w5.alloc (.cells #[.slice A0 key.length c0] 22)) := (Below.refl _ _).alloc (Nat.le_refl _) _
      have hE6 := HE5.out.below hb6
      have hbw6 := HB5.out.trans (hb6.mono HB5.out.size)
      have hz6 : (w5.alloc (.cells #[.slice A0 key.length c0] 22)).heap.size = w5.heap.size + 1 := World.size_alloc ..
      generalize w5.alloc (.cells #[.slice A0 key.length c0] 22) = w6 at *
      refine (sha_any _ [key] _ w6 hp (fun i hi => by omega) hE6.2.2).mono ?_
      rintro e w7 ⟨rfl, hb7⟩
      rw [show [key].flatten = key from by simp]
      have hbw7 := hbw6.trans (hb7.mono hbw6.size)
      rw [← HOW.out]
      have hlo : (own key).length = 32 := by rw [HOW.out]; exact sha_length _
      generalize own key = ow at *
      obtain ⟨q1, q2, q3⟩ := sum_var w7 ow hlo
      have hsz := sum_size ow hlo
      have hrw := row_size ow 32 hlo
      obtain ⟨w8, hw8⟩ : ∃ w8, w8 = (w7.alloc (.cells ((row8 32).map cell8).toArray 24)).setRow w7.heap.size (ow.map cell8).toArray := ⟨_, rfl⟩
      rw [← hw8] at q1 q2
      have hbw8 := hbw7.trans (q2.mono hbw7.size)
      have hbase := hbw7.size
      have HSZ := Lib.hid hsz
      have HRW := Lib.hid hrw
      have HQ1 := Lib.hid q1
      have HQ3 := Lib.hid q3
      have HW8 := Lib.hid hw8
      have HBW8 := Lib.hid hbw8
      have HLO := Lib.hid hlo
      have HBA := Lib.hid hbase
      clear hsz hrw q1 q2 q3 hw8 hbw8 hlo hbase hbw7 hb7 hp hb6 hE6 hbw6 hz6 HE5 HOWN5 HOW
      go_wp2_with (first | (with_reducible refine wpList_alloc_as rfl 24 rfl _ alloc24 ?_) | (with_reducible refine wpList_store_row rfl 24 (.tmp 9) (.tmp 37) rfl w7.heap.size _ rfl rfl _ _ HQ3.out HSZ.out HRW.out (all_cell8 ow) ?_) | fail)
      rw [← HW8.out]
      go_meet
      exact ⟨_, by rw [HLO.out]; exact own_of_blk HBA.out HQ1.out HLO.out, HBW8.out⟩
    · have hd : decide ((64 : Int) < (key.length : Int)) = false := by simp; omega
      have how : own key = key := by unfold own; rw [if_pos (by omega)]
      have HOW := Lib.hid how
      clear how h64
      simp only [hd]
      go_wp2_with fail
      go_meet
      exact ⟨_, by rw [HOW.out]; exact HOWN5.out, HB5.out⟩
  case rest =>
    obtain ⟨e0, hown, hbc⟩ := hcut
    have hol := own_le key
    obtain ⟨ow, how⟩ : ∃ ow, ow = own key := ⟨_, rfl⟩
    rw [← how] at hown hol
    obtain ⟨n0, hn0⟩ : ∃ n0, n0 = ow.length := ⟨_, rfl⟩
    rw [← hn0] at hown hol
    obtain ⟨d, hd⟩ : ∃ d, d = 65 - n0 := ⟨_, rfl⟩
    have hw1 : IntKind.i64.wrap (65 - (n0 : Int)) = (d : Int) := by rw [IntKind.wrap_i64]; omega
    have hd0 : ¬ ((d : Int) = 0) := by omega
    obtain ⟨k, hk⟩ : ∃ k, k = z % d := ⟨_, rfl⟩
    have hkd : k < d := by rw [hk]; exact Nat.mod_lt _ (by omega)
    have hrem : Int.tmod (z : Int) (d : Int) = (k : Int) := by rw [hk]; rfl
    have hw2 : IntKind.i64.wrap (k : Int) = (k : Int) := by rw [IntKind.wrap_i64]; omega
    have hwz : IntKind.i64.wrap (z : Int) = (z : Int) := by rw [IntKind.wrap_i64]; omega
    obtain ⟨B8, c8, hv8⟩ : ∃ B8 c8, u8 = .slice B8 n0 c8 := by
      rcases hown.2 with ⟨h1, h2⟩ | ⟨g, cap, cur, h1, _⟩
      · exact ⟨none, 0, by rw [h1, h2]⟩
      · exact ⟨_, cap, h1⟩
    subst hv8
    obtain ⟨i0, hi0, hz0, hz1, hz2⟩ := info_parts infoByte
    obtain ⟨v9, w6, e1, hrun, hown6, hg6, hnil6⟩ := run_append_zeros (P := Tryd.prog) wc w4.heap.size 22 3 22 5 e0 i0 .i64 .i64 Tryd.underlying22 Tryd.underlying3 hi0 hz0 hz1 hz2 _ n0 _ hown k (by omega) hbc.size
    have hbc6 : Below w4.heap.size w4 w6 := hbc.grown hg6 hbc.size (fun i hi => (hown.lt i hi).1)
    rw [zeros_cells, show u8cells ow ++ u8cells (List.replicate k 0) = u8cells (ow ++ List.replicate k 0) from by simp [u8cells]] at hown6
    have hEC := HE4.out.below hbc6
    have HRUN := Lib.hid hrun
    have HOWN := Lib.hid hown6
    have HBC := Lib.hid hbc6
    have HEC := Lib.hid hEC
    have HD := Lib.hid hd
    have HK := Lib.hid hk
    have HOW := Lib.hid how
    have HN0 := Lib.hid hn0
    clear hown hbc hd hk how hn0 HE5 HB5 HOWN5 HSZ HRW HQ3 HW4 hrun hown6 hbc6 hEC hg6 hnil6
    go_wp2_with (at_builtin; refine wpList_append_of rfl (.tmp 39) (.tmp 45) _ _ rfl _ _ rfl rfl _ _ HRUN.out ?_)
    have hnk : n0 + k ≤ 64 := by have := HD.out; omega
    have hsame : hmac (ow ++ List.replicate k 0) b = wt := by
      rw [HOW.out, HWT.out]
      exact hmac_own key b k (by rw [← HOW.out, ← HN0.out]; exact hnk)
    have hfin : block key = ow ++ List.replicate k 0 ++ List.replicate (64 - (n0 + k)) 0 := by
      have := block_own key k (by rw [← HOW.out, ← HN0.out]; exact hnk)
      rw [← this, ← HOW.out]
      unfold block
      simp only [List.length_append, List.length_replicate, ← HN0.out, hnk, if_true]
    generalize ow ++ List.replicate k 0 = oz at *
    have hbd : Below w6.heap.size w6 w6.drew := (Below.refl _ _).drew
    have hEd := HEC.out.below hbd
    have hOd : Byts w6.drew (fun j => j < w6.drew.heap.size) v9 oz := (((byts_of_own HOWN.out rfl).sub (T := fun j => j < w6.heap.size) fun i hi => hi.2).same (same_below hbd)).sub fun i hi => hi
    have hlt3 : w3.heap.size < w4.heap.size := HQ1.out.lt
    have hr6 : w6.drew.rangeAt w3.heap.size 0 (wt.map cell8) := range_one (show w4.rangeAt w3.heap.size 0 (wt.map cell8) from range_of HQ1.out) (HBC.out.drew) hlt3
    have hbA : Below w6.drew.heap.size w6.drew (w6.drew.alloc (.cells #[.slice A1 bn c1] 22)) := (Below.refl _ _).alloc (Nat.le_refl _) _
    have hpA := parts_one w6.drew _ 22 _ b hEd.2.1 (fun i hi => hi)
    have hEA := hEd.below hbA
    have hzA : (w6.drew.alloc (.cells #[.slice A1 bn c1] 22)).heap.size = w6.drew.heap.size + 1 := World.size_alloc ..
    have hOA : Byts (w6.drew.alloc (.cells #[.slice A1 bn c1] 22)) (fun j => j < (w6.drew.alloc (.cells #[.slice A1 bn c1] 22)).heap.size) v9 oz := (hOd.same (same_below hbA)).sub fun i hi => by omega
    have hrA := range_one hr6 hbA (show w3.heap.size < w6.drew.heap.size by have := HBC.out.size; change w3.heap.size < w6.heap.size; omega)
    have hltA : w3.heap.size < (w6.drew.alloc (.cells #[.slice A1 bn c1] 22)).heap.size := by have := HBC.out.size; change _ < _ at hlt3; rw [hzA]; change w3.heap.size < w6.heap.size + 1; omega
    have hnq := neq_sum wt HLW.out
    have hU := Tryd.underlying24
    have hIa : (Tryd.prog.info? 24).map (·.size) = some (wt.map cell8).length := by rw [List.length_map, HLW.out]; kernel_rfl
    have hgq := guard_neq
    have hbX : Below w6.heap.size w6 (w6.drew.alloc (.cells #[.slice A1 bn c1] 22)) := hbd.trans (hbA.mono hbd.size)
    have HOA := Lib.hid hOA
    have HPA := Lib.hid hpA
    have HEA := Lib.hid hEA
    have HZA := Lib.hid hzA
    have HLA := Lib.hid hltA
    have HRA := Lib.hid hrA
    have HR6 := Lib.hid hr6
    have HSAME := Lib.hid hsame
    have HFIN := Lib.hid hfin
    have HBX := Lib.hid hbX
    have HLT3 := Lib.hid hlt3
    clear hOA hpA hEA hzA hltA hrA hr6 hsame hfin hbX hbA hEd hOd hbd hw1 hrem hwz HRUN hlt3
    go_region_held3? (fun w' => w'.rangeAt w3.heap.size 0 (wt.map cell8)) (first | exact HR6.out | exact HRA.out | exact h8)
      ((go_at_call 9
        refine (hmac_any v9 _ oz [b] _ _ (w6.drew.alloc (.cells #[.slice A1 bn c1] 22)) HOA.out HPA.out (fun i hi => hi) (fun i hi => by have := HZA.out; omega) HEA.out.2.2).mono ?_
        rintro e w8 ⟨rfl, hb8⟩
        rw [show [b].flatten = b from by simp, HSAME.out]
        have h8 := range_one HRA.out hb8 HLA.out))
    have hbx8 : Below w6.heap.size w6 w8 := HBX.out.trans (hb8.mono HBX.out.size)
    have hb48 : Below w4.heap.size w4 w8 := HBC.out.trans (hbx8.mono HBC.out.size)
    have hown8 := own_below HOWN.out hbx8
    obtain ⟨n1, hn1⟩ : ∃ n1, n1 = n0 + k := ⟨_, rfl⟩
    rw [← hn1] at hown8 hnk
    have hfin2 := HFIN.out
    rw [← hn1] at hfin2
    obtain ⟨m, hm⟩ : ∃ m, m = 64 - n1 := ⟨_, rfl⟩
    have hw3 : IntKind.i64.wrap (64 - (n1 : Int)) = (m : Int) := by rw [IntKind.wrap_i64]; omega
    obtain ⟨v10, w9, e2, hrun, hown9, hg9, _⟩ := run_append_zeros (P := Tryd.prog) w8 w4.heap.size 22 3 22 5 e1 i0 .i64 .i64 Tryd.underlying22 Tryd.underlying3 hi0 hz0 hz1 hz2 _ n1 _ hown8 m (by omega) hb48.size
    have hb49 : Below w4.heap.size w4 w9 := hb48.grown hg9 hb48.size (fun i hi => (hown8.lt i hi).1)
    rw [zeros_cells, show u8cells oz ++ u8cells (List.replicate m 0) = u8cells (oz ++ List.replicate m 0) from by simp [u8cells], hm, ← hfin2, show n1 + (64 - n1) = 64 from by omega] at hown9
    have hE9 := HE4.out.below hb49
    obtain ⟨B9, c9, hv9⟩ : ∃ B9 c9, v9 = .slice B9 n1 c9 := by
      rcases hown8.2 with ⟨h1, h2⟩ | ⟨g, cap, cur, h1, _⟩
      · exact ⟨none, 0, by rw [h1, h2]⟩
      · exact ⟨_, cap, h1⟩
    subst hv9
    have HRUN := Lib.hid hrun
    have HOWN9 := Lib.hid hown9
    have HB49 := Lib.hid hb49
    have HE9 := Lib.hid hE9
    have HM := Lib.hid hm
    have HN1 := Lib.hid hn1
    have hmk : ∀ u : World, (Instr.makeSlice 22 (.int .i64 64) (.int .i64 64)).run Tryd.prog u = .ok (.slice (some ⟨u.heap.size, 0, none⟩) 64 64) (u.alloc (.cells ((row8 64).map cell8).toArray 5)) := make8 64 (by omega)
    clear hrun hown9 hb49 hE9 hm hn1 hfin2 hown8 hb48 hbx8 hg9 h8 hb8 hnq hgq hIa hU HOA HPA HEA HZA HLA HRA HR6 HSAME HFIN HBX HOWN HEC hd0 hkd hw2
    go_upto_region 11 with (at_builtin; refine wpList_append_of rfl (.tmp 53) (.tmp 56) _ _ rfl _ _ rfl rfl _ _ HRUN.out ?_)
    go_cut [11, 12] (fun a b wx => ∃ gi go_, a = .slice (some ⟨gi, 0, none⟩) 64 64 ∧ b = .slice (some ⟨go_, 0, none⟩) 64 64 ∧ gi ≠ go_ ∧ w9.heap.size ≤ gi ∧ w9.heap.size ≤ go_ ∧ Blk wx gi 5 ((row8 64).map cell8).toArray ∧ Blk wx go_ 5 ((row8 64).map cell8).toArray ∧ Below w9.heap.size w9 wx)
    case first =>
      have hbX : Below w9.heap.size w9 ((w9.alloc (.cells ((row8 64).map cell8).toArray 5)).alloc (.cells ((row8 64).map cell8).toArray 5)).drew := (((Below.refl _ _).alloc (Nat.le_refl _) _).alloc (by simp) _).drew
      have hBa : Blk ((w9.alloc (.cells ((row8 64).map cell8).toArray 5)).alloc (.cells ((row8 64).map cell8).toArray 5)).drew w9.heap.size 5 ((row8 64).map cell8).toArray := (Blk.new w9 5 ((row8 64).map cell8).toArray).alloc (.cells ((row8 64).map cell8).toArray 5)
      have hBb : Blk ((w9.alloc (.cells ((row8 64).map cell8).toArray 5)).alloc (.cells ((row8 64).map cell8).toArray 5)).drew (w9.heap.size + 1) 5 ((row8 64).map cell8).toArray := by
        have := Blk.new (w9.alloc (.cells ((row8 64).map cell8).toArray 5)) 5 ((row8 64).map cell8).toArray
        rw [World.size_alloc] at this
        exact this
      have HBX := Lib.hid hbX
      have HBA := Lib.hid hBa
      have HBB := Lib.hid hBb
      clear hbX hBa hBb
      go_region
      all_goals (go_wp2_with fail; go_meet; first | exact ⟨_, _, rfl, rfl, by omega, by omega, by omega, HBA.out, HBB.out, HBX.out⟩ | exact ⟨_, _, rfl, rfl, by omega, by omega, by omega, HBB.out, HBA.out, HBX.out⟩)
    case rest =>
      obtain ⟨gi, go_, rfl, rfl, hne, hgi, hgo, hBi, hBo, hbw⟩ := hcut
      have hW := byts_of_own HOWN9.out rfl
      have hWl : (block key).length = 64 := by have := HOWN9.out.1; simpa [u8cells] using this
      obtain ⟨kb, hkb⟩ : ∃ kb, kb = block key := ⟨_, rfl⟩
      rw [← hkb] at hW hWl
      obtain ⟨A10, c10, hv10, hnc10, _, hrow⟩ := hW.row
      rw [hWl] at hv10 hnc10
      subst hv10
      have HROW := Lib.hid hrow
      have HKB := Lib.hid hkb
      have HWL := Lib.hid hWl
      clear hrow hkb hW hWl hmk HRUN
      go_wp2_with fail
      go_loopw [62] (fun i wr => ∃ j : Nat, j ≤ 64 ∧ i = .int .i64 j ∧ Below w9.heap.size w9 wr ∧ Blk wr gi 5 (((keyed kb 54).take j ++ row8 (64 - j)).map cell8).toArray ∧ Blk wr go_ 5 (((keyed kb 92).take j ++ row8 (64 - j)).map cell8).toArray) (fun i _ => 64 - (intOf i).toNat)
      case atStart => exact ⟨0, by omega, rfl, hbw, by simpa using hBi, by simpa using hBo⟩
      case round =>
        obtain ⟨j, hj, rfl, hb, hI, hO⟩ := hrel
        by_cases hlt : j < 64
        · have hwl := HWL.out
          have hbj := List.getElem?_eq_getElem (show j < kb.length by omega)
          obtain ⟨g10, off10, rfl, hS10, hc10⟩ := HROW.out j _ hbj
          have hcell : wr.cell? ⟨g10, off10 + j, none⟩ = some (.int .u8 (kb[j].toNat : Int)) := ((same_below hb).cell (p := ⟨g10, off10 + j, none⟩) hS10.2).trans hc10
          have hbl := kb[j].toNat_lt
          have hx1 : bits .xor .u8 (kb[j].toNat : Int) 54 = ((kb[j] ^^^ 54).toNat : Int) := by rw [UInt8.toNat_xor]; exact u8_xor_nat _ 54 (by omega) (by omega)
          have hx2 : bits .xor .u8 (kb[j].toNat : Int) 92 = ((kb[j] ^^^ 92).toNat : Int) := by rw [UInt8.toNat_xor]; exact u8_xor_nat _ 92 (by omega) (by omega)
          have hk1 : (keyed kb 54)[j]? = some (kb[j] ^^^ 54) := by simp [keyed, hbj]
          have hk2 : (keyed kb 92)[j]? = some (kb[j] ^^^ 92) := by simp [keyed, hbj]
          have hs1 := take_row_succ _ 64 j _ (by rw [keyed_length]; exact hwl) hk1
          have hs2 := take_row_succ _ 64 j _ (by rw [keyed_length]; exact hwl) hk2
          have hlz : ∀ x, ((keyed kb x).take j).length = j := fun x => by rw [List.length_take, keyed_length]; omega
          have hci : wr.cell? ⟨gi, j, none⟩ = some (.int .u8 0) := by
            rw [hI.cell, List.getElem?_toArray, List.getElem?_map, List.getElem?_append_right (by rw [hlz]; omega), hlz, Nat.sub_self, row8, List.getElem?_replicate, if_pos (by omega)]
            rfl
          have hco : wr.cell? ⟨go_, j, none⟩ = some (.int .u8 0) := by
            rw [hO.cell, List.getElem?_toArray, List.getElem?_map, List.getElem?_append_right (by rw [hlz]; omega), hlz, Nat.sub_self, row8, List.getElem?_replicate, if_pos (by omega)]
            rfl
          have hfi := hI.frozen j
          have hO2 : ∀ v, Blk (wr.setCell ⟨gi, j, none⟩ v) go_ 5 (((keyed kb 92).take j ++ row8 (64 - j)).map cell8).toArray := fun v => Blk.same hO (same_set wr ⟨gi, j, none⟩ v) (Ne.symm hne)
          have hco2 : ∀ v, (wr.setCell ⟨gi, j, none⟩ v).cell? ⟨go_, j, none⟩ = some (.int .u8 0) := fun v => (World.cell?_setCell_far wr ⟨gi, j, none⟩ ⟨go_, j, none⟩ v hne).trans hco
          have hfo2 : ∀ v, (wr.setCell ⟨gi, j, none⟩ v).frozen? ⟨go_, j, none⟩ = false := fun v => (hO2 v).frozen j
          have hI2 := hI.set_ j (cell8 (kb[j] ^^^ 54))
          rw [List.setIfInBounds_toArray, ← List.map_set, ← hs1] at hI2
          have hI3 : ∀ v, Blk ((wr.setCell ⟨gi, j, none⟩ (cell8 (kb[j] ^^^ 54))).setCell ⟨go_, j, none⟩ v) gi 5 (((keyed kb 54).take (j + 1) ++ row8 (64 - (j + 1))).map cell8).toArray := fun v => Blk.same hI2 (same_set _ ⟨go_, j, none⟩ v) hne
          have hO3 := (hO2 (cell8 (kb[j] ^^^ 54))).set_ j (cell8 (kb[j] ^^^ 92))
          rw [List.setIfInBounds_toArray, ← List.map_set, ← hs2] at hO3
          have hI4 := hI3 (cell8 (kb[j] ^^^ 92))
          generalize kb[j] ^^^ 54 = y1 at *
          generalize kb[j] ^^^ 92 = y2 at *
          generalize kb[j] = cb at *
          have HI4 := Lib.hid hI4
          have HO4 := Lib.hid hO3
          clear hI4 hO3 hI3 hI2 hO2 hlz hs1 hs2 hk1 hk2 hbj hc10 hwl hI hO hBi hBo hbw
          have hne1 : ¬ c10 = j := by omega
          go_wp2
          go_roundw
          case rel => exact ⟨j + 1, by omega, by go_num, (hb.setCell hgi _).setCell hgo _, HI4.out, HO4.out⟩
          case measure => simp [intOf]; omega
        · obtain rfl : j = 64 := by omega
          have hl1 : (keyed kb 54).length = 64 := by rw [keyed_length]; exact HWL.out
          have hl2 : (keyed kb 92).length = 64 := by rw [keyed_length]; exact HWL.out
          rw [List.take_of_length_le (by omega), Nat.sub_self, show row8 0 = [] from rfl, List.append_nil] at hI hO
          rw [show ((64 : Nat) : Int) = 64 from rfl]
          have HI := Lib.hid hI
          have HO := Lib.hid hO
          have HB9 := Lib.hid hb
          clear hI hO hb hBi hBo hbw
          go_wp2_with fail
          have hEr := HE9.out.below HB9.out
          have hbi : Byts wr (fun k => k < wr.heap.size) (.slice (some ⟨gi, 0, none⟩) 64 64) (keyed kb 54) := by
            have := (Blk.byts HI.out (by rw [hl1]; simp [maxLen])).sub (T := fun k => k < wr.heap.size) (fun i hi => by rw [hi]; exact HI.out.lt)
            rwa [hl1] at this
          have hbo : Byts wr (fun k => k < wr.heap.size) (.slice (some ⟨go_, 0, none⟩) 64 64) (keyed kb 92) := by
            have := (Blk.byts HO.out (by rw [hl2]; simp [maxLen])).sub (T := fun k => k < wr.heap.size) (fun i hi => by rw [hi]; exact HO.out.lt)
            rwa [hl2] at this
          have hp := parts_two wr _ 22 _ _ _ _ hbi hEr.2.1 (fun i hi => hi)
          have hb10 : Below wr.heap.size wr (wr.alloc (.cells #[.slice (some ⟨gi, 0, none⟩) 64 64, .slice A1 bn c1] 22)) := (Below.refl _ _).alloc (Nat.le_refl _) _
          have hE10 := hEr.below hb10
          have hz10 : (wr.alloc (.cells #[.slice (some ⟨gi, 0, none⟩) 64 64, .slice A1 bn c1] 22)).heap.size = wr.heap.size + 1 := World.size_alloc ..
          generalize wr.alloc (.cells #[.slice (some ⟨gi, 0, none⟩) 64 64, .slice A1 bn c1] 22) = w10 at *
          refine (sha_any _ [keyed kb 54, b] _ w10 hp (fun i hi => by omega) hE10.2.2).mono ?_
          rintro e w11 ⟨rfl, hb11⟩
          rw [show [keyed kb 54, b].flatten = keyed kb 54 ++ b from by simp]
          obtain ⟨h3, hh3⟩ : ∃ h3, h3 = sha256 (keyed kb 54 ++ b) := ⟨_, rfl⟩
          have hl3 : h3.length = 32 := by rw [hh3]; exact sha_length _
          rw [← hh3]
          have hwant : sha256 (keyed kb 92 ++ h3) = wt := by rw [hh3, HKB.out, HWT.out]; rfl
          obtain ⟨q1, q2, q3⟩ := sum_var w11 h3 hl3
          have hsz := sum_size h3 hl3
          have hrw := row_size h3 32 hl3
          obtain ⟨w12, hw12⟩ : ∃ w12, w12 = (w11.alloc (.cells ((row8 32).map cell8).toArray 24)).setRow w11.heap.size (h3.map cell8).toArray := ⟨_, rfl⟩
          rw [← hw12] at q1 q2
          have hbr11 : Below wr.heap.size wr w11 := hb10.trans (hb11.mono hb10.size)
          have hbr12 : Below wr.heap.size wr w12 := hbr11.trans (q2.mono hbr11.size)
          have hE12 := hEr.below hbr12
          have hbo12 := hbo.same (same_below hbr12)
          have hb912 : Below w9.heap.size w9 w12 := HB9.out.trans (hbr12.mono HB9.out.size)
          have hb412 : Below w4.heap.size w4 w12 := HB49.out.trans (hb912.mono HB49.out.size)
          have hlt3 : w3.heap.size < w4.heap.size := HQ1.out.lt
          have hr12 : w12.rangeAt w3.heap.size 0 (wt.map cell8) := range_one (show w4.rangeAt w3.heap.size 0 (wt.map cell8) from range_of HQ1.out) hb412 hlt3
          have hb12 : Below w.heap.size w w12 := HBW4.out.trans (hb412.mono HBW4.out.size)
          have hh12 : Byts w12 (fun k => k < w12.heap.size) (.slice (some ⟨w11.heap.size, 0, none⟩) 32 32) h3 := by
            have := (Blk.byts q1 (by rw [hl3]; simp [maxLen])).sub (T := fun k => k < w12.heap.size) (fun i hi => by rw [hi]; exact q1.lt)
            rwa [hl3] at this
          have hbo12 := hbo12.sub (T := fun k => k < w12.heap.size) (fun i hi => by have := hbr12.size; omega)
          have hlt12 : w3.heap.size < w12.heap.size := by have := hb412.size; omega
          have HSZ := Lib.hid hsz
          have HRW := Lib.hid hrw
          have HQ3 := Lib.hid q3
          have HW12 := Lib.hid hw12
          have HE12 := Lib.hid hE12
          have HBO := Lib.hid hbo12
          have HH12 := Lib.hid hh12
          have HB12 := Lib.hid hb12
          have HR12 := Lib.hid hr12
          have HLT := Lib.hid hlt12
          have HWANT := Lib.hid hwant
          clear hEr hbi hbo hp hb10 hE10 hz10 hb11 hh3 hwant q1 q2 q3 hsz hrw hw12 hbr11 hbr12 hE12 hbo12 hb912 hb412 hlt3 hr12 hb12 hh12 hlt12 hl1 hl2
          go_wp2_with (first | (with_reducible refine wpList_alloc_as rfl 24 rfl _ alloc24 ?_) | (with_reducible refine wpList_store_row rfl 24 (.tmp 15) (.tmp 81) rfl w11.heap.size _ rfl rfl _ _ HQ3.out HSZ.out HRW.out (all_cell8 h3) ?_) | fail)
          rw [← HW12.out]
          have hbd : Below w12.heap.size w12 w12.drew := (Below.refl _ _).drew
          have hEd := HE12.out.below hbd
          have hOd : Byts w12.drew (fun j => j < w12.drew.heap.size) (.slice (some ⟨go_, 0, none⟩) 64 64) (keyed kb 92) := HBO.out.same (same_below hbd)
          have hHd : Byts w12.drew (fun j => j < w12.drew.heap.size) (.slice (some ⟨w11.heap.size, 0, none⟩) 32 32) h3 := HH12.out.same (same_below hbd)
          have hrd : w12.drew.rangeAt w3.heap.size 0 (wt.map cell8) := range_one HR12.out hbd HLT.out
          have hbA : Below w12.drew.heap.size w12.drew (w12.drew.alloc (.cells #[.slice (some ⟨go_, 0, none⟩) 64 64, .slice (some ⟨w11.heap.size, 0, none⟩) 32 32] 22)) := (Below.refl _ _).alloc (Nat.le_refl _) _
          have hpA := parts_two w12.drew _ 22 _ _ _ _ hOd hHd (fun i hi => hi)
          have hEA := hEd.below hbA
          have hzA : (w12.drew.alloc (.cells #[.slice (some ⟨go_, 0, none⟩) 64 64, .slice (some ⟨w11.heap.size, 0, none⟩) 32 32] 22)).heap.size = w12.drew.heap.size + 1 := World.size_alloc ..
          have hrA := range_one hrd hbA (show w3.heap.size < w12.drew.heap.size from HLT.out)
          have hltA : w3.heap.size < (w12.drew.alloc (.cells #[.slice (some ⟨go_, 0, none⟩) 64 64, .slice (some ⟨w11.heap.size, 0, none⟩) 32 32] 22)).heap.size := by have := HLT.out; rw [hzA]; change w3.heap.size < w12.heap.size + 1; omega
          have hbAll : Below w.heap.size w (w12.drew.alloc (.cells #[.slice (some ⟨go_, 0, none⟩) 64 64, .slice (some ⟨w11.heap.size, 0, none⟩) 32 32] 22)) := (HB12.out.drew).alloc HB12.out.size _
          have hEqw := eql_sum wt wt HLW.out HLW.out
          simp only [beq_self_eq_true] at hEqw
          have hGd := guard_sum
          have hU := Tryd.underlying24
          have hIa : (Tryd.prog.info? 24).map (·.size) = some (wt.map cell8).length := by rw [List.length_map, HLW.out]; kernel_rfl
          have HPA := Lib.hid hpA
          have HEA := Lib.hid hEA
          have HZA := Lib.hid hzA
          have HRA := Lib.hid hrA
          have HRD := Lib.hid hrd
          have HLA := Lib.hid hltA
          have HBALL := Lib.hid hbAll
          clear hbd hEd hOd hHd hrd hbA hpA hEA hzA hrA hltA hbAll
          go_region_held3? (fun w' => w'.rangeAt w3.heap.size 0 (wt.map cell8)) (first | exact HRD.out | exact HRA.out | exact h14 | exact h15)
            (first
              | (go_at_call 7
                 refine (sha_any _ [keyed kb 92, h3] _ (w12.drew.alloc (.cells #[.slice (some ⟨go_, 0, none⟩) 64 64, .slice (some ⟨w11.heap.size, 0, none⟩) 32 32] 22)) HPA.out (fun i hi => by have := HZA.out; omega) HEA.out.2.2).mono ?_
                 rintro e w14 ⟨rfl, hb14⟩
                 rw [show [keyed kb 92, h3].flatten = keyed kb 92 ++ h3 from by simp, HWANT.out]
                 have h14 := range_one HRA.out hb14 HLA.out
                 have hE14 := HEA.out.below hb14)
              | (go_at_call 11
                 refine (tells_any w14 hE14.2.2).mono ?_
                 rintro e w15 ⟨rfl, hb15⟩
                 have h15 := range_one h14 hb15 (by have := hb14.size; have := HLA.out; omega)))
          have hbfin : Below w.heap.size w w15 := (HBALL.out.trans (hb14.mono HBALL.out.size)).trans (hb15.mono (by have := HBALL.out.size; have := hb14.size; omega))
          clear hEqw hGd hIa h14 h15 hE14 hb14 hb15
          go_wp2
          go_ret
          exact ⟨rfl, hbfin⟩

theorem hashKeys_in (w : World) (v0 v1 v2 : Value) (h0 : ∃ l, Byts w (fun k => k < w.heap.size) v0 l) (h1 : ∃ l, Byts w (fun k => k < w.heap.size) v1 l) (h2 : ∃ n : Nat, v2 = .int .u8 (n : Int) ∧ n < 256) (ht : Tab w) :
    Calls Tryd.prog 5 #[v0, v1, v2] w fun e w' => e = .returned (.bool true) ∧ Below w.heap.size w w' := by
  obtain ⟨l0, h0⟩ := h0
  obtain ⟨l1, h1⟩ := h1
  obtain ⟨z, rfl, hz⟩ := h2
  exact hashKeys w v0 v1 l0 l1 z h0 h1 hz ht
end Go.Proofs.YtdlolbgaljdfdaaDoor.Walks
