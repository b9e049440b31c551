/- The walk of ScribeReads. By an AI agent. -/
import Derived.Test.YtbpkpkellnldmaaOpenP
import Derived.Test.YtbpkpkellnldmaaRd3
namespace Go.Proofs.Ytbpkpkellnldmaa.Walks
open Go.RowKit Go.Proofs.Ytbpkpkellnldmaa.M Go.Proofs.Ytbpkpkellnldmaa.Open Go.Proofs.Ytbpkpkellnldmaa.Pc Go.Proofs.Ytbpkpkellnldmaa.Rd Go.Proofs.Ytbpkpkellnldmaa.Byt
set_option linter.unusedVariables false

/-- b is a, but for two blocks and what is new -/
structure TwoB (g h : Nat) (a b : World) : Prop where
  os : b.os = a.os
  tape : b.tape = a.tape
  output : b.output = a.output
  size : a.heap.size ≤ b.heap.size
  block : ∀ k, k < a.heap.size → k ≠ g → k ≠ h → b.heap[k]? = a.heap[k]?
section
variable {g h : Nat} {a b c : World}
theorem TwoB.refl (g h : Nat) (a : World) : TwoB g h a a := ⟨rfl, rfl, rfl, Nat.le_refl _, fun _ _ _ _ => rfl⟩
theorem TwoB.trans (x : TwoB g h a b) (y : TwoB g h b c) : TwoB g h a c :=
  ⟨y.os.trans x.os, y.tape.trans x.tape, y.output.trans x.output, Nat.le_trans x.size y.size, fun k hk h1 h2 => (y.block k (Nat.lt_of_lt_of_le hk x.size) h1 h2).trans (x.block k hk h1 h2)⟩
theorem TwoB.left (x : a.grownBy b (some g)) : TwoB g h a b := ⟨x.os, x.tape, x.output, x.size, fun k hk h1 _ => x.block k hk (fun e => h1 (Option.some.inj e))⟩
theorem TwoB.right (x : a.grownBy b (some h)) : TwoB g h a b := ⟨x.os, x.tape, x.output, x.size, fun k hk _ h1 => x.block k hk (fun e => h1 (Option.some.inj e))⟩
theorem TwoB.of (x : Below a.heap.size a b) : TwoB g h a b := ⟨x.os, x.tape, x.output, x.size, fun k hk _ _ => x.block k hk⟩
theorem TwoB.drewN (n : Nat) : TwoB g h a (a.drewN n) := ⟨rfl, rfl, rfl, Nat.le_refl _, fun _ _ _ _ => rfl⟩
theorem TwoB.below {B : Nat} (x : TwoB g h a b) (h1 : B ≤ g) (h2 : B ≤ h) (h3 : B ≤ a.heap.size) : Below B a b := ⟨x.os, x.tape, x.output, x.size, fun k hk => x.block k (by omega) (by omega) (by omega)⟩
end

theorem quiet_add_left {P : Program} {f : FuncId} {args : Array Value} {w : World} {a n : Nat} {v : Value}
    (h : Calls P f args (w.drewN (a + n)) fun e w' => e = .returned v ∧ w.drewN (a + n) = w') :
    Calls P f args (w.drewN (a + n)) fun e w'' => e = .returned v ∧ ∃ m, w'' = w.drewN (a + m) :=
  h.mono fun _ _ ⟨he, hm⟩ => ⟨he, n, hm.symm⟩
theorem quiet_left {P : Program} {f : FuncId} {args : Array Value} {w : World} {n : Nat} {v : Value}
    (h : Calls P f args (w.drewN n) fun e w' => e = .returned v ∧ w.drewN n = w') : Calls P f args (w.drewN n) fun e w'' => e = .returned v ∧ ∃ m, w'' = w.drewN m :=
  h.mono fun _ _ ⟨he, hm⟩ => ⟨he, n, hm.symm⟩
theorem quiet_any {P : Program} {f : FuncId} {args : Array Value} {w : World} {n : Nat} {v : Value}
    (h : Calls P f args (w.drewN n) fun e w' => e = .returned v ∧ ∃ m, w' = (w.drewN n).drewN m) : Calls P f args (w.drewN n) fun e w'' => e = .returned v ∧ ∃ m, w'' = w.drewN m :=
  h.mono fun _ _ ⟨he, m, hm⟩ => ⟨he, n + m, by rw [hm, World.drewN_drewN]⟩

/-- the two readers stand together in a world -/
def Both (bi bf : Nat) (L : List UInt8) (wr : World) (l : List UInt8) (k : Nat) (s : Bool) : Prop :=
  IsR wr bi (fun g => g = bf) l s ∧ IsF wr bf (fun g => g = bi) L k s ∧ Together l s L k s
theorem Both.drewN {bi bf : Nat} {L l : List UInt8} {wr : World} {k : Nat} {s : Bool} (h : Both bi bf L wr l k s) (n : Nat) : Both bi bf L (wr.drewN n) l k s := h
theorem Both.below {bi bf : Nat} {L l : List UInt8} {w w' : World} {k : Nat} {s : Bool} (h : Both bi bf L w l k s) (hb : Below w.heap.size w w') : Both bi bf L w' l k s := ⟨h.1.below hb, h.2.1.below hb, h.2.2⟩
theorem isF_left {bi bf : Nat} {L : List UInt8} {w w' : World} {k : Nat} {s : Bool} (h : IsF w bf (fun g => g = bi) L k s) (hg : w.grownBy w' (some bi)) (hne : bi ≠ bf) : IsF w' bf (fun g => g = bi) L k s :=
  h.same ((same_grown hg).sub fun i hi => by
    rcases hi with rfl | hi
    · exact ⟨h.lt, fun e => hne (Option.some.inj e).symm⟩
    · exact ⟨hi.1, fun e => hi.2 (Option.some.inj e)⟩) hg.size
theorem isR_right {bi bf : Nat} {l : List UInt8} {w w' : World} {s : Bool} (h : IsR w bi (fun g => g = bf) l s) (hg : w.grownBy w' (some bf)) (hne : bi ≠ bf) : IsR w' bi (fun g => g = bf) l s :=
  h.same ((same_grown hg).sub fun i hi => by
    rcases hi with rfl | hi
    · exact ⟨h.lt, fun e => hne (Option.some.inj e)⟩
    · exact ⟨hi.1, fun e => hi.2 (Option.some.inj e)⟩) hg.size

theorem both_of {bi bf : Nat} {L l : List UInt8} {wr : World} {k : Nat} {s t : Bool} (h : IsR wr bi (fun g => g = bf) l s) (h2 : IsF wr bf (fun g => g = bi) L k t) (ht : Together l s L k t) : Both bi bf L wr l k s := by
  obtain ⟨rfl, h3⟩ := ht
  exact ⟨h, h2, rfl, h3⟩
theorem leftd (bi bf : Nat) (L : List UInt8) (q : Nat) (s : Bool) (w : World) {l : List UInt8} (h : Both bi bf L w l q s) {m : Nat} (hm : l.length = m) :
    Calls Try.prog 27 #[.pointer (some ⟨bi, 0, none⟩)] w fun e w' => e = .returned (.int .i64 (m : Int)) ∧ w = w' := by
  subst hm; exact left_any bi _ l s w h.1

/-- what holds at the head of the loop -/
def ReadsRel (w1 : World) (bi bf : Nat) (L : List UInt8) (n : Nat) (i : Value) (wr : World) : Prop :=
  ∃ k l p s, k ≤ n ∧ i = .int .i64 (k : Nat) ∧ Both bi bf L wr l p s ∧ TwoB bi bf w1 wr

set_option maxRecDepth 100000 in
set_option maxHeartbeats 4000000 in
theorem scribeReads (w : World) (v0 v1 : Value) (h0 : InBytes w v0) (h1 : InPieces w v1) :
    Calls Try.prog 4 #[v0, v1] w fun e w' => e = .returned (.bool true) ∧ Below w.heap.size w w' := by
  obtain ⟨l0, hl0⟩ := h0
  obtain ⟨A0, c0, rfl, hnc0, hm0, _⟩ := hl0.row
  obtain ⟨ps, hps, hok⟩ := h1
  have ⟨A1, c1, hv1, _⟩ := hps
  subst hv1
  unfold maxLen at hm0
  have hmin : (min (l0.length : Int) 400) = ((min l0.length 400 : Nat) : Int) := by omega
  have hx1 : (0 : Int) ≤ ((min l0.length 400 : Nat) : Int) := by omega
  have hx2 : ((min l0.length 400 : Nat) : Int) ≤ (c0 : Int) := by omega
  go_enter Try.func4, Try.ntmps4
  go_wp2_with fail
  have hL := hl0.take_ (k := min l0.length 400) (by omega)
  have hLl : (l0.take (min l0.length 400)).length = min l0.length 400 := hL.len
  generalize l0.take (min l0.length 400) = L at *
  generalize min l0.length 400 = m0 at *
  refine (new_any _ L _ w hL (by omega)).mono ?_
  rintro e w1 ⟨bi, rfl, hbi, hR, hb1⟩
  have hL1 := hL.same (same_below hb1)
  have hzz := hb1.size
  have hRl := hR.lt
  have hsv : (A0 = none → m0 = 0) := fun e => by
    obtain ⟨A', n', c', h1, hl, hnc, hm, h0, hc⟩ := hL
    cases h1
    exact h0 e
  go_wp2_with fail
  generalize hbf : w1.heap.size = bf at *
  have hBoth0 : Both bi bf L (w1.alloc (.cells #[.slice A0 m0 c0, .int .i64 0, .bool false] 44)) L 0 false := by
    have hne : bi ≠ bf := by omega
    refine ⟨(hR.reX fun k hk e => by omega).below ((Below.refl _ _).alloc (Nat.le_refl _) _), ⟨.slice A0 m0 c0, by rw [← hbf]; exact Blk.new w1 _ _, ?_, Nat.zero_le _⟩, ⟨rfl, Nat.zero_le _, by simp⟩⟩
    exact (hL1.same ((same_alloc w1 _).sub fun i hi => by omega)).sub fun i hi => ⟨by omega, by simp; omega, by omega⟩
  have hbw : Below w.heap.size w (w1.alloc (.cells #[.slice A0 m0 c0, .int .i64 0, .bool false] 44)) := hb1.alloc (by omega) _
  have hzf : (w1.alloc (.cells #[.slice A0 m0 c0, .int .i64 0, .bool false] 44)).heap.size = bf + 1 := by simp [hbf]
  generalize w1.alloc (.cells #[.slice A0 m0 c0, .int .i64 0, .bool false] 44) = w2 at *
  refine (few_any _ ps 40 _ w2 (hps.same (same_below hbw)) hok (fun i hi => by omega) (by omega)).mono ?_
  rintro e w3 ⟨v3, rfl, hS, hb3⟩
  have hfo : ∀ q ∈ fewOf ps 40 ps.length, q.Ok ∧ q.text.size ≤ 100 := fun q hq => by
    obtain ⟨p, hp, rfl⟩ := fewOf_mem hq
    exact ⟨cut_ok (hok p hp), cut_size p⟩
  have hfl := fewOf_le ps 40 ps.length
  generalize fewOf ps 40 ps.length = fs at *
  obtain ⟨A3, c3, rfl, hnc3, hm3, hat⟩ := hS.at_ (by omega)
  have hBoth := hBoth0.below hb3
  have hz3 := hb3.size
  have hne : bi ≠ bf := by omega
  have hLb : L.length ≤ 400 := by
    have := hL.len
    omega
  have HBF := Lib.hid hbf
  clear hBoth0 hok hps hS hL hL1 hR hl0 hbf hsv hb1
  go_wp2_with fail
  go_loopw [24] (fun i wr => ReadsRel w3 bi bf L fs.length i wr) (fun i _ => fs.length - (intOf i).toNat)
  case atStart => exact ⟨0, L, 0, false, Nat.zero_le _, rfl, hBoth, TwoB.refl _ _ _⟩
  case round =>
    obtain ⟨k, l, q, s, hk, rfl, hB, hT⟩ := hrel
    have hzr := hT.size
    by_cases hlt : k < fs.length
    · obtain ⟨pb, off, rfl, hSb, hcell⟩ := hat k hlt
      have hp := List.getElem?_eq_getElem hlt
      have hpk := hfo fs[k] (List.getElem_mem hlt)
      generalize fs[k] = p at hp hpk
      have hgp : wr.heap[pb]? = w3.heap[pb]? := hT.block pb hSb.2 (by omega) (by omega)
      have c0 : wr.cell? ⟨pb, off + k * 3, none⟩ = some (.int .i64 p.what) := (World.cell?_of_block (a := ⟨pb, _, none⟩) hgp).trans (hcell 0 _ (by omega) (flat_at fs k p hp 0 (by omega)))
      have c1 : wr.cell? ⟨pb, off + k * 3 + 1, none⟩ = some (.int .u64 (p.n : Int)) := (World.cell?_of_block (a := ⟨pb, _, none⟩) hgp).trans (by simpa [Nat.add_assoc] using hcell 1 _ (by omega) (flat_at fs k p hp 1 (by omega)))
      have c2 : wr.cell? ⟨pb, off + k * 3 + 2, none⟩ = some (.string p.text) := (World.cell?_of_block (a := ⟨pb, _, none⟩) hgp).trans (by simpa [Nat.add_assoc] using hcell 2 _ (by omega) (flat_at fs k p hp 2 (by omega)))
      obtain ⟨⟨p1, p2, p3, p4⟩, _⟩ := hpk
      have HAT := Lib.hid hat
      have HFO := Lib.hid hfo
      clear hp hat hfo hcell hgp
      have hLl : l.length ≤ 400 := by
        have h3 := hB.2.2.2
        cases s
        · simp at h3; rw [h3.2, List.length_drop]; omega
        · simp at h3; rw [h3.2]; simp
      have hBp : Both bi bf L (wr.alloc (.cells #[.int .i64 p.what, .int .u64 (p.n : Int), .string p.text] 31)) l q s := hB.below ((Below.refl _ _).alloc (Nat.le_refl _) _)
      have hTp : TwoB bi bf w3 (wr.alloc (.cells #[.int .i64 p.what, .int .u64 (p.n : Int), .string p.text] 31)) := hT.trans (TwoB.of ((Below.refl _ _).alloc (Nat.le_refl _) _))
      by_cases hw0 : p.what = 0
      · rw [hw0] at c0 hBp hTp
        have hz1 : (0 : Int) ≤ (p.n : Int) % 300 := by omega
        have hz2 : (p.n : Int) % 300 < 300 := by omega
        generalize hzz5 : (p.n : Int) % 300 = z at *
        have HZZ := Lib.hid hzz5
        go_wp2_with fail
        refine (take_any bi _ l s (z - 5) _ hBp.1 (by omega) (by omega) (by omega)).mono ?_
        rintro e w4 ⟨v, rfl, ⟨hN4, hg4⟩, hR4⟩
        have hF4 := isF_left hBp.2.1 hg4 hne
        have ht := together_take hBp.2.2 (z - 5).toNat
        clear hzz5
        go_wp2_with fail
        refine (refTake_any bf _ L q s (z - 5) w4 hF4 (by omega) (by omega)).mono ?_
        rintro e w5 ⟨v', rfl, hN5, hF5, hg5, _⟩
        have hR5 := isR_right hR4 hg5 hne
        have hN4' := hN4.same ((same_grown hg5).sub fun i hi => ⟨hi.2, fun e => by have := Option.some.inj e; have := hi.1; simp at this; omega⟩)
        have hB5 : Both bi bf L w5 (nextOf l s (z - 5).toNat).2.1 (fTake L q s (z - 5).toNat).2.1 (nextOf l s (z - 5).toNat).2.2 := both_of hR5 hF5 ht.2
        have hT5 : TwoB bi bf w3 w5 := (hTp.trans (TwoB.left hg4)).trans (TwoB.right hg5)
        rw [← ht.1] at hN5
        generalize (nextOf l s (z - 5).toNat).1 = x at *
        clear hR4 hF4 hg4 hg5 hR5 hF5 ht hN4
        go_wp2_with fail
        refine (equal_any _ _ _ _ _ _ _ hN4' hN5).mono ?_
        rintro e w6 ⟨rfl, rfl⟩
        rw [beq_self_bytes]
        clear hN4' hN5
        obtain ⟨l6, q6, s6, hB6, hT6⟩ : ∃ l6 q6 s6, Both bi bf L w5 l6 q6 s6 ∧ TwoB bi bf w3 w5 := ⟨_, _, _, hB5, hT5⟩
        clear hB5 hT5 hBp hTp
        have HT6 := Lib.hid hT6
        have HB6 := Lib.hid hB6
        have ⟨hR6, hF6, htg⟩ := hB6
        obtain ⟨_, hq6, hl6⟩ := htg
        obtain ⟨vf, hbf6, hvf, _⟩ := hF6
        clear hT6 hB6 hR6
        cases s6
        · simp only [Bool.false_eq_true, if_false] at hl6
          subst hl6
          have d2 : w5.cell? ⟨bf, 2, none⟩ = some (.bool false) := hbf6.cell 2
          go_wp2_with fail
          go_quiet ((first | (go_at_call 27; exact quiet_left (leftd bi bf L q6 false _ (HB6.out.drewN _) List.length_drop)) | (go_at_call 26; exact quiet_any (refLeft_any bf _ L q6 false _ (HB6.out.drewN _).2.1)) | (go_at_call 28; exact quiet_left (err_any bi _ _ false _ (HB6.out.drewN _).1))))
          go_wp2
          go_roundw
          case rel => exact ⟨k + 1, _, _, _, by omega, by go_num, HB6.out.drewN _, HT6.out.trans (TwoB.drewN _)⟩
          case measure => simp [intOf]; omega
        · simp only [if_true] at hl6
          subst hl6
          have d2 : w5.cell? ⟨bf, 2, none⟩ = some (.bool true) := hbf6.cell 2
          go_wp2_with fail
          go_quiet ((first | (go_at_call 27; exact quiet_left (leftd bi bf L q6 true _ (HB6.out.drewN _) (m := 0) rfl)) | (go_at_call 26; exact quiet_any (refLeft_any bf _ L q6 true _ (HB6.out.drewN _).2.1)) | (go_at_call 28; exact quiet_left (err_any bi _ _ true _ (HB6.out.drewN _).1))))
          go_wp2
          go_roundw
          case rel => exact ⟨k + 1, _, _, _, by omega, by go_num, HB6.out.drewN _, HT6.out.trans (TwoB.drewN _)⟩
          case measure => simp [intOf]; omega
      by_cases hw1 : p.what = 1
      · rw [hw1] at c0 hBp hTp
        go_wp2_with fail
        refine (byte_any bi _ l s _ hBp.1).mono ?_
        rintro e w4 ⟨rfl, hR4, hg4, _⟩
        have hF4 := isF_left hBp.2.1 hg4 hne
        have ht := together_take hBp.2.2 1
        have hlt1 := next_lt l s 1 256 (by decide)
        go_wp2_with fail
        refine (refNumber_any bf _ L q s 1 w4 hF4 (by omega)).mono ?_
        rintro e w5 ⟨rfl, hF5, hg5, _⟩
        have hR5 := isR_right hR4 hg5 hne
        have hN : numOf (fTake L q s 1).1 = numOf (nextOf l s 1).1 := by rw [ht.1]
        have hB5 : Both bi bf L w5 (nextOf l s 1).2.1 (fTake L q s 1).2.1 (nextOf l s 1).2.2 := both_of hR5 hF5 ht.2
        have hT5 : TwoB bi bf w3 w5 := (hTp.trans (TwoB.left hg4)).trans (TwoB.right hg5)
        rw [hN]
        generalize numOf (nextOf l s 1).1 = N at *
        clear hN hR4 hF4 hg4 hg5 hR5 hF5 ht
        obtain ⟨l6, q6, s6, hB6, hT6⟩ : ∃ l6 q6 s6, Both bi bf L w5 l6 q6 s6 ∧ TwoB bi bf w3 w5 := ⟨_, _, _, hB5, hT5⟩
        clear hB5 hT5 hBp hTp
        have HT6 := Lib.hid hT6
        have HB6 := Lib.hid hB6
        have ⟨hR6, hF6, htg⟩ := hB6
        obtain ⟨_, hq6, hl6⟩ := htg
        obtain ⟨vf, hbf6, hvf, _⟩ := hF6
        clear hT6 hB6 hR6
        cases s6
        · simp only [Bool.false_eq_true, if_false] at hl6
          subst hl6
          have d2 : w5.cell? ⟨bf, 2, none⟩ = some (.bool false) := hbf6.cell 2
          go_wp2_with fail
          go_quiet ((first | (go_at_call 27; exact quiet_left (leftd bi bf L q6 false _ (HB6.out.drewN _) List.length_drop)) | (go_at_call 26; exact quiet_any (refLeft_any bf _ L q6 false _ (HB6.out.drewN _).2.1)) | (go_at_call 28; exact quiet_left (err_any bi _ _ false _ (HB6.out.drewN _).1))))
          go_wp2
          go_roundw
          case rel => exact ⟨k + 1, _, _, _, by omega, by go_num, HB6.out.drewN _, HT6.out.trans (TwoB.drewN _)⟩
          case measure => simp [intOf]; omega
        · simp only [if_true] at hl6
          subst hl6
          have d2 : w5.cell? ⟨bf, 2, none⟩ = some (.bool true) := hbf6.cell 2
          go_wp2_with fail
          go_quiet ((first | (go_at_call 27; exact quiet_left (leftd bi bf L q6 true _ (HB6.out.drewN _) (m := 0) rfl)) | (go_at_call 26; exact quiet_any (refLeft_any bf _ L q6 true _ (HB6.out.drewN _).2.1)) | (go_at_call 28; exact quiet_left (err_any bi _ _ true _ (HB6.out.drewN _).1))))
          go_wp2
          go_roundw
          case rel => exact ⟨k + 1, _, _, _, by omega, by go_num, HB6.out.drewN _, HT6.out.trans (TwoB.drewN _)⟩
          case measure => simp [intOf]; omega
      by_cases hw2 : p.what = 2
      · rw [hw2] at c0 hBp hTp
        go_wp2_with fail
        refine (two_any bi _ l s _ hBp.1).mono ?_
        rintro e w4 ⟨rfl, hR4, hg4, _⟩
        have hF4 := isF_left hBp.2.1 hg4 hne
        have ht := together_take hBp.2.2 2
        have hlt1 := next_lt l s 2 65536 (by decide)
        go_wp2_with fail
        refine (refNumber_any bf _ L q s 2 w4 hF4 (by omega)).mono ?_
        rintro e w5 ⟨rfl, hF5, hg5, _⟩
        have hR5 := isR_right hR4 hg5 hne
        have hN : numOf (fTake L q s 2).1 = numOf (nextOf l s 2).1 := by rw [ht.1]
        have hB5 : Both bi bf L w5 (nextOf l s 2).2.1 (fTake L q s 2).2.1 (nextOf l s 2).2.2 := both_of hR5 hF5 ht.2
        have hT5 : TwoB bi bf w3 w5 := (hTp.trans (TwoB.left hg4)).trans (TwoB.right hg5)
        rw [hN]
        generalize numOf (nextOf l s 2).1 = N at *
        clear hN hR4 hF4 hg4 hg5 hR5 hF5 ht
        obtain ⟨l6, q6, s6, hB6, hT6⟩ : ∃ l6 q6 s6, Both bi bf L w5 l6 q6 s6 ∧ TwoB bi bf w3 w5 := ⟨_, _, _, hB5, hT5⟩
        clear hB5 hT5 hBp hTp
        have HT6 := Lib.hid hT6
        have HB6 := Lib.hid hB6
        have ⟨hR6, hF6, htg⟩ := hB6
        obtain ⟨_, hq6, hl6⟩ := htg
        obtain ⟨vf, hbf6, hvf, _⟩ := hF6
        clear hT6 hB6 hR6
        cases s6
        · simp only [Bool.false_eq_true, if_false] at hl6
          subst hl6
          have d2 : w5.cell? ⟨bf, 2, none⟩ = some (.bool false) := hbf6.cell 2
          go_wp2_with fail
          go_quiet ((first | (go_at_call 27; exact quiet_left (leftd bi bf L q6 false _ (HB6.out.drewN _) List.length_drop)) | (go_at_call 26; exact quiet_any (refLeft_any bf _ L q6 false _ (HB6.out.drewN _).2.1)) | (go_at_call 28; exact quiet_left (err_any bi _ _ false _ (HB6.out.drewN _).1))))
          go_wp2
          go_roundw
          case rel => exact ⟨k + 1, _, _, _, by omega, by go_num, HB6.out.drewN _, HT6.out.trans (TwoB.drewN _)⟩
          case measure => simp [intOf]; omega
        · simp only [if_true] at hl6
          subst hl6
          have d2 : w5.cell? ⟨bf, 2, none⟩ = some (.bool true) := hbf6.cell 2
          go_wp2_with fail
          go_quiet ((first | (go_at_call 27; exact quiet_left (leftd bi bf L q6 true _ (HB6.out.drewN _) (m := 0) rfl)) | (go_at_call 26; exact quiet_any (refLeft_any bf _ L q6 true _ (HB6.out.drewN _).2.1)) | (go_at_call 28; exact quiet_left (err_any bi _ _ true _ (HB6.out.drewN _).1))))
          go_wp2
          go_roundw
          case rel => exact ⟨k + 1, _, _, _, by omega, by go_num, HB6.out.drewN _, HT6.out.trans (TwoB.drewN _)⟩
          case measure => simp [intOf]; omega
      by_cases hw3 : p.what = 3
      · rw [hw3] at c0 hBp hTp
        go_wp2_with fail
        refine (four_any bi _ l s _ hBp.1).mono ?_
        rintro e w4 ⟨rfl, hR4, hg4, _⟩
        have hF4 := isF_left hBp.2.1 hg4 hne
        have ht := together_take hBp.2.2 4
        have hlt1 := next_lt l s 4 4294967296 (by decide)
        go_wp2_with fail
        refine (refNumber_any bf _ L q s 4 w4 hF4 (by omega)).mono ?_
        rintro e w5 ⟨rfl, hF5, hg5, _⟩
        have hR5 := isR_right hR4 hg5 hne
        have hN : numOf (fTake L q s 4).1 = numOf (nextOf l s 4).1 := by rw [ht.1]
        have hB5 : Both bi bf L w5 (nextOf l s 4).2.1 (fTake L q s 4).2.1 (nextOf l s 4).2.2 := both_of hR5 hF5 ht.2
        have hT5 : TwoB bi bf w3 w5 := (hTp.trans (TwoB.left hg4)).trans (TwoB.right hg5)
        rw [hN]
        generalize numOf (nextOf l s 4).1 = N at *
        clear hN hR4 hF4 hg4 hg5 hR5 hF5 ht
        obtain ⟨l6, q6, s6, hB6, hT6⟩ : ∃ l6 q6 s6, Both bi bf L w5 l6 q6 s6 ∧ TwoB bi bf w3 w5 := ⟨_, _, _, hB5, hT5⟩
        clear hB5 hT5 hBp hTp
        have HT6 := Lib.hid hT6
        have HB6 := Lib.hid hB6
        have ⟨hR6, hF6, htg⟩ := hB6
        obtain ⟨_, hq6, hl6⟩ := htg
        obtain ⟨vf, hbf6, hvf, _⟩ := hF6
        clear hT6 hB6 hR6
        cases s6
        · simp only [Bool.false_eq_true, if_false] at hl6
          subst hl6
          have d2 : w5.cell? ⟨bf, 2, none⟩ = some (.bool false) := hbf6.cell 2
          go_wp2_with fail
          go_quiet ((first | (go_at_call 27; exact quiet_left (leftd bi bf L q6 false _ (HB6.out.drewN _) List.length_drop)) | (go_at_call 26; exact quiet_any (refLeft_any bf _ L q6 false _ (HB6.out.drewN _).2.1)) | (go_at_call 28; exact quiet_left (err_any bi _ _ false _ (HB6.out.drewN _).1))))
          go_wp2
          go_roundw
          case rel => exact ⟨k + 1, _, _, _, by omega, by go_num, HB6.out.drewN _, HT6.out.trans (TwoB.drewN _)⟩
          case measure => simp [intOf]; omega
        · simp only [if_true] at hl6
          subst hl6
          have d2 : w5.cell? ⟨bf, 2, none⟩ = some (.bool true) := hbf6.cell 2
          go_wp2_with fail
          go_quiet ((first | (go_at_call 27; exact quiet_left (leftd bi bf L q6 true _ (HB6.out.drewN _) (m := 0) rfl)) | (go_at_call 26; exact quiet_any (refLeft_any bf _ L q6 true _ (HB6.out.drewN _).2.1)) | (go_at_call 28; exact quiet_left (err_any bi _ _ true _ (HB6.out.drewN _).1))))
          go_wp2
          go_roundw
          case rel => exact ⟨k + 1, _, _, _, by omega, by go_num, HB6.out.drewN _, HT6.out.trans (TwoB.drewN _)⟩
          case measure => simp [intOf]; omega
      by_cases hw4 : p.what = 4
      · rw [hw4] at c0 hBp hTp
        go_wp2_with fail
        refine (eight_any bi _ l s _ hBp.1).mono ?_
        rintro e w4 ⟨rfl, hR4, hg4, _⟩
        have hF4 := isF_left hBp.2.1 hg4 hne
        have ht := together_take hBp.2.2 8
        have hlt1 := next_lt l s 8 18446744073709551616 (by decide)
        go_wp2_with fail
        refine (refNumber_any bf _ L q s 8 w4 hF4 (by omega)).mono ?_
        rintro e w5 ⟨rfl, hF5, hg5, _⟩
        have hR5 := isR_right hR4 hg5 hne
        have hN : numOf (fTake L q s 8).1 = numOf (nextOf l s 8).1 := by rw [ht.1]
        have hB5 : Both bi bf L w5 (nextOf l s 8).2.1 (fTake L q s 8).2.1 (nextOf l s 8).2.2 := both_of hR5 hF5 ht.2
        have hT5 : TwoB bi bf w3 w5 := (hTp.trans (TwoB.left hg4)).trans (TwoB.right hg5)
        rw [hN]
        generalize numOf (nextOf l s 8).1 = N at *
        clear hN hR4 hF4 hg4 hg5 hR5 hF5 ht
        obtain ⟨l6, q6, s6, hB6, hT6⟩ : ∃ l6 q6 s6, Both bi bf L w5 l6 q6 s6 ∧ TwoB bi bf w3 w5 := ⟨_, _, _, hB5, hT5⟩
        clear hB5 hT5 hBp hTp
        have HT6 := Lib.hid hT6
        have HB6 := Lib.hid hB6
        have ⟨hR6, hF6, htg⟩ := hB6
        obtain ⟨_, hq6, hl6⟩ := htg
        obtain ⟨vf, hbf6, hvf, _⟩ := hF6
        clear hT6 hB6 hR6
        cases s6
        · simp only [Bool.false_eq_true, if_false] at hl6
          subst hl6
          have d2 : w5.cell? ⟨bf, 2, none⟩ = some (.bool false) := hbf6.cell 2
          go_wp2_with fail
          go_quiet ((first | (go_at_call 27; exact quiet_left (leftd bi bf L q6 false _ (HB6.out.drewN _) List.length_drop)) | (go_at_call 26; exact quiet_any (refLeft_any bf _ L q6 false _ (HB6.out.drewN _).2.1)) | (go_at_call 28; exact quiet_left (err_any bi _ _ false _ (HB6.out.drewN _).1))))
          go_wp2
          go_roundw
          case rel => exact ⟨k + 1, _, _, _, by omega, by go_num, HB6.out.drewN _, HT6.out.trans (TwoB.drewN _)⟩
          case measure => simp [intOf]; omega
        · simp only [if_true] at hl6
          subst hl6
          have d2 : w5.cell? ⟨bf, 2, none⟩ = some (.bool true) := hbf6.cell 2
          go_wp2_with fail
          go_quiet ((first | (go_at_call 27; exact quiet_left (leftd bi bf L q6 true _ (HB6.out.drewN _) (m := 0) rfl)) | (go_at_call 26; exact quiet_any (refLeft_any bf _ L q6 true _ (HB6.out.drewN _).2.1)) | (go_at_call 28; exact quiet_left (err_any bi _ _ true _ (HB6.out.drewN _).1))))
          go_wp2
          go_roundw
          case rel => exact ⟨k + 1, _, _, _, by omega, by go_num, HB6.out.drewN _, HT6.out.trans (TwoB.drewN _)⟩
          case measure => simp [intOf]; omega
      by_cases hw5 : p.what = 5
      · rw [hw5] at c0 hBp hTp
        go_wp2_with fail
        refine (text_any bi _ l s _ hBp.1).mono ?_
        rintro e w4 ⟨rfl, hR4, hg4⟩
        have hF4 := isF_left hBp.2.1 hg4 hne
        have ht := together_text hBp.2.2
        have HT := Lib.hid ht
        clear ht
        go_wp2_with fail
        refine (refText_any bf _ L q s w4 hF4).mono ?_
        rintro e w5 ⟨rfl, hF5, hg5⟩
        have hR5 := isR_right hR4 hg5 hne
        have hB5 : Both bi bf L w5 (textOf l s).2.1 (fText L q s).2.1 (textOf l s).2.2 := both_of hR5 hF5 HT.out.2
        have hT5 : TwoB bi bf w3 w5 := (hTp.trans (TwoB.left hg4)).trans (TwoB.right hg5)
        rw [← HT.out.1]
        generalize (textOf l s).1.toArray = x at *
        clear hR4 hF4 hg4 hg5 hR5 hF5
        obtain ⟨l6, q6, s6, hB6, hT6⟩ : ∃ l6 q6 s6, Both bi bf L w5 l6 q6 s6 ∧ TwoB bi bf w3 w5 := ⟨_, _, _, hB5, hT5⟩
        clear hB5 hT5 hBp hTp
        have HT6 := Lib.hid hT6
        have HB6 := Lib.hid hB6
        have ⟨hR6, hF6, htg⟩ := hB6
        obtain ⟨_, hq6, hl6⟩ := htg
        obtain ⟨vf, hbf6, hvf, _⟩ := hF6
        clear hT6 hB6 hR6
        cases s6
        · simp only [Bool.false_eq_true, if_false] at hl6
          subst hl6
          have d2 : w5.cell? ⟨bf, 2, none⟩ = some (.bool false) := hbf6.cell 2
          go_wp2_with fail
          go_quiet ((first | (go_at_call 27; exact quiet_left (leftd bi bf L q6 false _ (HB6.out.drewN _) List.length_drop)) | (go_at_call 26; exact quiet_any (refLeft_any bf _ L q6 false _ (HB6.out.drewN _).2.1)) | (go_at_call 28; exact quiet_left (err_any bi _ _ false _ (HB6.out.drewN _).1))))
          go_wp2
          go_roundw
          case rel => exact ⟨k + 1, _, _, _, by omega, by go_num, HB6.out.drewN _, HT6.out.trans (TwoB.drewN _)⟩
          case measure => simp [intOf]; omega
        · simp only [if_true] at hl6
          subst hl6
          have d2 : w5.cell? ⟨bf, 2, none⟩ = some (.bool true) := hbf6.cell 2
          go_wp2_with fail
          go_quiet ((first | (go_at_call 27; exact quiet_left (leftd bi bf L q6 true _ (HB6.out.drewN _) (m := 0) rfl)) | (go_at_call 26; exact quiet_any (refLeft_any bf _ L q6 true _ (HB6.out.drewN _).2.1)) | (go_at_call 28; exact quiet_left (err_any bi _ _ true _ (HB6.out.drewN _).1))))
          go_wp2
          go_roundw
          case rel => exact ⟨k + 1, _, _, _, by omega, by go_num, HB6.out.drewN _, HT6.out.trans (TwoB.drewN _)⟩
          case measure => simp [intOf]; omega
      by_cases hw6 : p.what = 6
      · rw [hw6] at c0 hBp hTp
        go_wp2_with fail
        refine (rest_any bi _ l s _ hBp.1 (by omega)).mono ?_
        rintro e w4 ⟨v, rfl, ⟨hN4, hg4⟩, hR4⟩
        have hF4 := isF_left hBp.2.1 hg4 hne
        have ht := together_take hBp.2.2 l.length
        have hnx : nextOf l s l.length = (l, [], s) := by simp [nextOf]
        rw [hnx] at ht
        have HT := Lib.hid ht
        clear ht hnx
        go_wp2_with fail
        refine (refLeft_any bf _ L q s w4 hF4).mono ?_
        rintro e w45 ⟨rfl, nd, hnd⟩
        have hF45 : IsF w45 bf (fun g => g = bi) L q s := by rw [hnd]; exact hF4
        have hll : (if s then 0 else ((L.length - q : Nat) : Int)) = (l.length : Int) := by
          have h3 := hBp.2.2.2
          cases s
          · simp at h3; rw [h3.2, List.length_drop]; simp
          · simp at h3; rw [h3.2]; simp
        rw [hll]
        clear hll
        have hR45 : IsR w45 bi (fun g => g = bf) [] s := by rw [hnd]; exact hR4
        have hN45 : Byts w45 (fun k => (wr.alloc (.cells #[.int .i64 6, .int .u64 (p.n : Int), .string p.text] 31)).heap.size ≤ k ∧ k < w45.heap.size) v l := by rw [hnd]; exact hN4
        have hg45 : TwoB bi bf w4 w45 := by rw [hnd]; exact TwoB.drewN _
        clear hnd hF4 hR4 hN4
        go_wp2_with fail
        refine (refTake_any bf _ L q s (l.length : Int) w45 hF45 (by omega) (by omega)).mono ?_
        rintro e w5 ⟨v', rfl, hN5, hF5, hg5, _⟩
        have hR5 := isR_right hR45 hg5 hne
        have hN4' := hN45.same ((same_grown hg5).sub fun i hi => ⟨hi.2, fun e => by have := Option.some.inj e; have := hi.1; simp at this; omega⟩)
        have hB5 : Both bi bf L w5 [] (fTake L q s l.length).2.1 s := both_of hR5 hF5 HT.out.2
        have hT5 : TwoB bi bf w3 w5 := ((hTp.trans (TwoB.left hg4)).trans hg45).trans (TwoB.right hg5)
        have hx6 : (fTake L q s (l.length : Int).toNat).1 = l := HT.out.1.symm
        rw [hx6] at hN5
        clear hR45 hF45 hg4 hg45 hg5 hR5 hF5 hN45 hx6
        go_wp2_with fail
        refine (equal_any _ _ _ _ _ _ _ hN4' hN5).mono ?_
        rintro e w6 ⟨rfl, rfl⟩
        rw [beq_self_bytes]
        clear hN4' hN5
        obtain ⟨l6, q6, s6, hB6, hT6⟩ : ∃ l6 q6 s6, Both bi bf L w5 l6 q6 s6 ∧ TwoB bi bf w3 w5 := ⟨_, _, _, hB5, hT5⟩
        clear hB5 hT5 hBp hTp
        have HT6 := Lib.hid hT6
        have HB6 := Lib.hid hB6
        have ⟨hR6, hF6, htg⟩ := hB6
        obtain ⟨_, hq6, hl6⟩ := htg
        obtain ⟨vf, hbf6, hvf, _⟩ := hF6
        clear hT6 hB6 hR6
        cases s6
        · simp only [Bool.false_eq_true, if_false] at hl6
          subst hl6
          have d2 : w5.cell? ⟨bf, 2, none⟩ = some (.bool false) := hbf6.cell 2
          go_wp2_with fail
          go_quiet ((first | (go_at_call 27; exact quiet_left (leftd bi bf L q6 false _ (HB6.out.drewN _) List.length_drop)) | (go_at_call 26; exact quiet_any (refLeft_any bf _ L q6 false _ (HB6.out.drewN _).2.1)) | (go_at_call 28; exact quiet_left (err_any bi _ _ false _ (HB6.out.drewN _).1))))
          go_wp2
          go_roundw
          case rel => exact ⟨k + 1, _, _, _, by omega, by go_num, HB6.out.drewN _, HT6.out.trans (TwoB.drewN _)⟩
          case measure => simp [intOf]; omega
        · simp only [if_true] at hl6
          subst hl6
          have d2 : w5.cell? ⟨bf, 2, none⟩ = some (.bool true) := hbf6.cell 2
          go_wp2_with fail
          go_quiet ((first | (go_at_call 27; exact quiet_left (leftd bi bf L q6 true _ (HB6.out.drewN _) (m := 0) rfl)) | (go_at_call 26; exact quiet_any (refLeft_any bf _ L q6 true _ (HB6.out.drewN _).2.1)) | (go_at_call 28; exact quiet_left (err_any bi _ _ true _ (HB6.out.drewN _).1))))
          go_wp2
          go_roundw
          case rel => exact ⟨k + 1, _, _, _, by omega, by go_num, HB6.out.drewN _, HT6.out.trans (TwoB.drewN _)⟩
          case measure => simp [intOf]; omega
      · have d0 : (p.what == 0) = false := beqf hw0
        have d1 : (p.what == 1) = false := beqf hw1
        have d2' : (p.what == 2) = false := beqf hw2
        have d3 : (p.what == 3) = false := beqf hw3
        have d4 : (p.what == 4) = false := beqf hw4
        have d5 : (p.what == 5) = false := beqf hw5
        have d6 : (p.what == 6) = false := beqf hw6
        go_wp2_with fail
        have hB5 := hBp
        have hT5 := hTp
        generalize wr.alloc (.cells #[.int .i64 p.what, .int .u64 (p.n : Int), .string p.text] 31) = w5 at *
        obtain ⟨l6, q6, s6, hB6, hT6⟩ : ∃ l6 q6 s6, Both bi bf L w5 l6 q6 s6 ∧ TwoB bi bf w3 w5 := ⟨_, _, _, hB5, hT5⟩
        clear hB5 hT5 hBp hTp
        have HT6 := Lib.hid hT6
        have HB6 := Lib.hid hB6
        have ⟨hR6, hF6, htg⟩ := hB6
        obtain ⟨_, hq6, hl6⟩ := htg
        obtain ⟨vf, hbf6, hvf, _⟩ := hF6
        clear hT6 hB6 hR6
        cases s6
        · simp only [Bool.false_eq_true, if_false] at hl6
          subst hl6
          have d2 : w5.cell? ⟨bf, 2, none⟩ = some (.bool false) := hbf6.cell 2
          go_wp2_with fail
          go_quiet ((first | (go_at_call 27; exact quiet_left (leftd bi bf L q6 false _ (HB6.out.drewN _) List.length_drop)) | (go_at_call 26; exact quiet_any (refLeft_any bf _ L q6 false _ (HB6.out.drewN _).2.1)) | (go_at_call 28; exact quiet_left (err_any bi _ _ false _ (HB6.out.drewN _).1))))
          go_wp2
          go_roundw
          case rel => exact ⟨k + 1, _, _, _, by omega, by go_num, HB6.out.drewN _, HT6.out.trans (TwoB.drewN _)⟩
          case measure => simp [intOf]; omega
        · simp only [if_true] at hl6
          subst hl6
          have d2 : w5.cell? ⟨bf, 2, none⟩ = some (.bool true) := hbf6.cell 2
          go_wp2_with fail
          go_quiet ((first | (go_at_call 27; exact quiet_left (leftd bi bf L q6 true _ (HB6.out.drewN _) (m := 0) rfl)) | (go_at_call 26; exact quiet_any (refLeft_any bf _ L q6 true _ (HB6.out.drewN _).2.1)) | (go_at_call 28; exact quiet_left (err_any bi _ _ true _ (HB6.out.drewN _).1))))
          go_wp2
          go_roundw
          case rel => exact ⟨k + 1, _, _, _, by omega, by go_num, HB6.out.drewN _, HT6.out.trans (TwoB.drewN _)⟩
          case measure => simp [intOf]; omega
    · have hb3' := Lib.hid hb3
      clear hat hfo
      go_wp2_with fail
      refine (Wr.wakes_any _).mono ?_
      rintro e w9 ⟨rfl, hb9⟩
      go_wp2
      go_ret
      refine ⟨rfl, ?_⟩
      have a1 : Below w.heap.size w w3 := hbw.trans (hb3'.out.mono (by omega))
      have a2 := hT.below (B := w.heap.size) (by omega) (by omega) (by omega)
      exact (a1.trans a2).trans (hb9.mono (by have := a1.size; omega))
end Go.Proofs.Ytbpkpkellnldmaa.Walks
