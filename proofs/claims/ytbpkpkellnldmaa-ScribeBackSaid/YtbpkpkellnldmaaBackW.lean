/- The walk of ScribeBack. By an AI agent. -/
import Derived.Test.YtbpkpkellnldmaaOpenP
import Derived.Test.YtbpkpkellnldmaaCut
import Derived.Test.YtbpkpkellnldmaaReadsW
namespace Go.Proofs.Ytbpkpkellnldmaa.Walks
open Go.RowKit Go.Proofs.Ytbpkpkellnldmaa.M Go.Proofs.Ytbpkpkellnldmaa.Open Go.Proofs.Ytbpkpkellnldmaa.Pc Go.Proofs.Ytbpkpkellnldmaa.Wr Go.Proofs.Ytbpkpkellnldmaa.Byt Go.Proofs.Ytbpkpkellnldmaa.Is
set_option linter.unusedVariables false

theorem infoInt : (Try.prog.info? 3).map (fun i => (i.zero, i.size, i.bytes)) = some (some (.int .i64 0), 1, 8) := by kernel_rfl
/-- the cells of a piece in a row that has not turned -/
theorem piece_cells {w1 wr : World} {fs : List P} {k pb off : Nat} {p : P} (hgp : wr.heap[pb]? = w1.heap[pb]?) (hp : fs[k]? = some p)
    (hcell : ∀ (j : Nat) (u : Value), j < 3 → (flat fs)[k * 3 + j]? = some u → w1.cell? ⟨pb, off + (k * 3 + j), none⟩ = some u) :
    wr.cell? ⟨pb, off + k * 3, none⟩ = some (.int .i64 p.what) ∧ wr.cell? ⟨pb, off + k * 3 + 1, none⟩ = some (.int .u64 (p.n : Int)) ∧ wr.cell? ⟨pb, off + k * 3 + 2, none⟩ = some (.string p.text) :=
  ⟨(World.cell?_of_block (a := ⟨pb, _, none⟩) hgp).trans (hcell 0 _ (by omega) (flat_at fs k p hp 0 (by omega))),
   (World.cell?_of_block (a := ⟨pb, _, none⟩) hgp).trans (by simpa [Nat.add_assoc] using hcell 1 _ (by omega) (flat_at fs k p hp 1 (by omega))),
   (World.cell?_of_block (a := ⟨pb, _, none⟩) hgp).trans (by simpa [Nat.add_assoc] using hcell 2 _ (by omega) (flat_at fs k p hp 2 (by omega)))⟩

/-- a writer and a row that is appended to go apart -/
theorem isW_append {w w' : World} {b : Nat} {l : List UInt8} {v v' : Value} (hW : IsW w b (fun g => v.ownBlock = some g) l) (hg : w.grownBy w' v.ownBlock) (hlt : ∀ g, v.ownBlock = some g → b < g)
    (hat : v'.ownBlock = v.ownBlock ∨ v'.ownBlock = some w.heap.size) : IsW w' b (fun g => v'.ownBlock = some g) l := by
  rcases hat with e | e
  · rw [e]
    refine hW.same ((same_grown hg).sub fun i hi => ?_) hg.size
    rcases hi with rfl | ⟨h1, h2, h3⟩
    · exact ⟨hW.lt, fun e => by have := hlt _ e.symm; omega⟩
    · exact ⟨h2, fun e => h3 e.symm⟩
  · refine IsW.reX (X := fun g => v.ownBlock = some g ∨ g = w.heap.size) ((hW.reX fun g hg hy => ?_).same ((same_grown hg).sub fun i hi => ?_) hg.size) fun g _ hy => ?_
    · rcases hy with hy | rfl
      · exact hy
      · omega
    · rcases hi with rfl | ⟨h1, h2, h3⟩
      · exact ⟨hW.lt, fun e => by have := hlt _ e.symm; omega⟩
      · exact ⟨h2, fun e => h3 (.inl e.symm)⟩
    · rw [e] at hy
      exact .inr (Option.some.inj hy).symm

/-- the head of the loop that lays -/
def BackRel (w2 : World) (b : Nat) (fs : List P) (tw ends i : Value) (wr : World) : Prop :=
  ∃ k, k ≤ fs.length ∧ i = .int .i64 (k : Nat) ∧ tw = .pointer (some ⟨b, 0, none⟩) ∧ wr.ownsRow w2.heap.size 3 1 ends k (endsOf fs k) ∧
    IsW wr b (fun g => ends.ownBlock = some g) (catOf (fs.take k)) ∧ w2.grownBy wr (some b)

set_option maxRecDepth 100000 in
set_option maxHeartbeats 4000000 in
theorem scribeBack (w : World) (v0 v1 : Value) (h0 : InPieces w v0) (h1 : InNat .u16 65536 v1) :
    Calls Try.prog 6 #[v0, v1] w fun e w' => e = .returned (.bool true) ∧ Below w.heap.size w w' := by
  obtain ⟨l, hl, hok⟩ := h0
  obtain ⟨cutn, rfl, hcut⟩ := h1
  obtain ⟨i0, hi0, hz0, hz1, hz2'⟩ := info_parts infoInt
  have ⟨A, c, hv0, _⟩ := hl
  subst hv0
  go_enter Try.func6, Try.ntmps6
  go_wp2_with fail
  refine (few_any _ l 20 _ w hl hok (fun i hi => hi) (by omega)).mono ?_
  rintro e w1 ⟨v1, rfl, hS, hb1⟩
  have hfo : ∀ q ∈ fewOf l 20 l.length, q.Ok ∧ q.text.size ≤ 100 := fun q hq => by
    obtain ⟨p, hp, rfl⟩ := fewOf_mem hq
    exact ⟨cut_ok (hok p hp), cut_size p⟩
  have hfl := fewOf_le l 20 l.length
  generalize fewOf l 20 l.length = fs at *
  obtain ⟨A1, c1, rfl, hnc1, hm1, hat⟩ := hS.at_ (by omega)
  unfold maxLen at hm1
  have hlen : fs.length ≤ 9223372036854775807 := by omega
  clear hok hl hS
  go_wp2_with fail
  have hW0 := isW_new w1 (fun _ => False)
  have hb2 : Below w.heap.size w (w1.alloc (.cells #[.pointer none, .int .i64 0, .bool false] 25)) := hb1.alloc hb1.size _
  have hb12 : Below w1.heap.size w1 (w1.alloc (.cells #[.pointer none, .int .i64 0, .bool false] 25)) := (Below.refl _ _).alloc (Nat.le_refl _) _
  have hz2 : (w1.alloc (.cells #[.pointer none, .int .i64 0, .bool false] 25)).heap.size = w1.heap.size + 1 := by simp
  generalize w1.alloc (.cells #[.pointer none, .int .i64 0, .bool false] 25) = w2 at *
  generalize hbw : w1.heap.size = b at *
  have HBW := Lib.hid hbw
  clear hbw
  have hw1z := hb1.size
  go_loopw [6, 7, 26] (fun tw ends i wr => BackRel w2 b fs tw ends i wr) (fun _ _ i _ => fs.length - (intOf i).toNat)
  case atStart =>
    refine ⟨0, Nat.zero_le _, rfl, rfl, by simpa [endsOf] using World.ownsRow_nil _ _ _ _, ?_, World.grownBy.refl _ _⟩
    exact hW0.reX fun k _ hk => by simp [Value.ownBlock] at hk
  case round =>
    obtain ⟨k, hk, rfl, rfl, hown, hW, hg⟩ := hrel
    have hcl := catOf_le (fs.take k) fun q hq => (hfo q (List.mem_of_mem_take hq)).2
    rw [List.length_take, Nat.min_eq_left hk] at hcl
    have hzr := hg.size
    by_cases hlt : k < fs.length
    · obtain ⟨pb, off, rfl, hSb, hcell⟩ := hat k hlt
      have hp := List.getElem?_eq_getElem hlt
      have hpk := hfo fs[k] (List.getElem_mem hlt)
      generalize fs[k] = p at hp hpk
      have hsn := catOf_snoc (fs.take k) p
      rw [← Crc.take_snoc fs k p hp] at hsn
      have hpre := pre_succ fs k p hp
      have hpre0 : pre fs k = (catOf (fs.take k)).length := rfl
      have hes := endsOf_succ fs k
      generalize hct : catOf (fs.take k) = ct at *
      have hgp : wr.heap[pb]? = w1.heap[pb]? := (hg.block pb (by omega) (fun e => by cases e; omega)).trans (hb12.block pb hSb.2)
      obtain ⟨c0, c1, c2⟩ := piece_cells hgp hp hcell
      have HP := Lib.hid hp
      have HSN := Lib.hid hsn
      have HCT := Lib.hid hct
      have HAT := Lib.hid hat
      have HFO := Lib.hid hfo
      have HPR := Lib.hid hpre
      have HPR0 := Lib.hid hpre0
      have HES := Lib.hid hes
      clear hp hsn hct hat hfo hcell hgp hpre hpre0 hes
      have hpz : wr.heap.size ≠ b := by omega
      have hXr : ∀ g, wr.heap.size ≤ g → ¬ u7.ownBlock = some g := fun g hg he => by have := (hown.lt g he).2; omega
      go_wp2_with fail
      have hBp := Blk.new wr 31 #[.int .i64 p.what, .int .u64 (p.n : Int), .string p.text]
      have hbp : Below wr.heap.size wr (wr.alloc (.cells #[.int .i64 p.what, .int .u64 (p.n : Int), .string p.text] 31)) := (Below.refl _ _).alloc (Nat.le_refl _) _
      generalize wr.alloc (.cells #[.int .i64 p.what, .int .u64 (p.n : Int), .string p.text] 31) = wp at *
      have hzp := hbp.size
      refine (lay_any b _ ct p wp (fun g hg => hXr g (by omega)) (hW.below hbp) hpk.1 (by omega) (by omega)).mono ?_
      rintro e w3 ⟨rfl, hW3, hg3⟩
      have hz3 := hg3.size
      have hlen4 : (ct ++ formOf p).length = ct.length + (formOf p).length := List.length_append
      have hfl3 := formOf_le p hpk.2
      go_wp2_with fail
      refine (done_any b _ (ct ++ formOf p) w3 hW3 (by omega)).mono ?_
      rintro e w4 ⟨rfl, hK4, hb4⟩
      have hz4 := hb4.size
      have hpe : (ct ++ formOf p).length = pre fs (k + 1) := by rw [hlen4, HPR.out, HPR0.out]
      rw [hpe]
      generalize pre fs (k + 1) = e1 at *
      have hown4 : w4.ownsRow w2.heap.size 3 1 u7 k (endsOf fs k) := by
        refine ((hown.kept (row := none) (grown_below hbp _) (by cases u7.ownBlock <;> simp)).kept hg3 ?_).kept (row := none) (grown_below hb4 _) (by cases u7.ownBlock <;> simp)
        cases ho : u7.ownBlock with
        | none => exact .inl rfl
        | some g => exact .inr (fun e => by have := (hown.lt g ho).1; cases e; omega)
      have hW4 := hW3.below hb4
      have HO4 := Lib.hid hown4
      have HLN := Lib.hid hlen4
      have HPE := Lib.hid hpe
      have hx1 : k + 1 ≤ maxLen := by unfold maxLen; omega
      have hx2 : (k + 1) * 8 ≤ 140737488355328 := by omega
      have hx3 : w2.heap.size ≤ w4.heap.size + 1 := by omega
      clear hown hown4 hlen4 hpe hK4
      go_wp2_with (at_builtin; refine wpList_append_sl _ rfl (.tmp 38) (.tmp 41) _ rfl w2.heap.size _ i0 _ 1 8 Try.underlying60 hi0 hz0 hz1 hz2' rfl (by omega) u7 k (endsOf fs k) rfl (HO4.out.alloc _) (fun g => g = w4.heap.size) _ 1 [.int .i64 (e1 : Int)] rfl (sl_one w4 _ _) (by simp [Value.oneCell']) hx1 hx2 (by simp; omega) ?_; intro v5 w5 hown5 hg5 hat5)
      go_roundw
      case rel =>
        have ha4 : Below w4.heap.size w4 (w4.alloc (.cells #[.int .i64 (e1 : Int)] 3)) := (Below.refl _ _).alloc (Nat.le_refl _) _
        have hne5 : ∀ g, u7.ownBlock = some g → w2.heap.size ≤ g := fun g ho => (HO4.out.lt g ho).1
        have hgall : w2.grownBy w5 (some b) := grown_own (grown_trans (grown_own (grown_trans (grown_own hg (grown_below hbp none) (fun g e => by cases e)) hg3) (grown_below hb4 none) (fun g e => by cases e)) (grown_below ha4 _)) hg5 (fun g e => .inl (hne5 g e))
        refine ⟨k + 1, by omega, by go_num, rfl, ?_, ?_, hgall⟩
        · rw [HES.out]; exact hown5
        · rw [HSN.out]
          exact isW_append ((hW4.alloc _)) hg5 (fun g ho => by have := hne5 g ho; omega) hat5
      case measure => simp [intOf]; omega
    · obtain rfl : k = fs.length := by omega
      rw [List.take_of_length_le (Nat.le_refl _)] at hW hcl
      have HAT := Lib.hid hat
      have HFO := Lib.hid hfo
      clear hat hfo
      go_wp2_with fail
      refine (done_any b _ (catOf fs) wr hW (by omega)).mono ?_
      rintro e w4 ⟨rfl, hK4, hb4⟩
      have hz4 := hb4.size
      have hB4 := byts_of_blk (lo := 0) hK4 rfl (by unfold maxLen; omega) (Nat.zero_le _)
      go_wp2_with fail
      refine (Rd.new_any _ (catOf fs) _ w4 hB4 (by omega)).mono ?_
      rintro e w5 ⟨br, rfl, hbr, hR5, hb5⟩
      have hz5 := hb5.size
      have hbw2 : w1.heap.size = b := HBW.out
      have hB5 := hB4.same ((same_below hb5).sub fun i hi => hi.2)
      have hg5 : w1.heap.size ≤ w5.heap.size ∧ ∀ i, i < w1.heap.size → w5.heap[i]? = w1.heap[i]? := ⟨by omega, fun i hi => ((hb5.block i (by omega)).trans (hb4.block i (by omega))).trans ((hg.block i (by omega) (fun e => by cases e; have := HBW.out; omega)).trans (hb12.block i (by have := HBW.out; omega)))⟩
      have hE5 : w5.ownsRow w2.heap.size 3 1 u7 fs.length (endsOf fs fs.length) := (hown.kept (row := none) (grown_below hb4 _) (by cases u7.ownBlock <;> simp)).kept (row := none) (grown_below hb5 _) (by cases u7.ownBlock <;> simp)
      have hall : Below w.heap.size w w5 := ((hb2.grown hg (by omega) (fun g e => by cases e; omega)).trans (hb4.mono (by omega))).trans (hb5.mono (by omega))
      have hEl : ∀ g, u7.ownBlock = some g → g < w4.heap.size := fun g ho => Nat.lt_of_lt_of_le (hown.lt g ho).2 hz4
      have HEL := Lib.hid hEl
      clear hEl
      clear hK4 hB4 hW hown hW0 hbw2
      have HG5 := Lib.hid hg5
      have HE5 := Lib.hid hE5
      have HALL := Lib.hid hall
      clear hg5 hE5 hall
      generalize hcn : (catOf fs).length = cn at *
      have HCN := Lib.hid hcn
      clear hcn
      have hfo := HFO.out
      have hat := HAT.out
      have hcn0 : (catOf fs).length ≤ 2040 := by rw [HCN.out]; omega
      go_wp2_with fail
      go_loopw [53] (fun i wr => ∃ k : Nat, k ≤ fs.length ∧ i = .int .i64 k ∧ Rd.IsR wr br (fun _ => False) (stAt fs (catOf fs).length k).1 (stAt fs (catOf fs).length k).2 ∧ w5.grownBy wr (some br)) (fun i _ => fs.length - (intOf i).toNat)
      case atStart =>
        refine ⟨0, Nat.zero_le _, rfl, ?_, World.grownBy.refl _ _⟩
        rw [st_zero, List.take_of_length_le (Nat.le_refl _)]
        exact hR5
      case round =>
        obtain ⟨k, hk, rfl, hR, hgr⟩ := hrel
        have hzr := hgr.size
        have hsl := st_len fs (catOf fs).length k
        by_cases hlt : k < fs.length
        · obtain ⟨pb, off, rfl, hSb, hcell⟩ := hat k hlt
          have hp := List.getElem?_eq_getElem hlt
          have hpk := hfo fs[k] (List.getElem_mem hlt)
          generalize fs[k] = p at hp hpk
          have hgp : wr.heap[pb]? = w1.heap[pb]? := (hgr.block pb (by have := HG5.out.1; have := HBW.out; omega) (fun e => by cases e; have := HBW.out; omega)).trans (HG5.out.2 pb (by have := HBW.out; omega))
          obtain ⟨c0, c1, c2⟩ := piece_cells hgp hp hcell
          have hst := step_cut fs (catOf fs).length k p hp hpk.1 (by omega)
          have hle := pre_le fs (k + 1)
          have HST := Lib.hid hst
          have HLE := Lib.hid hle
          clear hp hat hfo hcell hgp hst hle
          go_wp2_with fail
          have hRp := hR.below ((Below.refl _ _).alloc (Nat.le_refl _) (.cells #[.int .i64 p.what, .int .u64 (p.n : Int), .string p.text] 31))
          have hgp2 := grown_alloc hgr (.cells #[.int .i64 p.what, .int .u64 (p.n : Int), .string p.text] 31)
          generalize wr.alloc (.cells #[.int .i64 p.what, .int .u64 (p.n : Int), .string p.text] 31) = wp at *
          refine (is_any br _ _ _ p wp hRp hpk.1 (by omega) (by omega)).mono ?_
          rintro e w6 ⟨rfl, hR6, hg6⟩
          have hst := HST.out
          rw [hst.2 HLE.out]
          rw [hst.1] at hR6
          have hs2 : (stAt fs (catOf fs).length (k + 1)).2 = false := by unfold stAt; rw [if_pos HLE.out]
          clear hst hR hRp
          go_wp2_with fail
          refine (Rd.err_any br _ _ _ w6 hR6).mono ?_
          rintro e w7 ⟨rfl, rfl⟩
          rw [hs2]
          have HS2 := Lib.hid hs2
          clear hs2
          go_wp2
          go_roundw
          case rel => exact ⟨k + 1, by omega, by go_num, hR6, grown_trans hgp2 hg6⟩
          case measure => simp [intOf]; omega
        · obtain rfl : k = fs.length := by omega
          rw [st_end] at hR
          clear hat hfo hsl
          have hcn1 : cn ≤ 2040 := by rw [← HCN.out]; exact hcn0
          go_wp2_with fail
          refine (Rd.left_any br _ _ _ wr hR).mono ?_
          rintro e w6 ⟨rfl, rfl⟩
          have hB6 := hB5.same ((same_grown hgr).sub fun i hi => ⟨Nat.lt_of_lt_of_le hi.2 hz5, fun e => by have h1 : i < w4.heap.size := hi.2; have h2 := Option.some.inj e; omega⟩)
          have hmod : ((cutn : Int) % ((cn : Int) + 1)) = ((cutn % (cn + 1) : Nat) : Int) := by simp
          have hm1 : cutn % (cn + 1) ≤ cn := by have := Nat.mod_lt cutn (show 0 < cn + 1 by omega); omega
          generalize cutn % (cn + 1) = m at *
          have hx1 : (0 : Int) ≤ (m : Int) := by omega
          have hx2 : (m : Int) ≤ (cn : Int) := by omega
          have hB7 := hB6.take_ (k := m) hm1
          have hmb : ((catOf fs).take m).length = m := hB7.len
          clear hB5 hB6
          go_wp2_with fail
          refine (Rd.new_any _ ((catOf fs).take m) _ wr hB7 (by omega)).mono ?_
          rintro e w6 ⟨bs, rfl, hbs, hR6, hb6⟩
          have hz6 := hb6.size
          have hE6 : w6.ownsRow w2.heap.size 3 1 u7 fs.length (endsOf fs fs.length) := by
            refine (HE5.out.kept hgr ?_).kept (row := none) (grown_below hb6 _) (by cases u7.ownBlock <;> simp)
            cases ho : u7.ownBlock with
            | none => exact .inl rfl
            | some g => exact .inr (fun e => by have h1 := HEL.out g ho; have h2 := Option.some.inj e; omega)
          have hg6 : w1.heap.size ≤ w6.heap.size ∧ ∀ i, i < w1.heap.size → w6.heap[i]? = w1.heap[i]? := ⟨by have := HG5.out.1; omega, fun i hi => (hb6.block i (by have := HG5.out.1; omega)).trans ((hgr.block i (by have := HG5.out.1; omega) (fun e => by have := HBW.out; cases e; omega)).trans (HG5.out.2 i hi))⟩
          have hall6 : Below w.heap.size w w6 := (HALL.out.grown hgr (by have := HALL.out.size; omega) (fun g e => by have := HBW.out; cases e; omega)).trans (hb6.mono (by have := HALL.out.size; omega))
          have hEs := Pc.sl_of_own hE6
          obtain ⟨EA, ec, hev, hec1, hec2, heat⟩ := hEs.at_ (by omega)
          subst hev
          have HG6 := Lib.hid hg6
          have HALL6 := Lib.hid hall6
          have HEAT := Lib.hid heat
          clear hg6 hall6 hE6 heat HG5 HE5 HALL hR hgr hb6 hB7 hEs
          have hfo := HFO.out
          have hat := HAT.out
          go_wp2_with fail
          go_loopw [86] (fun i wr => ∃ k : Nat, k ≤ fs.length ∧ i = .int .i64 k ∧ Rd.IsR wr bs (fun _ => False) (stAt fs m k).1 (stAt fs m k).2 ∧ w6.grownBy wr (some bs)) (fun i _ => fs.length - (intOf i).toNat)
          case atStart =>
            refine ⟨0, Nat.zero_le _, rfl, ?_, World.grownBy.refl _ _⟩
            rw [st_zero]
            exact hR6
          case round =>
            obtain ⟨k, hk, rfl, hR, hgr⟩ := hrel
            have hzr := hgr.size
            have hsl := st_len fs m k
            by_cases hlt : k < fs.length
            · obtain ⟨pb, off, rfl, hSb, hcell⟩ := hat k hlt
              obtain ⟨eb, eo, rfl, hEb, hecell⟩ := HEAT.out k hlt
              have hp := List.getElem?_eq_getElem hlt
              have hpk := hfo fs[k] (List.getElem_mem hlt)
              generalize fs[k] = p at hp hpk
              have hgp : wr.heap[pb]? = w1.heap[pb]? := (hgr.block pb (by have := HG6.out.1; have := HBW.out; omega) (fun e => by cases e; have := HG6.out.1; have := HBW.out; omega)).trans (HG6.out.2 pb (by have := HBW.out; omega))
              obtain ⟨c0, c1, c2⟩ := piece_cells hgp hp hcell
              have hst := step_cut fs m k p hp hpk.1 (by omega)
              have hcE0 := hecell 0 _ (by omega) (by rw [Nat.mul_one, Nat.add_zero]; exact endsOf_at fs fs.length k hlt)
              rw [Nat.mul_one, Nat.add_zero] at hcE0
              have hne1 : eb < w4.heap.size := HEL.out eb rfl
              have hgE : ∀ w', wr.grownBy w' (some bs) → w'.heap[eb]? = w6.heap[eb]? := fun w' hh => (hh.block eb (by omega) (fun e => by have := Option.some.inj e; omega)).trans (hgr.block eb hEb.2 (fun e => by have := Option.some.inj e; omega))
              have HST := Lib.hid hst
              have HCE := Lib.hid hcE0
              clear hp hat hfo hcell hgp hst hecell hcE0
              have HGE := Lib.hid hgE
              clear hgE
              go_wp2_with fail
              have hRp := hR.below ((Below.refl _ _).alloc (Nat.le_refl _) (.cells #[.int .i64 p.what, .int .u64 (p.n : Int), .string p.text] 31))
              have hgp2 := World.grownBy_alloc wr (.cells #[.int .i64 p.what, .int .u64 (p.n : Int), .string p.text] 31) (some bs)
              generalize wr.alloc (.cells #[.int .i64 p.what, .int .u64 (p.n : Int), .string p.text] 31) = wp at *
              refine (is_any bs _ _ _ p wp hRp hpk.1 (by omega) (by omega)).mono ?_
              rintro e w7 ⟨rfl, hR7, hg7⟩
              have hst := HST.out
              rw [hst.1] at hR7
              have hg17 := grown_trans hgp2 hg7
              have hce : w7.cell? ⟨eb, eo + k, none⟩ = some (.int .i64 ((pre fs (k + 1) : Nat) : Int)) := (World.cell?_of_block (a := ⟨eb, _, none⟩) (HGE.out w7 hg17)).trans HCE.out
              have HG17 := Lib.hid (grown_trans hgr hg17)
              have hpl := pre_le fs (k + 1)
              have hpb : ((pre fs (k + 1) : Nat) : Int) ≤ 9223372036854775807 := by omega
              by_cases hle : pre fs (k + 1) ≤ m
              · rw [hst.2 hle]
                have hs2 : (stAt fs m (k + 1)).2 = false := by unfold stAt; rw [if_pos hle]
                generalize hsx : stAt fs m (k + 1) = sx at *
                obtain ⟨sl, sb⟩ := sx
                simp only at hs2
                subst hs2
                have HSX := Lib.hid hsx
                have HR7 := Lib.hid hR7
                generalize pre fs (k + 1) = pe at *
                have ht1 : decide ((pe : Int) ≤ (m : Int)) = true := by simp; omega
                clear hst hR hRp hsx hgp2 hg7 hg17
                have hkk : (0 : Int) ≤ (k : Int) := by omega
                have hkk2 : (k : Int) < (fs.length : Int) := by omega
                go_wp2_with fail
                go_quiet ((go_at_call 28; exact quiet_left (Rd.err_any bs (fun _ => False) sl false _ HR7.out)))
                have HR8 := Lib.hid (show Rd.IsR (w7.drewN nq) bs (fun _ => False) sl false from HR7.out)
                have HG8 := Lib.hid (Rd.grown_drewN HG17.out nq)
                generalize w7.drewN nq = w8 at *
                go_wp2_with fail
                refine (Rd.err_any bs _ _ _ w8 HR8.out).mono ?_
                rintro e w9 ⟨rfl, rfl⟩
                go_wp2
                go_roundw
                case rel => exact ⟨k + 1, by omega, by go_num, by rw [HSX.out]; exact HR8.out, HG8.out⟩
                case measure => simp [intOf]; omega
              · have hs2 : stAt fs m (k + 1) = ([], true) := by unfold stAt; rw [if_neg hle]
                rw [hs2] at hR7
                have HSX := Lib.hid hs2
                have HR7 := Lib.hid hR7
                generalize hsame : sameOf p (Is.readOf p (stAt fs m k).1 (stAt fs m k).2).1 = sb at *
                generalize pre fs (k + 1) = pe at *
                have ht1 : decide ((pe : Int) ≤ (m : Int)) = false := by simp; omega
                have hkk : (0 : Int) ≤ (k : Int) := by omega
                have hkk2 : (k : Int) < (fs.length : Int) := by omega
                clear hst hR hRp hs2 hgp2 hg7 hg17 hR7 hsame
                go_wp2_with fail
                go_quiet ((go_at_call 28; exact quiet_left (Rd.err_any bs (fun _ => False) [] true _ HR7.out)))
                have HR8 := Lib.hid (show Rd.IsR (w7.drewN nq) bs (fun _ => False) [] true from HR7.out)
                have HG8 := Lib.hid (Rd.grown_drewN HG17.out nq)
                generalize w7.drewN nq = w8 at *
                go_wp2_with fail
                refine (Rd.err_any bs _ _ _ w8 HR8.out).mono ?_
                rintro e w9 ⟨rfl, rfl⟩
                go_wp2_with fail
                refine (Rd.left_any bs _ _ _ w8 HR8.out).mono ?_
                rintro e w9 ⟨rfl, rfl⟩
                go_wp2_with fail
                refine (Rd.byte_any bs _ _ _ w8 HR8.out).mono ?_
                rintro e w9 ⟨rfl, hR9, hg9, _⟩
                rw [next_none] at hR9
                rw [next_none, show Rd.numOf [] = 0 from rfl]
                go_wp2_with fail
                refine (Rd.text_any bs _ _ _ w9 hR9).mono ?_
                rintro e w10 ⟨rfl, hR10, hg10⟩
                have htx : Rd.textOf [] true = ([], [], true) := by unfold Rd.textOf; simp [next_none]
                rw [htx] at hR10
                rw [htx]
                go_wp2_with fail
                refine (Rd.take_any bs _ _ _ 0 w10 hR10 (by omega) (by omega) (by simp)).mono ?_
                rintro e w11 ⟨v11, rfl, ⟨hN11, hg11⟩, hR11⟩
                rw [next_none] at hN11 hR11
                obtain ⟨A11, c11, rfl, _⟩ := hN11.row
                have HG11 := Lib.hid (grown_trans (grown_trans (grown_trans HG8.out hg9) hg10) hg11)
                clear hg9 hg10 hg11
                go_wp2
                go_roundw
                case rel => exact ⟨k + 1, by omega, by go_num, by rw [HSX.out]; exact hR11, HG11.out⟩
                case measure => simp [intOf]; omega
            · clear hat hfo
              go_wp2_with fail
              refine (wakes_any _).mono ?_
              rintro e w9 ⟨rfl, hb9⟩
              go_wp2
              go_ret
              refine ⟨rfl, ?_⟩
              have h6 := HALL6.out
              have a1 : Below w.heap.size w wr := h6.grown hgr (by have := h6.size; omega) (fun g e => by have := HBW.out; cases e; omega)
              exact a1.trans (hb9.mono (by have := a1.size; omega))
end Go.Proofs.Ytbpkpkellnldmaa.Walks
