/- The walk of ScribeLays. By an AI agent. -/
import Derived.Test.YtbpkpkellnldmaaOpen
import Derived.Test.YtbpkpkellnldmaaWakes
import Derived.Test.YtbpkpkellnldmaaLay
import Derived.Test.YtbpkpkellnldmaaApp
namespace Go.Proofs.Ytbpkpkellnldmaa.Walks
open Go.RowKit Go.Proofs.Ytbpkpkellnldmaa.M Go.Proofs.Ytbpkpkellnldmaa.Open Go.Proofs.Ytbpkpkellnldmaa.Pc Go.Proofs.Ytbpkpkellnldmaa.Wr Go.Proofs.Ytbpkpkellnldmaa.Byt
set_option linter.unusedVariables false

def InPieces (w : World) (v : Value) : Prop := ∃ l, Sl w (fun k => k < w.heap.size) 3 v l.length (flat l) ∧ ∀ p ∈ l, P.Ok p
theorem cut_ok {p : P} (h : p.Ok) : (cut p).Ok := by
  obtain ⟨h1, h2, h3, h4⟩ := h
  refine ⟨h1, h2, h3, ?_⟩
  have : (cut p).text.size ≤ p.text.size := by unfold cut; simp [ByteArray.size_extract]; omega
  omega
theorem cut_size (p : P) : (cut p).text.size ≤ 100 := by unfold cut; simp [ByteArray.size_extract]; omega
theorem fewOf_mem {l : List P} {m k : Nat} {q : P} (h : q ∈ fewOf l m k) : ∃ p ∈ l, q = cut p := by
  unfold fewOf at h
  obtain ⟨p, hp, rfl⟩ := List.mem_map.1 (List.mem_of_mem_take h)
  exact ⟨p, List.mem_of_mem_take hp, rfl⟩

def catOf (l : List P) : List UInt8 := l.flatMap formOf
theorem catOf_snoc (l : List P) (p : P) : catOf (l ++ [p]) = catOf l ++ formOf p := by simp [catOf]
theorem be2_length (n : Nat) : (be2 n).length = 2 := rfl
theorem toList_size (s : ByteArray) : s.data.toList.length = s.size := by rw [Array.length_toList]; rfl
theorem formOf_le (p : P) (h : p.text.size ≤ 100) : (formOf p).length ≤ 102 := by
  unfold formOf
  repeat' split
  all_goals simp only [be_length, List.length_append, be2_length, toList_size]
  all_goals omega
theorem catOf_le : ∀ (l : List P), (∀ p ∈ l, p.text.size ≤ 100) → (catOf l).length ≤ 102 * l.length
  | [], _ => by simp [catOf]
  | p :: l, h => by
    have h1 := formOf_le p (h p (List.mem_cons_self ..))
    have h2 := catOf_le l fun q hq => h q (List.mem_cons_of_mem _ hq)
    simp only [catOf, List.flatMap_cons, List.length_append, List.length_cons] at *
    omega

/-- bytes that were turned, where they were -/
def Turned (w5 : World) (g n : Nat) (wr : World) : Prop := w5.grownBy wr (some g) ∧ ∃ cur : List Nat, cur.length = n ∧ (∀ z ∈ cur, z < 256) ∧ Blk wr g 5 (cur.map fun z : Nat => Value.int .u8 (z : Int)).toArray
theorem turned_set {w5 wr : World} {g n j : Nat} {cur : List Nat} (hg : w5.grownBy wr (some g)) (hl : cur.length = n) (hz : ∀ z ∈ cur, z < 256) (hK : Blk wr g 5 (cur.map fun z : Nat => Value.int .u8 (z : Int)).toArray) (hj : j < cur.length) :
    Turned w5 g n (wr.setCell ⟨g, j, none⟩ (.int .u8 ((((cur[j] : Nat) : Int) + 1) % 256))) := by
  refine ⟨grown_set (p := ⟨g, j, none⟩) hg (.inl rfl) _, cur.set j ((cur[j] + 1) % 256), by rw [List.length_set]; exact hl, fun z hz' => ?_, ?_⟩
  · rcases List.mem_or_eq_of_mem_set hz' with h | rfl
    · exact hz z h
    · omega
  · have := hK.set_ j (.int .u8 ((((cur[j] : Nat) : Int) + 1) % 256))
    simpa [List.map_set] using this
theorem beq_self_bytes (l : List UInt8) : (l == l) = true := by simp

/-- what holds at the head of the loop over the pieces -/
def LaysRel (w1 : World) (b : Nat) (fs : List P) (tw want i : Value) (wr : World) : Prop :=
  ∃ k, k ≤ fs.length ∧ i = .int .i64 (k : Nat) ∧ tw = .pointer (some ⟨b, 0, none⟩) ∧ wr.ownsRow w1.heap.size 5 1 want (catOf (fs.take k)).length ((catOf (fs.take k)).map cell8) ∧
    IsW wr b (fun g => want.ownBlock = some g) (catOf (fs.take k)) ∧ w1.grownBy wr (some b)

set_option maxRecDepth 100000 in
set_option maxHeartbeats 4000000 in
theorem scribeLays (w : World) (v0 : Value) (h0 : InPieces w v0) :
    Calls Try.prog 3 #[v0] w fun e w' => e = .returned (.bool true) ∧ Below w.heap.size w w' := by
  obtain ⟨l, hl, hok⟩ := h0
  obtain ⟨i0, hi0, hz0, hz1, hz2'⟩ := info_parts infoByte
  have ⟨A, c, hv0, _⟩ := hl
  subst hv0
  go_enter Try.func3, Try.ntmps3
  go_wp2_with fail
  have hW0 := isW_new w (fun _ => False)
  have hb0 : Below w.heap.size w (w.alloc (.cells #[.pointer none, .int .i64 0, .bool false] 25)) := (Below.refl _ _).alloc (Nat.le_refl _) _
  have hz0' : (w.alloc (.cells #[.pointer none, .int .i64 0, .bool false] 25)).heap.size = w.heap.size + 1 := by simp
  generalize w.alloc (.cells #[.pointer none, .int .i64 0, .bool false] 25) = wa at *
  refine (few_any _ l 30 _ wa (hl.same (same_below hb0)) hok (fun i hi => by omega) (by omega)).mono ?_
  rintro e w1 ⟨v1, rfl, hS, hb1⟩
  have hfo : ∀ q ∈ fewOf l 30 l.length, q.Ok ∧ q.text.size ≤ 100 := fun q hq => by
    obtain ⟨p, hp, rfl⟩ := fewOf_mem hq
    exact ⟨cut_ok (hok p hp), cut_size p⟩
  have hfl := fewOf_le l 30 l.length
  generalize fewOf l 30 l.length = fs at *
  obtain ⟨A1, c1, rfl, hnc1, hm1, hat⟩ := hS.at_ (by omega)
  have hW1 := hW0.below hb1
  have hz1' := hb1.size
  unfold maxLen at hm1
  generalize hbw : w.heap.size = b at *
  clear hW0 hok hl hS
  have HBW := Lib.hid hbw
  clear hbw
  have hblt := hW1.lt
  go_wp2_with fail
  go_loopw [4, 5, 14] (fun tw want i wr => LaysRel w1 b fs tw want i wr) (fun _ _ i _ => fs.length - (intOf i).toNat)
  case atStart =>
    refine ⟨0, Nat.zero_le _, rfl, rfl, by simpa [catOf] using World.ownsRow_nil _ _ _ _, ?_, World.grownBy.refl _ _⟩
    exact hW1.reX fun k _ hk => by simp [Value.ownBlock] at hk
  case round =>
    obtain ⟨k, hk, rfl, rfl, hown, hW, hg⟩ := hrel
    have hcl := catOf_le (fs.take k) fun q hq => (hfo q (List.mem_of_mem_take hq)).2
    rw [List.length_take, Nat.min_eq_left hk] at hcl
    have hzr := hg.size
    by_cases hlt : k < fs.length
    · obtain ⟨pb, off, rfl, hSb, hcell⟩ := hat k hlt
      have hp := List.getElem?_eq_getElem hlt
      have hpk := hfo fs[k] (List.getElem_mem hlt)
      generalize fs[k] = p at hp hpk
      have hsn := catOf_snoc (fs.take k) p
      rw [← Crc.take_snoc fs k p hp] at hsn
      generalize hct : catOf (fs.take k) = ct at *
      have hgp : wr.heap[pb]? = w1.heap[pb]? := hg.block pb hSb.2 (fun e => by cases e; omega)
      have c0 : wr.cell? ⟨pb, off + k * 3, none⟩ = some (.int .i64 p.what) := (World.cell?_of_block (a := ⟨pb, _, none⟩) hgp).trans (hcell 0 _ (by omega) (flat_at fs k p hp 0 (by omega)))
      have c1 : wr.cell? ⟨pb, off + k * 3 + 1, none⟩ = some (.int .u64 (p.n : Int)) := (World.cell?_of_block (a := ⟨pb, _, none⟩) hgp).trans (by simpa [Nat.add_assoc] using hcell 1 _ (by omega) (flat_at fs k p hp 1 (by omega)))
      have c2 : wr.cell? ⟨pb, off + k * 3 + 2, none⟩ = some (.string p.text) := (World.cell?_of_block (a := ⟨pb, _, none⟩) hgp).trans (by simpa [Nat.add_assoc] using hcell 2 _ (by omega) (flat_at fs k p hp 2 (by omega)))
      have HP := Lib.hid hp
      have HSN := Lib.hid hsn
      have HCT := Lib.hid hct
      have HAT := Lib.hid hat
      have HFO := Lib.hid hfo
      clear hp hsn hct hat hfo hcell hgp
      have hlen : fs.length ≤ 9223372036854775807 := by omega
      have hpz : wr.heap.size ≠ b := by omega
      have hXr : ∀ g, wr.heap.size ≤ g → ¬ u5.ownBlock = some g := fun g hg he => by have := (hown.lt g he).2; omega
      go_wp2_with fail
      have hBp := Blk.new wr 31 #[.int .i64 p.what, .int .u64 (p.n : Int), .string p.text]
      have hbp : Below wr.heap.size wr (wr.alloc (.cells #[.int .i64 p.what, .int .u64 (p.n : Int), .string p.text] 31)) := (Below.refl _ _).alloc (Nat.le_refl _) _
      generalize wr.alloc (.cells #[.int .i64 p.what, .int .u64 (p.n : Int), .string p.text] 31) = wp at *
      have hzp := hbp.size
      refine (lay_any b _ ct p wp (fun g hg => hXr g (by omega)) (hW.below hbp) hpk.1 (by omega) (by omega)).mono ?_
      rintro e w2 ⟨rfl, hW2, hg2⟩
      have hB2 := hBp.same (same_grown hg2) ⟨hBp.lt, fun e => hpz (Option.some.inj e)⟩
      have hz2 := hg2.size
      have q0 : w2.cell? ⟨wr.heap.size, 0, none⟩ = some (.int .i64 p.what) := hB2.cell 0
      have q1 : w2.cell? ⟨wr.heap.size, 1, none⟩ = some (.int .u64 (p.n : Int)) := hB2.cell 1
      have q2 : w2.cell? ⟨wr.heap.size, 2, none⟩ = some (.string p.text) := hB2.cell 2
      have hown2 : w2.ownsRow w1.heap.size 5 1 u5 ct.length (ct.map cell8) := by
        refine (hown.kept (row := none) (grown_below hbp _) (by cases u5.ownBlock <;> simp)).kept hg2 ?_
        cases ho : u5.ownBlock with
        | none => exact .inl rfl
        | some g => exact .inr (fun e => by have := (hown.lt g ho).1; cases e; omega)
      go_wp2_with fail
      refine (form_any p w2 hpk.1 (by omega)).mono ?_
      rintro e w3 ⟨v3, rfl, hB3, hb3⟩
      have hz3 := hb3.size
      have hown3 : w3.ownsRow w1.heap.size 5 1 u5 ct.length (ct.map cell8) := hown2.kept (row := none) (grown_below hb3 _) (by cases u5.ownBlock <;> simp)
      have hfl3 := formOf_le p hpk.2
      have hx1 : ct.length + (formOf p).length ≤ maxLen := by unfold maxLen; omega
      have hx2 : (ct.length + (formOf p).length) * 1 ≤ 140737488355328 := by omega
      have hx3 : w1.heap.size ≤ w3.heap.size := by omega
      have HO3 := Lib.hid hown3
      have HB3 := Lib.hid (sl_of_byts hB3)
      clear hown3 hown2 hown
      go_wp2_with (at_builtin; (refine wpList_append_sl _ rfl (.tmp 21) (.tmp 23) _ rfl w1.heap.size _ i0 _ 1 1 Try.underlying27 hi0 hz0 hz1 hz2' rfl (by omega) u5 ct.length (ct.map cell8) rfl HO3.out _ v3 (formOf p).length _ rfl HB3.out (oneCell_bytes _) hx1 hx2 hx3 ?_); intro v4 w4 hown4 hg4 hat4)
      have hz4 := hg4.size
      have hne4 : ∀ g, u5.ownBlock = some g → b < g ∧ g < wr.heap.size := fun g ho => by
        have := HO3.out.lt g ho
        have h2 : ¬ wr.heap.size ≤ g := fun hg => hXr g hg ho
        exact ⟨by omega, by omega⟩
      have hne5 : ∀ g, u5.ownBlock = some g → w1.heap.size ≤ g := fun g ho => (HO3.out.lt g ho).1
      have hW4 : IsW w4 b (fun g => u5.ownBlock = some g) (ct ++ formOf p) := by
        refine (hW2.below hb3).same ((same_grown hg4).sub fun i hi => ?_) hz4
        rcases hi with rfl | ⟨h1, h2, h3⟩
        · exact ⟨by omega, fun e => by have := (hne4 _ e.symm).1; omega⟩
        · exact ⟨h2, fun e => h3 e.symm⟩
      have hW4' : IsW w4 b (fun g => v4.ownBlock = some g) (ct ++ formOf p) := by
        rcases hat4 with e | e
        · rw [e]; exact hW4
        · refine IsW.reX (X := fun g => u5.ownBlock = some g ∨ g = w3.heap.size) (((hW2.below hb3).reX fun g hg hy => ?_).same ((same_grown hg4).sub fun i hi => ?_) hz4) fun g _ hy => ?_
          · rcases hy with hy | rfl
            · exact hy
            · omega
          · rcases hi with rfl | ⟨h1, h2, h3⟩
            · exact ⟨by omega, fun e => by have := (hne4 _ e.symm).1; omega⟩
            · exact ⟨h2, fun e => h3 (.inl e.symm)⟩
          · rw [e] at hy
            exact .inr (Option.some.inj hy).symm
      have hlen4 : (ct ++ formOf p).length = ct.length + (formOf p).length := List.length_append
      refine (done_any b _ (ct ++ formOf p) w4 hW4 (by omega)).mono ?_
      rintro e w5 ⟨rfl, hK5, hb5⟩
      have hz5 := hb5.size
      have hown4' : w4.ownsRow w1.heap.size 5 1 v4 (ct ++ formOf p).length ((ct ++ formOf p).map cell8) := by
        rw [List.map_append, List.length_append]; exact hown4
      have hBy5 := byts_of_blk (lo := 0) hK5 rfl (by unfold maxLen; omega) (Nat.zero_le _)
      have hown5 : w5.ownsRow w1.heap.size 5 1 v4 (ct ++ formOf p).length ((ct ++ formOf p).map cell8) := hown4'.kept (row := none) (grown_below hb5 _) (by cases v4.ownBlock <;> simp)
      have hBy4 := ownsRow_byts hown5
      have hown4lt := hown4'.lt
      have hW5 : IsW w5 b (fun g => v4.ownBlock = some g ∨ g = w4.heap.size) (ct ++ formOf p) := (hW4'.reX fun g hg hy => by
        rcases hy with hy | rfl
        · exact hy
        · omega).below hb5
      have hgall : w1.grownBy w5 (some b) := grown_trans (grown_own (grown_trans (grown_trans (grown_own hg (grown_below hbp none) (fun g e => by cases e)) hg2) (grown_own (World.grownBy.refl w2 _) (grown_below hb3 none) (fun g e => by cases e))) hg4 (fun g e => .inl (hne5 g e))) (grown_own (World.grownBy.refl w4 _) (grown_below hb5 none) (fun g e => by cases e))
      have hcatn : catOf (fs.take (k + 1)) = ct ++ formOf p := HSN.out
      clear hown4 hown4' hW4 hW4' hW2 hW hat4 hB3 HB3 HO3
      generalize ct ++ formOf p = cn at *
      have HCN := Lib.hid hcatn
      clear hcatn HSN
      generalize hnn : cn.length = nn at *
      have HNN := Lib.hid hnn
      have hnb : nn ≤ 9223372036854775807 := by omega
      clear hnn hlen4
      go_wp2_with fail
      refine (equal_any _ _ _ _ _ _ _ hBy5 hBy4).mono ?_
      rintro e w6 ⟨rfl, rfl⟩
      rw [beq_self_bytes]
      go_wp2_with fail
      go_loopw [40] (fun i wr2 => ∃ j : Nat, j ≤ nn ∧ i = .int .i64 j ∧ Turned w5 w4.heap.size nn wr2) (fun i _ => nn - (intOf i).toNat)
      case atStart =>
        refine ⟨0, Nat.zero_le _, rfl, World.grownBy.refl _ _, cn.map UInt8.toNat, by rw [List.length_map, HNN.out], fun z hz => ?_, ?_⟩
        · obtain ⟨y, _, rfl⟩ := List.mem_map.1 hz
          exact y.toNat_lt
        · rw [List.map_map]; exact hK5
      case round =>
        obtain ⟨j, hj, rfl, hgt, cur, hcl2, hz256, hKt⟩ := hrel
        have HC := Lib.hid hcl2
        by_cases hjl : j < nn
        · have hjc : j < cur.length := by omega
          have hcj : wr.cell? ⟨w4.heap.size, j, none⟩ = some (.int .u8 (cur[j] : Int)) := by rw [hKt.cell]; simp [hjc]
          have hfj := hKt.frozen j
          have hz := hz256 cur[j] (List.getElem_mem hjc)
          go_wp2
          go_roundw
          case rel => exact ⟨j + 1, by omega, by go_num, turned_set hgt hcl2 hz256 hKt hjc⟩
          case measure => simp [intOf]; omega
        · obtain rfl : j = nn := by omega
          clear hKt hz256 hcl2
          go_wp2
          go_roundw
          case rel =>
            have hz6 := hgt.size
            refine ⟨k + 1, by omega, by go_num, rfl, ?_, ?_, grown_own hgall hgt (fun g e => by cases e; exact .inl (by omega))⟩
            · rw [HCN.out, HNN.out]
              exact hown5.kept hgt (by
                cases ho : v4.ownBlock with
                | none => exact .inl rfl
                | some g => exact .inr (fun e => by have := (hown4lt g ho).2; cases e; omega))
            · rw [HCN.out]
              refine IsW.reX (X := fun g => v4.ownBlock = some g ∨ g = w4.heap.size) (hW5.same ((same_grown hgt).sub fun i hi => ?_) hz6) fun g _ hy => .inl hy
              rcases hi with rfl | ⟨h1, h2, h3⟩
              · exact ⟨hW5.lt, fun e => by cases e; omega⟩
              · exact ⟨h2, fun e => h3 (.inr (Option.some.inj e))⟩
          case measure => simp [intOf]; omega
    · clear hat
      go_wp2_with fail
      refine (wakes_any _).mono ?_
      rintro e w2 ⟨rfl, hb2⟩
      go_wp2
      go_ret
      refine ⟨rfl, ?_⟩
      rw [HBW.out] at *
      have a1 : Below b w wr := (hb0.trans (hb1.mono (by omega))).grown hg (by omega) (fun g e => by cases e; exact Nat.le_refl _)
      exact a1.trans (hb2.mono (by omega))
end Go.Proofs.Ytbpkpkellnldmaa.Walks
