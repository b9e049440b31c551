/- slices.Grow of nil, Concat, Clone, at bytes. By an AI agent. -/
import Derived.Test.YtdlolbgaljdfdaaDoorSl
import Derived.Test.YtdlolbgaljdfdaaDoorHash
import Derived.Lib.AppendZerosOnto
namespace Go.Proofs.YtdlolbgaljdfdaaDoor.Sha
open Go.RowKit Go.Proofs.YtdlolbgaljdfdaaDoor.M Go.Proofs.YtdlolbgaljdfdaaDoor.Sl
set_option linter.unusedVariables false

set_option maxHeartbeats 800000 in
theorem grow_nil (k : Nat) (w : World) (hk : k ≤ 1048576) :
    Calls Tryd.prog 24 #[.slice none 0 0, .int .i64 (k : Int)] w fun e w' => ∃ v, e = .returned v ∧ w'.ownsRow w.heap.size 5 1 v 0 [] ∧ Below w.heap.size w w' := by
  obtain ⟨i0, hi0, hz0, hz1, hz2⟩ := info_parts infoByte
  by_cases hp : 0 < k
  · have h2 := Lib.run_append_grow_zeros (P := Tryd.prog) w 22 3 22 5 i0 (.int .u8 0) .i64 .i64 Tryd.underlying22 Tryd.underlying3 hi0 hz0 none 0 0 [] (run_firstCells_none w.drew _ 0 0 0) k hp (by omega) (by omega) (by omega) (by rw [hz2]; omega) (by
      have : Builtin.nextslicecap (0 + k) 0 = k := by unfold Builtin.nextslicecap; rw [if_pos (by omega)]; omega
      rw [hz2]; omega)
    have hc := grownCap_ge w (0 + k) 0 5
    have hm := grownCap_le_maxLen w (0 + k) 0 5 (by unfold maxLen; omega)
    generalize grownCap w (0 + k) 0 5 = cap at *
    obtain ⟨cs, hcs⟩ : ∃ cs, cs = (([] : List Value).toArray ++ Builtin.zeroCells (Value.int .u8 0).cells k ++ Builtin.zeroCells (Value.int .u8 0).cells (cap - (0 + k))) := ⟨_, rfl⟩
    rw [← hcs] at h2
    have hsz : cs.size = cap := by
      rw [hcs]
      simp [Builtin.zeroCells, Value.cells]
      omega
    have HCS := Lib.hid hcs
    have H2 := Lib.hid h2
    have HSZ := Lib.hid hsz
    clear hcs h2 hsz
    go_enter Tryd.func24, Tryd.ntmps24
    go_wp2_with (at_builtin; refine wpList_append_of rfl (.tmp 20) (.tmp 21) _ _ rfl _ _ rfl rfl _ _ H2.out ?_)
    go_ret
    refine ⟨_, rfl, ?_, ((Below.refl _ _).alloc (Nat.le_refl _) _).drew⟩
    exact World.ownsRow_made w cs cap (Nat.le_refl _) hm (by rw [HSZ.out]; omega)
  · obtain rfl : k = 0 := by omega
    go_enter Tryd.func24, Tryd.ntmps24
    go_wp2
    go_ret
    exact ⟨_, rfl, World.ownsRow_nil _ _ _ _, Below.refl _ _⟩

def u8cells (l : List UInt8) : List Value := l.map fun b => Value.int .u8 (b.toNat : Int)
theorem flatten_take_succ {α : Type} (ls : List (List α)) (i : Nat) (l : List α) (h : ls[i]? = some l) : (ls.take (i + 1)).flatten = (ls.take i).flatten ++ l := by
  rw [List.take_add_one, h, List.flatten_append]; simp
theorem flatten_take_le {α : Type} (ls : List (List α)) (i : Nat) : (ls.take i).flatten.length ≤ ls.flatten.length := by
  conv => rhs; rw [← List.take_append_drop i ls, List.flatten_append, List.length_append]
  omega
set_option maxHeartbeats 1600000 in
theorem concat_any (v : Value) (ls : List (List UInt8)) (S : Nat → Prop) (w : World) (hp : Parts w S v ls) (hS : ∀ i, S i → i < w.heap.size) (hbig : ls.flatten.length ≤ 1048576) :
    Calls Tryd.prog 12 #[v] w fun e w' => ∃ v', e = .returned v' ∧ w'.ownsRow w.heap.size 5 1 v' ls.flatten.length (u8cells ls.flatten) ∧ Below w.heap.size w w' := by
  obtain ⟨i0, hi0, hz0, hz1, hz2⟩ := info_parts infoByte
  obtain ⟨A, c, rfl, hc, hmx, hat⟩ := hp
  unfold maxLen at hmx
  have HAT := Lib.hid hat
  clear hat
  go_enter Tryd.func12, Tryd.ntmps12
  go_wp2
  go_loop [3, 11] (fun z i => ∃ j : Nat, j ≤ ls.length ∧ i = .int .i64 j ∧ z = .int .i64 ((ls.take j).flatten.length : Nat)) (fun _ i => ls.length - (intOf i).toNat)
  case atStart => exact ⟨0, by omega, rfl, rfl⟩
  case round =>
    obtain ⟨j, hj, rfl, rfl⟩ := hrel
    have hle := flatten_take_le ls j
    by_cases hlt : j < ls.length
    · obtain ⟨g, off, u, rfl, hSg, hcu, hbu⟩ := HAT.out j _ (List.getElem?_eq_getElem hlt)
      have hfl := flatten_take_succ ls j _ (List.getElem?_eq_getElem hlt)
      have hle2 := flatten_take_le ls (j + 1)
      rw [hfl] at hle2
      rw [List.length_append] at hle2
      generalize ls[j] = l at *
      obtain ⟨A1, n1, c1, rfl, hl1, hnc1, hm1, h01, hcc1⟩ := hbu
      have hsum : (ls.take (j + 1)).flatten.length = (ls.take j).flatten.length + n1 := by rw [hfl, List.length_append, hl1]
      rw [hl1] at hle2
      generalize (ls.take j).flatten.length = z at *
      have HS := Lib.hid hsum
      clear hsum hfl h01 hcc1 hl1
      go_wp2
      go_round
      case rel => exact ⟨j + 1, by omega, by go_num, by rw [HS.out]; go_num⟩
      case measure => simp [intOf]; omega
    · obtain rfl : j = ls.length := by omega
      rw [List.take_length]
      generalize hz : ls.flatten.length = z at *
      have HZ := Lib.hid hz
      clear hz hle
      go_wp2_with fail
      refine (grow_nil z w hbig).mono ?_
      rintro e w1 ⟨v1, rfl, hown1, hb1⟩
      have HO := Lib.hid hown1
      clear hown1
      go_wp2_with fail
      go_loopw [6, 27] (fun v6 i wr => ∃ j : Nat, j ≤ ls.length ∧ i = .int .i64 j ∧ wr.ownsRow w.heap.size 5 1 v6 (ls.take j).flatten.length (u8cells (ls.take j).flatten) ∧ Below w.heap.size w wr) (fun _ i _ => ls.length - (intOf i).toNat)
      case atStart => exact ⟨0, by omega, rfl, HO.out, hb1⟩
      case round =>
        obtain ⟨j, hj, rfl, hown, hb⟩ := hrel
        have hle := flatten_take_le ls j
        rw [HZ.out] at hle
        by_cases hlt : j < ls.length
        · obtain ⟨g, off, u, rfl, hSg, hcu, hbu⟩ := HAT.out j _ (List.getElem?_eq_getElem hlt)
          have hfl := flatten_take_succ ls j _ (List.getElem?_eq_getElem hlt)
          have hle2 := flatten_take_le ls (j + 1)
          rw [HZ.out, hfl, List.length_append] at hle2
          generalize ls[j] = l at *
          have hcw : wr.cell? ⟨g, off + j, none⟩ = some u := ((same_below hb).cell (p := ⟨g, off + j, none⟩) (hS g hSg)).trans hcu
          have hbw := hbu.same ((same_below hb).sub hS)
          have hsl := sl_of_byts hbw
          have hnew : (ls.take (j + 1)).flatten.length = (ls.take j).flatten.length + l.length := by rw [hfl, List.length_append]
          have hcell : u8cells (ls.take (j + 1)).flatten = u8cells (ls.take j).flatten ++ (l.map fun b => Value.int .u8 (b.toNat : Int)) := by rw [hfl]; simp [u8cells]
          have hz := hb.size
          generalize (ls.take j).flatten.length = k at *
          generalize u8cells (ls.take j).flatten = xs at *
          have hn1 : k + l.length ≤ maxLen := by unfold maxLen; omega
          have hn2 : (k + l.length) * 1 ≤ 140737488355328 := by omega
          have HSL := Lib.hid hsl
          have HOW := Lib.hid hown
          have HNEW := Lib.hid hnew
          have HCELL := Lib.hid hcell
          have HN1 := Lib.hid hn1
          have HN2 := Lib.hid hn2
          have HB := Lib.hid hb
          clear hsl hown hnew hcell hn1 hn2 hfl hbu hb
          obtain ⟨A1, n1, c1, hu⟩ := parts_get hbw
          subst hu
          go_wp2_with (at_builtin; refine wpList_append_sl _ rfl (.tmp 31) (.tmp 32) _ rfl w.heap.size _ i0 _ 1 1 Tryd.underlying22 hi0 hz0 hz1 hz2 rfl (by omega) _ _ _ rfl HOW.out _ _ _ _ rfl HSL.out (oneCell_bytes _) HN1.out HN2.out hz ?_; intro v9 w9 hown9 hg9 hnil9)
          have HO9 := HOW.out
          go_roundw
          case rel =>
            refine ⟨j + 1, by omega, by go_num, by rw [HNEW.out, HCELL.out]; exact hown9, HB.out.grown hg9 hz (fun i hi => (HO9.lt i hi).1)⟩
          case measure => simp [intOf]; omega
        · obtain rfl : j = ls.length := by omega
          rw [List.take_length] at hown
          have HOW := Lib.hid hown
          clear hown
          go_wp2
          go_ret
          exact ⟨_, rfl, by rw [← HZ.out]; exact HOW.out, hb⟩
end Go.Proofs.YtdlolbgaljdfdaaDoor.Sha
