/- The program's Writer: Done. By an AI agent. -/
import Derived.Test.YtnhomnaamlbnpaaDoorWr
import Derived.Test.YtnhomnaamlbnpaaDoorArr
import Derived.Laws.CopyOwn
import Derived.StillTailTactics
import Derived.Deep.RegionLaw
namespace Go.Proofs.YtnhomnaamlbnpaaDoor.Wr
open Go.RowKit Go.Proofs.YtnhomnaamlbnpaaDoor.M Go.Proofs.YtnhomnaamlbnpaaDoor.Byt
set_option linter.unusedVariables false

theorem infoByte : (Tryd.prog.info? 5).map (fun i => (i.zero, i.size, i.bytes)) = some (some (.int .u8 0), 1, 1) := by kernel_rfl

theorem Chain.inv {w : World} {S : Nat → Prop} {p : Value} {l : List UInt8} (h : Chain w S p l) : (p = .pointer none ∧ l = []) ∨
    ∃ g q A c l' x, p = .pointer (some ⟨g, 0, none⟩) ∧ l = l' ++ x ∧ S g ∧ Blk w g 106 #[.pointer q, .slice A x.length c] ∧ Chain w S (.pointer q) l' ∧ Byts w S (.slice A x.length c) x ∧ 0 < x.length := by
  cases h with
  | nil => exact .inl ⟨rfl, rfl⟩
  | cons hg hbg hc' hx hne =>
    obtain ⟨q', rfl⟩ := hc'.ptr
    obtain ⟨A, c, rfl, _, hm, hrow⟩ := hx.row
    exact .inr ⟨_, q', A, c, _, _, rfl, rfl, hg, hbg, hc', hx, List.length_pos_iff.2 hne⟩

/-- what holds at the head of Done's loop: what is still to come stands in the chain, the rest is laid -/
def DoneRel (w : World) (b : Nat) (X : Nat → Prop) (l : List UInt8) (e p : Value) (wr : World) : Prop :=
  ∃ (l1 l2 : List UInt8) (cur : List Value), l = l1 ++ l2 ∧ e = .int .i64 (l1.length : Int) ∧ Chain w (fun k => b < k ∧ k < w.heap.size ∧ ¬ X k) p l1 ∧ Below w.heap.size w wr ∧ Blk wr w.heap.size 5 cur.toArray ∧
    cur.length = l.length ∧ cur.drop l1.length = l2.map cell8

set_option maxHeartbeats 1600000 in
theorem done_any (b : Nat) (X : Nat → Prop) (l : List UInt8) (w : World) (hw : IsW w b X l) (hl : l.length ≤ 140737488355328) :
    Calls Tryd.prog 35 #[.pointer (some ⟨b, 0, none⟩)] w fun e w' => e = .returned (.tuple #[.slice (some ⟨w.heap.size, 0, none⟩) l.length l.length, .int .i64 0]) ∧ Blk w' w.heap.size 5 (l.map cell8).toArray ∧ Below w.heap.size w w' := by
  obtain ⟨last, hb, hch⟩ := hw
  obtain ⟨q, rfl⟩ := hch.ptr
  have h0 : w.cell? ⟨b, 0, none⟩ = some (.pointer q) := hb.cell 0
  have h1 : w.cell? ⟨b, 1, none⟩ = some (.int .i64 (l.length : Int)) := hb.cell 1
  have h2 : w.cell? ⟨b, 2, none⟩ = some (.bool false) := hb.cell 2
  obtain ⟨i0, hi, hz0, hz1, hz2⟩ := info_parts infoByte
  have hmk : ∀ u : World, (Instr.makeSlice 22 (.int .i64 (l.length : Int)) (.int .i64 (l.length : Int))).run Tryd.prog u =
      .ok (.slice (some ⟨u.heap.size, 0, none⟩) l.length l.length) (u.alloc (.cells (madeCells #[.int .u8 0] l.length) 5)) := fun u => by
    have h := run_make (P := Tryd.prog) u _ _ i0 (.int .u8 0) Tryd.underlying22 hi hz0 .i64 .i64 (l.length : Int) (l.length : Int) (by omega) (Int.le_refl _) (by rw [hz2]; omega) (by omega)
    have e : ((l.length : Int)).toNat = l.length := by omega
    rw [e] at h
    simpa [hz1, Value.cells] using h
  have e0 : ∀ o : Obj, (w.alloc o).cell? ⟨b, 0, none⟩ = some (.pointer q) := fun o => (hb.alloc o).cell 0
  have e1 : ∀ o : Obj, (w.alloc o).cell? ⟨b, 1, none⟩ = some (.int .i64 (l.length : Int)) := fun o => (hb.alloc o).cell 1
  go_enter Tryd.func35, Tryd.ntmps35
  go_wp2
  go_loopw [5, 6] (fun e p wr => DoneRel w b X l e p wr) (fun e _ _ => (intOf e).toNat)
  case atStart =>
    refine ⟨l, [], List.replicate l.length (.int .u8 0), by simp, rfl, hch, (Below.refl _ _).alloc (Nat.le_refl _) _, ?_, by simp, by simp⟩
    have hm : madeCells #[.int .u8 0] l.length = (List.replicate l.length (Value.int .u8 0)).toArray := by
      apply Array.ext
      · simp [madeCells]
      · intro i h1 h2
        simp [madeCells, Nat.mod_one]
    rw [← hm]
    exact Blk.new w 5 _
  case round =>
    obtain ⟨l1, l2, cur, hsp, rfl, hc, hbel, hcur, hcl, hdrop⟩ := hrel
    clear hmk e0 e1
    have hlen : l.length = l1.length + l2.length := by rw [hsp, List.length_append]
    have HSP := Lib.hid hsp
    clear hsp
    rcases hc.inv with ⟨rfl, rfl⟩ | ⟨g, q', A, c, l', x, rfl, hl1, hg, hbg, hc', hx, hpos⟩
    · clear hlen
      have HCL := Lib.hid hcl
      have HD := Lib.hid hdrop
      clear hcl hdrop
      go_wp2
      refine bodyPost_ret (results_tmp2 rfl _ _ _) rfl ?_
      have hc0 : cur = l.map cell8 := by simpa [HSP.out] using HD.out
      exact ⟨rfl, by rw [← hc0]; exact hcur, hbel⟩
    · have hG : Blk wr g 106 #[.pointer q', .slice A x.length c] := hbg.same (same_below hbel) hg.2.1
      have g0 : wr.cell? ⟨g, 0, none⟩ = some (.pointer q') := hG.cell 0
      have g1 : wr.cell? ⟨g, 1, none⟩ = some (.slice A x.length c) := hG.cell 1
      have hll : l1.length = l'.length + x.length := by rw [hl1, List.length_append]
      have hs1 : (l1.length : Int) - (x.length : Int) = (l'.length : Int) := by omega
      have hle : (l'.length : Int) ≤ l.length := by omega
      have hne1 : ¬ l.length = l'.length := by omega
      have hmin : (x.map cell8).length = Nat.min x.length (l.length - l'.length) := by rw [List.length_map]; exact (Nat.min_eq_left (by omega)).symm
      have HL1 := Lib.hid hl1
      have HLL := Lib.hid hll
      have HLE := Lib.hid hlen
      have HCL := Lib.hid hcl
      have HD := Lib.hid hdrop
      clear hcl hdrop hl1 hll hlen
      have hcur' : wr.heap[w.heap.size]? = some (.cells cur.toArray 5 (0, 0)) := hcur
      have HC := Lib.hid hcur'
      clear hcur'
      have hx0 : (0 : Int) ≤ (l'.length : Int) := by omega
      have hfit : l'.length + (x.map cell8).length ≤ cur.length := by rw [List.length_map, HCL.out, HLE.out, HLL.out]; omega
      have hsrc : 0 < (x.map cell8).length → (some (⟨w.heap.size, l'.length, none⟩ : Addr)) = some ⟨w.heap.size, l'.length, none⟩ ∧ ∃ ad, A = some ad ∧ ∀ j v, (x.map cell8)[j]? = some v → wr.drew.cell? (ad.add j) = some v := fun _ => by
        rcases hx.open_ with ⟨A', c', h1, h2⟩ | ⟨b', off, c', h1, _, _, _, hS, hcc⟩
        · rw [h2] at hpos; simp at hpos
        · cases h1
          refine ⟨rfl, _, rfl, fun j v hj => ?_⟩
          obtain ⟨y, hy, rfl⟩ : ∃ y, x[j]? = some y ∧ cell8 y = v := by simpa using hj
          rw [Addr.add_lit]
          exact (hbel.cell (p := ⟨b', off + j, none⟩) hS.2.1).trans (hcc j y hy)
      have hone : ∀ v ∈ x.map cell8, v.oneCell' = true := fun v hv => by
        obtain ⟨y, _, rfl⟩ := List.mem_map.1 hv
        rfl
      have HS := Lib.hid hsrc
      have HO := Lib.hid hone
      have HF := Lib.hid hfit
      have HM := Lib.hid hmin
      clear hsrc hone hfit hmin
      go_wp2_with fail
      go_region_law (refine step_copy_splice rfl (.tmp 41) (.tmp 45) _ _ rfl 5 Tryd.underlying22 (by kernel_rfl) (some ⟨w.heap.size, l'.length, none⟩) A (l.length - l'.length) (l.length - l'.length) x.length c rfl rfl w.heap.size l'.length cur 5 HC.out (x.map cell8) HM.out (fun hp0 => ⟨rfl, (HS.out hp0).2⟩) HF.out HO.out w.heap.size w hbel.drew (Nat.le_refl _) ?_; intro w1 hspl hbel1)
      have g2 : w1.cell? ⟨g, 0, none⟩ = some (.pointer q') := (hbg.same (same_below hbel1) hg.2.1).cell 0
      go_wp2
      go_roundw
      case rel =>
        refine ⟨l', x ++ l2, splice cur l'.length (x.map cell8), by rw [HSP.out, HL1.out, List.append_assoc], rfl, hc', hbel1, hspl.out, by rw [length_splice _ _ _ HF.out]; exact HCL.out, ?_⟩
        have hd := HD.out
        rw [HLL.out] at hd
        unfold splice
        have h1 : (cur.take l'.length).length = l'.length := by rw [List.length_take]; have := HCL.out; omega
        rw [List.drop_append, h1, Nat.sub_self, List.drop_of_length_le (by omega), List.drop_zero, List.nil_append, List.map_append, List.length_map, ← hd]
      case measure => simp [intOf]; omega
end Go.Proofs.YtnhomnaamlbnpaaDoor.Wr
