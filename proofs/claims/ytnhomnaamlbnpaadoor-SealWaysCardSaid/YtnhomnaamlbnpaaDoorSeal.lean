/- seal's calls: mayBeSecret, Tag. By an AI agent. -/
import Derived.Test.YtnhomnaamlbnpaaDoorHash
import Derived.Test.YtnhomnaamlbnpaaDoorDone
import Derived.Test.YtnhomnaamlbnpaaDoorRdt
import Derived.Test.YtnhomnaamlbnpaaDoorLd
import Derived.Test.YtnhomnaamlbnpaaDoorNw
namespace Go.Proofs.YtnhomnaamlbnpaaDoor.Seal
open Go.RowKit Go.Proofs.YtnhomnaamlbnpaaDoor.M Go.Proofs.YtnhomnaamlbnpaaDoor.Sha Go.Proofs.YtnhomnaamlbnpaaDoor.Nw Go.Proofs.YtnhomnaamlbnpaaDoor.Ld
open Go.Proofs.YtnhomnaamlbnpaaDoor.Wr (IsW be4 be8) 
open Go.Proofs.YtnhomnaamlbnpaaDoor.Rd (IsR numOf nextOf)
set_option linter.unusedVariables false
set_option maxRecDepth 20000

theorem may_yes (v : Value) (l : List UInt8) (S : Nat → Prop) (w : World) (hv : Byts w S v l) (h1 : 1 ≤ l.length) (h2 : l.length ≤ 64) :
    Calls Tryd.prog 44 #[v] w fun e w' => e = .returned (.bool true) ∧ w = w' := by
  obtain ⟨A, c, rfl, _⟩ := hv.row
  go_enter Tryd.func44, Tryd.ntmps44
  go_wp2
  go_ret
  exact ⟨by simp; omega, rfl⟩
theorem may_no (v : Value) (l : List UInt8) (S : Nat → Prop) (w : World) (hv : Byts w S v l) (h : l.length < 1 ∨ 64 < l.length) :
    Calls Tryd.prog 44 #[v] w fun e w' => e = .returned (.bool false) ∧ w = w' := by
  obtain ⟨A, c, rfl, _⟩ := hv.row
  rcases h with h | h
  · go_enter Tryd.func44, Tryd.ntmps44
    go_wp2
    go_ret
    exact ⟨rfl, rfl⟩
  · have h1 : 1 ≤ l.length := by omega
    go_enter Tryd.func44, Tryd.ntmps44
    go_wp2
    go_ret
    exact ⟨by simp; omega, rfl⟩

theorem infoSlice : (Tryd.prog.info? 22).map (fun i => (i.zero, i.size, i.bytes)) = some (some (.slice none 0 0), 1, 24) := by kernel_rfl
theorem byts_var {w : World} {g n : Nat} {t : TypeId} {l : List UInt8} (h : Blk w g t (l.map cell8).toArray) (hl : l.length = n) (hm : n ≤ maxLen) : Byts w (fun k => k = g) (.slice (some ⟨g, 0, none⟩) n n) l := by
  subst hl; exact Sha.Blk.byts h hm
/-- one part -/
theorem parts1 {w w' : World} {S : Nat → Prop} {g : Nat} {t : TypeId} {u : Value} {l : List UInt8} (n : New w w' g t #[u]) (h : Byts w S u l) (hS : ∀ i, S i → i < w.heap.size) :
    Parts w' (fun k => S k ∨ k = g) (.slice (some ⟨g, 0, none⟩) 1 1) [l] := by
  refine ⟨_, 1, rfl, Nat.le_refl _, by simp [maxLen], fun i l' hl' => ?_⟩
  rcases i with _ | i
  · obtain rfl : l = l' := by simpa using hl'
    exact ⟨_, _, u, rfl, .inr rfl, by rw [n.blk.cell]; rfl, (h.same ((same_below n.below).sub hS)).sub fun i hi => .inl hi⟩
  · simp at hl'
/-- the first eight bytes -/
def tagOf (k l : List UInt8) : Nat := numOf ((hmac k l).take 8)
theorem flat1 (l : List UInt8) : [l].flatten = l := by simp

set_option maxHeartbeats 1000000 in
theorem tag_any (k l : List UInt8) (v : Value) (S : Nat → Prop) (w : World) (hk : k.length = 32) (hv : Byts w S v l) (hS : ∀ i, S i → i < w.heap.size) (ht : Tab w) :
    Calls Tryd.prog 13 #[.agg (k.map cell8).toArray, v] w fun e w' => e = .returned (.int .u64 (tagOf k l : Nat)) ∧ Below w.heap.size w w' := by
  obtain ⟨i0, hi0, hz0, hz1, hz2⟩ := info_parts infoSlice
  have htG := ht.1
  obtain ⟨A, c, rfl, _⟩ := hv.row
  go_enter Tryd.func13, Tryd.ntmps13
  go_wp2_with (first | (with_reducible refine wpList_box_new rfl 26 (.tmp 0) rfl _ rfl ?_; intro g1 w1 n1) | (with_reducible refine wpList_slice1 rfl 23 _ (.tmp 7) rfl Tryd.underlying23 hi0 hz0 hz1 _ rfl rfl ?_; intro g2 w2 n2) | fail)
  have hbw1 : Below w.heap.size w w1 := n1.below
  have hbw2 : Below w.heap.size w w2 := hbw1.trans (n2.below.mono (by have := n1.size; omega))
  have s1 := n1.size
  have s2 := n2.size
  have i1 := n1.is
  have i2 := n2.is
  have hkb : Byts w2 (fun k => k = g1) (.slice (some ⟨g1, 0, none⟩) 32 32) k := (byts_var n1.blk hk (by simp [maxLen])).same ((same_below n2.below).sub (by rintro i rfl; omega))
  have hpp := parts1 n2 (hv.same ((same_below hbw1).sub hS)) (fun i hi => by have := hS i hi; omega)
  refine (hmac_any _ _ k [l] _ _ w2 hkb hpp (by rintro i rfl; omega) (fun i hi => by rcases hi with hi | rfl; (have := hS i hi; omega); omega) (ht.below hbw2 htG)).mono ?_
  rintro e w3 ⟨rfl, hb3⟩
  rw [flat1]
  have hbw3 : Below w.heap.size w w3 := hbw2.trans (hb3.mono (by omega))
  obtain ⟨hm, hhm⟩ : ∃ hm, hm = hmac k l := ⟨_, rfl⟩
  have hlm : hm.length = 32 := by rw [hhm]; exact sha_length _
  have htg : tagOf k l = numOf (hm.take 8) := by rw [hhm]; rfl
  rw [← hhm]
  have HH := Lib.hid htg
  clear hhm htg
  have ss := sum_size hm hlm
  have rs := row_size hm 32 hlm
  have HSS := Lib.hid ss
  have HRS := Lib.hid rs
  have I1 := Lib.hid i1
  have I2 := Lib.hid i2
  have S1 := Lib.hid s1
  have S2 := Lib.hid s2
  have HLM := Lib.hid hlm
  clear ss rs i1 i2 s1 s2 hkb hpp hlm
  go_wp2_with (first | (with_reducible refine wpList_alloc_new rfl 56 rfl _ alloc24 ?_; intro g4 w4 n4) | (with_reducible refine wpList_store_all rfl 56 (.tmp 5) (.tmp 9) rfl _ _ rfl rfl _ _ n4.blk HSS.out HRS.out (all_cell8 hm) ?_; intro w5 p5) | fail)
  have s4 := n4.size
  have s5 := p5.size
  have hbw4 : Below w.heap.size w w4 := hbw3.trans (n4.below.mono hbw3.size)
  have hbw5 : Below w.heap.size w w5 := below_grown hbw4 p5.grown (by have := n4.is; have := hbw3.size; omega)
  have hmb := byts_var p5.blk HLM.out (n := 32) (by simp [maxLen])
  clear s4 s5
  refine (Rd.new_any _ hm _ w5 hmb (by have := HLM.out; omega)).mono ?_
  rintro e w6 ⟨b, rfl, hbz, hR, hb6⟩
  have hbw6 : Below w.heap.size w w6 := hbw5.trans (hb6.mono hbw5.size)
  go_wp2_with fail
  refine (Rd.eight_any b _ hm false w6 hR).mono ?_
  rintro e w7 ⟨rfl, hR7, hg7, hz7⟩
  have hx : (nextOf hm false 8).1 = hm.take 8 := by unfold nextOf; rw [if_pos (by have := HLM.out; omega)]
  rw [hx, ← HH.out]
  have HZ7 := Lib.hid hz7
  clear hx hz7
  go_wp2
  go_ret
  exact ⟨rfl, below_grown hbw6 hg7 (by have := hbw5.size; omega)⟩
end Go.Proofs.YtnhomnaamlbnpaaDoor.Seal
