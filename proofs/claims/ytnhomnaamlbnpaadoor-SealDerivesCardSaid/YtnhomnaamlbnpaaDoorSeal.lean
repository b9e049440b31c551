/- seal's calls: mayBeSecret, Tag. By an AI agent. -/
import Derived.Test.YtnhomnaamlbnpaaDoorHash
import Derived.Test.YtnhomnaamlbnpaaDoorDone
import Derived.Test.YtnhomnaamlbnpaaDoorRd
import Derived.Test.YtnhomnaamlbnpaaDoorLd
import Derived.Test.YtnhomnaamlbnpaaDoorNw
namespace Go.Proofs.YtnhomnaamlbnpaaDoor.Seal
open Go.RowKit Go.Proofs.YtnhomnaamlbnpaaDoor.M Go.Proofs.YtnhomnaamlbnpaaDoor.Sha Go.Proofs.YtnhomnaamlbnpaaDoor.Nw Go.Proofs.YtnhomnaamlbnpaaDoor.Ld
open Go.Proofs.YtnhomnaamlbnpaaDoor.Wr (IsW be4 be8) 
open Go.Proofs.YtnhomnaamlbnpaaDoor.Rd (IsR numOf nextOf)
set_option linter.unusedVariables false
set_option maxRecDepth 20000

theorem may_yes (v : Value) (l : List UInt8) (S : Nat → Prop) (w : World) (hv : Byts w S v l) (h1 : 1 ≤ l.length) (h2 : l.length ≤ 64) :
    Calls Tryd.prog 44 #[v] w fun e w' => e = .returned (.bool true) ∧ w = w' := by
  obtain ⟨A, c, rfl, _⟩ := hv.row
  go_enter Tryd.func44, Tryd.ntmps44
  go_wp2
  go_ret
  exact ⟨by simp; omega, rfl⟩
theorem infoSlice : (Tryd.prog.info? 22).map (fun i => (i.zero, i.size, i.bytes)) = some (some (.slice none 0 0), 1, 24) := by kernel_rfl
theorem byts_var {w : World} {g n : Nat} {t : TypeId} {l : List UInt8} (h : Blk w g t (l.map cell8).toArray) (hl : l.length = n) (hm : n ≤ maxLen) : Byts w (fun k => k = g) (.slice (some ⟨g, 0, none⟩) n n) l := by
  subst hl; exact Sha.Blk.byts h hm
/-- one part -/
theorem parts1 {w w' : World} {S : Nat → Prop} {g : Nat} {t : TypeId} {u : Value} {l : List UInt8} (n : New w w' g t #[u]) (h : Byts w S u l) (hS : ∀ i, S i → i < w.heap.size) :
    Parts w' (fun k => S k ∨ k = g) (.slice (some ⟨g, 0, none⟩) 1 1) [l] := by
  refine ⟨_, 1, rfl, Nat.le_refl _, by simp [maxLen], fun i l' hl' => ?_⟩
  rcases i with _ | i
  · obtain rfl : l = l' := by simpa using hl'
    exact ⟨_, _, u, rfl, .inr rfl, by rw [n.blk.cell]; rfl, (h.same ((same_below n.below).sub hS)).sub fun i hi => .inl hi⟩
  · simp at hl'
/-- the first eight bytes -/
def tagOf (k l : List UInt8) : Nat := numOf ((hmac k l).take 8)
theorem flat1 (l : List UInt8) : [l].flatten = l := by simp

set_option maxHeartbeats 1000000 in
theorem tag_any (k l : List UInt8) (v : Value) (S : Nat → Prop) (w : World) (hk : k.length = 32) (hv : Byts w S v l) (hS : ∀ i, S i → i < w.heap.size) (ht : Tab w) :
    Calls Tryd.prog 13 #[.agg (k.map cell8).toArray, v] w fun e w' => e = .returned (.int .u64 (tagOf k l : Nat)) ∧ Below w.heap.size w w' := by
  obtain ⟨i0, hi0, hz0, hz1, hz2⟩ := info_parts infoSlice
  have htG := ht.1
  obtain ⟨A, c, rfl, _⟩ := hv.row
  go_enter Tryd.func13, Tryd.ntmps13
  go_wp2_with (first | (with_reducible refine wpList_box_new rfl 26 (.tmp 0) rfl _ rfl ?_; intro g1 w1 n1) | (with_reducible refine wpList_slice1 rfl 23 _ (.tmp 7) rfl Tryd.underlying23 hi0 hz0 hz1 _ rfl rfl ?_; intro g2 w2 n2) | fail)
  have hbw1 : Below w.heap.size w w1 := n1.below
  have hbw2 : Below w.heap.size w w2 := hbw1.trans (n2.below.mono (by have := n1.size; omega))
  have s1 := n1.size
  have s2 := n2.size
  have i1 := n1.is
  have i2 := n2.is
  have hkb : Byts w2 (fun k => k = g1) (.slice (some ⟨g1, 0, none⟩) 32 32) k := (byts_var n1.blk hk (by simp [maxLen])).same ((same_below n2.below).sub (by rintro i rfl; omega))
  have hpp := parts1 n2 (hv.same ((same_below hbw1).sub hS)) (fun i hi => by have := hS i hi; omega)
  refine (hmac_any _ _ k [l] _ _ w2 hkb hpp (by rintro i rfl; omega) (fun i hi => by rcases hi with hi | rfl; (have := hS i hi; omega); omega) (ht.below hbw2 htG)).mono ?_
  rintro e w3 ⟨rfl, hb3⟩
  rw [flat1]
  have hbw3 : Below w.heap.size w w3 := hbw2.trans (hb3.mono (by omega))
  obtain ⟨hm, hhm⟩ : ∃ hm, hm = hmac k l := ⟨_, rfl⟩
  have hlm : hm.length = 32 := by rw [hhm]; exact sha_length _
  have htg : tagOf k l = numOf (hm.take 8) := by rw [hhm]; rfl
  rw [← hhm]
  have HH := Lib.hid htg
  clear hhm htg
  have ss := sum_size hm hlm
  have rs := row_size hm 32 hlm
  have HSS := Lib.hid ss
  have HRS := Lib.hid rs
  have I1 := Lib.hid i1
  have I2 := Lib.hid i2
  have S1 := Lib.hid s1
  have S2 := Lib.hid s2
  have HLM := Lib.hid hlm
  clear ss rs i1 i2 s1 s2 hkb hpp hlm
  go_wp2_with (first | (with_reducible refine wpList_alloc_new rfl 56 rfl _ alloc24 ?_; intro g4 w4 n4) | (with_reducible refine wpList_store_all rfl 56 (.tmp 5) (.tmp 9) rfl _ _ rfl rfl _ _ n4.blk HSS.out HRS.out (all_cell8 hm) ?_; intro w5 p5) | fail)
  have s4 := n4.size
  have s5 := p5.size
  have hbw4 : Below w.heap.size w w4 := hbw3.trans (n4.below.mono hbw3.size)
  have hbw5 : Below w.heap.size w w5 := below_grown hbw4 p5.grown (by have := n4.is; have := hbw3.size; omega)
  have hmb := byts_var p5.blk HLM.out (n := 32) (by simp [maxLen])
  clear s4 s5
  refine (Rd.new_any _ hm _ w5 hmb (by have := HLM.out; omega)).mono ?_
  rintro e w6 ⟨b, rfl, hbz, hR, hb6⟩
  have hbw6 : Below w.heap.size w w6 := hbw5.trans (hb6.mono hbw5.size)
  go_wp2_with fail
  refine (Rd.eight_any b _ hm false w6 hR).mono ?_
  rintro e w7 ⟨rfl, hR7, hg7, hz7⟩
  have hx : (nextOf hm false 8).1 = hm.take 8 := by unfold nextOf; rw [if_pos (by have := HLM.out; omega)]
  rw [hx, ← HH.out]
  have HZ7 := Lib.hid hz7
  clear hx hz7
  go_wp2
  go_ret
  exact ⟨rfl, below_grown hbw6 hg7 (by have := hbw5.size; omega)⟩
end Go.Proofs.YtnhomnaamlbnpaaDoor.Seal
namespace Go.Proofs.YtnhomnaamlbnpaaDoor.Seal
open Go.RowKit Go.Proofs.YtnhomnaamlbnpaaDoor.M Go.Proofs.YtnhomnaamlbnpaaDoor.Sha Go.Proofs.YtnhomnaamlbnpaaDoor.Nw Go.Proofs.YtnhomnaamlbnpaaDoor.Ld
open Go.Proofs.YtnhomnaamlbnpaaDoor.Wr (IsW be2 be4 be8)
open Go.Proofs.YtnhomnaamlbnpaaDoor.Rd (IsR numOf nextOf)
set_option linter.unusedVariables false
set_option maxRecDepth 20000

theorem results_cell_tmp {P : Program} {fn : Func} {p u : Tmp} {ty : TypeId} (h : fn.results = #[.cell p ty, .tmp u]) (tmps : Array Value) (w : World) (g : Nat) (t : TypeId) (cs : Array Value) (d : TypeDesc)
    (hp : tmps.getD p undef = .pointer (some ⟨g, 0, none⟩)) (hg : Blk w g t cs)
    (hu : P.underlying ty = some d) (hd : (match d with | .struct _ | .array _ _ => true | _ => false) = true) (hi : (P.info? ty).map (·.size) = some cs.size) :
    (results fn tmps).run P w = .ok (.tuple #[.agg cs, tmps.getD u undef]) w := by
  have hp' : tmps[p]?.getD undef = .pointer (some ⟨g, 0, none⟩) := by simpa using hp
  simp [results, h, hp', asAddr, run_loadVar_row w g t ty cs (0, 0) d hg hu hd hi]
theorem allocKey (w : World) : (Instr.alloc 26 true (.tuple #[])).run Tryd.prog w = .ok (.pointer (some ⟨w.heap.size, 0, none⟩)) (w.alloc (.cells ((row8 32).map cell8).toArray 26)) :=
  run_alloc_zero (z := .agg ((row8 32).map cell8).toArray) (by kernel_rfl) rfl w
theorem allocWriter (w : World) : (Instr.alloc 69 true (.tuple #[])).run Tryd.prog w = .ok (.pointer (some ⟨w.heap.size, 0, none⟩)) (w.alloc (.cells #[.pointer none, .int .i64 0, .bool false] 69)) :=
  run_alloc_zero (z := .agg #[.pointer none, .int .i64 0, .bool false]) (by kernel_rfl) rfl w
theorem key_size (l : List UInt8) (h : l.length = 32) : (Tryd.prog.info? 26).map (·.size) = some (l.map cell8).toArray.size := by
  rw [show (l.map cell8).toArray.size = 32 from by simp [h]]; kernel_rfl
def noX : Nat → Prop := fun _ => False
theorem noX_any (w : World) : ∀ k, w.heap.size ≤ k → ¬ noX k := fun _ _ h => h
theorem many_take (ls : List (List UInt8)) (j : Nat) (p : List UInt8) (h : ls[j]? = some p) : many (ls.take (j + 1)) = many (ls.take j) ++ be4 p.length ++ p := by
  rw [List.take_add_one, h, Option.toList, many_snoc, List.append_assoc]
theorem many_take_le (ls : List (List UInt8)) (j : Nat) : (many (ls.take j)).length ≤ (many ls).length := by
  have h : many ls = many (ls.take j) ++ many (ls.drop j) := by
    conv => lhs; rw [← List.take_append_drop j ls]
    unfold many; rw [List.flatMap_append]
  rw [h, List.length_append]; omega
set_option maxHeartbeats 1000000 in
theorem derive_ok (v0 v2 : Value) (key : List UInt8) (s : ByteArray) (ls : List (List UInt8)) (S T : Nat → Prop) (w : World) (hk : Byts w S v0 key) (hp : Parts w T v2 ls) (hS : ∀ i, S i → i < w.heap.size) (hT : ∀ i, T i → i < w.heap.size) (ht : Tab w)
    (h1 : 1 ≤ key.length) (h2 : key.length ≤ 64) (hs : s.size ≤ 65535) (hb : ∀ p ∈ ls, p.length < 4294967296) (hl : (lay s.data.toList ls).length ≤ 140737488355328) :
    Calls Tryd.prog 11 #[v0, .string s, v2] w fun e w' => e = .returned (.tuple #[.agg ((hmac key (lay s.data.toList ls)).map cell8).toArray, .int .i64 0]) ∧ Below w.heap.size w w' := by
  obtain ⟨i0, hi0, hz0, hz1, hz2⟩ := info_parts infoSlice
  have htG := ht.1
  have hsl : s.data.toList.length = s.size := by rw [Array.length_toList]; rfl
  have hll := lay_len s.data.toList ls
  rw [hsl] at hll
  obtain ⟨A0, c0, rfl, _⟩ := hk.row
  obtain ⟨A, c, rfl, hc, hmx, hat⟩ := hp
  have HAT := Lib.hid hat
  have HLL := Lib.hid hll
  have HSL := Lib.hid hsl
  have HL := Lib.hid hl
  unfold maxLen at hmx
  clear hat hll hl hsl
  go_enter Tryd.func11, Tryd.ntmps11
  go_wp2_with (first | (with_reducible refine wpList_alloc_new rfl 26 rfl _ allocKey ?_; intro g1 w1 n1) | fail)
  have hb1 : Below w.heap.size w w1 := n1.below
  refine (may_yes _ key _ w1 (hk.same ((same_below hb1).sub hS)) h1 h2).mono ?_
  rintro e w' ⟨rfl, rfl⟩
  go_wp2_with (first | (with_reducible refine wpList_alloc_new rfl 69 rfl _ allocWriter ?_; intro g2 w2 n2) | fail)
  have hb2 : Below w.heap.size w w2 := hb1.trans (n2.below.mono hb1.size)
  have hW2 : IsW w2 g2 noX [] := ⟨_, n2.blk, .nil⟩
  have hgz : w.heap.size ≤ g2 := by have := n2.is; have := hb1.size; omega
  refine (Wr.text_any g2 noX [] s w2 (noX_any _) hW2 hs (by have := HLL.out; have := HL.out; simp; omega)).mono ?_
  rintro e w3 ⟨rfl, hW3, hg3⟩
  have hb3 := below_grown hb2 hg3 hgz
  have hK3 : Blk w3 g1 26 ((row8 32).map cell8).toArray := (n1.blk.same (same_below n2.below) (by have := n1.blk.lt; omega)).same (same_grown hg3) ⟨by have := n1.blk.lt; have := n2.size; omega, fun e => by have := Option.some.inj e; have := n1.blk.lt; have := n2.is; omega⟩
  have hg12 : g1 < g2 := by have := n1.blk.lt; have := n2.is; omega
  rw [List.nil_append] at hW3
  go_wp2_with fail
  go_loopw [21] (fun i wr => ∃ j : Nat, j ≤ ls.length ∧ i = .int .i64 j ∧ IsW wr g2 noX (be2 s.size ++ s.data.toList ++ many (ls.take j)) ∧ Below w.heap.size w wr ∧ Blk wr g1 26 ((row8 32).map cell8).toArray) (fun i _ => ls.length - (intOf i).toNat)
  case atStart => exact ⟨0, by omega, rfl, by simpa [many] using hW3, hb3, hK3⟩
  case round =>
    clear hW3 hb3 hK3 hg3
    obtain ⟨j, hj, rfl, hW, hbw, hK⟩ := hrel
    have HW := Lib.hid hW
    have HK := Lib.hid hK
    clear hW hK
    by_cases hlt : j < ls.length
    · obtain ⟨g, off, u, rfl, hSg, hcu, hbu⟩ := HAT.out j _ (List.getElem?_eq_getElem hlt)
      have hpl := hb _ (List.getElem_mem hlt)
      have hmt := many_take ls j _ (List.getElem?_eq_getElem hlt)
      have hml := many_take_le ls (j + 1)
      rw [hmt] at hml
      generalize ls[j] = p at *
      have hcw : wr.cell? ⟨g, off + j, none⟩ = some u := ((same_below hbw).cell (p := ⟨g, off + j, none⟩) (hT _ hSg)).trans hcu
      have hbu2 := hbu.same ((same_below hbw).sub hT)
      obtain ⟨A2, c2, rfl, hnc2, hm2, _⟩ := hbu.row
      have HMT := Lib.hid hmt
      have hml2 : (many (ls.take j)).length + 4 + p.length ≤ (many ls).length := by simp [be4_len] at hml; omega
      have HML := Lib.hid hml2
      clear hmt hml hml2 hcu hbu
      go_wp2_with fail
      refine (Wr.four_any g2 noX _ p.length wr (noX_any _) HW.out hpl (by have := HML.out; have := HLL.out; have := HL.out; have := HSL.out; simp [be2_len]; omega)).mono ?_
      rintro e w5 ⟨rfl, hW5, hg5⟩
      have hb5 := below_grown hbw hg5 hgz
      have hbu5 := hbu2.same ((same_grown hg5).sub fun i hi => ⟨by have := hT i hi; have := hbw.size; omega, fun e => by have := Option.some.inj e; have := hT i hi; omega⟩)
      have hK5 := HK.out.same (same_grown hg5) ⟨HK.out.lt, fun e => by have := Option.some.inj e; omega⟩
      have HK5 := Lib.hid hK5
      have HW5 := Lib.hid hW5
      clear hK5 hW5 hg5
      go_wp2_with fail
      refine (Wr.byte_any g2 noX _ p _ _ w5 (noX_any _) HW5.out hbu5 (by have := HML.out; have := HLL.out; have := HL.out; have := HSL.out; simp [be2_len, be4_len]; omega)).mono ?_
      rintro e w6 ⟨rfl, hW6, hg6⟩
      have hb6 := below_grown hb5 hg6 hgz
      have hK6 := HK5.out.same (same_grown hg6) ⟨HK5.out.lt, fun e => by have := Option.some.inj e; omega⟩
      have HW6 := Lib.hid hW6
      have HK6 := Lib.hid hK6
      clear hW6 hK6 hg6
      go_wp2
      go_roundw
      case rel =>
        refine ⟨j + 1, by omega, by go_num, ?_, hb6, HK6.out⟩
        rw [HMT.out]
        have := HW6.out
        simpa only [List.append_assoc] using this
      case measure => simp [intOf]; omega
    · obtain rfl : j = ls.length := by omega
      clear hlt
      have hlay : be2 s.size ++ s.data.toList ++ many (ls.take ls.length) = lay s.data.toList ls := by rw [List.take_length]; unfold lay; rw [HSL.out]
      have hW := HW.out
      rw [hlay] at hW
      have hla : (lay s.data.toList ls).length ≤ 140737488355328 := HL.out
      generalize hLL : lay s.data.toList ls = L at *
      have HLL2 := Lib.hid hLL
      clear hLL
      have HWL := Lib.hid hW
      have HLA := Lib.hid hla
      clear hlay hW hla
      go_wp2_with fail
      refine (Wr.done_any g2 noX L wr HWL.out HLA.out).mono ?_
      rintro e w5 ⟨rfl, hB5, hb5⟩
      have hbw5 := hbw.trans (hb5.mono hbw.size)
      have hK5 := HK.out.same (same_below hb5) HK.out.lt
      have hz5 := hbw.size
      generalize hg5 : wr.heap.size = g5 at *
      have HG5 := Lib.hid hg5
      clear hg5
      have hk5 := hk.same ((same_below hbw5).sub hS)
      have hlb : Byts w5 (fun k => k = g5) (.slice (some ⟨g5, 0, none⟩) L.length L.length) L := Sha.Blk.byts hB5 (by have := HLA.out; unfold maxLen; omega)
      have hg5lt := hB5.lt
      have HK5 := Lib.hid hK5
      clear hK5
      go_wp2_with (first | (with_reducible refine wpList_slice1 rfl 23 _ (.tmp 40) rfl Tryd.underlying23 hi0 hz0 hz1 _ rfl rfl ?_; intro g6 w6 n6) | fail)
      have hbw6 : Below w.heap.size w w6 := hbw5.trans (n6.below.mono hbw5.size)
      have hpp := parts1 n6 hlb (by rintro i rfl; omega)
      have hi6 := n6.is
      have hk6 := hk5.same ((same_below n6.below).sub fun i hi => by have := hS i hi; have := hbw5.size; omega)
      have hz6 := n6.size
      refine (hmac_any _ _ key [L] _ _ w6 hk6 hpp (fun i hi => by have := hS i hi; have := hbw6.size; omega) (by rintro i (rfl | rfl) <;> omega) (ht.below hbw6 htG)).mono ?_
      rintro e w7 ⟨rfl, hb7⟩
      rw [flat1]
      have hK7 := (HK5.out.same (same_below n6.below) HK5.out.lt).same (same_below hb7) (by have := HK5.out.lt; omega)
      have hbw7 := hbw6.trans (hb7.mono hbw6.size)
      have hlm : (hmac key L).length = 32 := sha_length _
      generalize hhm : hmac key L = hm at *
      have HHM := Lib.hid hhm
      clear hhm
      have HLM := Lib.hid hlm
      have HSS := Lib.hid (key_size hm hlm)
      have HRS := Lib.hid (row_size hm 32 hlm)
      have HK7 := Lib.hid hK7
      have HI6 := Lib.hid hi6
      have HZ6 := Lib.hid hz6
      clear hlm hK7 hpp hi6 hz6 hlb hk5 hk6
      go_wp2_with (first | (with_reducible refine wpList_store_all rfl 26 (.tmp 6) (.tmp 42) rfl _ _ rfl rfl _ _ HK7.out HSS.out HRS.out (all_cell8 hm) ?_; intro w8 p8) | fail)
      refine bodyPost_ret (results_cell_tmp rfl _ _ g1 _ _ _ rfl p8.blk Tryd.underlying26 rfl HSS.out) rfl ⟨by rw [HLL2.out, HHM.out]; rfl, ?_⟩
      exact below_grown hbw7 p8.grown (by have := n1.is; omega)
end Go.Proofs.YtnhomnaamlbnpaaDoor.Seal
