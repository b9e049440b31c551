/- The walk of HashParts. By an AI agent. -/
import Derived.Test.YtdlolbgaljdfdaaDoorCat
import Derived.Test.YtdlolbgaljdfdaaDoorTells
import Derived.Deep.RegionHeld3
import Derived.Stop.BytesEq
namespace Go.Proofs.YtdlolbgaljdfdaaDoor.Walks
open Go.RowKit Go.Proofs.YtdlolbgaljdfdaaDoor.M Go.Proofs.YtdlolbgaljdfdaaDoor.Sl Go.Proofs.YtdlolbgaljdfdaaDoor.Sha
set_option linter.unusedVariables false

/-- values that read as these bytes -/
def PR (w : World) (S : Nat → Prop) (xs : List Value) (ls : List (List UInt8)) : Prop := xs.length = ls.length ∧ ∀ (j : Nat) u l, xs[j]? = some u → ls[j]? = some l → Byts w S u l
theorem PR.nil_ (w : World) (S : Nat → Prop) : PR w S [] [] := ⟨rfl, fun j u l h => by simp at h⟩
theorem PR.append_ {w : World} {S : Nat → Prop} {xs ys : List Value} {ls ms : List (List UInt8)} (h : PR w S xs ls) (k : PR w S ys ms) : PR w S (xs ++ ys) (ls ++ ms) := by
  refine ⟨by rw [List.length_append, List.length_append, h.1, k.1], fun j u l hu hl => ?_⟩
  by_cases hj : j < xs.length
  · rw [List.getElem?_append_left hj] at hu
    rw [List.getElem?_append_left (by rw [← h.1]; exact hj)] at hl
    exact h.2 j u l hu hl
  · rw [List.getElem?_append_right (by omega)] at hu
    rw [List.getElem?_append_right (by rw [← h.1]; omega), ← h.1] at hl
    exact k.2 _ u l hu hl
theorem PR.one_ {w : World} {S : Nat → Prop} {u : Value} {l : List UInt8} (h : Byts w S u l) : PR w S [u] [l] := ⟨rfl, fun j u' l' hu hl => by
  rcases j with _ | j
  · simp at hu hl; subst hu; subst hl; exact h
  · simp at hu⟩
theorem PR.same {w w' : World} {S : Nat → Prop} {xs : List Value} {ls : List (List UInt8)} (h : PR w S xs ls) (hs : Same S w w') : PR w' S xs ls := ⟨h.1, fun j u l hu hl => (h.2 j u l hu hl).same hs⟩
/-- an own row of such values -/
theorem parts_own {w : World} {base e n : Nat} {v : Value} {S : Nat → Prop} {xs : List Value} {ls : List (List UInt8)} (h : w.ownsRow base e 1 v n xs) (hp : PR w S xs ls) :
    Parts w (fun k => S k ∨ (base ≤ k ∧ k < w.heap.size)) v ls := by
  have hl := h.1
  have hn : n = ls.length := by have := hp.1; omega
  subst hn
  rcases h.2 with ⟨hv, h0⟩ | ⟨g, cap, cur, rfl, hb, hg, hnc, hcm, hsz, htake⟩
  · subst hv
    have hls : ls = [] := List.eq_nil_of_length_eq_zero h0
    subst hls
    exact ⟨none, 0, rfl, Nat.le_refl _, by simp, fun i l hl => by simp at hl⟩
  · refine ⟨_, cap, rfl, hnc, by omega, fun i l hli => ?_⟩
    have hil := (List.getElem?_eq_some_iff.1 hli).1
    have hxi : xs[i]? = some (xs[i]'(by omega)) := List.getElem?_eq_getElem (by omega)
    refine ⟨g, 0, _, rfl, .inr ⟨hb, (Array.getElem?_eq_some_iff.1 hg).1⟩, ?_, (hp.2 i _ l hxi hli).sub fun k hk => .inl hk⟩
    have := h.cells (g := g) rfl i _ hxi
    rwa [Addr.add_lit] at this
def shortOf (l : List UInt8) : List UInt8 := l.take (min l.length 80)
/-- the law's parts: each, cut, and an empty one -/
def lsOf (ls : List (List UInt8)) (i : Nat) : List (List UInt8) := (ls.take (min i 8)).flatMap fun p => [shortOf p, []]
theorem lsOf_succ (ls : List (List UInt8)) (i : Nat) (p : List UInt8) (h : ls[i]? = some p) (hi : i < 8) : lsOf ls (i + 1) = lsOf ls i ++ [shortOf p, []] := by
  unfold lsOf
  rw [Nat.min_eq_left (by omega), Nat.min_eq_left (by omega), List.take_add_one, h, List.flatMap_append]
  rfl
theorem lsOf_stays (ls : List (List UInt8)) (i : Nat) (hi : 8 ≤ i) : lsOf ls (i + 1) = lsOf ls i := by
  unfold lsOf
  rw [Nat.min_eq_right (by omega), Nat.min_eq_right (by omega)]
theorem lsOf_length (ls : List (List UInt8)) : ∀ i, (lsOf ls i).length ≤ 16 := fun i => by
  unfold lsOf
  have : ((ls.take (min i 8)).flatMap fun p => [shortOf p, []]).length = 2 * (ls.take (min i 8)).length := by
    induction ls.take (min i 8) with
    | nil => rfl
    | cons p l ih => simp at ih ⊢; omega
  rw [this, List.length_take]; omega
theorem lsOf_big (ls : List (List UInt8)) (i : Nat) : (lsOf ls i).flatten.length ≤ 640 := by
  have key : ∀ (m : List (List UInt8)), ((m.flatMap fun p => [shortOf p, ([] : List UInt8)])).flatten.length ≤ 80 * m.length := by
    intro m
    induction m with
    | nil => simp
    | cons p l ih =>
      simp only [List.flatMap_cons, List.flatten_append, List.length_append, List.length_cons]
      have : ([shortOf p, ([] : List UInt8)] : List (List UInt8)).flatten.length ≤ 80 := by simp [shortOf]; omega
      omega
  have := key (ls.take (min i 8))
  have hl : (ls.take (min i 8)).length ≤ 8 := by rw [List.length_take]; omega
  unfold lsOf
  omega
theorem sl_two (w : World) (u v : Value) (e : TypeId) : Sl (w.alloc (.cells #[u, v] e)) (fun g => g = w.heap.size) 1 (.slice (some ⟨w.heap.size, 0, none⟩) 2 2) 2 [u, v] := by
  refine ⟨_, 2, rfl, rfl, Nat.le_refl _, by unfold maxLen; omega, (fun h => by cases h), ?_⟩
  intro ad h1 _
  cases h1
  refine ⟨rfl, fun j x hj => ?_⟩
  rw [Addr.add_lit, cell_of_row _ w.heap.size _ #[u, v] e (0, 0) (heap_alloc_new w _), ← Array.getElem?_toList]
  simpa using hj
theorem infoSlice : (Tryd.prog.info? 22).map (fun i => (i.zero, i.size, i.bytes)) = some (some (.slice none 0 0), 1, 24) := by kernel_rfl

/-- what the law's hashes are made of, wherever the call stands -/
def Env (w : World) (u5 : Value) (LS : List (List UInt8)) (u9 : Value) (ES : List (List UInt8)) (u8 : Value) (W : List UInt8) (uk : Value) (key : List UInt8) : Prop :=
  Parts w (fun k => k < w.heap.size) u5 LS ∧ Parts w (fun k => k < w.heap.size) u9 ES ∧ Byts w (fun k => k < w.heap.size) u8 W ∧ Byts w (fun k => k < w.heap.size) uk key ∧ Tab w
theorem Env.below {w w' : World} {u5 : Value} {LS : List (List UInt8)} {u9 : Value} {ES : List (List UInt8)} {u8 : Value} {W : List UInt8} {uk : Value} {key : List UInt8} (h : Env w u5 LS u9 ES u8 W uk key) (hb : Below w.heap.size w w') : Env w' u5 LS u9 ES u8 W uk key := by
  have hz := hb.size
  obtain ⟨h1, h2, h3, h4, h5⟩ := h
  exact ⟨(h1.same (same_below hb)).sub fun i hi => by omega, (h2.same (same_below hb)).sub fun i hi => by omega, (h3.same (same_below hb)).sub fun i hi => by omega, (h4.same (same_below hb)).sub fun i hi => by omega, h5.below hb h5.1⟩

theorem range_of {w : World} {g : Nat} {t : TypeId} {cs : List Value} (h : Blk w g t cs.toArray) : w.drew.rangeAt g 0 cs := fun j v hj => by
  have := h.cell j
  rw [Nat.zero_add]
  show w.cell? ⟨g, j, none⟩ = some v
  rw [this]; simpa using hj
theorem range_below {w w' : World} {B g : Nat} {cs ds : List Value} (hr : w.rangeAt g 0 cs ∧ w.rangeAt (g + 1) 0 ds) (hb : Below B w w') (hg : g + 1 < B) : w'.rangeAt g 0 cs ∧ w'.rangeAt (g + 1) 0 ds :=
  ⟨fun j v hj => ((same_below hb).cell (p := ⟨g, 0 + j, none⟩) (show g < B by omega)).trans (hr.1 j v hj), fun j v hj => ((same_below hb).cell (p := ⟨g + 1, 0 + j, none⟩) (show g + 1 < B by omega)).trans (hr.2 j v hj)⟩
/-- the two digests' arrays besides -/
def Held (w : World) (u5 : Value) (LS : List (List UInt8)) (u9 : Value) (ES : List (List UInt8)) (u8 : Value) (W : List UInt8) (uk : Value) (key : List UInt8) (g : Nat) (ha hb : List UInt8) : Prop :=
  Env w u5 LS u9 ES u8 W uk key ∧ (w.rangeAt g 0 (ha.map cell8) ∧ w.rangeAt (g + 1) 0 (hb.map cell8)) ∧ g + 1 < w.heap.size
theorem Held.below {w w' : World} {u5 : Value} {LS : List (List UInt8)} {u9 : Value} {ES : List (List UInt8)} {u8 : Value} {W : List UInt8} {uk : Value} {key : List UInt8} {g : Nat} {ha hc : List UInt8} (h : Held w u5 LS u9 ES u8 W uk key g ha hc) (hb : Below w.heap.size w w') : Held w' u5 LS u9 ES u8 W uk key g ha hc :=
  by
  obtain ⟨h1, h2, h3⟩ := h
  exact ⟨h1.below hb, range_below h2 hb h3, by have := hb.size; omega⟩
theorem eql_sum (xs ys : List UInt8) (hx : xs.length = 32) (hy : ys.length = 32) (u : World) : (binOp .eql 24 (.agg (xs.map cell8).toArray) (.agg (ys.map cell8).toArray)).run Tryd.prog u = .ok (.bool (xs == ys)) u := by
  obtain ⟨i0, hi0, hs0⟩ := info1
  exact run_eql_bytes u 24 5 32 Tryd.underlying24 Tryd.underlying5 (fun w => by simp [sizeOf, typeInfo, hi0, hs0]) xs ys hx hy
theorem guardTy : Tryd.prog.eqGuardType Tryd.prog.depth 24 = false := by kernel_rfl
theorem guard_sum (x y : Operand) (A B : Array Value) (u : World) : (eqGuard .eql 24 x y (.agg A) (.agg B)).run Tryd.prog u = .ok () u := by
  simp [eqGuard, guardTy, Sem.run_bind]

set_option maxRecDepth 100000 in
set_option maxHeartbeats 4000000 in
theorem hashParts (w : World) (v0 v1 : Value) (ls : List (List UInt8)) (key0 : List UInt8) (h0 : Parts w (fun k => k < w.heap.size) v0 ls) (h1 : Byts w (fun k => k < w.heap.size) v1 key0) (ht : Tab w) :
    Calls Tryd.prog 4 #[v0, v1] w fun e w' => e = .returned (.bool true) ∧ Below w.heap.size w w' := by
  obtain ⟨A1, c1, rfl, hnc1, hm1, _⟩ := h1.row
  obtain ⟨A, c, rfl, hc, hmx, hat⟩ := h0
  obtain ⟨i0, hi0, hz0, hz1, hz2⟩ := info_parts infoSlice
  unfold maxLen at hmx hm1
  have HAT := Lib.hid hat
  clear hat
  have hmin : (if (100 : Int) < (key0.length : Int) then (100 : Int) else (key0.length : Int)) = ((min key0.length 100 : Nat) : Int) := by split <;> omega
  have hx1 : (0 : Int) ≤ ((min key0.length 100 : Nat) : Int) := by omega
  have hx2 : ((min key0.length 100 : Nat) : Int) ≤ (c1 : Int) := by omega
  have hK := h1.take_ (k := min key0.length 100) (by omega)
  generalize key0.take (min key0.length 100) = key at hK
  generalize min key0.length 100 = kn at *
  clear h1
  go_enter Tryd.func4, Tryd.ntmps4
  go_wp2_with fail
  clear hmin
  go_loopw [5, 20] (fun v5 i wr => ∃ (j : Nat) (xs : List Value), j ≤ ls.length ∧ i = .int .i64 j ∧ wr.ownsRow w.heap.size 22 1 v5 (lsOf ls j).length xs ∧ PR w (fun k => k < w.heap.size) xs (lsOf ls j) ∧ Below w.heap.size w wr) (fun _ i _ => ls.length - (intOf i).toNat)
  case atStart => exact ⟨0, [], by omega, rfl, World.ownsRow_nil _ _ _ _, PR.nil_ _ _, Below.refl _ _⟩
  case round =>
    obtain ⟨j, xs, hj, rfl, hown, hpr, hb⟩ := hrel
    have hz := hb.size
    have HO := Lib.hid hown
    have HB := Lib.hid hb
    clear hown hb
    by_cases hlt : j < ls.length
    · obtain ⟨g, off, u, rfl, hSg, hcu, hbu⟩ := HAT.out j _ (List.getElem?_eq_getElem hlt)
      have hp := List.getElem?_eq_getElem hlt
      generalize ls[j] = p at hp hbu
      have hcw : wr.cell? ⟨g, off + j, none⟩ = some u := ((same_below HB.out).cell (p := ⟨g, off + j, none⟩) hSg).trans hcu
      obtain ⟨A2, c2, rfl, hnc2, hm2, _⟩ := hbu.row
      unfold maxLen at hm2
      by_cases h8 : j < 8
      · have hmin : (if (80 : Int) < (p.length : Int) then (80 : Int) else (p.length : Int)) = ((min p.length 80 : Nat) : Int) := by split <;> omega
        have hy1 : (0 : Int) ≤ ((min p.length 80 : Nat) : Int) := by omega
        have hy2 : ((min p.length 80 : Nat) : Int) ≤ (c2 : Int) := by omega
        have hP := hbu.take_ (k := min p.length 80) (by omega)
        have hsu := lsOf_succ ls j p hp h8
        have hll := lsOf_length ls j
        have hshort : p.take (min p.length 80) = shortOf p := rfl
        rw [hshort] at hP
        have hpr2 := hpr.append_ ((PR.one_ hP).append_ (PR.one_ (Byts.nil_ w (fun k => k < w.heap.size) 0)))
        rw [List.singleton_append, List.singleton_append, ← hsu] at hpr2
        generalize min p.length 80 = m at *
        have hsl := sl_two wr (.slice A2 m c2) (.slice none 0 0) 22
        have hn1 : (lsOf ls j).length + 2 ≤ maxLen := by unfold maxLen; omega
        have hn2 : ((lsOf ls j).length + 2) * 24 ≤ 140737488355328 := by omega
        have hln : (lsOf ls (j + 1)).length = (lsOf ls j).length + 2 := by rw [hsu]; simp
        have HSL := Lib.hid hsl
        have HN1 := Lib.hid hn1
        have HN2 := Lib.hid hn2
        have HPR2 := Lib.hid hpr2
        have HLN := Lib.hid hln
        clear hsl hn1 hn2 hpr2 hsu hP hp hcu hbu hpr hln hll
        go_wp2_with (at_builtin; refine wpList_append_sl _ rfl (.tmp 27) (.tmp 33) _ rfl w.heap.size _ i0 _ 1 24 Tryd.underlying31 hi0 hz0 hz1 hz2 rfl (by omega) _ _ _ rfl (HO.out.alloc _) _ _ _ _ rfl HSL.out (by intro u hu; simp at hu; rcases hu with rfl | rfl <;> rfl) HN1.out HN2.out (by simp; omega) ?_; intro v9 w9 hown9 hg9 hnil9)
        have HO9 := HO.out
        go_roundw
        case rel =>
          refine ⟨j + 1, _, by omega, by go_num, ?_, HPR2.out, (HB.out.alloc hz _).grown hg9 (by simp; omega) (fun i hi => (HO9.lt i hi).1)⟩
          rw [HLN.out]
          exact hown9
        case measure => simp [intOf]; omega
      · have hst := lsOf_stays ls j (by omega)
        have HST := Lib.hid hst
        clear hst hp hcu hbu
        go_wp2
        go_roundw
        case rel => exact ⟨j + 1, xs, by omega, by go_num, by rw [HST.out]; exact HO.out, by rw [HST.out]; exact hpr, HB.out⟩
        case measure => simp [intOf]; omega
    · obtain rfl : j = ls.length := by omega
      have hbig := lsOf_big ls ls.length
      have hb1 := HB.out
      have hP1 := (parts_own HO.out (hpr.same (same_below hb1))).sub (T := fun k => k < wr.heap.size) (fun i hi => by omega)
      have hK1 := (hK.same (same_below hb1)).sub (T := fun k => k < wr.heap.size) (fun i hi => by omega)
      generalize lsOf ls ls.length = LS at *
      clear hpr HO
      go_wp2_with fail
      refine (concat_any _ LS _ wr hP1 (fun i hi => hi) (by omega)).mono ?_
      rintro e w2 ⟨v8, rfl, hown8, hb2⟩
      have hB8 := byts_of_own hown8 rfl
      have hbw2 : Below w.heap.size w w2 := hb1.trans (hb2.mono hz)
      have hzw := hb2.size
      have hP2 := (hP1.same (same_below hb2)).sub (T := fun k => k < w2.heap.size) (fun i hi => by omega)
      have hK2 := (hK1.same (same_below hb2)).sub (T := fun k => k < w2.heap.size) (fun i hi => by omega)
      have hB82 := hB8.sub (T := fun k => k < w2.heap.size) (fun i hi => hi.2)
      clear hP1 hK1 hB8 hb1 hb2 hK HB
      generalize hW : LS.flatten = W at *
      have HW := Lib.hid hW
      clear hW
      obtain ⟨A8, c8, hv8, hnc8, hm8, hrow8⟩ := hB82.row
      have H8 := Lib.hid hrow8
      clear hrow8
      subst hv8
      have HP2 := Lib.hid hP2
      have HK2 := Lib.hid hK2
      have HB82 := Lib.hid hB82
      have HBW2 := Lib.hid hbw2
      clear hP2 hK2 hB82 hbw2 hown8
      go_wp2_with fail
      go_loopw [9, 40] (fun v9 i wr => ∃ (k : Nat) (ys : List Value), k ≤ W.length ∧ i = .int .i64 k ∧ wr.ownsRow w2.heap.size 22 1 v9 k ys ∧ PR w2 (fun j => j < w2.heap.size) ys ((W.take k).map fun b => [b]) ∧ Below w2.heap.size w2 wr) (fun _ i _ => W.length - (intOf i).toNat)
      case atStart => exact ⟨0, [], by omega, rfl, World.ownsRow_nil _ _ _ _, PR.nil_ _ _, Below.refl _ _⟩
      case round =>
        obtain ⟨k, ys, hk, rfl, hown, hpr, hb⟩ := hrel
        have hz3 := hb.size
        have HO := Lib.hid hown
        have HB := Lib.hid hb
        clear hown hb
        by_cases hlt : k < W.length
        · obtain ⟨g8, off8, rfl, hg8, hcell8⟩ := H8.out k _ (List.getElem?_eq_getElem hlt)
          have hone : Byts w2 (fun j => j < w2.heap.size) (.slice (some ⟨g8, off8 + k, none⟩) 1 (c8 - k)) [W[k]] := by
            refine ⟨_, 1, _, rfl, rfl, by omega, by simp [maxLen], (fun h0 => by cases h0), fun ad h1 _ => ?_⟩
            cases h1
            refine ⟨hg8, fun j b hj => ?_⟩
            rcases j with _ | j
            · simp at hj; subst hj
              rw [Addr.add_lit, Nat.add_zero]
              exact hcell8
            · simp at hj
          have hpr2 := hpr.append_ (PR.one_ hone)
          have htk : ((W.take k).map fun b => [b]) ++ [[W[k]]] = (W.take (k + 1)).map fun b => [b] := by
            rw [List.take_add_one, List.getElem?_eq_getElem hlt, List.map_append]; rfl
          rw [htk] at hpr2
          have hne : ¬ c8 = k := by omega
          have hsl := sl_one wr (.slice (some ⟨g8, off8 + k, none⟩) 1 (c8 - k)) 22
          have hn1 : k + 1 ≤ maxLen := by unfold maxLen; omega
          have hn2 : (k + 1) * 24 ≤ 140737488355328 := by omega
          have HSL := Lib.hid hsl
          have HN1 := Lib.hid hn1
          have HN2 := Lib.hid hn2
          have HPR2 := Lib.hid hpr2
          unfold maxLen at hm8
          clear hsl hn1 hn2 hpr2 hone hpr htk hcell8
          go_wp2_with (at_builtin; refine wpList_append_sl _ rfl (.tmp 43) (.tmp 49) _ rfl w2.heap.size _ i0 _ 1 24 Tryd.underlying31 hi0 hz0 hz1 hz2 rfl (by omega) _ _ _ rfl (HO.out.alloc _) _ _ _ _ rfl HSL.out (by intro u hu; simp at hu; rcases hu with rfl; rfl) HN1.out HN2.out (by simp; omega) ?_; intro v9 w9 hown9 hg9 hnil9)
          have HO9 := HO.out
          go_roundw
          case rel =>
            refine ⟨k + 1, _, by omega, by go_num, ?_, HPR2.out, (HB.out.alloc hz3 _).grown hg9 (by simp; omega) (fun i hi => (HO9.lt i hi).1)⟩
            exact hown9
          case measure => simp [intOf]; omega
        · obtain rfl : k = W.length := by omega
          rw [List.take_length] at hpr
          have hb3 := HB.out
          have hE : Env wr u5 LS u9 (W.map fun b => [b]) (.slice A8 W.length c8) W (.slice A1 kn c1) key :=
            ⟨(HP2.out.same (same_below hb3)).sub fun i hi => by omega, (parts_own HO.out (hpr.same (same_below hb3))).sub fun i hi => by omega,
             (HB82.out.same (same_below hb3)).sub fun i hi => by omega, (HK2.out.same (same_below hb3)).sub fun i hi => by omega, (ht.below HBW2.out ht.1).below hb3 (by have := ht.1; omega)⟩
          have hbw3 : Below w.heap.size w wr := HBW2.out.trans (hb3.mono (by omega))
          have hes : (W.map fun b => [b]).flatten = W := by
            rw [← List.flatMap_def]; simp
          generalize (W.map fun b => [b]) = ES at *
          have HES := Lib.hid hes
          have HE := Lib.hid hE
          have HBW3 := Lib.hid hbw3
          clear hes hE hbw3 hb3 hpr HO HB HP2 HK2 HB82 HBW2 H8
          generalize wr = w3 at *
          go_wp2_with fail
          have hp := parts_one w3 _ 22 _ W HE.out.2.2.1 (fun i hi => hi)
          have hb4 : Below w3.heap.size w3 (w3.alloc (.cells #[.slice A8 W.length c8] 22)) := (Below.refl _ _).alloc (Nat.le_refl _) _
          have hE4 := HE.out.below hb4
          have hbw4 := HBW3.out.trans (hb4.mono HBW3.out.size)
          have hz4 : (w3.alloc (.cells #[.slice A8 W.length c8] 22)).heap.size = w3.heap.size + 1 := World.size_alloc ..
          generalize w3.alloc (.cells #[.slice A8 W.length c8] 22) = w4 at *
          refine (sha_any _ [W] _ w4 hp (fun i hi => by omega) hE4.2.2.2.2).mono ?_
          rintro e w5 ⟨rfl, hb5⟩
          rw [show [W].flatten = W from by simp]
          have hE5 := hE4.below hb5
          have hbw5 := hbw4.trans (hb5.mono hbw4.size)
          obtain ⟨ha, hha⟩ : ∃ ha, ha = sha256 W := ⟨_, rfl⟩
          have hla : ha.length = 32 := by rw [hha]; exact sha_length _
          rw [← hha]
          have HE5 := Lib.hid hE5
          have HBW5 := Lib.hid hbw5
          have HHA := Lib.hid hha
          have HLA := Lib.hid hla
          clear hp hb4 hE4 hbw4 hz4 hE5 hbw5 hha hla hb5 HE HBW3
          go_wp2_with fail
          have hp := parts_one w5 _ 22 _ W HE5.out.2.2.1 (fun i hi => hi)
          have hb6 : Below w5.heap.size w5 (w5.alloc (.cells #[.slice A8 W.length c8] 22)) := (Below.refl _ _).alloc (Nat.le_refl _) _
          have hE6 := HE5.out.below hb6
          have hbw6 := HBW5.out.trans (hb6.mono HBW5.out.size)
          have hz6 : (w5.alloc (.cells #[.slice A8 W.length c8] 22)).heap.size = w5.heap.size + 1 := World.size_alloc ..
          generalize w5.alloc (.cells #[.slice A8 W.length c8] 22) = w6 at *
          refine (hmac_any _ _ key [W] _ _ w6 hE6.2.2.2.1 hp (fun i hi => hi) (fun i hi => by omega) hE6.2.2.2.2).mono ?_
          rintro e w7 ⟨rfl, hb7⟩
          rw [show [W].flatten = W from by simp]
          have hE7 := hE6.below hb7
          have hbw7 := hbw6.trans (hb7.mono hbw6.size)
          obtain ⟨hb, hhb⟩ : ∃ hb, hb = hmac key W := ⟨_, rfl⟩
          have hlb : hb.length = 32 := by rw [hhb]; exact sha_length _
          rw [← hhb]
          obtain ⟨Z, hZ⟩ : ∃ Z, Z = Obj.cells ((row8 32).map cell8).toArray 24 := ⟨_, rfl⟩
          have hla := HLA.out
          have hA0 : Blk ((w7.alloc Z).alloc Z) w7.heap.size 24 ((row8 32).map cell8).toArray := by rw [hZ]; exact (Blk.new w7 _ _).alloc _
          have hB0 : Blk ((w7.alloc Z).alloc Z) (w7.heap.size + 1) 24 ((row8 32).map cell8).toArray := by
            have := Blk.new (w7.alloc Z) 24 ((row8 32).map cell8).toArray
            rw [World.size_alloc] at this
            rw [← hZ] at this
            exact this
          have hb8 : Below w7.heap.size w7 ((w7.alloc Z).alloc Z) := ((Below.refl _ _).alloc (Nat.le_refl _) _).alloc (by simp) _
          have hA1 : Blk (((w7.alloc Z).alloc Z).setRow w7.heap.size (ha.map cell8).toArray) w7.heap.size 24 (ha.map cell8).toArray := setRow_heap _ _ _ _ _ _ hA0
          have hB1 : Blk (((w7.alloc Z).alloc Z).setRow w7.heap.size (ha.map cell8).toArray) (w7.heap.size + 1) 24 ((row8 32).map cell8).toArray := (setRow_other _ _ _ _ (by omega)).trans hB0
          have hb9 := below_setRow (below_setRow hb8 (Nat.le_refl w7.heap.size) (ha.map cell8).toArray) (show w7.heap.size ≤ w7.heap.size + 1 by omega) (hb.map cell8).toArray
          have hA2 : Blk ((((w7.alloc Z).alloc Z).setRow w7.heap.size (ha.map cell8).toArray).setRow (w7.heap.size + 1) (hb.map cell8).toArray) w7.heap.size 24 (ha.map cell8).toArray := (setRow_other _ _ _ _ (by omega)).trans hA1
          have hB2 : Blk ((((w7.alloc Z).alloc Z).setRow w7.heap.size (ha.map cell8).toArray).setRow (w7.heap.size + 1) (hb.map cell8).toArray) (w7.heap.size + 1) 24 (hb.map cell8).toArray := setRow_heap _ _ _ _ _ _ hB1
          obtain ⟨w9, hw9⟩ : ∃ w9, w9 = (((w7.alloc Z).alloc Z).setRow w7.heap.size (ha.map cell8).toArray).setRow (w7.heap.size + 1) (hb.map cell8).toArray := ⟨_, rfl⟩
          rw [← hw9] at hb9 hA2 hB2
          have hA0' : ((w7.alloc Z).alloc Z).heap[w7.heap.size]? = some (.cells ((row8 32).map cell8).toArray 24 (0, 0)) := hA0
          have hB1' : (((w7.alloc Z).alloc Z).setRow w7.heap.size (ha.map cell8).toArray).heap[w7.heap.size + 1]? = some (.cells ((row8 32).map cell8).toArray 24 (0, 0)) := hB1
          rw [hZ] at hA0' hB1' hw9
          have hE9 := hE7.below hb9
          have hbw9 := hbw7.trans (hb9.mono hbw7.size)
          have hsa := sum_size ha hla
          have hra := row_size ha 32 hla
          have hsb := sum_size hb hlb
          have hrb := row_size hb 32 hlb
          have HA0 := Lib.hid hA0'
          have HB1 := Lib.hid hB1'
          have HSA := Lib.hid hsa
          have HRA := Lib.hid hra
          have HSB := Lib.hid hsb
          have HRB := Lib.hid hrb
          have HW9 := Lib.hid hw9
          have HE9 := Lib.hid hE9
          have HBW9 := Lib.hid hbw9
          have HA2 := Lib.hid hA2
          have HB2 := Lib.hid hB2
          have HHB := Lib.hid hhb
          have HLB := Lib.hid hlb
          clear hA0' hB1' hsa hra hsb hrb hw9 hE9 hbw9 hA2 hB2 hhb hlb hb9 hA1 hB1 hA0 hB0 hb8 hZ hE7 hbw7 hb7 hE6 hp hb6 hbw6 hz6 hla HE5 HBW5
          go_wp2_with (first | ((with_reducible refine wpList_alloc_as rfl 24 rfl _ alloc24 ?_); go_simp) | (with_reducible refine wpList_store_row rfl 24 (.tmp 11) (.tmp 54) rfl w7.heap.size _ rfl rfl _ _ HA0.out HSA.out HRA.out (all_cell8 ha) ?_) | (with_reducible refine wpList_store_row rfl 24 (.tmp 12) (.tmp 58) rfl (w7.heap.size + 1) _ rfl rfl _ _ HB1.out HSB.out HRB.out (all_cell8 hb) ?_) | fail)
          rw [← HW9.out]
          go_simp
          have hE9 : Env w9.drew u5 LS u9 ES (.slice A8 W.length c8) W (.slice A1 kn c1) key := HE9.out
          have hs9 : w9.drew.rangeAt w7.heap.size 0 (ha.map cell8) ∧ w9.drew.rangeAt (w7.heap.size + 1) 0 (hb.map cell8) := ⟨range_of HA2.out, range_of HB2.out⟩
          have hlt9 : w7.heap.size + 1 < w9.heap.size := HB2.out.lt
          have hU := Tryd.underlying24
          have hIa : (Tryd.prog.info? 24).map (·.size) = some (ha.map cell8).length := by rw [List.length_map, HLA.out]; kernel_rfl
          have hIb : (Tryd.prog.info? 24).map (·.size) = some (hb.map cell8).length := by rw [List.length_map, HLB.out]; kernel_rfl
          have hEq1 := eql_sum ha ha HLA.out HLA.out
          have hEq2 := eql_sum hb hb HLB.out HLB.out
          have hGd := guard_sum
          simp only [beq_self_eq_true] at hEq1 hEq2
          clear HA0 HB1 HSA HRA HSB HRB HW9 HA2 HB2
          have h9 : Held w9.drew u5 LS u9 ES (.slice A8 W.length c8) W (.slice A1 kn c1) key w7.heap.size ha hb := ⟨hE9, hs9, hlt9⟩
          clear hE9 hs9 hlt9 HE9
          refine wp_region_noPanic ?_
          refine wp_region_held_drew (S := (fun w' => w'.rangeAt w7.heap.size 0 (ha.map cell8) ∧ w'.rangeAt (w7.heap.size + 1) 0 (hb.map cell8))) (by kernel_rfl) h9.2.1 (fun hHeld => ?_)
          refine wpAnyH_take (i := 0) (oi := { op := .move (.tmp 5), dst := some 59, guard := none, type := _, pos := _, after := _ }) (v := ?_) rfl (by kernel_rfl) (by kernel_rfl) (by kernel_rfl) (fun _ _ _ h => h) (Or.inl ⟨by rfl, ?_⟩) (by assumption) ?_
          rotate_left 1
          · (intro w hSw; (try dsimp only at hSw); first | (go_simp; done) | (go_simp; with_reducible rfl))
          simp only [Act.put, List.setIfInBounds_toArray, List.set_cons_zero, List.set_cons_succ]
          refine' wpAnyH_take (i := 2) (oi := { op := .load 24 (.tmp 11), dst := some 61, guard := none, type := _, pos := _, after := _ }) (v := _) rfl (by kernel_rfl) (by kernel_rfl) (by kernel_rfl) (fun _ _ _ h => h) (yieldsIf_load_mid (by rfl) _ _ rfl _ _ rfl _ _ (fun w hSw => hSw.1) hU rfl hIa) (by assumption) ?_
          simp only [Act.put, List.setIfInBounds_toArray, List.set_cons_zero, List.set_cons_succ]
          refine wpAnyH_ready (rs := [1]) (by kernel_rfl) (by simp) ?_
          refine AllReadyH.cons (o := { op := .call { callee := .value (.func 7), args := #[.tmp 59], argTypes := #[31] }, dst := some 60, guard := none, type := _, pos := _, after := _ }) rfl (fun K hK => ?_) AllReadyH.nil
          go_simp
          go_at_call 7
          refine (sha_any u5 LS _ w9.drew h9.1.1 (fun i hi => hi) h9.1.2.2.2.2).mono ?_
          rintro e w10 ⟨rfl, hb10⟩
          rw [HW.out, ← HHA.out]
          have h10 := h9.below hb10
          refine hK.out _ _ h10.2.1 (fun hHeld => ?_)
          clear hK K
          try simp only [Act.put, List.setIfInBounds_toArray, List.set_cons_zero, List.set_cons_succ]
          refine wpAnyH_take (i := 3) (oi := { op := .binOp .eql 24 (.tmp 60) (.tmp 61) 24, dst := some 62, guard := none, type := _, pos := _, after := _ }) (v := ?_) rfl (by kernel_rfl) (by kernel_rfl) (by kernel_rfl) (fun _ _ _ h => h) (Or.inl ⟨by rfl, ?_⟩) (by assumption) ?_
          rotate_left 1
          · (intro w hSw; (try dsimp only at hSw); first | (go_simp; done) | (go_simp; with_reducible rfl))
          simp only [Act.put, List.setIfInBounds_toArray, List.set_cons_zero, List.set_cons_succ]
          refine wpAnyH_take (i := 4) (oi := { op := .move (.tmp 62), dst := some 63, guard := none, type := _, pos := _, after := _ }) (v := ?_) rfl (by kernel_rfl) (by kernel_rfl) (by kernel_rfl) (fun _ _ _ h => h) (Or.inl ⟨by rfl, ?_⟩) (by assumption) ?_
          rotate_left 1
          · (intro w hSw; (try dsimp only at hSw); first | (go_simp; done) | (go_simp; with_reducible rfl))
          simp only [Act.put, List.setIfInBounds_toArray, List.set_cons_zero, List.set_cons_succ]
          refine wpAnyH_take (i := 5) (oi := { op := .move (.tmp 9), dst := some 64, guard := some (4, true), type := _, pos := _, after := _ }) (v := ?_) rfl (by kernel_rfl) (by kernel_rfl) (by kernel_rfl) (fun _ _ _ h => h) (Or.inl ⟨by rfl, ?_⟩) (by assumption) ?_
          rotate_left 1
          · (intro w hSw; (try dsimp only at hSw); first | (go_simp; done) | (go_simp; with_reducible rfl))
          simp only [Act.put, List.setIfInBounds_toArray, List.set_cons_zero, List.set_cons_succ]
          refine' wpAnyH_take (i := 7) (oi := { op := .load 24 (.tmp 11), dst := some 66, guard := some (4, true), type := _, pos := _, after := _ }) (v := _) rfl (by kernel_rfl) (by kernel_rfl) (by kernel_rfl) (fun _ _ _ h => h) (yieldsIf_load_mid (by rfl) _ _ rfl _ _ rfl _ _ (fun w hSw => hSw.1) hU rfl hIa) (by assumption) ?_
          simp only [Act.put, List.setIfInBounds_toArray, List.set_cons_zero, List.set_cons_succ]
          refine wpAnyH_ready (rs := [6]) (by kernel_rfl) (by simp) ?_
          refine AllReadyH.cons (o := { op := .call { callee := .value (.func 7), args := #[.tmp 64], argTypes := #[31] }, dst := some 65, guard := some (4, true), type := _, pos := _, after := _ }) rfl (fun K hK => ?_) AllReadyH.nil
          go_simp
          go_at_call 7
          refine (sha_any u9 ES _ w10 h10.1.2.1 (fun i hi => hi) h10.1.2.2.2.2).mono ?_
          rintro e w11 ⟨rfl, hb11⟩
          rw [HES.out, ← HHA.out]
          have h11 := h10.below hb11
          refine hK.out _ _ h11.2.1 (fun hHeld => ?_)
          clear hK K
          try simp only [Act.put, List.setIfInBounds_toArray, List.set_cons_zero, List.set_cons_succ]
          refine wpAnyH_take (i := 8) (oi := { op := .binOp .eql 24 (.tmp 65) (.tmp 66) 24, dst := some 67, guard := some (4, true), type := _, pos := _, after := _ }) (v := ?_) rfl (by kernel_rfl) (by kernel_rfl) (by kernel_rfl) (fun _ _ _ h => h) (Or.inl ⟨by rfl, ?_⟩) (by assumption) ?_
          rotate_left 1
          · (intro w hSw; (try dsimp only at hSw); first | (go_simp; done) | (go_simp; with_reducible rfl))
          simp only [Act.put, List.setIfInBounds_toArray, List.set_cons_zero, List.set_cons_succ]
          refine wpAnyH_take (i := 9) (oi := { op := .pick (.tmp 63) (.tmp 67) (.const (.bool false)), dst := some 68, guard := none, type := _, pos := _, after := _ }) (v := ?_) rfl (by kernel_rfl) (by kernel_rfl) (by kernel_rfl) (fun _ _ _ h => h) (Or.inl ⟨by rfl, ?_⟩) (by assumption) ?_
          rotate_left 1
          · (intro w hSw; (try dsimp only at hSw); first | (go_simp; done) | (go_simp; with_reducible rfl))
          simp only [Act.put, List.setIfInBounds_toArray, List.set_cons_zero, List.set_cons_succ]
          refine wpAnyH_take (i := 10) (oi := { op := .move (.tmp 68), dst := some 69, guard := none, type := _, pos := _, after := _ }) (v := ?_) rfl (by kernel_rfl) (by kernel_rfl) (by kernel_rfl) (fun _ _ _ h => h) (Or.inl ⟨by rfl, ?_⟩) (by assumption) ?_
          rotate_left 1
          · (intro w hSw; (try dsimp only at hSw); first | (go_simp; done) | (go_simp; with_reducible rfl))
          simp only [Act.put, List.setIfInBounds_toArray, List.set_cons_zero, List.set_cons_succ]
          refine wpAnyH_take (i := 11) (oi := { op := .move (.tmp 1), dst := some 70, guard := some (10, true), type := _, pos := _, after := _ }) (v := ?_) rfl (by kernel_rfl) (by kernel_rfl) (by kernel_rfl) (fun _ _ _ h => h) (Or.inl ⟨by rfl, ?_⟩) (by assumption) ?_
          rotate_left 1
          · (intro w hSw; (try dsimp only at hSw); first | (go_simp; done) | (go_simp; with_reducible rfl))
          simp only [Act.put, List.setIfInBounds_toArray, List.set_cons_zero, List.set_cons_succ]
          refine wpAnyH_take (i := 12) (oi := { op := .move (.tmp 5), dst := some 71, guard := some (10, true), type := _, pos := _, after := _ }) (v := ?_) rfl (by kernel_rfl) (by kernel_rfl) (by kernel_rfl) (fun _ _ _ h => h) (Or.inl ⟨by rfl, ?_⟩) (by assumption) ?_
          rotate_left 1
          · (intro w hSw; (try dsimp only at hSw); first | (go_simp; done) | (go_simp; with_reducible rfl))
          simp only [Act.put, List.setIfInBounds_toArray, List.set_cons_zero, List.set_cons_succ]
          refine' wpAnyH_take (i := 14) (oi := { op := .load 24 (.tmp 12), dst := some 73, guard := some (10, true), type := _, pos := _, after := _ }) (v := _) rfl (by kernel_rfl) (by kernel_rfl) (by kernel_rfl) (fun _ _ _ h => h) (yieldsIf_load_mid (by rfl) _ _ rfl _ _ rfl _ _ (fun w hSw => hSw.2) hU rfl hIb) (by assumption) ?_
          simp only [Act.put, List.setIfInBounds_toArray, List.set_cons_zero, List.set_cons_succ]
          refine wpAnyH_ready (rs := [13]) (by kernel_rfl) (by simp) ?_
          refine AllReadyH.cons (o := { op := .call { callee := .value (.func 9), args := #[.tmp 70, .tmp 71], argTypes := #[22, 31] }, dst := some 72, guard := some (10, true), type := _, pos := _, after := _ }) rfl (fun K hK => ?_) AllReadyH.nil
          go_simp
          go_at_call 9
          refine (hmac_any _ u5 key LS _ _ w11 h11.1.2.2.2.1 h11.1.1 (fun i hi => hi) (fun i hi => hi) h11.1.2.2.2.2).mono ?_
          rintro e w12 ⟨rfl, hb12⟩
          rw [HW.out, ← HHB.out]
          have h12 := h11.below hb12
          refine hK.out _ _ h12.2.1 (fun hHeld => ?_)
          clear hK K
          try simp only [Act.put, List.setIfInBounds_toArray, List.set_cons_zero, List.set_cons_succ]
          refine wpAnyH_take (i := 15) (oi := { op := .binOp .eql 24 (.tmp 72) (.tmp 73) 24, dst := some 74, guard := some (10, true), type := _, pos := _, after := _ }) (v := ?_) rfl (by kernel_rfl) (by kernel_rfl) (by kernel_rfl) (fun _ _ _ h => h) (Or.inl ⟨by rfl, ?_⟩) (by assumption) ?_
          rotate_left 1
          · (intro w hSw; (try dsimp only at hSw); first | (go_simp; done) | (go_simp; with_reducible rfl))
          simp only [Act.put, List.setIfInBounds_toArray, List.set_cons_zero, List.set_cons_succ]
          refine wpAnyH_take (i := 16) (oi := { op := .pick (.tmp 69) (.tmp 74) (.const (.bool false)), dst := some 75, guard := none, type := _, pos := _, after := _ }) (v := ?_) rfl (by kernel_rfl) (by kernel_rfl) (by kernel_rfl) (fun _ _ _ h => h) (Or.inl ⟨by rfl, ?_⟩) (by assumption) ?_
          rotate_left 1
          · (intro w hSw; (try dsimp only at hSw); first | (go_simp; done) | (go_simp; with_reducible rfl))
          simp only [Act.put, List.setIfInBounds_toArray, List.set_cons_zero, List.set_cons_succ]
          refine wpAnyH_take (i := 17) (oi := { op := .move (.tmp 75), dst := some 76, guard := none, type := _, pos := _, after := _ }) (v := ?_) rfl (by kernel_rfl) (by kernel_rfl) (by kernel_rfl) (fun _ _ _ h => h) (Or.inl ⟨by rfl, ?_⟩) (by assumption) ?_
          rotate_left 1
          · (intro w hSw; (try dsimp only at hSw); first | (go_simp; done) | (go_simp; with_reducible rfl))
          simp only [Act.put, List.setIfInBounds_toArray, List.set_cons_zero, List.set_cons_succ]
          refine wpAnyH_take (i := 18) (oi := { op := .move (.tmp 1), dst := some 77, guard := some (17, true), type := _, pos := _, after := _ }) (v := ?_) rfl (by kernel_rfl) (by kernel_rfl) (by kernel_rfl) (fun _ _ _ h => h) (Or.inl ⟨by rfl, ?_⟩) (by assumption) ?_
          rotate_left 1
          · (intro w hSw; (try dsimp only at hSw); first | (go_simp; done) | (go_simp; with_reducible rfl))
          simp only [Act.put, List.setIfInBounds_toArray, List.set_cons_zero, List.set_cons_succ]
          refine wpAnyH_take (i := 19) (oi := { op := .move (.tmp 9), dst := some 78, guard := some (17, true), type := _, pos := _, after := _ }) (v := ?_) rfl (by kernel_rfl) (by kernel_rfl) (by kernel_rfl) (fun _ _ _ h => h) (Or.inl ⟨by rfl, ?_⟩) (by assumption) ?_
          rotate_left 1
          · (intro w hSw; (try dsimp only at hSw); first | (go_simp; done) | (go_simp; with_reducible rfl))
          simp only [Act.put, List.setIfInBounds_toArray, List.set_cons_zero, List.set_cons_succ]
          refine' wpAnyH_take (i := 21) (oi := { op := .load 24 (.tmp 12), dst := some 80, guard := some (17, true), type := _, pos := _, after := _ }) (v := _) rfl (by kernel_rfl) (by kernel_rfl) (by kernel_rfl) (fun _ _ _ h => h) (yieldsIf_load_mid (by rfl) _ _ rfl _ _ rfl _ _ (fun w hSw => hSw.2) hU rfl hIb) (by assumption) ?_
          simp only [Act.put, List.setIfInBounds_toArray, List.set_cons_zero, List.set_cons_succ]
          refine wpAnyH_ready (rs := [20]) (by kernel_rfl) (by simp) ?_
          refine AllReadyH.cons (o := { op := .call { callee := .value (.func 9), args := #[.tmp 77, .tmp 78], argTypes := #[22, 31] }, dst := some 79, guard := some (17, true), type := _, pos := _, after := _ }) rfl (fun K hK => ?_) AllReadyH.nil
          go_simp
          go_at_call 9
          refine (hmac_any _ u9 key ES _ _ w12 h12.1.2.2.2.1 h12.1.2.1 (fun i hi => hi) (fun i hi => hi) h12.1.2.2.2.2).mono ?_
          rintro e w13 ⟨rfl, hb13⟩
          rw [HES.out, ← HHB.out]
          have h13 := h12.below hb13
          refine hK.out _ _ h13.2.1 (fun hHeld => ?_)
          clear hK K
          try simp only [Act.put, List.setIfInBounds_toArray, List.set_cons_zero, List.set_cons_succ]
          refine wpAnyH_take (i := 22) (oi := { op := .binOp .eql 24 (.tmp 79) (.tmp 80) 24, dst := some 81, guard := some (17, true), type := _, pos := _, after := _ }) (v := ?_) rfl (by kernel_rfl) (by kernel_rfl) (by kernel_rfl) (fun _ _ _ h => h) (Or.inl ⟨by rfl, ?_⟩) (by assumption) ?_
          rotate_left 1
          · (intro w hSw; (try dsimp only at hSw); first | (go_simp; done) | (go_simp; with_reducible rfl))
          simp only [Act.put, List.setIfInBounds_toArray, List.set_cons_zero, List.set_cons_succ]
          refine wpAnyH_take (i := 23) (oi := { op := .pick (.tmp 76) (.tmp 81) (.const (.bool false)), dst := some 82, guard := none, type := _, pos := _, after := _ }) (v := ?_) rfl (by kernel_rfl) (by kernel_rfl) (by kernel_rfl) (fun _ _ _ h => h) (Or.inl ⟨by rfl, ?_⟩) (by assumption) ?_
          rotate_left 1
          · (intro w hSw; (try dsimp only at hSw); first | (go_simp; done) | (go_simp; with_reducible rfl))
          simp only [Act.put, List.setIfInBounds_toArray, List.set_cons_zero, List.set_cons_succ]
          refine wpAnyH_take (i := 24) (oi := { op := .move (.tmp 82), dst := some 83, guard := none, type := _, pos := _, after := _ }) (v := ?_) rfl (by kernel_rfl) (by kernel_rfl) (by kernel_rfl) (fun _ _ _ h => h) (Or.inl ⟨by rfl, ?_⟩) (by assumption) ?_
          rotate_left 1
          · (intro w hSw; (try dsimp only at hSw); first | (go_simp; done) | (go_simp; with_reducible rfl))
          simp only [Act.put, List.setIfInBounds_toArray, List.set_cons_zero, List.set_cons_succ]
          refine wpAnyH_ready (rs := [25]) (by kernel_rfl) (by simp) ?_
          refine AllReadyH.cons (o := { op := .call { callee := .value (.func 11), args := #[], argTypes := #[] }, dst := some 84, guard := some (24, true), type := _, pos := _, after := _ }) rfl (fun K hK => ?_) AllReadyH.nil
          go_simp
          go_at_call 11
          refine (tells_any w13 h13.1.2.2.2.2).mono ?_
          rintro e w14 ⟨rfl, hb14⟩
          have h14 := h13.below hb14
          refine hK.out _ _ h14.2.1 (fun hHeld => ?_)
          clear hK K
          try simp only [Act.put, List.setIfInBounds_toArray, List.set_cons_zero, List.set_cons_succ]
          refine wpAnyH_take (i := 26) (oi := { op := .pick (.tmp 83) (.tmp 84) (.const (.bool false)), dst := some 85, guard := none, type := _, pos := _, after := _ }) (v := ?_) rfl (by kernel_rfl) (by kernel_rfl) (by kernel_rfl) (fun _ _ _ h => h) (Or.inl ⟨by rfl, ?_⟩) (by assumption) ?_
          rotate_left 1
          · (intro w hSw; (try dsimp only at hSw); first | (go_simp; done) | (go_simp; with_reducible rfl))
          simp only [Act.put, List.setIfInBounds_toArray, List.set_cons_zero, List.set_cons_succ]
          refine wpAnyH_ready (rs := [27]) (by kernel_rfl) (by simp) ?_
          refine AllReadyH.cons (o := { op := .assign (.tmp 85), dst := some 4, guard := none, type := _, pos := _, after := _ }) rfl (fun K hK => ?_) AllReadyH.nil
          go_simp
          refine hK.out _ _ h14.2.1 (fun hHeld => ?_)
          clear hK K
          try simp only [Act.put, List.setIfInBounds_toArray, List.set_cons_zero, List.set_cons_succ]
          refine wpAnyH_done (by kernel_rfl) ?_ _
          refine NoPanic.normal ?_
          have hb9 := HBW9.out
          have hz9 : w.heap.size ≤ w9.drew.heap.size := hb9.size
          have hball : Below w.heap.size w w14 := (((((hb9.drew).trans (hb10.mono hz9)).trans (hb11.mono (by have := hb10.size; omega))).trans (hb12.mono (by have := hb10.size; have := hb11.size; omega))).trans (hb13.mono (by have := hb10.size; have := hb11.size; have := hb12.size; omega))).trans (hb14.mono (by have := hb10.size; have := hb11.size; have := hb12.size; have := hb13.size; omega))
          clear hEq1 hEq2 hGd h9 h10 h11 h12 h13 h14 hb9 hz9 hb10 hb11 hb12 hb13 hb14 hIa hIb hHeld
          go_wp2
          go_ret
          exact ⟨rfl, hball⟩
end Go.Proofs.YtdlolbgaljdfdaaDoor.Walks
