/- The reference's Sha256: plain mathematics; rows of bytes of the call's own. By an AI agent. -/
import Derived.Test.YtnhomnaamlbnpaaDoorHash
import Derived.Test.YtnhomnaamlbnpaaDoorSl
import Derived.Test.YtnhomnaamlbnpaaDoorNw
namespace Go.Proofs.YtnhomnaamlbnpaaDoor.Sha
open Go.RowKit Go.Proofs.YtnhomnaamlbnpaaDoor.M Go.Proofs.YtnhomnaamlbnpaaDoor.Sl Go.Proofs.YtnhomnaamlbnpaaDoor.Nw
set_option linter.unusedVariables false
set_option maxRecDepth 20000

/-- a row of bytes of the call's own -/
def Own (w : World) (B : Nat) (v : Value) (l : List UInt8) : Prop := w.ownsRow B 5 1 v l.length (l.map cell8)
theorem Own.form {w : World} {B : Nat} {v : Value} {l : List UInt8} (h : Own w B v l) : ∃ A c, v = .slice A l.length c := by
  rcases h.2 with ⟨hv, h0⟩ | ⟨g, cap, cur, hv, _⟩
  · exact ⟨none, 0, by rw [hv, h0]⟩
  · exact ⟨_, cap, hv⟩
theorem Own.byts {w : World} {B : Nat} {v : Value} {l : List UInt8} (h : Own w B v l) : Byts w (fun k => B ≤ k ∧ k < w.heap.size) v l := byts_of_own h rfl
theorem Own.below {w w' : World} {B : Nat} {v : Value} {l : List UInt8} (h : Own w B v l) (hb : Below w.heap.size w w') : Own w' B v l :=
  h.kept (grown_below hb (some w'.heap.size)) (by
    cases hv : v.ownBlock with
    | none => exact .inl rfl
    | some k => exact .inr (fun e => by have := (h.lt k hv).2; have := Option.some.inj e; have := hb.size; omega))
theorem Own.drewN {w : World} {B : Nat} {v : Value} {l : List UInt8} (h : Own w B v l) (n : Nat) : Own (w.drewN n) B v l := h
/-- appended to: all but its own block stays -/
structure Onto (w w' : World) (B : Nat) (v v' : Value) (l : List UInt8) : Prop where
  own : Own w' B v' l
  grown : w.grownBy w' v.ownBlock
  lies : v'.ownBlock = v.ownBlock ∨ v'.ownBlock = some w.heap.size
theorem Onto.below {w w' : World} {B : Nat} {v v' : Value} {l m : List UInt8} (h : Onto w w' B v v' l) (ho : Own w B v m) (hB : B ≤ w.heap.size) : Below B w w' :=
  ⟨h.grown.os, h.grown.tape, h.grown.output, h.grown.size, fun k hk => h.grown.block k (by omega) (fun e => by have := (ho.lt k e.symm).1; omega)⟩
theorem zeros_lt (n : Nat) : zeros n < 64 := by unfold zeros; omega
theorem zeros_stop {n j : Nat} (hj : j ≤ zeros n) : (n + 1 + j) % 64 = 56 ↔ j = zeros n := by unfold zeros at *; omega
theorem row8_succ (j : Nat) : List.replicate (j + 1) (0 : UInt8) = List.replicate j 0 ++ [0] := by rw [List.replicate_succ']
theorem beBytes_snoc : ∀ (k n : Nat), ∀ i, i ≤ k → (beBytes n k).take i ++ (if i < k then [byteAt n (k - 1 - i)] else []) = (beBytes n k).take (i + 1) := by
  intro k n i hi
  by_cases h : i < k
  · rw [if_pos h, List.take_add_one, beBytes_at n k i h]; rfl
  · rw [if_neg h, List.append_nil, List.take_of_length_le (by rw [beBytes_length]; omega), List.take_of_length_le (by rw [beBytes_length]; omega)]
theorem beBytes_more (n k i : Nat) (h : i < k) : (beBytes n k).take (i + 1) = (beBytes n k).take i ++ [byteAt n (k - 1 - i)] := by
  rw [← beBytes_snoc k n i (by omega), if_pos h]
theorem byteAt_nat (n m : Nat) : (byteAt n m).toNat = n / 256 ^ m % 256 := by unfold byteAt; rw [UInt8.toNat_ofNat']

theorem refRight_q (x : Nat) (n : Int) (w : World) (hx : x < 4294967296) (h0 : 0 < n) (hn : n < 32) :
    Calls Tryd.prog 62 #[.int .u32 (x : Int), .int .i64 n] w fun e w' => e = .returned (.int .u32 (rotr x n.toNat : Nat)) ∧ w' = w := by
  obtain ⟨m, rfl⟩ := Int.eq_ofNat_of_zero_le (Int.le_of_lt h0)
  exact (refRight_any x m w hx (by omega)).mono fun e w' h => ⟨h.1, h.2.symm⟩
theorem refShift_q (x : Nat) (n : Int) (w : World) (hx : x < 4294967296) (h0 : 0 < n) (hn : n < 32) :
    Calls Tryd.prog 63 #[.int .u32 (x : Int), .int .i64 n] w fun e w' => e = .returned (.int .u32 (x / 2 ^ n.toNat : Nat)) ∧ w' = w := by
  obtain ⟨m, rfl⟩ := Int.eq_ofNat_of_zero_le (Int.le_of_lt h0)
  exact (refShift_any x m w hx (by omega)).mono fun e w' h => ⟨h.1, h.2.symm⟩
/-- a row of words of the call's own -/
def OwnW (w : World) (B : Nat) (v : Value) (l : List Nat) : Prop := w.ownsRow B 37 1 v l.length (l.map cell32)
theorem OwnW.form {w : World} {B : Nat} {v : Value} {l : List Nat} (h : OwnW w B v l) : ∃ A c, v = .slice A l.length c ∧ ∀ (j : Nat) (x : Nat), l[j]? = some x → ∃ g, A = some ⟨g, 0, none⟩ ∧ B ≤ g ∧ w.cell? ⟨g, j, none⟩ = some (.int .u32 (x : Int)) := by
  rcases h.2 with ⟨hv, h0⟩ | ⟨g, cap, cur, hv, hb, hg, hnc, hcm, hsz, htake⟩
  · refine ⟨none, 0, by rw [hv, h0], fun j x hj => ?_⟩
    have : l = [] := List.eq_nil_of_length_eq_zero h0
    subst this
    simp at hj
  · refine ⟨_, cap, hv, fun j x hj => ⟨g, rfl, hb, ?_⟩⟩
    have := h.cells (g := g) (by rw [hv]; rfl) j (cell32 x) (by rw [List.getElem?_map, hj]; rfl)
    rwa [Addr.add_lit, Nat.zero_add] at this
theorem OwnW.below {w w' : World} {B : Nat} {v : Value} {l : List Nat} (h : OwnW w B v l) (hb : Below w.heap.size w w') : OwnW w' B v l :=
  h.kept (grown_below hb (some w'.heap.size)) (by
    cases hv : v.ownBlock with
    | none => exact .inl rfl
    | some k => exact .inr (fun e => by have := (h.lt k hv).2; have := Option.some.inj e; have := hb.size; omega))
structure OntoW (w w' : World) (B : Nat) (v v' : Value) (l : List Nat) : Prop where
  own : OwnW w' B v' l
  grown : w.grownBy w' v.ownBlock
theorem OntoW.below {w w' : World} {B : Nat} {v v' : Value} {l m : List Nat} (h : OntoW w w' B v v' l) (ho : OwnW w B v m) (hB : B ≤ w.heap.size) : Below B w w' :=
  ⟨h.grown.os, h.grown.tape, h.grown.output, h.grown.size, fun k hk => h.grown.block k (by omega) (fun e => by have := (ho.lt k e.symm).1; omega)⟩
def dv (k : Nat) : Nat := 72057594037927936 / 256 ^ k
theorem dv_pow : ∀ k, k ≤ 7 → dv k = 256 ^ (7 - k) := by decide
theorem dv_succ (k : Nat) : dv (k + 1) = dv k / 256 := by unfold dv; rw [Nat.pow_succ, Nat.div_div_eq_div_mul]
theorem dv_byte (n k : Nat) (h : k ≤ 7) : ((n / dv k % 256 : Nat) : Int) = ((byteAt n (7 - k)).toNat : Int) := by rw [byteAt_nat, dv_pow k h]
/-- the schedule's first words -/
theorem extend_take (l : List Nat) : ∀ (k j : Nat), j ≤ k → (extend k l).take (l.length + j) = extend j l
  | 0, j, h => by
    obtain rfl : j = 0 := by omega
    simp [extend]
  | k + 1, j, h => by
    by_cases hj : j = k + 1
    · subst hj
      rw [List.take_of_length_le (by rw [extend_length]; omega)]
    · have : extend (k + 1) l = extend k l ++ [nextWord (extend k l)] := rfl
      rw [this, List.take_append_of_le_length (by rw [extend_length]; omega), extend_take l k j (by omega)]
theorem sched_take_hi (bs : List UInt8) (h : bs.length = 64) (t : Nat) (h1 : 16 ≤ t) (h2 : t < 64) : (sched bs).take (t + 1) = (sched bs).take t ++ [nextWord ((sched bs).take t)] := by
  have hw := words_length 16 bs (by omega)
  unfold sched
  have e1 := extend_take (words bs) 48 (t - 16) (by omega)
  have e2 := extend_take (words bs) 48 (t + 1 - 16) (by omega)
  rw [hw, show 16 + (t - 16) = t by omega] at e1
  rw [hw, show 16 + (t + 1 - 16) = t + 1 by omega] at e2
  rw [e1, e2, show t + 1 - 16 = (t - 16) + 1 by omega]
  rfl
theorem words_get : ∀ (bs : List UInt8) (t : Nat), 4 * t + 3 < bs.length → (words bs)[t]? = some (word4 (bs.getD (4 * t) 0) (bs.getD (4 * t + 1) 0) (bs.getD (4 * t + 2) 0) (bs.getD (4 * t + 3) 0))
  | [], t, h => by simp at h
  | [_], t, h => by simp at h
  | [_, _], t, h => by simp at h; omega
  | [_, _, _], t, h => by simp at h; omega
  | a :: b :: c :: d :: l, 0, h => by simp [words]
  | a :: b :: c :: d :: l, t + 1, h => by
    simp only [words, List.getElem?_cons_succ]
    rw [words_get l t (by simp at h; omega)]
    simp [show 4 * (t + 1) = 4 * t + 4 by omega, show 4 * (t + 1) + 1 = 4 * t + 1 + 4 by omega, show 4 * (t + 1) + 2 = 4 * t + 2 + 4 by omega, show 4 * (t + 1) + 3 = 4 * t + 3 + 4 by omega, List.getD]
theorem sched_take_lo (bs : List UInt8) (h : bs.length = 64) (t : Nat) (h2 : t < 16) : (sched bs).take (t + 1) = (sched bs).take t ++ [word4 (bs.getD (4 * t) 0) (bs.getD (4 * t + 1) 0) (bs.getD (4 * t + 2) 0) (bs.getD (4 * t + 3) 0)] := by
  have hw := words_length 16 bs (by omega)
  have e1 := extend_take (words bs) 48 0 (by omega)
  rw [hw, Nat.add_zero] at e1
  have hx : ∀ k, k ≤ 16 → (sched bs).take k = (words bs).take k := fun k hk => by
    have : ((sched bs).take 16).take k = (words bs).take k := by unfold sched; rw [e1]; rfl
    rwa [List.take_take, Nat.min_eq_left hk] at this
  rw [hx _ (by omega), hx _ (by omega), List.take_add_one, words_get bs t (by omega)]
  rfl
theorem nextWord_of (bs : List UInt8) (h : bs.length = 64) (t : Nat) (h1 : 16 ≤ t) (h2 : t ≤ 64) : nextWord ((sched bs).take t) = ((sched bs).getD (t - 16) 0 + (sched bs).getD (t - 7) 0 + sg0 ((sched bs).getD (t - 15) 0) + sg1 ((sched bs).getD (t - 2) 0)) % 4294967296 := by
  unfold nextWord
  have hl : ((sched bs).take t).length = t := by rw [List.length_take, sched_length bs h]; omega
  rw [hl]
  dsimp only
  have g : ∀ k, k < t → ((sched bs).take t).getD k 0 = (sched bs).getD k 0 := fun k hk => by simp [List.getD, List.getElem?_take_of_lt hk]
  rw [g _ (by omega), g _ (by omega), g _ (by omega), g _ (by omega)]
end Go.Proofs.YtnhomnaamlbnpaaDoor.Sha
