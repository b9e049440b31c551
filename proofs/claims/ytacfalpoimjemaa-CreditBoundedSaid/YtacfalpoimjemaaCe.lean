/- credit: both ends, and what is on its way between. By an AI agent. -/
import Derived.Test.YtacfalpoimjemaaCd
namespace Go.Proofs.Ytacfalpoimjemaa.Cr
open Go Go.RowKit Go.Proofs.Ytacfalpoimjemaa.Abs Go.Proofs.Ytacfalpoimjemaa.M
set_option linter.unusedVariables false
set_option linter.unusedSimpArgs false
/-- the sum of so many from a place on -/
def sumT (R : List Int) (o j : Nat) : Int := ((R.drop o).take j).sum
/-- the highest -/
def mxI (g : Int) (G : List Int) : Int := G.foldl max g
/-! what an act makes of it -/
def took (a N : Int) (w : Nat) : Nat := if a = 3 ∨ a = 4 then min w (N % 5).toNat else 0
def dSp (a N sp gr c : Int) : Int := if a ≤ 2 ∧ N ≤ gr - sp then c + N else c
def dR (a N sp gr : Int) (R : List Int) (o w : Nat) : List Int := if a ≤ 2 ∧ N ≤ gr - sp then (R.drop o).take w ++ [N] else R
def dO (a N sp gr : Int) (o w : Nat) : Nat := if a ≤ 2 ∧ N ≤ gr - sp then 0 else o + took a N w
def dW (a N sp gr : Int) (w : Nat) : Nat := if a ≤ 2 ∧ N ≤ gr - sp then w + 1 else w - took a N w
def dTk (a N tk : Int) (R : List Int) (o w : Nat) : Int := tk + sumT R o (took a N w)
def dUs (a N tk us c : Int) : Int := if a = 5 ∨ a = 6 then c + min N (tk - us) else c
def dGg (a us L gg : Int) : Int := if a = 7 then gtN us L gg else gg
def dG (a us L gg : Int) (G : List Int) : List Int := if a = 7 ∧ max (L / 2) 1 ≤ us + L - gg then G ++ [us + L] else G
def dGr (a N gr : Int) (G : List Int) : Int := if a = 8 ∧ G ≠ [] then max gr (G.getD (N % G.length).toNat 0) else gr
/-- what is always so -/
structure EInv (L : Int) (k : Nat) (sp gr tk us gg : Int) (R : List Int) (o w : Nat) (G : List Int) : Prop where
  row : o + w = R.length
  sum : sumT R o w = sp - tk
  pos : ∀ z ∈ R, 0 ≤ z ∧ z ≤ 255
  us0 : 0 ≤ us
  ustk : us ≤ tk
  tksp : tk ≤ sp
  spgr : sp ≤ gr
  grgg : gr ≤ gg
  ggus : gg ≤ us + L
  Lgr : L ≤ gr
  big : sp ≤ 255 * k
  gs : ∀ t ∈ G, 0 ≤ t ∧ t ≤ gg
  last : gg = L ∨ gg ∈ G
  glen : G.length ≤ k
  rlen : R.length ≤ k
/-! rows -/
theorem sumT_zero (R : List Int) (o : Nat) : sumT R o 0 = 0 := rfl
theorem sumT_add (R : List Int) (o i j : Nat) : sumT R o (i + j) = sumT R o i + sumT R (o + i) j := by
  unfold sumT
  rw [List.take_add, List.sum_append, List.drop_drop]
theorem sumT_one {R : List Int} {o : Nat} (h : o < R.length) : sumT R o 1 = R.getD o 0 := by
  unfold sumT
  rw [List.drop_eq_getElem_cons h, List.getD_eq_getElem?_getD, List.getElem?_eq_getElem h, List.take_succ_cons, List.take_zero, List.sum_cons, List.sum_nil]
  exact Int.add_zero _
theorem sumT_succ {R : List Int} {o j : Nat} (h : o + j < R.length) : sumT R o (j + 1) = sumT R o j + R.getD (o + j) 0 := by
  rw [sumT_add, sumT_one h]
theorem sum_nonneg {l : List Int} (h : ∀ z ∈ l, 0 ≤ z) : 0 ≤ l.sum := by
  induction l with
  | nil => simp
  | cons a l ih =>
    rw [List.sum_cons]
    have := h a List.mem_cons_self
    have := ih fun z hz => h z (List.mem_cons_of_mem _ hz)
    omega
theorem sumT_nonneg {R : List Int} (h : ∀ z ∈ R, 0 ≤ z ∧ z ≤ 255) (o j : Nat) : 0 ≤ sumT R o j :=
  sum_nonneg fun z hz => (h z (List.mem_of_mem_drop (List.mem_of_mem_take hz))).1
theorem getD_pos {R : List Int} (h : ∀ z ∈ R, 0 ≤ z ∧ z ≤ 255) (i : Nat) : 0 ≤ R.getD i 0 ∧ R.getD i 0 ≤ 255 := by
  rw [List.getD_eq_getElem?_getD]
  cases he : R[i]? with
  | none => simp
  | some z => exact h z (List.mem_of_getElem? he)
/-- a part of what is on its way is not more than that -/
theorem sumT_le {R : List Int} (h : ∀ z ∈ R, 0 ≤ z ∧ z ≤ 255) {o w j : Nat} (hj : j ≤ w) : sumT R o j ≤ sumT R o w := by
  obtain ⟨d, rfl⟩ := Nat.exists_eq_add_of_le hj
  rw [sumT_add]
  have := sumT_nonneg h (o + j) d
  omega
theorem sumT_app (R : List Int) (o w : Nat) (N : Int) (h : o + w = R.length) : sumT ((R.drop o).take w ++ [N]) 0 (w + 1) = sumT R o w + N := by
  unfold sumT
  have hl : ((R.drop o).take w).length = w := by rw [List.length_take, List.length_drop]; omega
  rw [List.drop_zero, List.take_of_length_le (by rw [List.length_append, hl]; simp), List.sum_append]
  simp
theorem mxI_ge (g : Int) : ∀ G : List Int, g ≤ mxI g G ∧ ∀ t ∈ G, t ≤ mxI g G := fun G => by
  unfold mxI
  induction G generalizing g with
  | nil => simp
  | cons a G ih =>
    obtain ⟨h1, h2⟩ := ih (max g a)
    rw [List.foldl_cons]
    refine ⟨by omega, fun t ht => ?_⟩
    rcases List.mem_cons.1 ht with rfl | ht
    · omega
    · exact h2 t ht
theorem mxI_le {g B : Int} {G : List Int} (h : g ≤ B) (hG : ∀ t ∈ G, t ≤ B) : mxI g G ≤ B := by
  unfold mxI
  induction G generalizing g with
  | nil => exact h
  | cons a G ih =>
    rw [List.foldl_cons]
    exact ih (by have := hG a List.mem_cons_self; omega) fun t ht => hG t (List.mem_cons_of_mem _ ht)
theorem mxI_succ {g : Int} {G : List Int} {i : Nat} (h : i < G.length) : mxI g (G.take (i + 1)) = max (mxI g (G.take i)) (G.getD i 0) := by
  unfold mxI
  rw [List.take_succ_eq_append_getElem h, List.foldl_append, List.getD_eq_getElem?_getD, List.getElem?_eq_getElem h]
  rfl
theorem took_le (a N : Int) (w : Nat) : took a N w ≤ w := by unfold took; split <;> omega
theorem getD_mem {G : List Int} {i : Nat} (h : i < G.length) : G.getD i 0 ∈ G := by
  rw [List.getD_eq_getElem?_getD, List.getElem?_eq_getElem h]
  exact List.getElem_mem h
/-- AN ACT KEEPS IT. -/
theorem einv_step {L : Int} {k : Nat} {sp gr tk us gg : Int} {R : List Int} {o w : Nat} {G : List Int} (hL : 1 ≤ L) (h : EInv L k sp gr tk us gg R o w G) {a N : Int} (ha : 0 ≤ a) (hN : 0 ≤ N ∧ N ≤ 255) :
    EInv L (k + 1) (dSp a N sp gr sp) (dGr a N gr G) (dTk a N tk R o w) (dUs a N tk us us) (dGg a us L gg) (dR a N sp gr R o w) (dO a N sp gr o w) (dW a N sp gr w) (dG a us L gg G) := by
  obtain ⟨h1, h2, h3, h4, h5, h6, h7, h8, h9, h10, h11, h12, h13, h14, h15⟩ := h
  have ht := took_le a N w
  have t1 := sumT_le h3 (o := o) ht
  have t0 := sumT_nonneg h3 o (took a N w)
  have t2 := sumT_add R o (took a N w) (w - took a N w)
  rw [show took a N w + (w - took a N w) = w by omega] at t2
  have hgi : G ≠ [] → 0 ≤ G.getD (N % G.length).toNat 0 ∧ G.getD (N % G.length).toNat 0 ≤ gg := fun hG => by
    have hl : 0 < G.length := List.length_pos_iff.2 hG
    have := Int.emod_lt_of_pos N (show (0 : Int) < G.length by omega)
    have := Int.emod_nonneg N (show (G.length : Int) ≠ 0 by omega)
    exact h12 _ (getD_mem (by omega))
  have hgr : gr ≤ dGr a N gr G ∧ dGr a N gr G ≤ gg := by
    unfold dGr
    split
    · rename_i hh; have := hgi hh.2; omega
    · omega
  have hgg : gg ≤ dGg a us L gg ∧ dGg a us L gg ≤ us + L ∧ (dGg a us L gg = gg ∨ (a = 7 ∧ max (L / 2) 1 ≤ us + L - gg ∧ dGg a us L gg = us + L)) := by
    unfold dGg gtN
    split
    · split <;> omega
    · omega
  have hus : us ≤ dUs a N tk us us ∧ dUs a N tk us us ≤ tk := by
    unfold dUs
    split <;> omega
  have htk : dTk a N tk R o w = tk + sumT R o (took a N w) := rfl
  have hG : (∀ t ∈ dG a us L gg G, 0 ≤ t ∧ t ≤ dGg a us L gg) ∧ (dGg a us L gg = L ∨ dGg a us L gg ∈ dG a us L gg G) ∧ (dG a us L gg G).length ≤ k + 1 := by
    unfold dG
    split
    · rename_i hh
      have e : dGg a us L gg = us + L := by unfold dGg gtN; rw [if_pos hh.1, if_pos hh.2]
      rw [e]
      refine ⟨fun t ht => ?_, .inr (by simp), by simp; omega⟩
      rcases List.mem_append.1 ht with ht | ht
      · have := h12 t ht; omega
      · simp at ht; omega
    · rename_i hh
      have e : dGg a us L gg = gg := by
        rcases hgg.2.2 with e | ⟨e1, e2, _⟩
        · exact e
        · exact absurd ⟨e1, e2⟩ hh
      rw [e]
      exact ⟨h12, h13, by omega⟩
  by_cases hs : a ≤ 2 ∧ N ≤ gr - sp
  · have e0 : took a N w = 0 := by unfold took; rw [if_neg (by omega)]
    rw [e0, sumT_zero] at htk
    have e1 : dSp a N sp gr sp = sp + N := by unfold dSp; rw [if_pos hs]
    have e2 : dR a N sp gr R o w = (R.drop o).take w ++ [N] := by unfold dR; rw [if_pos hs]
    have e3 : dO a N sp gr o w = 0 := by unfold dO; rw [if_pos hs]
    have e4 : dW a N sp gr w = w + 1 := by unfold dW; rw [if_pos hs]
    have hl : ((R.drop o).take w).length = w := by rw [List.length_take, List.length_drop]; omega
    rw [e1, e2, e3, e4, htk]
    refine ⟨by rw [List.length_append, hl]; simp, by rw [sumT_app R o w N h1]; omega, fun z hz => ?_, by omega, by omega, by omega, by omega, by omega, by omega, by omega, by omega, hG.1, hG.2.1, hG.2.2, by rw [List.length_append, hl]; simp; omega⟩
    rcases List.mem_append.1 hz with hz | hz
    · exact h3 z (List.mem_of_mem_drop (List.mem_of_mem_take hz))
    · simp at hz; omega
  · have e1 : dSp a N sp gr sp = sp := by unfold dSp; rw [if_neg hs]
    have e2 : dR a N sp gr R o w = R := by unfold dR; rw [if_neg hs]
    have e3 : dO a N sp gr o w = o + took a N w := by unfold dO; rw [if_neg hs]
    have e4 : dW a N sp gr w = w - took a N w := by unfold dW; rw [if_neg hs]
    rw [e1, e2, e3, e4, htk]
    exact ⟨by omega, by omega, h3, by omega, by omega, by omega, by omega, by omega, by omega, by omega, by omega, hG.1, hG.2.1, hG.2.2, by omega⟩
end Go.Proofs.Ytacfalpoimjemaa.Cr
