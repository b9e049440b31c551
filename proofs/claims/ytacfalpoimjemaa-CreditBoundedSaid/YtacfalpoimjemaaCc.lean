/- credit: CreditBounded. By an AI agent. -/
import Derived.Test.YtacfalpoimjemaaCb2
namespace Go.Proofs.Ytacfalpoimjemaa.Cr
open Go Go.RowKit Go.Proofs.Ytacfalpoimjemaa.Abs Go.Proofs.Ytacfalpoimjemaa.M
set_option linter.unusedVariables false
set_option linter.unusedSimpArgs false
--forms
theorem EInv.lin {L : Int} {k : Nat} {sp gr tk us gg : Int} {R : List Int} {o w : Nat} {G : List Int} (h : EInv L k sp gr tk us gg R o w G) :
    (o + w = R.length ∧ R.length ≤ k ∧ G.length ≤ k) ∧ 0 ≤ us ∧ us ≤ tk ∧ tk ≤ sp ∧ sp ≤ gr ∧ gr ≤ gg ∧ gg ≤ us + L ∧ L ≤ gr ∧ sp ≤ 255 * k :=
  ⟨⟨h.row, h.rlen, h.glen⟩, h.us0, h.ustk, h.tksp, h.spgr, h.grgg, h.ggus, h.Lgr, h.big⟩
structure RowF (R : List Int) (o w : Nat) (tk sp : Int) : Prop where
  row : o + w ≤ R.length
  pos : ∀ z ∈ R, 0 ≤ z ∧ z ≤ 255
  sum : tk + sumT R o w ≤ sp
theorem EInv.rf {L : Int} {k : Nat} {sp gr tk us gg : Int} {R : List Int} {o w : Nat} {G : List Int} (h : EInv L k sp gr tk us gg R o w G) : RowF R o w tk sp :=
  ⟨by have := h.row; omega, h.pos, by have := h.sum; omega⟩
theorem RowF.from {R : List Int} {o w : Nat} {tk sp : Int} (h : RowF R o w tk sp) {x : Nat} (hx : x ≤ w) : RowF R (o + x) (w - x) (tk + sumT R o x) sp := by
  have h1 := h.row
  have h2 := h.sum
  have h3 := sumT_add R o x (w - x)
  rw [show x + (w - x) = w by omega] at h3
  exact ⟨by omega, h.pos, by omega⟩
theorem RowF.one {R : List Int} {o w : Nat} {tk sp : Int} (h : RowF R o w tk sp) {j : Nat} (hj : j < w) : 0 ≤ R.getD (o + j + 0) 0 ∧ tk + sumT R o j + R.getD (o + j + 0) 0 ≤ sp ∧ sumT R o (j + 1) = sumT R o j + R.getD (o + j + 0) 0 := by
  have h1 := h.row
  have h2 := h.sum
  have h3 := sumT_succ (R := R) (o := o) (j := j) (by omega)
  have h4 := sumT_le h.pos (o := o) (show j + 1 ≤ w by omega)
  have h5 := getD_pos h.pos (o + j)
  rw [Nat.add_zero]
  omega
theorem RowF.upto {R : List Int} {o w : Nat} {tk sp : Int} (h : RowF R o w tk sp) {j : Nat} (hj : j ≤ w) : 0 ≤ sumT R o j ∧ tk + sumT R o j ≤ sp := by
  have h2 := h.sum
  have h4 := sumT_le h.pos (o := o) hj
  have h5 := sumT_nonneg h.pos o j
  omega
theorem tkI {R : List Int} {o w : Nat} {tk sp m : Int} {P : Nat → Prop} (rf : RowF R o w tk sp) (h : ∀ j, j ≤ w → (j : Int) ≤ m → (0 ≤ sumT R o j ∧ tk + sumT R o j ≤ sp) → (j < w → 0 ≤ R.getD (o + j + 0) 0 ∧ tk + sumT R o j + R.getD (o + j + 0) 0 ≤ sp ∧ sumT R o (j + 1) = sumT R o j + R.getD (o + j + 0) 0) → P j) : ∀ j, j ≤ w ∧ (j : Int) ≤ m → P j :=
  fun j hj => h j hj.1 hj.2 (rf.upto hj.1) fun h1 => rf.one h1
theorem tkE' {R : List Int} {o w : Nat} {tk sp m : Int} {P : Nat → Prop} (rf : RowF R o w tk sp) (h : ∀ j, j ≤ w → (j : Int) ≤ m → (j = w ∨ (j : Int) = m) → (0 ≤ sumT R o j ∧ tk + sumT R o j ≤ sp) → P j) : ∀ j, (j ≤ w ∧ (j : Int) ≤ m) ∧ (j = w ∨ (j : Int) = m) → P j :=
  fun j hj => h j hj.1.1 hj.1.2 hj.2 (rf.upto hj.1.1)
theorem flI {R : List Int} {o w : Nat} {tk sp : Int} {P : Nat → Prop} (rf : RowF R o w tk sp) (h : ∀ j, j ≤ w → (0 ≤ sumT R o j ∧ tk + sumT R o j ≤ sp) → RowF R (o + j) (w - j) (tk + sumT R o j) sp → P j) : ∀ j, j ≤ w → P j :=
  fun j hj => h j hj (rf.upto hj) (rf.from hj)
theorem tx0 {R : List Int} {o w : Nat} {tk n0 m : Int} (hm : 0 ≤ m) : ExT Nat fun y => (y ≤ w ∧ (y : Int) ≤ m) ∧ n0 - (y : Int) = n0 ∧ (o + y = o ∧ w - y = w ∧ w - y = w) ∧ tk + sumT R o y = tk :=
  ⟨0, by dsimp only; rw [sumT_zero]; omega⟩
theorem tx0' {R : List Int} {o w : Nat} {tk : Int} : ExT Nat fun y => (y ≤ w ∧ (y : Int) ≤ 4) ∧ (4 - (y : Int) = 4 ∧ inR .i64 (4 - (y : Int))) ∧ (o + y = o ∧ w - y = w ∧ w - y = w) ∧ tk + sumT R o y = tk :=
  ⟨0, by dsimp only; rw [sumT_zero, in_i64]; omega⟩
theorem txn {R : List Int} {o w j b : Nat} {tk n0 m z T : Int} (hj : j < w) (hm : (j : Int) + 1 ≤ m) (hz : z = n0 - (j : Int) - 1) (hT : tk + sumT R o (j + 1) = T) :
    ExT Nat fun y => (w - y < w - j ∧ y ≤ w ∧ (y : Int) ≤ m) ∧ n0 - (y : Int) = z ∧ (o + y = Prod.snd (b, o + j) + 1 ∧ w - y = w - j - 1 ∧ w - y = w - j - 1) ∧ tk + sumT R o y = T :=
  ⟨j + 1, by dsimp only; rw [hT]; omega⟩
theorem txn' {R : List Int} {o w j : Nat} {tk n0 m z T : Int} (hj : j < w) (hm : (j : Int) + 1 ≤ m) (hz : z = n0 - (j : Int) - 1) (hT : tk + sumT R o (j + 1) = T) :
    ExT Nat fun y => (w - y < w - j ∧ y ≤ w ∧ (y : Int) ≤ m) ∧ n0 - (y : Int) = z ∧ (o + y = o + j + 1 ∧ w - y = w - j - 1 ∧ w - y = w - j - 1) ∧ tk + sumT R o y = T :=
  ⟨j + 1, by dsimp only; rw [hT]; omega⟩
theorem txe {R : List Int} {o w j : Nat} {tk m : Int} (h : (j ≤ w ∧ (j : Int) ≤ m) ∧ (j = w ∨ (j : Int) = m)) :
    ExT Nat fun z => ((z ≤ w ∧ (z : Int) ≤ m) ∧ (z = w ∨ (z : Int) = m)) ∧ (o + z = o + j ∧ w - z = w - j ∧ w - z = w - j) ∧ tk + sumT R o z = tk + sumT R o j :=
  ⟨j, h, ⟨rfl, rfl, rfl⟩, rfl⟩
theorem dG_same {a us L gg : Int} {G : List Int} (h : ¬ (a = 7 ∧ max (L / 2) 1 ≤ us + L - gg)) : dG a us L gg G = G := if_neg h
theorem dG_app {a us L gg : Int} {G : List Int} (h : a = 7 ∧ max (L / 2) 1 ≤ us + L - gg) : dG a us L gg G = G ++ [us + L] := if_pos h
theorem dG_len {a us L gg : Int} {G : List Int} (h : a = 7 ∧ max (L / 2) 1 ≤ us + L - gg) : (dG a us L gg G).length = G.length + 1 := by rw [dG_app h, List.length_append]; rfl
theorem dG_row {a us L gg : Int} {G l' : List Int} (h : a = 7 ∧ max (L / 2) 1 ≤ us + L - gg) (hl : l' = List.take G.length G ++ List.take 1 [gtR us L gg]) : dG a us L gg G = l' := by
  rw [dG_app h, hl, List.take_length]
  unfold gtR
  rw [if_pos h.2]
  rfl
theorem dR_same {a N sp gr : Int} {R : List Int} {o w : Nat} (h : ¬ (a ≤ 2 ∧ N ≤ gr - sp)) : dR a N sp gr R o w = R := if_neg h
theorem dR_row {a N sp gr : Int} {R l' : List Int} {o w : Nat} (h : a ≤ 2 ∧ N ≤ gr - sp) (hl : l' = List.take w (List.drop o R) ++ List.take 1 [N]) : dR a N sp gr R o w = l' := by rw [hl]; exact if_pos h
theorem dGr_same {a N gr : Int} {G : List Int} (h : a ≠ 8 ∨ G.length = 0) : dGr a N gr G = gr := by
  unfold dGr
  rw [if_neg]
  rintro ⟨h1, h2⟩
  rcases h with h | h
  · exact h h1
  · exact h2 (List.length_eq_zero_iff.1 h)
theorem dGr_told {a N gr v : Int} {G : List Int} (h : a = 8) (h0 : 0 < G.length) (hv : v = max gr (G.getD (0 + Int.toNat (N % (G.length : Int)) * 1) 0)) : dGr a N gr G = v := by
  unfold dGr
  rw [if_pos ⟨h, fun h1 => by rw [h1] at h0; simp at h0⟩, hv, Nat.mul_one, Nat.zero_add]
theorem dTk_at {a N tk : Int} {R : List Int} {o w j : Nat} (h : took a N w = j) : dTk a N tk R o w = tk + sumT R o j := by rw [← h]; rfl
theorem dTk_same {a N tk : Int} {R : List Int} {o w : Nat} (h : took a N w = 0) : dTk a N tk R o w = tk := by rw [dTk_at h, sumT_zero, Int.add_zero]
theorem took_0 {a N : Int} {w : Nat} (h : ¬ (a = 3 ∨ a = 4)) : took a N w = 0 := if_neg h
theorem took_n {a N : Int} {w j : Nat} (h : a = 3 ∨ a = 4) (hj : j = min w (N % 5).toNat) : took a N w = j := by rw [hj]; exact if_pos h
theorem dO_app {a N sp gr : Int} {o w : Nat} (h : a ≤ 2 ∧ N ≤ gr - sp) : dO a N sp gr o w = 0 := if_pos h
theorem dO_at {a N sp gr : Int} {o w j : Nat} (h : ¬ (a ≤ 2 ∧ N ≤ gr - sp)) (hj : took a N w = j) : dO a N sp gr o w = o + j := by rw [← hj]; exact if_neg h
theorem dO_same {a N sp gr : Int} {o w : Nat} (h : ¬ (a ≤ 2 ∧ N ≤ gr - sp)) (hj : took a N w = 0) : dO a N sp gr o w = o := dO_at h hj
theorem dW_app {a N sp gr : Int} {w : Nat} (h : a ≤ 2 ∧ N ≤ gr - sp) : dW a N sp gr w = w + 1 := if_pos h
theorem dW_at {a N sp gr : Int} {w j : Nat} (h : ¬ (a ≤ 2 ∧ N ≤ gr - sp)) (hj : took a N w = j) : dW a N sp gr w = w - j := by rw [← hj]; exact if_neg h
theorem dW_same {a N sp gr : Int} {w : Nat} (h : ¬ (a ≤ 2 ∧ N ≤ gr - sp)) (hj : took a N w = 0) : dW a N sp gr w = w := dW_at h hj
theorem spE_dec {n sp gr : Int} (h : 0 ≤ n) : decide (spE n sp gr = 0) = decide (n ≤ gr - sp) := by
  unfold spE
  rw [decide_eq_decide]
  split <;> (try split) <;> omega
/-- the grant of a place -/
theorem EInv.told {L : Int} {k : Nat} {sp gr tk us gg : Int} {R : List Int} {o w : Nat} {G : List Int} (h : EInv L k sp gr tk us gg R o w G) {N : Int} : 0 < G.length → 0 ≤ G.getD (0 + Int.toNat (N % (G.length : Int)) * 1) 0 ∧ G.getD (0 + Int.toNat (N % (G.length : Int)) * 1) 0 ≤ gg := fun hl => by
  have := Int.emod_lt_of_pos N (show (0 : Int) < G.length by omega)
  have := Int.emod_nonneg N (show (G.length : Int) ≠ 0 by omega)
  exact h.gs _ (getD_mem (by omega))
theorem EInv.place {n : Int} {m : Nat} (h : 0 < m) : Int.toNat (n % (m : Int)) < m := by
  have := Int.emod_lt_of_pos n (show (0 : Int) < m by omega)
  have := Int.emod_nonneg n (show (m : Int) ≠ 0 by omega)
  omega
theorem exn {L : Int} {n : Nat} {x : EX} {z sp gr tk us gg : Int} {R G : List Int} {o w : Nat} (hz : z = (x.k : Int) + 1) (h1 : x.k < n) (h2 : x.k < 120) (e : EInv L (x.k + 1) sp gr tk us gg R o w G) :
    ExT EX fun y => (n - y.1 < n - x.1 ∧ (y.1 ≤ n ∧ y.1 ≤ 120) ∧ EOk L y) ∧ (y.1 : Int) = z ∧ ((y.8 = o ∧ y.9 = w ∧ y.9 = w) ∧ (List.length y.10 = List.length G ∧ List.length y.10 = List.length G) ∧ y.2 = sp ∧ y.5 = us) ∧ (y.2 = sp ∧ y.3 = gr) ∧ (y.4 = tk ∧ y.5 = us ∧ y.6 = gg) ∧ y.7 = R ∧ y.10 = G :=
  ⟨⟨x.k + 1, sp, gr, tk, us, gg, R, o, w, G⟩, ⟨by dsimp only; omega, by dsimp only; omega, ⟨e⟩⟩, by dsimp only; omega, ⟨⟨rfl, rfl, rfl⟩, ⟨rfl, rfl⟩, rfl, rfl⟩, ⟨rfl, rfl⟩, ⟨rfl, rfl, rfl⟩, rfl, rfl⟩
theorem exe {L : Int} {x : EX} (h1 : x.k ≤ 120) (e : EInv L x.k x.sp x.gr x.tk x.us x.gg x.R x.o x.w x.G) :
    ExT EX fun z => (z.1 ≤ 120 ∧ EOk L z) ∧ ((z.8 = x.8 ∧ z.9 = x.9 ∧ z.9 = x.9) ∧ (List.length z.10 = List.length x.10 ∧ List.length z.10 = List.length x.10) ∧ z.2 = x.2 ∧ z.5 = x.5) ∧ (z.2 = x.2 ∧ z.3 = x.3) ∧ (z.4 = x.4 ∧ z.5 = x.5 ∧ z.6 = x.6) ∧ z.7 = x.7 ∧ z.10 = x.10 :=
  ⟨x, ⟨h1, ⟨e⟩⟩, ⟨⟨rfl, rfl, rfl⟩, ⟨rfl, rfl⟩, rfl, rfl⟩, ⟨rfl, rfl⟩, ⟨rfl, rfl, rfl⟩, rfl, rfl⟩
theorem einv0 {L : Int} (hL : 1 ≤ L) : EInv L 0 0 L 0 0 L [] 0 0 [] :=
  ⟨rfl, rfl, fun z h => (by cases h), by omega, by omega, by omega, by omega, by omega, by omega, by omega, by omega, fun t h => (by cases h), .inl rfl, Nat.le_refl _, Nat.le_refl _⟩
theorem fl0 {R : List Int} {o w : Nat} {tk : Int} : ExT Nat fun y => y ≤ w ∧ (o + y = o ∧ w - y = w ∧ w - y = w) ∧ tk + sumT R o y = tk :=
  ⟨0, by dsimp only; rw [sumT_zero]; omega⟩
theorem us0 {u t : Int} (h : 0 ≤ t) : ExT Nat fun x => x ≤ 2 ∧ ((x : Int) = 0 ∧ inR .i64 (x : Int)) ∧ u + min (255 * (x : Int)) t = u ∧ u + min (255 * (x : Int)) t = u :=
  ⟨0, by dsimp only; rw [in_i64]; omega⟩
theorem us1 {P : Nat → Prop} (h : ∀ q, q ≤ 2 → P q) : ∀ q, q ≤ 2 → P q := h
theorem rg0 {g : Int} {G : List Int} : ExT Nat fun x => x ≤ G.length ∧ ((x : Int) = 0 ∧ inR .i64 (x : Int)) ∧ mxI g (List.take x G) = g :=
  ⟨0, Nat.zero_le _, ⟨rfl, by simp [in_i64]⟩, rfl⟩
theorem EInv.mx {L : Int} {k : Nat} {sp gr tk us gg : Int} {R : List Int} {o w : Nat} {G : List Int} (h : EInv L k sp gr tk us gg R o w G) : mxI gr (List.take G.length G) = gg := by
  rw [List.take_length]
  have h1 := mxI_ge gr G
  have h2 := mxI_le (B := gg) h.grgg fun t ht => (h.gs t ht).2
  have h3 := h.Lgr
  rcases h.last with e | e
  · omega
  · have := h1.2 _ e
    omega
theorem rgI {L : Int} {k : Nat} {sp gr tk us gg : Int} {R : List Int} {o w : Nat} {G : List Int} {P : Nat → Prop} (e : EInv L k sp gr tk us gg R o w G)
    (h : ∀ i, i ≤ G.length → (mxI gr (List.take i G) ≤ gg ∧ gr ≤ mxI gr (List.take i G)) → (i < G.length → 0 ≤ G.getD (0 + i * 1) 0 ∧ G.getD (0 + i * 1) 0 ≤ gg ∧ mxI gr (List.take (i + 1) G) = max (mxI gr (List.take i G)) (G.getD (0 + i * 1) 0)) → P i) : ∀ i, i ≤ G.length → P i :=
  fun i hi => h i hi ⟨mxI_le e.grgg fun t ht => (e.gs t (List.mem_of_mem_take ht)).2, (mxI_ge gr _).1⟩ fun hlt => by
    rw [Nat.mul_one, Nat.zero_add]
    exact ⟨(e.gs _ (getD_mem hlt)).1, (e.gs _ (getD_mem hlt)).2, mxI_succ hlt⟩
/-- when all has come, and is used -/
theorem EInv.all {L : Int} {k : Nat} {sp gr tk us gg : Int} {R : List Int} {o w : Nat} {G : List Int} (h : EInv L k sp gr tk us gg R o w G) : EInv L k sp gr sp sp gg R (o + w) (w - w) G := by
  obtain ⟨h1, h2, h3, h4, h5, h6, h7, h8, h9, h10, h11, h12, h13, h14, h15⟩ := h
  exact ⟨by omega, by rw [Nat.sub_self, sumT_zero]; omega, h3, by omega, by omega, by omega, by omega, by omega, by omega, by omega, by omega, h12, h13, h14, h15⟩
theorem gtD_of {us L gg : Int} (h : gtD us L gg = true) : max (L / 2) 1 ≤ us + L - gg := of_decide_eq_true h
theorem gtD_not {us L gg : Int} (h : gtD us L gg = false) : ¬ max (L / 2) 1 ≤ us + L - gg := of_decide_eq_false h
end Go.Proofs.Ytacfalpoimjemaa.Cr
