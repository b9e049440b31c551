/- seq: SeqSpans holds. By an AI agent. -/
import Derived.Test.YtghhdjhobidbcaaSqS
namespace Go.Proofs.Ytghhdjhobidbcaa.Sq
open Go Go.RowKit Go.Proofs.Ytghhdjhobidbcaa.Abs Go.Proofs.Ytghhdjhobidbcaa.M
set_option linter.unusedVariables false
set_option linter.unusedSimpArgs false

theorem ex_next {p : Nat → Prop} {k : Nat} {f z : Int} (h : z = (f + (k : Int) + 1) % 4294967296) (hp : p (k + 1)) : ExT Nat p := ⟨_, hp⟩
theorem missP_zero (p : Int → Bool) (f : Int) : missP p f 0 = [] := rfl
theorem isIn_nil : isIn [] = no := funext fun n => by simp [isIn, no]
theorem rmissT_z (f t : Int) (l : List Int) (m : Int) : rmissT (.z f) (.z t) (.zs l) (.z m) = (missP (isIn l) f (t - f).toNat).take m.toNat := rfl
theorem rtoldT_z (a m : Int) : rtoldT (.z a) (.z m) = toldI a m 32 := rfl
theorem has_same (x F U : Int) : (decide (x < U) != decide (x < U)) = false := by simp
theorem missP_len (p : Int → Bool) (f : Int) : ∀ k, (missP p f k).length ≤ k
  | 0 => Nat.le_refl _
  | k + 1 => by
    have := missP_len p f k
    simp only [missP, List.length_append]
    split <;> simp <;> omega
theorem told_sameN {N : Nat} {a m : Int} {k : Nat} (hN : N = 32) (hk : k ≤ N) (h : k = N ∨ 4294967295 ≤ a + k) : toldI a m N = toldI a m k := by
  subst hN; exact told_same hk h
theorem told_same_lenN {N : Nat} {a m : Int} {k : Nat} (hN : N = 32) (hk : k ≤ N) (h : k = N ∨ 4294967295 ≤ a + k) : (toldI a m N).length = (toldI a m k).length := by
  subst hN; exact told_same_len hk h
theorem mask_sameN {N : Nat} {p : Int → Bool} {a : Int} {k : Nat} (hN : N = 32) (hk : k ≤ N) (h : k = N ∨ 4294967295 ≤ a + k) : maskI p a N = maskI p a k := by
  subst hN; exact mask_same hk h
theorem inF {T : List Int} {z : Int} (h : ¬ z ∈ T) : isIn T z = false := by
  cases hb : isIn T z with
  | false => rfl
  | true => exact absurd (isIn_iff.1 hb) h
theorem mi_eqT {T l : List Int} {F : Int} {x : Nat} (h : ¬ F + (x : Int) ∈ T) (hl : l = missP (isIn T) F x ++ [F + (x : Int)]) : missP (isIn T) F (x + 1) = l := by rw [missP_in rfl (inF h), hl]
theorem mi_eqN {l : List Int} {F : Int} {x : Nat} (hl : l = missP no F x ++ [F + (x : Int)]) : missP no F (x + 1) = l := by rw [missP_in rfl rfl, hl]
theorem mo_eqT {T : List Int} {F : Int} {x : Nat} (h : F + (x : Int) ∈ T) : missP (isIn T) F (x + 1) = missP (isIn T) F x := missP_out rfl (isIn_iff.2 h)
theorem mi_lenT {T : List Int} {F : Int} {x : Nat} (h : ¬ F + (x : Int) ∈ T) : (missP (isIn T) F (x + 1)).length = (missP (isIn T) F x).length + 1 := by rw [missP_in rfl (inF h)]; simp
theorem mi_lenN {F : Int} {x : Nat} : (missP no F (x + 1)).length = (missP no F x).length + 1 := by rw [missP_in rfl rfl]; simp
theorem mo_lenT {T : List Int} {F : Int} {x : Nat} (h : F + (x : Int) ∈ T) : (missP (isIn T) F (x + 1)).length = (missP (isIn T) F x).length := by rw [mo_eqT h]
theorem mi_leT {T : List Int} {F : Int} {x M : Nat} (hM : M = 50) (h : ¬ F + (x : Int) ∈ T) (h2 : ¬ (50 : Int) ≤ ((missP (isIn T) F x).length : Int)) : (missP (isIn T) F (x + 1)).length ≤ M := by rw [mi_lenT h]; omega
theorem mi_leN {F : Int} {x M : Nat} (hM : M = 50) (h2 : ¬ (50 : Int) ≤ ((missP no F x).length : Int)) : (missP no F (x + 1)).length ≤ M := by rw [mi_lenN]; omega
theorem mo_leT {T : List Int} {F : Int} {x M C : Nat} (h : F + (x : Int) ∈ T) (h2 : x ≤ C ∧ (missP (isIn T) F x).length ≤ M) : (missP (isIn T) F (x + 1)).length ≤ M := by rw [mo_lenT h]; exact h2.2
theorem full50 {p : Int → Bool} {F : Int} {x M C : Nat} (hM : M = 50) (h : x ≤ C ∧ (missP p F x).length ≤ M) (h2 : (50 : Int) ≤ ((missP p F x).length : Int)) : List.take M (missP p F C) = missP p F x := missP_full h.1 (by omega)
theorem fullEnd {p : Int → Bool} {F U : Int} {x M C : Nat} (hC : C = (U - F).toNat) (h : x ≤ C ∧ (missP p F x).length ≤ M) (h2 : ¬ F + (x : Int) < U) : List.take M (missP p F C) = missP p F x := by
  obtain rfl : x = C := by omega
  exact missP_all h.2
theorem full50l {p : Int → Bool} {F : Int} {x M C : Nat} (hM : M = 50) (h : x ≤ C ∧ (missP p F x).length ≤ M) (h2 : (50 : Int) ≤ ((missP p F x).length : Int)) : (List.take M (missP p F C)).length = (missP p F x).length := by rw [full50 hM h h2]
theorem fullEndl {p : Int → Bool} {F U : Int} {x M C : Nat} (hC : C = (U - F).toNat) (h : x ≤ C ∧ (missP p F x).length ≤ M) (h2 : ¬ F + (x : Int) < U) : (List.take M (missP p F C)).length = (missP p F x).length := by rw [fullEnd hC h h2]
theorem ne_take {X l : List Int} (hl : l = X) (h : ¬ X = List.take X.length l) : False := h (by rw [hl, List.take_length])
theorem ne_mask {N : Nat} {p : Int → Bool} {a z : Int} (hN : N = 32) (hz : z = maskI p a 32) (h : ¬ maskI p a N = z) : False := h (by rw [hz, hN])
theorem told_inN {N : Nat} (hN : N = 32) {a m z : Int} {k : Nat} {l : List Int} (ha : 0 ≤ a ∧ a ≤ 4294967295) (hk : k ≤ N ∧ a + k ≤ 4294967295) (hk2 : (k : Int) < 32) (hz : z = (a + k + 1) % 4294967296) (h0 : ¬ z = 0) (hb : ((m.toNat &&& ((1 : Int) * (2 : Int) ^ k % 4294967296).toNat : Nat) : Int) ≠ 0) (hl : l = toldI a m k ++ [z]) : toldI a m (k + 1) = l := by
  subst hN; rw [told_in ha hk hk2 hz h0 hb, hl]
theorem told_inl {N : Nat} (hN : N = 32) {a m z : Int} {k : Nat} (ha : 0 ≤ a ∧ a ≤ 4294967295) (hk : k ≤ N ∧ a + k ≤ 4294967295) (hk2 : (k : Int) < 32) (hz : z = (a + k + 1) % 4294967296) (h0 : ¬ z = 0) (hb : ((m.toNat &&& ((1 : Int) * (2 : Int) ^ k % 4294967296).toNat : Nat) : Int) ≠ 0) : (toldI a m (k + 1)).length = (toldI a m k).length + 1 := by
  subst hN; rw [told_in ha hk hk2 hz h0 hb]; simp
theorem told_outl {a m : Int} {k : Nat} (hk2 : (k : Int) < 32) (hb : ¬ ((m.toNat &&& ((1 : Int) * (2 : Int) ^ k % 4294967296).toNat : Nat) : Int) ≠ 0) : (toldI a m (k + 1)).length = (toldI a m k).length := by rw [told_out hk2 hb]
theorem mask_inT {N : Nat} (hN : N = 32) {T : List Int} {a z v : Int} {k : Nat} (ha : 0 ≤ a ∧ a ≤ 4294967295) (hk : k ≤ N ∧ a + k ≤ 4294967295) (hk2 : (k : Int) < 32) (hz : z = (a + k + 1) % 4294967296) (h0 : ¬ z = 0) (hb : z ∈ T) (hv : v = ((Int.toNat (maskI (isIn T) a k) ||| ((1 : Int) * (2 : Int) ^ k % 4294967296).toNat : Nat) : Int)) : maskI (isIn T) a (k + 1) = v := by
  subst hN; rw [mask_in ha hk hk2 hz h0 (isIn_iff.2 hb), hv]
theorem mask_outT {N : Nat} (hN : N = 32) {T : List Int} {a z : Int} {k : Nat} (ha : 0 ≤ a ∧ a ≤ 4294967295) (hk : k ≤ N ∧ a + k ≤ 4294967295) (hz : z = (a + k + 1) % 4294967296) (h0 : ¬ z = 0) (hb : ¬ z ∈ T) : maskI (isIn T) a (k + 1) = maskI (isIn T) a k := by
  subst hN; exact mask_out ha hk hz h0 fun hh => hb (isIn_iff.1 hh)
theorem le_len {X l : List Int} (h : l = X) : X.length ≤ l.length := by rw [h]; exact Nat.le_refl _
theorem spaHooks_ok {w0 : World} {RO : PT AObj} : HooksOk Try.prog w0 RO (spaHooks RO) := hkAdd_ok (trueH_ok ⟨_, rfl, rfl, by kernel_rfl⟩ fun w _ => wakes_any w) (hkAdd_ok conH_ok (hkAdd_ok equH_ok (hkAdd_ok rmissH_ok (hkAdd_ok rtoldH_ok (hkAdd_ok rmaskH_ok hkNone_ok)))))
set_option maxHeartbeats 8000000 in
theorem spafS_ok {M N C cap : Nat} {L T : List Int} {F U a m : Int} (hM : M = 50) (hN : N = 32) (hC : C = (U - F).toNat) (hTT : T = L.take 30) (hL : L.length ≤ 9223372036854775807) (hc : L.length ≤ cap) (hF : 0 ≤ F ∧ F ≤ 4294967295) (hU : 0 ≤ U ∧ U ≤ 4294967295) (ha : 0 ≤ a ∧ a ≤ 4294967295) (hm : 0 ≤ m ∧ m ≤ 4294967295) : spafS M N L T cap C F U a m := by
  unfold spafS
  refine ⟨hL, fun z hz => ?_⟩
  have hz1 : (z.toNat - 0) = min 30 L.length := by omega
  have eT : List.take (Int.toNat z - 0) L = T := by rw [hz1, ← List.take_eq_take_min, hTT]
  have eN : T.length = z.toNat - 0 := by rw [hTT, List.length_take]; omega
  have hT := told_len a m N
  have r1 : rmissT (.z F) (.z U) (.zs T) (.z 50) = (missP (isIn T) F C).take M := by rw [rmissT_z, hC, hM]; rfl
  have r2 : rmissT (.z F) (.z U) (.zs []) (.z 50) = (missP no F C).take M := by rw [rmissT_z, hC, hM, isIn_nil]; rfl
  have r3 : rtoldT (.z a) (.z m) = toldI a m N := by rw [rtoldT_z, hN]
  simp only [Int.toNat_natCast, Atom.zsOf, Atom.zOf, List.drop_zero, eT, r1, r2, r3, List.take_length, takeOne, List.length_cons, List.length_nil, Nat.zero_add, Nat.mul_one]
  clear r1 r2 r3
  have hA : (List.take M (missP (isIn T) F C)).length ≤ 50 := by rw [List.length_take]; omega
  have hB : (List.take M (missP no F C)).length ≤ 50 := by rw [List.length_take]; omega
  repeat' (first
    | (with_reducible refine And.intro ?_ ?_)
    | (intro (h : false = true); cases h)
    | (intro (h : true = false); cases h)
    | (intro h; first | (replace h := of_decide_eq_true h) | (replace h := of_decide_eq_false h) | skip)
    | (with_reducible exact trivial)
    | (with_reducible rfl)
    | (with_reducible exact ⟨(), trivial, trivial, trivial, trivial⟩)
    | (with_reducible refine told_sameN hN ?_ ?_)
    | (with_reducible refine told_same_lenN hN ?_ ?_)
    | (with_reducible refine mask_sameN hN ?_ ?_)
    | (with_reducible exact (mask_bound _ _ _).1)
    | (with_reducible exact Nat.le_trans (told_len _ _ _) (by omega))
    | (with_reducible refine ex_next h ?_)
    | (with_reducible refine ex_succ h ?_)
    | (with_reducible refine ex_zero ?_)
    | (with_reducible exact told_zero _ _)
    | (with_reducible exact told_zero_len _ _)
    | (with_reducible exact mask_zero _ _)
    | (with_reducible exact missP_zero _ _)
    | (with_reducible exact congrArg List.length (missP_zero _ _))
    | (with_reducible exact Nat.zero_le _)
    | (with_reducible exact mi_eqT (by assumption) (by assumption))
    | (with_reducible exact mi_eqN (by assumption))
    | (with_reducible exact mo_eqT (by assumption))
    | (with_reducible exact mi_lenT (by assumption))
    | (with_reducible exact mi_lenN)
    | (with_reducible exact mo_lenT (by assumption))
    | (with_reducible exact mi_leT hM (by assumption) (by assumption))
    | (with_reducible exact mi_leN hM (by assumption))
    | (with_reducible exact mo_leT (by assumption) (by assumption))
    | (with_reducible exact full50 hM (by assumption) (by assumption))
    | (with_reducible exact fullEnd hC (by assumption) (by assumption))
    | (with_reducible exact full50l hM (by assumption) (by assumption))
    | (with_reducible exact fullEndl hC (by assumption) (by assumption))
    | (with_reducible exact le_len h)
    | (with_reducible exact ne_take (by assumption) h)
    | (with_reducible exact ne_mask hN (by assumption) h)
    | (with_reducible exact told_inN hN ha (by assumption) (by assumption) (by assumption) (by assumption) (by assumption) (by assumption))
    | (with_reducible exact told_inl hN ha (by assumption) (by assumption) (by assumption) (by assumption) (by assumption))
    | (with_reducible exact told_outl (by assumption) (by assumption))
    | (with_reducible exact told_out (by assumption) (by assumption))
    | (with_reducible exact mask_inT hN ha (by assumption) (by assumption) (by assumption) (by assumption) (by assumption) (by assumption))
    | (with_reducible exact mask_outT hN ha (by assumption) (by assumption) (by assumption) (by assumption))
    | (simp only [mask_zero, in_u32]; omega)
    | (simp only [missP_zero, List.length_nil, Nat.zero_le]; done)
    | (subst h; simp only [List.take_length]; omega)
    | omega
    | (with_reducible refine decide_eq_true ?_; omega)
    | (with_reducible refine decide_eq_false ?_; omega)
    | (simp only [in_u8, in_u16, in_u32, in_u64, in_i64, Nat.le_eq]; omega)
    | (exfalso; omega))
  · rw [has_same _ F U] at h; cases h
  · rename_i x h1 h2 h3 h4 h5 h6
    have := told_len a m x
    omega
theorem capLe {φ : Phi} {a : Nat × Nat} {n c z : Nat} {ex : Bool} {u : Value} (h : VRel φ (.sslice a n c ex z) u) : n ≤ c := by
  cases h with
  | sslice => assumption
  | snil => exact Nat.le_refl _
  | semp => exact Nat.zero_le _
theorem spans_law (W : World) (v0 v1 v2 : Value) (w0 : Open.InTwo v0) (w1 : Open.InInts W v1) (w2 : Open.InTwo v2) : Calls Try.prog SPANS #[v0, v1, v2] W fun e w' => e = .returned (.bool true) ∧ Below W.heap.size W w' := by
  obtain ⟨F, U, rfl, hF, hU⟩ := w0
  obtain ⟨L, hv, hL⟩ := w1
  obtain ⟨a, m, rfl, ha, hm⟩ := w2
  have two : ∀ (i : Nat) (x y : Nat), x < 4294967296 → y < 4294967296 → InBs W i [.int .u32, .int .u32] [.z (x : Int), .z (y : Int)] [.int .u32 (x : Int), .int .u32 (y : Int)] := fun i x y hx hy =>
    .cons _ _ _ _ _ _ _ (inB_int (by rw [in_u32]; omega)) (.cons _ _ _ _ _ _ _ (inB_int (by rw [in_u32]; omega)) (.nil _))
  have hin : InAs W 0 [.agg [.int .u32, .int .u32], .one (.ints .u32), .agg [.int .u32, .int .u32]] ([.z (F : Int), .z (U : Int)] ++ (.zs L :: ([.z (a : Int), .z (m : Int)] ++ []))) [.agg #[.int .u32 (F : Int), .int .u32 (U : Int)], v1, .agg #[.int .u32 (a : Int), .int .u32 (m : Int)]] :=
    .agg _ _ _ _ _ _ _ (two 0 F U hF hU) (.one _ _ _ _ _ _ _ (inB_ints hv hL) (.agg _ _ _ _ _ _ _ (two _ a m ha hm) (.nil _)))
  refine law_run (t := U32) (by decide) hin fun caps φs h hf hro hus => ?_
  have hc : L.length ≤ caps 2 := by
    have hus' := hus
    cases hus' with
    | cons _ _ _ _ e1 e2 => cases e2 with
      | cons _ _ _ _ e3 e4 => exact capLe e3
  exact nest_run follows named spaHooks_ok (rolow_of rfl) ((spaf_eq 50 32 L (L.take 30) (caps 2) ((U : Int) - (F : Int)).toNat (F : Int) (U : Int) (a : Int) (m : Int)).mpr (spaf_of _ _ _ _ _ _ _ _ _ _ (spafS_ok rfl rfl rfl rfl hL hc (by omega) (by omega) (by omega) (by omega)))) hf hro hus
end Go.Proofs.Ytghhdjhobidbcaa.Sq
