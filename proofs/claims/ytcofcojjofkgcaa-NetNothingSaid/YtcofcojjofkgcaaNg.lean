/- net: NetNothing, walked. By an AI agent. -/
import Derived.Test.YtcofcojjofkgcaaNm
import Derived.Test.YtcofcojjofkgcaaNn1
namespace Go.Proofs.Ytcofcojjofkgcaa.Nn
open Go Go.RowKit Go.Proofs.Ytcofcojjofkgcaa.Abs Go.Proofs.Ytcofcojjofkgcaa.M
set_option linter.unusedVariables false
set_option linter.unusedSimpArgs false
theorem elL {α : Type} {a : List α} {P : List α → Prop} (h : P a) : ∀ x, x = a → P x := fun x e => e ▸ h
theorem bne_t {p q : Prop} [Decidable p] [Decidable q] (h : (decide p != decide q) = true) : ¬ (p ↔ q) := fun e => by
  rw [show decide p = decide q by simp [e]] at h
  simp at h
theorem bne_f {p q : Prop} [Decidable p] [Decidable q] (h : (decide p != decide q) = false) : p ↔ q := by
  have h2 : decide p = decide q := by simpa using h
  exact decide_eq_decide.1 h2
theorem bne_tf {p : Prop} [Decidable p] (h : (decide p != false) = true) : p := by simpa using h
theorem bne_ff {p : Prop} [Decidable p] (h : (decide p != false) = false) : ¬ p := by simpa using h
theorem row2 {w : UInt8} {s : Int} {k c : Nat} {L : List (List UInt8)} {a b : List Int} (h : InvW w s k c L a b) {q : Nat} (hq : q < L.length) : (List.getD (List.take L.length L) (0 + q) []).length = 4 := by
  rw [List.take_length, Nat.zero_add]; exact h.len4 hq
theorem ns_end {n : Nat} {x : NS} {zk s z0 z1 : Int} {L0 L1 : List (List UInt8)} {a0 b0 a1 b1 : List Int} {c0 c1 m0 m1 p0 p1 : Nat} (hI : Inv n ⟨x.1 + 1, s, L0, L1, a0, b0, a1, b1, c0, c1⟩) (hn : n - (x.1 + 1) < n - x.1) (hk : ((x.1 + 1 : Nat) : Int) = zk)
    (h0 : L0.length = m0) (h1 : L1.length = m1) (g0 : L0.length = p0) (g1 : L1.length = p1) (e0 : (L0.length : Int) = z0) (e1 : (L1.length : Int) = z1) :
    ExT NS fun y => (n - y.1 < n - x.1 ∧ Inv n y) ∧ ((y.1 : Int) = zk ∧ y.2 = s) ∧ ((y.3.length = m0 ∧ y.9 = c0) ∧ y.4.length = m1 ∧ y.10 = c1) ∧ (y.3.length = p0 ∧ y.3 = L0) ∧ (y.4.length = p1 ∧ y.4 = L1) ∧ (y.5 = a0 ∧ y.6 = b0) ∧ (y.7 = a1 ∧ y.8 = b1) ∧ (y.3.length : Int) = z0 ∧ (y.4.length : Int) = z1 :=
  ⟨⟨x.1 + 1, s, L0, L1, a0, b0, a1, b1, c0, c1⟩, ⟨hn, hI⟩, ⟨hk, rfl⟩, ⟨⟨h0, rfl⟩, h1, rfl⟩, ⟨g0, rfl⟩, ⟨g1, rfl⟩, ⟨rfl, rfl⟩, ⟨rfl, rfl⟩, e0, e1⟩
theorem in_256 (b : UInt8) : inR .i64 ((b.toNat : Int) * 256) := by
  have := b.toNat_lt
  exact ⟨by show (-9223372036854775808 : Int) ≤ _; omega, by show _ ≤ (9223372036854775807 : Int); omega⟩
set_option maxHeartbeats 40000000 in
set_option maxRecDepth 100000 in
theorem nn_ok {Q A : List Int} {D : List Bool} {n c : Nat} {ty : TypeId} (hn : n ≤ 9223372036854775807) (hc : n ≤ c) (hA0 : ∀ x, 0 ≤ gA A x ∧ gA A x ≤ 255) : nn Q A D n c ty := by
  refine nn_of _ _ _ _ _ _ ?_
  unfold nnS
  refine ⟨hn, ?_, fun x hx hlt => ?_⟩
  · refine ⟨⟨0, 0, [], [], [], [], [], [], 0, 0⟩, Inv.start n, ?_⟩
    simp [in_i64]
  have hA := hA0 x
  have k2 := hx.k2
  have sk := hx.sk
  have s0 := hx.s0
  have l0 := hx.i0.len
  have l1 := hx.i1.len
  have c0 := hx.i0.cap
  have c1 := hx.i1.cap
  refine ⟨by omega, by omega, fun hk => ⟨fun hD => ?_, fun hD => ?_⟩⟩
  · refine ⟨fun q0 => ?_, fun q0 => ⟨fun q1 => ?_, fun q1 => ⟨fun q2 => ?_, fun q2 => ⟨fun q3 => ?_, fun q3 => ⟨fun q4 => ?_, fun q4 => ⟨fun q5 => ?_, fun q5 => ?_⟩⟩⟩⟩⟩⟩
    have hs := sN_facts x.L1.length l1
    rotate_left
    have hs := sN_facts x.L1.length l1
    rotate_left
    have hs := delB_facts hx.i1 hA.1
    rw [show UInt8.toNat 1 = 1 from rfl] at hs
    have hd := del_facts x.L1 (gA A x) hA.1
    rotate_left
    have hs := delB_facts hx.i1 hA.1
    rw [show UInt8.toNat 1 = 1 from rfl] at hs
    have hd := del_facts x.L1 (gA A x) hA.1
    rotate_left
    have hd := dbl_facts x.L1 (gA A x) x.c1 hA.1
    rotate_left
    have hd := fl_facts hx.i1 hA.1
    rotate_left
    rotate_left
    repeat' (first
      | (with_reducible refine And.intro ?_ ?_)
      | (with_reducible refine ns_end ?_ ?_ ?_ ?_ ?_ ?_ ?_ ?_ ?_)
      | (refine elL ?_)
      | (intro (z : Int) hz; first | (rw [id_eq] at hz) | skip)
      | (intro (q : Nat) hq)
      | (intro hp; first | (replace hp := bne_t hp) | (replace hp := bne_f hp) | (replace hp := bne_tf hp) | (replace hp := bne_ff hp) | skip)
      | (with_reducible exact trivial)
      | (with_reducible rfl)
      | (refine ⟨q + 1, ?_⟩; dsimp only)
      | (refine ⟨0, ?_⟩; dsimp only)
      | (exact ⟨(), trivial, trivial, trivial, trivial⟩)
      | omega
      | (simp only [in_i64]; omega)
      | (exact hx.send0 (by omega) (by omega) (by assumption) (by assumption))
      | (exact hx.send1 (by omega) (by omega) (by assumption) (by assumption))
      | (exact hx.del0 (by omega) (by omega) hA.1 (by omega) (by assumption) (by assumption))
      | (exact hx.del1 (by omega) (by omega) hA.1 (by omega) (by assumption) (by assumption))
      | (exact hx.delN0 (by omega) (by omega) (by omega))
      | (exact hx.delN1 (by omega) (by omega) (by omega))
      | (exact hx.dbl0 (by omega) (by omega) hA.1 (by omega) (by omega) rfl (by assumption))
      | (exact hx.dbl1 (by omega) (by omega) hA.1 (by omega) (by omega) rfl (by assumption))
      | (exact hx.dblN0 (by omega) (by omega) (by omega))
      | (exact hx.dblN1 (by omega) (by omega) (by omega))
      | (exact hx.fl0 (by omega) (by omega) hA.1)
      | (exact hx.fl1 (by omega) (by omega) hA.1)
      | (exact hx.same (by omega) (by omega))
      | (exact in_add (hx.i0.bnd2 hx.k2 _))
      | (exact in_add (hx.i1.bnd2 hx.k2 _))
      | (exact in_sub (hx.i0.bnd2 hx.k2 _))
      | (exact in_sub (hx.i1.bnd2 hx.k2 _))
      | (exact hx.i0.ab)
      | (exact hx.i1.ab)
      | (exact send_lost (by omega) (by omega) (by omega) (by omega) (by omega))
      | (exact send_put (by omega))
      | (exact del_some hA.1 (by omega) (by omega) (by omega) (by omega) (by omega))
      | (exact del_none (by omega))
      | (exact delB_some hA.1 (by omega) (by omega))
      | (exact delB_none (by omega))
      | (exact dbl_some hA.1 (by omega) (by omega) (by omega))
      | (exact dbl_none (by omega))
      | (exact fl_some hx.i0 hA.1 (by omega) (by omega) _ rfl)
      | (exact fl_some hx.i1 hA.1 (by omega) (by omega) _ rfl)
      | (exact fl_none (by omega))
      | (exact idAt_hit (q2 := 0 + q) (by omega) (by omega) (by assumption))
      | (congr 1; omega)
      | (rw [idAt_ge (by omega)]; simp [in_i64]; done)
      | (exact in_256 _)
      | (rw [List.length_set]; omega)
      | (rw [send_len]; omega)
      | (exact send_len _ _)
      | (exact idAt_miss (by omega))
      | (exact idAt_ge (by omega))
      | (exact cut_len (by omega) (by omega) (by omega))
      | (rw [cut_len (by omega) (by omega) (by omega)]; omega)
      | (have h4 := hx.i0.le4 (0 + Int.toNat (gA A x)); have h5 := hx.i0.le4 0; omega)
      | (have h4 := hx.i1.le4 (0 + Int.toNat (gA A x)); have h5 := hx.i1.le4 0; omega)
      | (have h4 := row2 hx.i0 (q := q) (by omega); omega)
      | (have h4 := row2 hx.i1 (q := q) (by omega); omega)
      | (have h9 := and_254 (show (List.getD (delB x.L0 (gA A x)) 3 0).toNat ≤ 1 by omega); omega)
      | (have h9 := and_254 (show (List.getD (delB x.L1 (gA A x)) 3 0).toNat ≤ 1 by omega); omega)
      | (exact absurd hp (Int.not_lt.2 (put_low hx.i0 (t := gA A x) (by omega) (by assumption) (by assumption))))
      | (exact absurd hp (Int.not_lt.2 (put_low hx.i1 (t := gA A x) (by omega) (by assumption) (by assumption))))
      | (rw [delB_some (i := 0 + Int.toNat (gA A x)) hA.1 (by omega) (by omega)]; done)
      | (exfalso; have h4 := hx.i0.len4 (i := 0 + Int.toNat (gA A x)) (by omega); omega)
      | (exfalso; have h4 := hx.i1.len4 (i := 0 + Int.toNat (gA A x)) (by omega); omega)
      | (exfalso; omega))
  · refine ⟨fun q0 => ?_, fun q0 => ⟨fun q1 => ?_, fun q1 => ⟨fun q2 => ?_, fun q2 => ⟨fun q3 => ?_, fun q3 => ⟨fun q4 => ?_, fun q4 => ⟨fun q5 => ?_, fun q5 => ?_⟩⟩⟩⟩⟩⟩
    have hs := sN_facts x.L0.length l0
    rotate_left
    have hs := sN_facts x.L0.length l0
    rotate_left
    have hs := delB_facts hx.i0 hA.1
    rw [show UInt8.toNat 0 = 0 from rfl] at hs
    have hd := del_facts x.L0 (gA A x) hA.1
    rotate_left
    have hs := delB_facts hx.i0 hA.1
    rw [show UInt8.toNat 0 = 0 from rfl] at hs
    have hd := del_facts x.L0 (gA A x) hA.1
    rotate_left
    have hd := dbl_facts x.L0 (gA A x) x.c0 hA.1
    rotate_left
    have hd := fl_facts hx.i0 hA.1
    rotate_left
    rotate_left
    repeat' (first
      | (with_reducible refine And.intro ?_ ?_)
      | (with_reducible refine ns_end ?_ ?_ ?_ ?_ ?_ ?_ ?_ ?_ ?_)
      | (refine elL ?_)
      | (intro (z : Int) hz; first | (rw [id_eq] at hz) | skip)
      | (intro (q : Nat) hq)
      | (intro hp; first | (replace hp := bne_t hp) | (replace hp := bne_f hp) | (replace hp := bne_tf hp) | (replace hp := bne_ff hp) | skip)
      | (with_reducible exact trivial)
      | (with_reducible rfl)
      | (refine ⟨q + 1, ?_⟩; dsimp only)
      | (refine ⟨0, ?_⟩; dsimp only)
      | (exact ⟨(), trivial, trivial, trivial, trivial⟩)
      | omega
      | (simp only [in_i64]; omega)
      | (exact hx.send0 (by omega) (by omega) (by assumption) (by assumption))
      | (exact hx.send1 (by omega) (by omega) (by assumption) (by assumption))
      | (exact hx.del0 (by omega) (by omega) hA.1 (by omega) (by assumption) (by assumption))
      | (exact hx.del1 (by omega) (by omega) hA.1 (by omega) (by assumption) (by assumption))
      | (exact hx.delN0 (by omega) (by omega) (by omega))
      | (exact hx.delN1 (by omega) (by omega) (by omega))
      | (exact hx.dbl0 (by omega) (by omega) hA.1 (by omega) (by omega) rfl (by assumption))
      | (exact hx.dbl1 (by omega) (by omega) hA.1 (by omega) (by omega) rfl (by assumption))
      | (exact hx.dblN0 (by omega) (by omega) (by omega))
      | (exact hx.dblN1 (by omega) (by omega) (by omega))
      | (exact hx.fl0 (by omega) (by omega) hA.1)
      | (exact hx.fl1 (by omega) (by omega) hA.1)
      | (exact hx.same (by omega) (by omega))
      | (exact in_add (hx.i0.bnd2 hx.k2 _))
      | (exact in_add (hx.i1.bnd2 hx.k2 _))
      | (exact in_sub (hx.i0.bnd2 hx.k2 _))
      | (exact in_sub (hx.i1.bnd2 hx.k2 _))
      | (exact hx.i0.ab)
      | (exact hx.i1.ab)
      | (exact send_lost (by omega) (by omega) (by omega) (by omega) (by omega))
      | (exact send_put (by omega))
      | (exact del_some hA.1 (by omega) (by omega) (by omega) (by omega) (by omega))
      | (exact del_none (by omega))
      | (exact delB_some hA.1 (by omega) (by omega))
      | (exact delB_none (by omega))
      | (exact dbl_some hA.1 (by omega) (by omega) (by omega))
      | (exact dbl_none (by omega))
      | (exact fl_some hx.i0 hA.1 (by omega) (by omega) _ rfl)
      | (exact fl_some hx.i1 hA.1 (by omega) (by omega) _ rfl)
      | (exact fl_none (by omega))
      | (exact idAt_hit (q2 := 0 + q) (by omega) (by omega) (by assumption))
      | (congr 1; omega)
      | (rw [idAt_ge (by omega)]; simp [in_i64]; done)
      | (exact in_256 _)
      | (rw [List.length_set]; omega)
      | (rw [send_len]; omega)
      | (exact send_len _ _)
      | (exact idAt_miss (by omega))
      | (exact idAt_ge (by omega))
      | (exact cut_len (by omega) (by omega) (by omega))
      | (rw [cut_len (by omega) (by omega) (by omega)]; omega)
      | (have h4 := hx.i0.le4 (0 + Int.toNat (gA A x)); have h5 := hx.i0.le4 0; omega)
      | (have h4 := hx.i1.le4 (0 + Int.toNat (gA A x)); have h5 := hx.i1.le4 0; omega)
      | (have h4 := row2 hx.i0 (q := q) (by omega); omega)
      | (have h4 := row2 hx.i1 (q := q) (by omega); omega)
      | (have h9 := and_254 (show (List.getD (delB x.L0 (gA A x)) 3 0).toNat ≤ 1 by omega); omega)
      | (have h9 := and_254 (show (List.getD (delB x.L1 (gA A x)) 3 0).toNat ≤ 1 by omega); omega)
      | (exact absurd hp (Int.not_lt.2 (put_low hx.i0 (t := gA A x) (by omega) (by assumption) (by assumption))))
      | (exact absurd hp (Int.not_lt.2 (put_low hx.i1 (t := gA A x) (by omega) (by assumption) (by assumption))))
      | (rw [delB_some (i := 0 + Int.toNat (gA A x)) hA.1 (by omega) (by omega)]; done)
      | (exfalso; have h4 := hx.i0.len4 (i := 0 + Int.toNat (gA A x)) (by omega); omega)
      | (exfalso; have h4 := hx.i1.len4 (i := 0 + Int.toNat (gA A x)) (by omega); omega)
      | (exfalso; omega))
end Go.Proofs.Ytcofcojjofkgcaa.Nn
