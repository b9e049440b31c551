/- net: what is always so of a way stays so: plain mathematics. By an AI agent. -/
import Derived.Test.YtcofcojjofkgcaaNn0
namespace Go.Proofs.Ytcofcojjofkgcaa.Nn
open Go.Proofs.Ytcofcojjofkgcaa.Abs
set_option linter.unusedVariables false
set_option linter.unusedSimpArgs false
theorem mget_put {a b : List Int} {q v : Int} (hl : b.length = a.length) (q' : Int) : mget (mkeys a q) q' (mput a q b v) 0 = if q' = q then v else mget a q' b 0 := by
  unfold mget mkeys mput
  by_cases h : q ∈ a
  · rw [if_pos h, if_pos h]
    have hi := List.idxOf_lt_length_iff.2 h
    by_cases hq : q' = q
    · subst hq
      rw [if_pos h, if_pos rfl, List.getD_eq_getElem?_getD, List.getElem?_set_self (by omega)]; rfl
    · rw [if_neg hq]
      by_cases h2 : q' ∈ a
      · rw [if_pos h2, if_pos h2]
        have hne : a.idxOf q ≠ a.idxOf q' := fun e => hq (by
          have h3 := List.idxOf_lt_length_iff.2 h2
          have e1 : a[a.idxOf q'] = q' := List.getElem_idxOf h3
          have e2 : a[a.idxOf q] = q := List.getElem_idxOf hi
          rw [← e1, ← e2]; congr 1; exact e.symm)
        rw [List.getD_eq_getElem?_getD, List.getElem?_set_ne hne, ← List.getD_eq_getElem?_getD]
      · rw [if_neg h2, if_neg h2]
  · rw [if_neg h, if_neg h]
    by_cases hq : q' = q
    · subst hq
      rw [if_pos (by simp), if_pos rfl, List.idxOf_append, if_neg h]
      simp [← hl]
    · rw [if_neg hq]
      by_cases h2 : q' ∈ a
      · have h3 := List.idxOf_lt_length_iff.2 h2
        rw [if_pos (by simp [h2]), if_pos h2, List.idxOf_append, if_pos h2, List.getD_eq_getElem?_getD, List.getElem?_append_left (by omega), ← List.getD_eq_getElem?_getD]
      · rw [if_neg (by simp [h2, hq]), if_neg h2]
theorem len_put {a b : List Int} {q v : Int} (hl : b.length = a.length) : (mput a q b v).length = (mkeys a q).length := by
  unfold mkeys mput
  split <;> simp [hl]
theorem InvW.bnd {w : UInt8} {s : Int} {k c : Nat} {L : List (List UInt8)} {a b : List Int} (h : InvW w s k c L a b) (q : Int) : 0 ≤ mget a q b 0 ∧ mget a q b 0 ≤ k := ⟨by have := h.cnt q; omega, h.top q⟩
theorem InvW.mono {w : UInt8} {s s' : Int} {k k' c : Nat} {L : List (List UInt8)} {a b : List Int} (h : InvW w s k c L a b) (hs : s ≤ s') (hk : k ≤ k') : InvW w s' k' c L a b :=
  ⟨h.cap, h.len, h.ab, fun r hr => by obtain ⟨i, f, e, h1, h2⟩ := h.row r hr; exact ⟨i, f, e, by omega, h2⟩, h.cnt, fun q => by have := h.top q; omega⟩
theorem rowId_of (w i f : UInt8) : rowId [w, 0, i, f] = (i.toNat : Int) := by simp [rowId]
theorem rowZ_is {w : Nat} {z : Int} (h0 : 0 ≤ z) (h1 : z ≤ 200) : rowZ w z = [UInt8.ofNat w, 0, UInt8.ofNat z.toNat, 0] := by
  unfold rowZ
  rw [show (z / 256 % 256 : Int) = 0 by omega, show (z % 256 : Int) = z by omega]; rfl
theorem u8_small {z : Int} (h0 : 0 ≤ z) (h1 : z ≤ 200) : ((UInt8.ofNat z.toNat).toNat : Int) = z := by
  rw [UInt8.toNat_ofNat', Nat.mod_eq_of_lt (by omega)]; omega
/-- a row in its parts -/
theorem split_at {α : Type} {L : List α} {i : Nat} (d : α) (h : i < L.length) : L = L.take i ++ L.getD i d :: L.drop (i + 1) := by
  have h1 : L.getD i d = L[i] := by rw [List.getD_eq_getElem?_getD, List.getElem?_eq_getElem h]; rfl
  rw [h1, ← List.drop_eq_getElem_cons h, List.take_append_drop]
theorem mem_at {α : Type} {L : List α} {i : Nat} (d : α) (h : i < L.length) : L.getD i d ∈ L := by
  rw [List.getD_eq_getElem?_getD, List.getElem?_eq_getElem h]; exact List.getElem_mem h
theorem InvW.row_at {w : UInt8} {s : Int} {k c : Nat} {L : List (List UInt8)} {a b : List Int} (h : InvW w s k c L a b) {i : Nat} (hi : i < L.length) : ∃ (j f : UInt8), L.getD i [] = [w, 0, j, f] ∧ (j.toNat : Int) ≤ s ∧ f.toNat ≤ 1 := h.row _ (mem_at [] hi)
theorem InvW.one {w : UInt8} {s : Int} {k c : Nat} {L : List (List UInt8)} {a b : List Int} (h : InvW w s k c L a b) {i : Nat} (hi : i < L.length) : 1 ≤ mget a (rowId (L.getD i [])) b 0 := by
  have h1 := h.cnt (rowId (L.getD i []))
  have h2 : 0 < L.countP (fun r => rowId r == rowId (L.getD i [])) := List.countP_pos_iff.2 ⟨_, mem_at [] hi, by simp⟩
  omega
theorem inv_send {w : UInt8} {wn : Nat} {s z : Int} {k c : Nat} {L : List (List UInt8)} {a b : List Int} (h : InvW w s k c L a b) (hw : UInt8.ofNat wn = w) (hz : z = s + 1) (h0 : 0 ≤ s) (h1 : s + 1 ≤ 200) :
    InvW w z (k + 1) (sN L.length) (sendL L (rowZ wn z)) (mkeys a z) (mput a z b (mget a z b 0 + 1)) := by
  have hlen := h.len
  have hr := rowZ_is (w := wn) (z := z) (by omega) (by omega)
  rw [hw] at hr
  have hid : rowId (rowZ wn z) = z := by rw [hr, rowId_of, u8_small (by omega) (by omega)]
  refine ⟨by rw [send_len]; exact Nat.le_refl _, by rw [send_len]; unfold sN; split <;> omega, len_put h.ab, fun r hr' => ?_, fun q => ?_, fun q => ?_⟩
  · have hm : r ∈ L ∨ r = rowZ wn z := by
      unfold sendL at hr'
      split at hr'
      · rcases List.mem_append.1 hr' with h1 | h1
        · exact .inl (List.mem_of_mem_drop h1)
        · exact .inr (by simpa using h1)
      · rcases List.mem_append.1 hr' with h1 | h1
        · exact .inl h1
        · exact .inr (by simpa using h1)
    rcases hm with hm | rfl
    · obtain ⟨i, f, e, e1, e2⟩ := h.row r hm
      exact ⟨i, f, e, by omega, e2⟩
    · exact ⟨UInt8.ofNat z.toNat, 0, hr, by rw [u8_small (by omega) (by omega)]; omega, by decide⟩
  · have hc : (sendL L (rowZ wn z)).countP (fun r => rowId r == q) ≤ L.countP (fun r => rowId r == q) + if z = q then 1 else 0 := by
      have hone : ([rowZ wn z].countP fun r => rowId r == q) = if z = q then 1 else 0 := by
        rw [List.countP_cons, List.countP_nil, hid]
        by_cases e : z = q <;> simp [e]
      unfold sendL
      split
      · rw [List.countP_append, hone]
        have := (List.drop_sublist 1 L).countP_le (p := fun r => rowId r == q)
        omega
      · rw [List.countP_append, hone]; omega
    have hq := h.cnt q
    rw [mget_put h.ab]
    by_cases e : q = z
    · subst e; rw [if_pos rfl]; rw [if_pos rfl] at hc; omega
    · rw [if_neg e]; rw [if_neg (fun e2 => e e2.symm)] at hc; omega
  · rw [mget_put h.ab]
    have h2 := h.top q
    have h3 := h.top z
    split <;> omega
theorem inv_del {w : UInt8} {s t z : Int} {k c : Nat} {L : List (List UInt8)} {a b : List Int} (h : InvW w s k c L a b) (h0 : 0 ≤ t) (ht : t < (L.length : Int)) (hz : z = rowId (delB L t)) :
    InvW w s (k + 1) c (delL L t) (mkeys a z) (mput a z b (mget a z b 0 - 1)) := by
  have hi : t.toNat < L.length := by omega
  have hsub : (delL L t).Sublist L := by
    unfold delL
    rw [if_pos ⟨h0, ht⟩]
    conv => rhs; rw [split_at [] hi]
    exact List.Sublist.append_left (List.sublist_cons_self _ _) _
  rw [delB_some h0 ht rfl] at hz
  refine ⟨Nat.le_trans hsub.length_le h.cap, Nat.le_trans hsub.length_le h.len, len_put h.ab, fun r hr => h.row r (hsub.subset hr), fun q => ?_, fun q => ?_⟩
  · have hq := h.cnt q
    have hc : L.countP (fun r => rowId r == q) = (delL L t).countP (fun r => rowId r == q) + if z = q then 1 else 0 := by
      unfold delL
      rw [if_pos ⟨h0, ht⟩]
      conv => lhs; rw [split_at [] hi]
      rw [List.countP_append, List.countP_cons, List.countP_append, ← hz]
      by_cases e : z = q <;> simp [e] <;> omega
    rw [mget_put h.ab]
    by_cases e : q = z
    · subst e; rw [if_pos rfl]; rw [if_pos rfl] at hc; omega
    · rw [if_neg e]; rw [if_neg (fun e2 => e e2.symm)] at hc; omega
  · rw [mget_put h.ab]
    have h2 := h.top q
    have h3 := h.top z
    split <;> omega
theorem inv_dbl {w : UInt8} {s t z : Int} {k c : Nat} {L : List (List UInt8)} {a b : List Int} (h : InvW w s k c L a b) (h0 : 0 ≤ t) (ht : t < (L.length : Int)) (h6 : L.length < 64) (hz : z = rowId (L.getD t.toNat [])) :
    InvW w s (k + 1) (dblC L t c) (dblL L t) (mkeys a z) (mput a z b (mget a z b 0 + 1)) := by
  have hi : t.toNat < L.length := by omega
  have e1 : dblL L t = L ++ [L.getD t.toNat []] := dbl_some h0 ht (by omega) rfl
  have e2 : dblC L t c = L.length + 1 := if_pos ⟨⟨h0, ht⟩, h6⟩
  rw [e1, e2]
  refine ⟨by simp, by simp; omega, len_put h.ab, fun r hr => ?_, fun q => ?_, fun q => ?_⟩
  · rcases List.mem_append.1 hr with h1 | h1
    · exact h.row r h1
    · rw [show r = L.getD t.toNat [] by simpa using h1]; exact h.row _ (mem_at [] hi)
  · have hq := h.cnt q
    have hone : ([L.getD t.toNat []].countP fun r => rowId r == q) = if z = q then 1 else 0 := by
      rw [List.countP_cons, List.countP_nil, ← hz]
      by_cases e : z = q <;> simp [e]
    rw [mget_put h.ab, List.countP_append, hone]
    by_cases e : q = z
    · subst e; rw [if_pos rfl, if_pos rfl]; omega
    · rw [if_neg e, if_neg (fun e2 => e e2.symm)]; omega
  · rw [mget_put h.ab]
    have h2 := h.top q
    have h3 := h.top z
    split <;> omega
theorem flip24 (w j f : UInt8) : flipB [w, 0, j, f] 24 = [w, 0, j, UInt8.ofNat (f.toNat ^^^ 1)] := rfl
theorem fl_is {w : UInt8} {s t : Int} {k c : Nat} {L : List (List UInt8)} {a b : List Int} (h : InvW w s k c L a b) (h0 : 0 ≤ t) (ht : t < (L.length : Int)) : canF L t 24 := by
  obtain ⟨j, f, e, _⟩ := h.row_at (i := t.toNat) (by omega)
  refine ⟨⟨h0, ht⟩, by decide, ?_⟩
  rw [e]
  show (24 / 8 : Int) < ((4 : Nat) : Int)
  decide
theorem inv_fl {w : UInt8} {s t : Int} {k c : Nat} {L : List (List UInt8)} {a b : List Int} (h : InvW w s k c L a b) (h0 : 0 ≤ t) : InvW w s (k + 1) c (flL L t 24) a b := by
  by_cases ht : t < (L.length : Int)
  · have hc := fl_is h h0 ht
    have hi : t.toNat < L.length := by omega
    obtain ⟨j, f, e, e1, e2⟩ := h.row_at hi
    have hL : flL L t 24 = L.take t.toNat ++ [w, 0, j, UInt8.ofNat (f.toNat ^^^ 1)] :: L.drop (t.toNat + 1) := by
      unfold flL
      rw [if_pos hc, List.set_eq_take_append_cons_drop, if_pos hi, e, flip24]
    have hlen : (flL L t 24).length = L.length := by unfold flL; rw [if_pos hc, List.length_set]
    refine ⟨by rw [hlen]; exact h.cap, by rw [hlen]; exact h.len, h.ab, fun r hr => ?_, fun q => ?_, fun q => by have := h.top q; omega⟩
    · rw [hL] at hr
      rcases List.mem_append.1 hr with h1 | h1
      · exact h.row r (List.mem_of_mem_take h1)
      · rcases List.mem_cons.1 h1 with h1 | h1
        · refine ⟨j, UInt8.ofNat (f.toNat ^^^ 1), h1, e1, ?_⟩
          have : f.toNat = 0 ∨ f.toNat = 1 := by omega
          rcases this with h2 | h2 <;> rw [h2] <;> decide
        · exact h.row r (List.mem_of_mem_drop h1)
    · have hq := h.cnt q
      have : (flL L t 24).countP (fun r => rowId r == q) = L.countP (fun r => rowId r == q) := by
        rw [hL]
        conv => rhs; rw [split_at [] hi]
        rw [List.countP_append, List.countP_append, List.countP_cons, List.countP_cons, e, rowId_of, rowId_of]
      rw [this]; exact hq
  · have : flL L t 24 = L := if_neg fun hc => ht hc.1.2
    rw [this]
    exact h.mono (Int.le_refl _) (Nat.le_succ _)
theorem fl_facts {w : UInt8} {s t : Int} {k c : Nat} {L : List (List UInt8)} {a b : List Int} (h : InvW w s k c L a b) (h0 : 0 ≤ t) : (t < (L.length : Int) ∧ (flL L t 24).length = L.length ∧ flE L t 24 = 0 ∧ (L.getD t.toNat []).length = 4) ∨ ((L.length : Int) ≤ t ∧ (flL L t 24).length = L.length ∧ flE L t 24 = 6) := by
  by_cases ht : t < (L.length : Int)
  · left
    have hc := fl_is h h0 ht
    obtain ⟨j, f, e, _⟩ := h.row_at (i := t.toNat) (by omega)
    exact ⟨ht, by unfold flL; rw [if_pos hc, List.length_set], if_pos hc, by rw [e]; rfl⟩
  · right
    have hn : ¬ canF L t 24 := fun hc => ht hc.1.2
    refine ⟨by omega, by unfold flL; rw [if_neg hn], ?_⟩
    unfold flE
    rw [if_neg hn, if_neg fun hs => ht hs.2]
theorem fl_some {w : UInt8} {s t : Int} {k c i : Nat} {L : List (List UInt8)} {a b : List Int} (h : InvW w s k c L a b) (h0 : 0 ≤ t) (ht : t < (L.length : Int)) (hi : i = t.toNat) (m : Nat) (hm : m = (L.getD i []).length) : flL L t 24 = L.set i (List.take m ((L.getD i []).set 3 (UInt8.ofNat (((L.getD i []).getD 3 0).toNat ^^^ 1)))) := by
  subst hi hm
  unfold flL
  rw [if_pos (fl_is h h0 ht), List.take_of_length_le (by simp)]
  rfl
theorem fl_none {L : List (List UInt8)} {t : Int} (h : t < 0 ∨ (L.length : Int) ≤ t) : flL L t 24 = L := if_neg fun hc => by have := hc.1.1; have := hc.1.2; omega
/-- what comes out -/
theorem delB_facts {w : UInt8} {s t : Int} {k c : Nat} {L : List (List UInt8)} {a b : List Int} (h : InvW w s k c L a b) (h0 : 0 ≤ t) : (t < (L.length : Int) ∧ (delB L t).length = 4 ∧ ((delB L t).getD 0 0).toNat = w.toNat ∧ ((delB L t).getD 1 0).toNat = 0 ∧ ((delB L t).getD 3 0).toNat ≤ 1 ∧ 1 ≤ mget a (rowId (delB L t)) b 0) ∨ ((L.length : Int) ≤ t ∧ delB L t = [] ∧ (delB L t).length = 0) := by
  by_cases ht : t < (L.length : Int)
  · left
    obtain ⟨j, f, e, e1, e2⟩ := h.row_at (i := t.toNat) (by omega)
    have h1 := h.one (i := t.toNat) (by omega)
    rw [delB_some h0 ht rfl]
    refine ⟨ht, ?_, ?_, ?_, ?_, h1⟩ <;> rw [e] <;> first | rfl | exact e2
  · right
    rw [delB_none (by omega)]
    exact ⟨by omega, rfl, rfl⟩
theorem and_254 {n : Nat} (h : n ≤ 1) : n &&& 254 = 0 := by
  have : n = 0 ∨ n = 1 := by omega
  rcases this with h | h <;> subst h <;> rfl
theorem id_eq (l : List UInt8) : ((Int.toNat (((l.getD 1 0).toNat : Int) * 256) ||| (l.getD 2 0).toNat : Nat) : Int) = rowId l := by
  unfold rowId
  rw [show Int.toNat (((l.getD 1 0).toNat : Int) * 256) = (l.getD 1 0).toNat * 256 by omega]
theorem idAt_lt {L : List (List UInt8)} {a : Int} {k : Nat} (h : a < (k : Int)) : idAt L a k = rowId (L.getD a.toNat []) := if_pos h
theorem idAt_ge {L : List (List UInt8)} {a : Int} {k : Nat} (h : ¬ a < (k : Int)) : idAt L a k = 0 := if_neg h
theorem sN_facts (n : Nat) (h : n ≤ 64) : (n = 64 ∧ sN n = 64) ∨ (n < 64 ∧ sN n = n + 1) := by
  unfold sN
  by_cases h6 : 64 ≤ n
  · rw [if_pos h6]; omega
  · rw [if_neg h6]; omega
theorem in_add {m : Int} (h : 0 ≤ m ∧ m ≤ 200) : inR .i64 (m + 1) := ⟨by show (-9223372036854775808 : Int) ≤ _; omega, by show _ ≤ (9223372036854775807 : Int); omega⟩
theorem in_sub {m : Int} (h : 0 ≤ m ∧ m ≤ 200) : inR .i64 (m - 1) := ⟨by show (-9223372036854775808 : Int) ≤ _; omega, by show _ ≤ (9223372036854775807 : Int); omega⟩
theorem InvW.bnd2 {w : UInt8} {s : Int} {k c : Nat} {L : List (List UInt8)} {a b : List Int} (h : InvW w s k c L a b) (hk : k ≤ 200) (q : Int) : 0 ≤ mget a q b 0 ∧ mget a q b 0 ≤ 200 := by have := h.bnd q; omega
theorem InvW.len4 {w : UInt8} {s : Int} {k c : Nat} {L : List (List UInt8)} {a b : List Int} (h : InvW w s k c L a b) {i : Nat} (hi : i < L.length) : (L.getD i []).length = 4 := by
  obtain ⟨j, f, e, _⟩ := h.row_at hi
  rw [e]; rfl
theorem InvW.le4 {w : UInt8} {s : Int} {k c : Nat} {L : List (List UInt8)} {a b : List Int} (h : InvW w s k c L a b) (i : Nat) : (L.getD i []).length ≤ 4 := by
  by_cases hi : i < L.length
  · rw [h.len4 hi]; exact Nat.le_refl _
  · rw [List.getD_eq_getElem?_getD, List.getElem?_eq_none (by omega)]; exact Nat.zero_le _
theorem idAt_hit {T : List (List UInt8)} {a z : Int} {q q2 : Nat} (h : (q : Int) = a) (h2 : q2 = q) (hz : z = rowId (T.getD q2 [])) : idAt T a (q + 1) = z := by
  subst h2 h
  rw [idAt_lt (by omega), hz]; rfl
theorem idAt_miss {T : List (List UInt8)} {a : Int} {q : Nat} (h : ¬ (q : Int) = a) : idAt T a (q + 1) = idAt T a q := by
  by_cases h1 : a < (q : Int)
  · rw [idAt_lt h1, idAt_lt (by omega)]
  · rw [idAt_ge h1, idAt_ge (by omega)]
theorem idAt_full {L : List (List UInt8)} {a : Int} (h : a < (L.length : Int)) : idAt (L.take L.length) a L.length = rowId (L.getD a.toNat []) := by rw [idAt_lt h, List.take_length]
/-! what a round makes of it -/
section
variable {n : Nat} {x : NS} {z v t : Int}
theorem Inv.start (n : Nat) : Inv n ⟨0, 0, [], [], [], [], [], [], 0, 0⟩ :=
  ⟨Nat.zero_le _, Nat.zero_le _, Int.le_refl _, Int.le_refl _, ⟨Nat.le_refl _, Nat.zero_le _, rfl, fun r hr => (by cases hr), fun q => by simp [mget], fun q => by simp [mget]⟩, ⟨Nat.le_refl _, Nat.zero_le _, rfl, fun r hr => (by cases hr), fun q => by simp [mget], fun q => by simp [mget]⟩⟩
theorem Inv.same (h : Inv n x) (hk : x.k < n) (h2 : ¬ (x.k : Int) = 200) : Inv n ⟨x.k + 1, x.s, x.L0, x.L1, x.a0, x.b0, x.a1, x.b1, x.c0, x.c1⟩ := by
  have := h.k2; have := h.sk
  exact ⟨by dsimp only; omega, by dsimp only; omega, h.s0, by dsimp only; omega, h.i0.mono (Int.le_refl _) (Nat.le_succ _), h.i1.mono (Int.le_refl _) (Nat.le_succ _)⟩
theorem Inv.send0 (h : Inv n x) (hk : x.k < n) (h2 : ¬ (x.k : Int) = 200) (hz : z = x.s + 1) (hv : v = mget x.a0 z x.b0 0 + 1) : Inv n ⟨x.k + 1, z, sendL x.L0 (rowZ 0 z), x.L1, mkeys x.a0 z, mput x.a0 z x.b0 v, x.a1, x.b1, sN x.L0.length, x.c1⟩ := by
  have := h.k2; have := h.sk; have := h.s0
  subst hv
  exact ⟨by dsimp only; omega, by dsimp only; omega, by dsimp only; omega, by dsimp only; omega, inv_send h.i0 rfl hz h.s0 (by omega), h.i1.mono (by dsimp only; omega) (Nat.le_succ _)⟩
theorem Inv.send1 (h : Inv n x) (hk : x.k < n) (h2 : ¬ (x.k : Int) = 200) (hz : z = x.s + 1) (hv : v = mget x.a1 z x.b1 0 + 1) : Inv n ⟨x.k + 1, z, x.L0, sendL x.L1 (rowZ 1 z), x.a0, x.b0, mkeys x.a1 z, mput x.a1 z x.b1 v, x.c0, sN x.L1.length⟩ := by
  have := h.k2; have := h.sk; have := h.s0
  subst hv
  exact ⟨by dsimp only; omega, by dsimp only; omega, by dsimp only; omega, by dsimp only; omega, h.i0.mono (by dsimp only; omega) (Nat.le_succ _), inv_send h.i1 rfl hz h.s0 (by omega)⟩
theorem Inv.del0 (h : Inv n x) (hk : x.k < n) (h2 : ¬ (x.k : Int) = 200) (h0 : 0 ≤ t) (ht : t < (x.L0.length : Int)) (hz : z = rowId (delB x.L0 t)) (hv : v = mget x.a0 z x.b0 0 - 1) : Inv n ⟨x.k + 1, x.s, delL x.L0 t, x.L1, mkeys x.a0 z, mput x.a0 z x.b0 v, x.a1, x.b1, x.c0, x.c1⟩ := by
  have := h.k2; have := h.sk; have := h.s0
  subst hv
  exact ⟨by dsimp only; omega, by dsimp only; omega, by dsimp only; omega, by dsimp only; omega, inv_del h.i0 h0 ht hz, h.i1.mono (Int.le_refl _) (Nat.le_succ _)⟩
theorem Inv.del1 (h : Inv n x) (hk : x.k < n) (h2 : ¬ (x.k : Int) = 200) (h0 : 0 ≤ t) (ht : t < (x.L1.length : Int)) (hz : z = rowId (delB x.L1 t)) (hv : v = mget x.a1 z x.b1 0 - 1) : Inv n ⟨x.k + 1, x.s, x.L0, delL x.L1 t, x.a0, x.b0, mkeys x.a1 z, mput x.a1 z x.b1 v, x.c0, x.c1⟩ := by
  have := h.k2; have := h.sk; have := h.s0
  subst hv
  exact ⟨by dsimp only; omega, by dsimp only; omega, by dsimp only; omega, by dsimp only; omega, h.i0.mono (Int.le_refl _) (Nat.le_succ _), inv_del h.i1 h0 ht hz⟩
theorem Inv.delN0 (h : Inv n x) (hk : x.k < n) (h2 : ¬ (x.k : Int) = 200) (ht : (x.L0.length : Int) ≤ t) : Inv n ⟨x.k + 1, x.s, delL x.L0 t, x.L1, x.a0, x.b0, x.a1, x.b1, x.c0, x.c1⟩ := by rw [del_none (.inr ht)]; exact h.same hk h2
theorem Inv.delN1 (h : Inv n x) (hk : x.k < n) (h2 : ¬ (x.k : Int) = 200) (ht : (x.L1.length : Int) ≤ t) : Inv n ⟨x.k + 1, x.s, x.L0, delL x.L1 t, x.a0, x.b0, x.a1, x.b1, x.c0, x.c1⟩ := by rw [del_none (.inr ht)]; exact h.same hk h2
theorem Inv.dbl0 (h : Inv n x) (hk : x.k < n) (h2 : ¬ (x.k : Int) = 200) (h0 : 0 ≤ t) (ht : t < (x.L0.length : Int)) (h6 : x.L0.length < 64) (hz : z = idAt (x.L0.take x.L0.length) t x.L0.length) (hv : v = mget x.a0 z x.b0 0 + 1) : Inv n ⟨x.k + 1, x.s, dblL x.L0 t, x.L1, mkeys x.a0 z, mput x.a0 z x.b0 v, x.a1, x.b1, dblC x.L0 t x.c0, x.c1⟩ := by
  have := h.k2; have := h.sk; have := h.s0
  subst hv
  exact ⟨by dsimp only; omega, by dsimp only; omega, by dsimp only; omega, by dsimp only; omega, inv_dbl h.i0 h0 ht h6 (hz.trans (idAt_full ht)), h.i1.mono (Int.le_refl _) (Nat.le_succ _)⟩
theorem Inv.dbl1 (h : Inv n x) (hk : x.k < n) (h2 : ¬ (x.k : Int) = 200) (h0 : 0 ≤ t) (ht : t < (x.L1.length : Int)) (h6 : x.L1.length < 64) (hz : z = idAt (x.L1.take x.L1.length) t x.L1.length) (hv : v = mget x.a1 z x.b1 0 + 1) : Inv n ⟨x.k + 1, x.s, x.L0, dblL x.L1 t, x.a0, x.b0, mkeys x.a1 z, mput x.a1 z x.b1 v, x.c0, dblC x.L1 t x.c1⟩ := by
  have := h.k2; have := h.sk; have := h.s0
  subst hv
  exact ⟨by dsimp only; omega, by dsimp only; omega, by dsimp only; omega, by dsimp only; omega, h.i0.mono (Int.le_refl _) (Nat.le_succ _), inv_dbl h.i1 h0 ht h6 (hz.trans (idAt_full ht))⟩
theorem dblC_none {L : List (List UInt8)} {a : Int} {c : Nat} (h : (L.length : Int) ≤ a ∨ 64 ≤ L.length) : dblC L a c = c := if_neg fun ⟨⟨h1, h2⟩, h3⟩ => by omega
theorem Inv.dblN0 (h : Inv n x) (hk : x.k < n) (h2 : ¬ (x.k : Int) = 200) (ht : (x.L0.length : Int) ≤ t ∨ 64 ≤ x.L0.length) : Inv n ⟨x.k + 1, x.s, dblL x.L0 t, x.L1, x.a0, x.b0, x.a1, x.b1, dblC x.L0 t x.c0, x.c1⟩ := by rw [dbl_none (.inr ht), dblC_none ht]; exact h.same hk h2
theorem Inv.dblN1 (h : Inv n x) (hk : x.k < n) (h2 : ¬ (x.k : Int) = 200) (ht : (x.L1.length : Int) ≤ t ∨ 64 ≤ x.L1.length) : Inv n ⟨x.k + 1, x.s, x.L0, dblL x.L1 t, x.a0, x.b0, x.a1, x.b1, x.c0, dblC x.L1 t x.c1⟩ := by rw [dbl_none (.inr ht), dblC_none ht]; exact h.same hk h2
theorem Inv.fl0 (h : Inv n x) (hk : x.k < n) (h2 : ¬ (x.k : Int) = 200) (h0 : 0 ≤ t) : Inv n ⟨x.k + 1, x.s, flL x.L0 t 24, x.L1, x.a0, x.b0, x.a1, x.b1, x.c0, x.c1⟩ := by
  have := h.k2; have := h.sk; have := h.s0
  exact ⟨by dsimp only; omega, by dsimp only; omega, by dsimp only; omega, by dsimp only; omega, inv_fl h.i0 h0, h.i1.mono (Int.le_refl _) (Nat.le_succ _)⟩
theorem Inv.fl1 (h : Inv n x) (hk : x.k < n) (h2 : ¬ (x.k : Int) = 200) (h0 : 0 ≤ t) : Inv n ⟨x.k + 1, x.s, x.L0, flL x.L1 t 24, x.a0, x.b0, x.a1, x.b1, x.c0, x.c1⟩ := by
  have := h.k2; have := h.sk; have := h.s0
  exact ⟨by dsimp only; omega, by dsimp only; omega, by dsimp only; omega, by dsimp only; omega, h.i0.mono (Int.le_refl _) (Nat.le_succ _), inv_fl h.i1 h0⟩
theorem put_low {w : UInt8} {s : Int} {k c : Nat} {L : List (List UInt8)} {a b : List Int} (h : InvW w s k c L a b) (h1 : 1 ≤ mget a (rowId (delB L t)) b 0) (hz : z = rowId (delB L t)) (hv : v = mget a z b 0 - 1) : 0 ≤ mget (mkeys a z) z (mput a z b v) 0 := by
  rw [mget_put h.ab, if_pos rfl, hv, hz]; omega
end
end Go.Proofs.Ytcofcojjofkgcaa.Nn
