/- seal: hooks for SealRings: numbers in bytes, keys and tags by their contracts. By an AI agent. -/
import Derived.Test.YtnhomnaamlbnpaaDoorFt
import Derived.Test.YtnhomnaamlbnpaaDoorHk5
import Derived.Test.YtnhomnaamlbnpaaDoorNd
import Derived.Test.YtnhomnaamlbnpaaDoorRing
import Derived.Test.YtnhomnaamlbnpaaDoorNum
namespace Go.Proofs.YtnhomnaamlbnpaaDoor.Sg
open Go Go.RowKit Go.Proofs.YtnhomnaamlbnpaaDoor.Abs Go.Proofs.YtnhomnaamlbnpaaDoor.M Go.Proofs.YtnhomnaamlbnpaaDoor.Sha Go.Proofs.YtnhomnaamlbnpaaDoor.Rs Go.Proofs.YtnhomnaamlbnpaaDoor.Rm Go.Proofs.YtnhomnaamlbnpaaDoor.Ht
set_option linter.unusedVariables false
set_option linter.unusedSimpArgs false
def intA : AVal → Option (IntKind × Int)
  | .int k z => some (k, z)
  | .sint k z => some (k, z)
  | _ => none
theorem intA_rel {x : AVal} {k : IntKind} {z : Int} {φ : Phi} {u : Value} (h : intA x = some (k, z)) (hx : VRel φ x u) : u = .int k z := by
  unfold intA at h
  split at h
  · cases h; cases hx; rfl
  · cases h; cases hx; rfl
  · cases h
noncomputable def fixH (k : IntKind) (F : Nat → List UInt8) (m : Nat) (B : Int) (args : List AVal) (st : St) : Option (OP × AVal × St) :=
  match args with
  | [x] => (match intA x with
    | some (k', z) => some (andP none (k' = k ∧ 0 ≤ z ∧ z < B), .sslice (st.next, 0) m m false 1, ⟨st.heap.set st.next (some (.sbytes (F z.toNat) 5)), Nat.succ st.next, st.log⟩)
    | none => none)
  | _ => none
theorem fixH_ok {P : Program} {w0 : World} {RO : PT AObj} {g : FuncId} {k : IntKind} {F : Nat → List UInt8} {m : Nat} {B : Int} (hb : ∃ fn, P.funcs[g]? = some fn ∧ fn.body.isNone = false ∧ (fn.name == "runtime.NumGoroutine") = false)
    (hm : ∀ n, (F n).length = m)
    (hc : ∀ (n : Nat) w, (n : Int) < B → Calls P g #[.int k (n : Int)] w fun e w' => ∃ v', e = .returned v' ∧ w'.ownsRow w.heap.size 5 1 v' (F n).length ((F n).map fun b => Value.int .u8 (b.toNat : Int)) ∧ Below w.heap.size w w') : Call1Ok P w0 RO g (fun args st => got (fixH k F m B args st)) := by
  intro args st v st' h
  obtain ⟨ob, h, hob⟩ := got_some h
  unfold fixH at h
  split at h
  · rename_i x
    split at h
    · rename_i k' z hv
      cases h
      obtain ⟨_, rfl, o1, o2⟩ := Abs.andP_some hob
      refine ⟨⟨[], rfl, Nat.le_succ _, fun b hb _ => ?_⟩, hb, fun φ us w hus hw hr => ?_⟩
      · show (PT.set _ _ _).get b = _
        rw [PT.get_set, if_neg (by omega)]
      cases hus with
      | cons _ u _ us e1 e2 => cases e2 with
        | nil =>
        obtain rfl := intA_rel hv e1
        have hz : z = (z.toNat : Int) := by omega
        have := hc z.toNat w (by omega)
        rw [← hz] at this
        refine this.mono fun e w' he => ?_
        obtain ⟨v', rfl, k1, k2⟩ := he
        have q := own_ok hw k2 k1
        rw [hm] at q
        exact ⟨_, rfl, q⟩
    · cases h
  · cases h
theorem own_le {w' : World} {a b : Nat} {t : TypeId} {v : Value} {n : Nat} {l : List Value} (h : w'.ownsRow b t 1 v n l) (hab : a ≤ b) : w'.ownsRow a t 1 v n l := by
  obtain ⟨h1, h2⟩ := h
  refine ⟨h1, ?_⟩
  rcases h2 with h2 | ⟨g, cap, cur, e, hbg, rest⟩
  · exact .inl h2
  · exact .inr ⟨g, cap, cur, e, Nat.le_trans hab hbg, rest⟩
theorem num_own {l : List UInt8} {w w' : World} {e : Ending} (hm : l.length ≤ maxLen) (h : Seal.NumPost l w e w') : ∃ v', e = .returned v' ∧ w'.ownsRow w.heap.size 5 1 v' l.length (l.map fun b => Value.int .u8 (b.toNat : Int)) ∧ Below w.heap.size w w' := by
  obtain ⟨g, rfl, hg, hb, hbel⟩ := h
  exact ⟨_, rfl, own_le (Seal.own_num hb hm) hg, hbel⟩
abbrev FOUR : FuncId := 51
abbrev EIGHT : FuncId := 52
abbrev NUMBER : FuncId := 48
abbrev DERIVE : FuncId := 11
abbrev TAG : FuncId := 13
noncomputable abbrev fourH : Hook := fixH .u32 Wr.be4 4 4294967296
noncomputable abbrev eightH : Hook := fixH .u64 Wr.be8 8 18446744073709551616
theorem fourH_ok {w0 : World} {RO : PT AObj} : Call1Ok Tryd.prog w0 RO FOUR (fun args st => got (fourH args st)) :=
  fixH_ok ⟨_, rfl, rfl, by kernel_rfl⟩ (fun _ => rfl) fun n w hn => (Seal.four_post n w (by omega)).mono fun e w' he => num_own (by show 4 ≤ maxLen; unfold maxLen; omega) he
theorem eightH_ok {w0 : World} {RO : PT AObj} : Call1Ok Tryd.prog w0 RO EIGHT (fun args st => got (eightH args st)) :=
  fixH_ok ⟨_, rfl, rfl, by kernel_rfl⟩ (fun _ => rfl) fun n w hn => (Seal.eight_post n w (by omega)).mono fun e w' he => num_own (by show 8 ≤ maxLen; unfold maxLen; omega) he
noncomputable def numH (args : List AVal) (st : St) : Option (OP × AVal × St) :=
  match args with
  | [x, .int .i64 m] => (match intA x with
    | some (k', z) => some (andP none (k' = .u64 ∧ 0 ≤ z ∧ z < 18446744073709551616 ∧ 0 ≤ m ∧ m ≤ 100), .sslice (st.next, 0) m.toNat m.toNat false 1, ⟨st.heap.set st.next (some (.sbytes (Pc.be m.toNat z.toNat) 5)), Nat.succ st.next, st.log⟩)
    | none => none)
  | _ => none
theorem numH_ok {w0 : World} {RO : PT AObj} : Call1Ok Tryd.prog w0 RO NUMBER (fun args st => got (numH args st)) := by
  intro args st v st' h
  obtain ⟨ob, h, hob⟩ := got_some h
  unfold numH at h
  split at h
  · rename_i x m hh
    split at h
    · rename_i k' z hv
      cases h
      obtain ⟨_, rfl, o1, o2, o3, o4⟩ := Abs.andP_some hob
      refine ⟨⟨[], rfl, Nat.le_succ _, fun b hb _ => ?_⟩, ⟨_, rfl, rfl, by kernel_rfl⟩, fun φ us w hus hw hr => ?_⟩
      · show (PT.set _ _ _).get b = _
        rw [PT.get_set, if_neg (by omega)]
      cases hus with
      | cons _ u _ us e1 e2 => cases e2 with
        | cons _ u2 _ us e3 e4 => cases e4 with
          | nil =>
          obtain rfl := intA_rel hv e1
          cases e3
          have hz : z = (z.toNat : Int) := by omega
          have hmm : m = (m.toNat : Int) := by omega
          have := Pc.number_any z.toNat m.toNat w (by omega) (by omega)
          rw [← hz, ← hmm] at this
          refine this.mono fun e w' he => ?_
          obtain ⟨rfl, k1, k2⟩ := he
          have hl := Pc.be_length m.toNat z.toNat
          have q := own_ok (l := Pc.be m.toNat z.toNat) hw k2 (by rw [hl]; exact k1)
          rw [hl] at q
          exact ⟨_, rfl, q⟩
    · cases h
  · cases h
section
variable {w0 w : World} {φ : Phi} {RO : PT AObj} {st : St}
variable (RO st) in
noncomputable def srcMany : List AVal → Option (OP × List (List UInt8))
  | [] => some (none, [])
  | x :: xs => match srcS RO st x, srcMany xs with
    | some (o1, l), some (o2, ls) => some (andP o2 (o1.ok ∧ l.length ≤ 60000), l :: ls)
    | _, _ => none
variable (RO st) in
noncomputable def srcParts : AVal → Option (OP × List (List UInt8))
  | .slice none 0 0 _ _ => some (none, [])
  | .slice (some (b, 0)) n _ _ _ => (match rd RO st b with
    | some (.cells l _) => bif Nat.beq n l.length && Nat.ble n 8 then srcMany RO st l else none
    | _ => none)
  | .tslice b i n _ _ wd => (match rd RO st b with
    | some (.tab m [.ps L] _) => bif Nat.beq i 0 && Nat.beq wd 1 then some (some (n = m ∧ n = L.length ∧ n ≤ 8 ∧ ∀ p ∈ L, p.length ≤ 60000), L) else none
    | _ => none)
  | _ => none
theorem srcMany_ok (hw : WRel w0 φ st.heap st.next w) (hr : RRel w0 φ RO) : ∀ {xs : List AVal} {us : List Value} {op : OP} {ls : List (List UInt8)}, srcMany RO st xs = some (op, ls) → op.ok → VRels φ xs us →
    ls.length = xs.length ∧ (∀ p ∈ ls, p.length ≤ 60000) ∧ ∀ (i : Nat) (l : List UInt8), ls[i]? = some l → ∃ u, us[i]? = some u ∧ Byts w (fun k => k < w.heap.size) u l
  | [], us, op, ls, h, hop, hv => by
    cases h
    exact ⟨rfl, fun p hp => (by cases hp), fun i l hi => (by cases hi)⟩
  | x :: xs, us, op, ls, h, hop, hv => by
    unfold srcMany at h
    split at h
    · rename_i o1 l o2 ls' h1 h2
      cases h
      obtain ⟨k1, k2, k3⟩ := Abs.andP_some hop
      cases hv with
      | cons _ u _ us e1 e2 =>
      obtain ⟨q1, q2, q3⟩ := srcMany_ok hw hr h2 k1 e2
      refine ⟨by simp [q1], fun p hp => ?_, fun i l' hi => ?_⟩
      · rcases List.mem_cons.1 hp with rfl | hp
        · exact k3
        · exact q2 p hp
      · rcases i with _ | i
        · obtain rfl : l = l' := by simpa using hi
          exact ⟨u, rfl, srcS_byts h1 k2 e1 hw hr (by unfold maxLen; omega)⟩
        · obtain ⟨u', h3, h4⟩ := q3 i l' (by simpa using hi)
          exact ⟨u', by simpa using h3, h4⟩
    · cases h
theorem srcParts_ok {x : AVal} {u : Value} {op : OP} {ls : List (List UInt8)} (h : srcParts RO st x = some (op, ls)) (hop : op.ok) (hx : VRel φ x u) (hw : WRel w0 φ st.heap st.next w) (hr : RRel w0 φ RO) :
    Parts w (fun k => k < w.heap.size) u ls ∧ (∀ p ∈ ls, p.length ≤ 60000) ∧ ls.length ≤ 8 := by
  unfold srcParts at h
  split at h
  · cases h
    cases hx
    exact ⟨⟨none, 0, rfl, Nat.le_refl _, Nat.zero_le _, fun i l hi => by simp at hi⟩, fun p hp => (by cases hp), Nat.zero_le _⟩
  · rename_i hne b n c ex z
    split at h
    · rename_i l t hrd
      cases hb : (Nat.beq n l.length && Nat.ble n 8) with
      | false => rw [hb] at h; cases h
      | true =>
      rw [hb] at h
      have h : srcMany RO st l = some (op, ls) := h
      rw [Bool.and_eq_true] at hb
      obtain rfl := Nat.eq_of_beq_eq_true hb.1
      have hn8 := Nat.le_of_ble_eq_true hb.2
      obtain ⟨g', b', m', xo, e1, e2, e3⟩ := rd_some hrd hw hr rfl
      cases hx with
      | slice _ _ _ _ _ g b0 nb cap _ a hφ hl hc he hz ha =>
      obtain ⟨rfl, rfl, rfl⟩ : g = g' ∧ b0 = b' ∧ nb = m' := by rw [hφ] at e1; simpa using e1
      obtain ⟨us, f1, f2, f3⟩ := orel_row e3 (o := 0) (m := l.length) (by omega)
      have f2 : VRels φ l us := by simpa using f2
      obtain ⟨q1, q2, q3⟩ := srcMany_ok hw hr h hop f2
      refine ⟨⟨some a, cap, by rw [q1], by rw [q1]; omega, by rw [q1]; unfold maxLen; omega, fun i l' hi => ?_⟩, q2, by omega⟩
      obtain ⟨u', h3, h4⟩ := q3 i l' hi
      have hil : i < ls.length := (List.getElem?_eq_some_iff.1 hi).1
      rcases ha with ⟨h0, _⟩ | rfl
      · omega
      · have := f3 w g e2 i u' h3
        rw [add_lit] at this
        exact ⟨g, b0 + 0, u', rfl, (Array.getElem?_eq_some_iff.1 e2).1, this, h4⟩
    · cases h
  · rename_i b i n c ex wd
    split at h
    · rename_i m L t hrd
      cases hb : (Nat.beq i 0 && Nat.beq wd 1) with
      | false => rw [hb] at h; cases h
      | true =>
      rw [hb] at h
      cases h
      rw [Bool.and_eq_true] at hb
      obtain rfl := Nat.eq_of_beq_eq_true hb.1
      obtain rfl := Nat.eq_of_beq_eq_true hb.2
      obtain ⟨rfl, hnL, hn8, hp⟩ : n = m ∧ n = ls.length ∧ n ≤ 8 ∧ ∀ p ∈ ls, p.length ≤ 60000 := hop
      generalize ls = L at *
      refine ⟨?_, hp, by omega⟩
      cases hx with
      | tslice _ _ _ _ _ _ _ hx =>
      cases hx with
      | snil =>
        obtain rfl : L = [] := List.eq_nil_of_length_eq_zero hnL.symm
        exact ⟨none, 0, rfl, Nat.le_refl _, Nat.zero_le _, fun i l hi => by simp at hi⟩
      | semp _ A c z =>
        obtain rfl : L = [] := List.eq_nil_of_length_eq_zero hnL.symm
        exact ⟨A, c, rfl, Nat.zero_le _, Nat.zero_le _, fun i l hi => by simp at hi⟩
      | sslice _ _ _ _ _ g b0 nb cap _ a hφ hl hc he hz ha =>
        refine ⟨some a, cap, by rw [hnL], by omega, by unfold maxLen; omega, fun i l hi => ?_⟩
        have hil : i < L.length := (List.getElem?_eq_some_iff.1 hi).1
        rcases rd_some' hrd hw hr with hn | ⟨g', b', m', xo, e1, e2, e3⟩
        · cases n with
          | zero => omega
          | succ n => cases hn
        · obtain ⟨rfl, rfl, rfl⟩ : g = g' ∧ b0 = b' ∧ nb = m' := by rw [hφ] at e1; simpa using e1
          rcases ha with ⟨h0, _⟩ | rfl
          · omega
          · have h1 := tab_cells e3 (show i < n by omega)
            have hrow : rowT i [TCol.ps L] = [.pbytes l] := by
              show [AVal.pbytes (L.getD i [])] = _
              rw [List.getD_eq_getElem?_getD, hi]; rfl
            rw [hrow] at h1
            obtain ⟨us, f1, f2, f3⟩ := orel_row h1 (o := 0) (m := 1) (by simp)
            have f2 : VRels φ [.pbytes l] us := by simpa using f2
            cases f2 with
            | cons _ u2 _ us q1 q2 =>
            have h5 := f3 w g e2 0 u2 (by simp)
            rw [add_lit] at h5
            refine ⟨g, b0 + 0, u2, by rw [Nat.zero_mul], (Array.getElem?_eq_some_iff.1 e2).1, ?_, ?_⟩
            · have : b0 + i * [TCol.ps L].length + 0 + 0 = b0 + 0 + i := by simp
              rw [← this]; exact h5
            · have hsrc : srcB RO st (.pbytes l) = some (none, l) := rfl
              exact Abs.srcB_byts hsrc trivial (fun m e => by cases e) (fun m e => by cases e) q1 hw hr (by have := hp l (List.mem_of_getElem? hi); unfold maxLen; omega)
    · cases h
  · cases h
end
theorem many_len : ∀ {ls : List (List UInt8)}, (∀ p ∈ ls, p.length ≤ 60000) → (Ld.many ls).length ≤ ls.length * 60004
  | [], _ => Nat.zero_le _
  | p :: ls, h => by
    have := many_len (fun q hq => h q (List.mem_cons_of_mem _ hq))
    have hp := h p (List.mem_cons_self ..)
    have e : Ld.many (p :: ls) = Wr.be4 p.length ++ p ++ Ld.many ls := rfl
    have e4 : (Wr.be4 p.length).length = 4 := rfl
    rw [e, List.length_append, List.length_append, List.length_cons, e4]
    omega
def labB (l : List Nat) : List UInt8 := l.map UInt8.ofNat
/-- seal.Derive where the secret may be -/
noncomputable def derH (RO : PT AObj) (args : List AVal) (st : St) : Option (OP × AVal × St) := match args with
  | [k, .str lab, ps] => (match srcS RO st k, srcParts RO st ps with
    | some (o1, kl), some (o2, ls) => bif Nat.ble lab.length 100 then some (andP o2 (o1.ok ∧ 1 ≤ kl.length ∧ kl.length ≤ 64), .tuple [.agg (dig (hmac kl (Ld.lay (labB lab) ls))), .int .i64 0], st) else none
    | _, _ => none)
  | [k, .sstr lab, ps] => (match srcS RO st k, srcParts RO st ps with
    | some (o1, kl), some (o2, ls) => some (andP o2 (o1.ok ∧ 1 ≤ kl.length ∧ kl.length ≤ 64 ∧ lab.length ≤ 100), .tuple [.agg (dig (hmac kl (Ld.lay lab ls))), .int .i64 0], st)
    | _, _ => none)
  | _ => none
theorem derH_ok {w0 : World} {RO : PT AObj} (ht : Tab w0) : Call1Ok Tryd.prog w0 RO DERIVE (fun args st => got (derH RO args st)) := by
  intro args st v st' h
  obtain ⟨ob, h, hob⟩ := got_some h
  unfold derH at h
  split at h
  · rename_i k lab ps hh
    split at h
    · rename_i o1 kl o2 ls hk hl
      cases hb : Nat.ble lab.length 100 with
      | false => rw [hb] at h; cases h
      | true =>
      rw [hb] at h
      cases h
      have hlab := Nat.le_of_ble_eq_true hb
      obtain ⟨h1, h2, h3, h4⟩ := Abs.andP_some hob
      refine ⟨.refl _, ⟨_, rfl, rfl, by kernel_rfl⟩, fun φ us w hus hw hr => ?_⟩
      cases hus with
      | cons _ u _ us e1 e2 => cases e2 with
        | cons _ u2 _ us e3 e4 => cases e4 with
          | cons _ u3 _ us e5 e6 => cases e6 with
            | nil =>
            cases e3 with
            | str s =>
            obtain ⟨p1, p2, p3⟩ := srcParts_ok hl h1 e5 hw hr
            have el : labB (s.data.toList.map UInt8.toNat) = s.data.toList := by unfold labB; rw [List.map_map]; exact (List.map_congr_left fun a _ => UInt8.ofNat_toNat).trans (List.map_id _)
            rw [el]
            have hs : s.data.toList.length ≤ 100 := by simpa using hlab
            have hs2 : s.size = s.data.toList.length := Array.length_toList.symm
            have hm := many_len p2
            refine (Seal.derive_ok u u3 kl s ls _ _ w (srcS_byts hk h2 e1 hw hr (by unfold maxLen; omega)) p1 (fun i hi => hi) (fun i hi => hi) (tabUp ht hw.below) h3 h4 (by omega) (fun p hp => by have := p2 p hp; omega) ?_).mono fun e w' he => ?_
            · have e2 : (Wr.be2 s.data.toList.length).length = 2 := rfl
              unfold Ld.lay
              rw [List.length_append, List.length_append, e2]
              omega
            obtain ⟨rfl, hb⟩ := he
            refine ⟨_, rfl, quiet_ok hw hb (.tuple _ _ (.cons _ _ _ _ (dig_rel φ (sha_length _)) (.cons _ _ _ _ (.int _ _) .nil)))⟩
    · cases h
  · rename_i k lab ps hh
    split at h
    · rename_i o1 kl o2 ls hk hl
      cases h
      obtain ⟨h1, h2, h3, h4, hlab⟩ := Abs.andP_some hob
      refine ⟨.refl _, ⟨_, rfl, rfl, by kernel_rfl⟩, fun φ us w hus hw hr => ?_⟩
      cases hus with
      | cons _ u _ us e1 e2 => cases e2 with
        | cons _ u2 _ us e3 e4 => cases e4 with
          | cons _ u3 _ us e5 e6 => cases e6 with
            | nil =>
            cases e3 with
            | sstr s =>
            obtain ⟨p1, p2, p3⟩ := srcParts_ok hl h1 e5 hw hr
            have hs : s.data.toList.length ≤ 100 := hlab
            have hs2 : s.size = s.data.toList.length := Array.length_toList.symm
            have hm := many_len p2
            refine (Seal.derive_ok u u3 kl s ls _ _ w (srcS_byts hk h2 e1 hw hr (by unfold maxLen; omega)) p1 (fun i hi => hi) (fun i hi => hi) (tabUp ht hw.below) h3 h4 (by omega) (fun p hp => by have := p2 p hp; omega) ?_).mono fun e w' he => ?_
            · have e2 : (Wr.be2 s.data.toList.length).length = 2 := rfl
              unfold Ld.lay
              rw [List.length_append, List.length_append, e2]
              omega
            obtain ⟨rfl, hb⟩ := he
            refine ⟨_, rfl, quiet_ok hw hb (.tuple _ _ (.cons _ _ _ _ (dig_rel φ (sha_length _)) (.cons _ _ _ _ (.int _ _) .nil)))⟩
    · cases h
  · cases h
def kcells : List AVal → Option (List UInt8)
  | [] => some []
  | .int .u8 z :: r => (match kcells r with | some l => bif intLe 0 z && intLe z 255 then some (UInt8.ofNat z.toNat :: l) else none | none => none)
  | .sint .u8 z :: r => (match kcells r with | some l => some (UInt8.ofNat z.toNat :: l) | none => none)
  | _ => none
theorem kcells_ok {φ : Phi} : ∀ {ks : List AVal} {us : List Value} {l : List UInt8}, kcells ks = some l → VRels φ ks us → us = l.map cell8
  | [], us, l, h, hv => by cases h; cases hv; rfl
  | x :: r, us, l, h, hv => by
    unfold kcells at h
    split at h
    · rename_i heq; cases heq
    · rename_i z r' heq
      cases heq
      split at h
      · rename_i l' h1
        cases hz : (intLe 0 z && intLe z 255) with
        | false => rw [hz] at h; cases h
        | true =>
        rw [hz] at h
        cases h
        rw [Bool.and_eq_true, intLe_eq, intLe_eq, decide_eq_true_eq, decide_eq_true_eq] at hz
        cases hv with
        | cons _ u _ us e1 e2 =>
        cases e1
        rw [kcells_ok h1 e2, List.map_cons]
        congr 1
        unfold cell8
        congr 1
        have : (UInt8.ofNat z.toNat).toNat = z.toNat := by rw [UInt8.toNat_ofNat_of_lt']; simp; omega
        omega
      · cases h
    · rename_i z r' heq
      cases heq
      split at h
      · rename_i l' h1
        cases h
        cases hv with
        | cons _ u _ us e1 e2 =>
        cases e1 with
        | sint _ _ hr =>
        rw [in_u8] at hr
        rw [kcells_ok h1 e2, List.map_cons]
        congr 1
        unfold cell8
        congr 1
        have : (UInt8.ofNat z.toNat).toNat = z.toNat := by rw [UInt8.toNat_ofNat_of_lt']; simp; omega
        omega
      · cases h
    · cases h
noncomputable def tagH (RO : PT AObj) (args : List AVal) (st : St) : Option (OP × AVal × St) := match args with
  | [.agg ks, x] => (match kcells ks, srcS RO st x with
    | some kl, some (op, l) => bif Nat.beq kl.length 32 then some (andP op (l.length ≤ 50000), .sint .u64 ((Seal.tagOf kl l : Nat) : Int), st) else none
    | _, _ => none)
  | _ => none
theorem tag_lt (k l : List UInt8) : Seal.tagOf k l < 18446744073709551616 := by
  have := Rd.numOf_lt ((hmac k l).take 8)
  have e : ((hmac k l).take 8).length = 8 := by rw [List.length_take, show (hmac k l).length = 32 from sha_length _]; rfl
  rw [e] at this
  exact this
theorem tagH_ok {w0 : World} {RO : PT AObj} (ht : Tab w0) : Call1Ok Tryd.prog w0 RO TAG (fun args st => got (tagH RO args st)) := by
  intro args st v st' h
  obtain ⟨ob, h, hob⟩ := got_some h
  unfold tagH at h
  split at h
  · rename_i ks x
    split at h
    · rename_i kl op l hk hl
      cases hb : Nat.beq kl.length 32 with
      | false => rw [hb] at h; cases h
      | true =>
      rw [hb] at h
      cases h
      have hlen := Nat.eq_of_beq_eq_true hb
      obtain ⟨h1, h2⟩ := Abs.andP_some hob
      refine ⟨.refl _, ⟨_, rfl, rfl, by kernel_rfl⟩, fun φ us w hus hw hr => ?_⟩
      cases hus with
      | cons _ u _ us e1 e2 => cases e2 with
        | cons _ u2 _ us e3 e4 => cases e4 with
          | nil =>
          cases e1 with
          | agg _ c hc =>
          have hcc := kcells_ok hk hc
          obtain rfl : c = (kl.map cell8).toArray := by rw [← hcc]
          refine (Seal.tag_any kl l u2 _ w hlen (srcS_byts hl h1 e3 hw hr (by unfold maxLen; omega)) (fun i hi => hi) (tabUp ht hw.below)).mono fun e w' he => ?_
          obtain ⟨rfl, hb⟩ := he
          refine ⟨_, rfl, quiet_ok hw hb (.sint _ _ ?_)⟩
          rw [in_u64]
          have := tag_lt kl l
          omega
    · cases h
  · cases h
noncomputable def hk7 : FuncId → Option (List AVal → St → Option (AVal × St)) := fun f => bif Nat.beq f 37 then some (shaH .leaf) else bif Nat.beq f 25 then some (hmacH .leaf) else none
theorem hk7_ok {w0 : World} (ht : Tab w0) (f : FuncId) (h : List AVal → St → Option (AVal × St)) (hh : hk7 f = some h) : Call1Ok Tryd.prog w0 .leaf f h := by
  unfold hk7 at hh
  cases hb : Nat.beq f 37 with
  | true => rw [hb] at hh; cases hh; obtain rfl := Nat.eq_of_beq_eq_true hb; exact shaH_ok ht ⟨_, rfl, rfl, by kernel_rfl⟩
  | false =>
    rw [hb] at hh
    cases hc : Nat.beq f 25 with
    | true => rw [hc] at hh; cases hh; obtain rfl := Nat.eq_of_beq_eq_true hc; exact hmacH_ok ht ⟨_, rfl, rfl, by kernel_rfl⟩
    | false => rw [hc] at hh; cases hh
theorem wakes7 (W : World) (ht : Tab W) : Calls Tryd.prog 15 #[] W fun e w' => e = .returned (.bool true) ∧ Below W.heap.size W w' :=
  closed_ok (hook := hk7) (by kernel_rfl) (named_of (P := Tryd.prog) (by kernel_rfl)) (hk7_ok ht) (ro_none W (fun _ => none)) (next := 1000) (fun _ _ => rfl) (k := 400) (by kernel_rfl)
abbrev WAKES : FuncId := 15
abbrev RHMAC : FuncId := 39
noncomputable def sgHooks (RO : PT AObj) : FuncId → Option Hook := hkAdd WAKES trueH (hkAdd DERIVE (derH RO) (hkAdd TAG (tagH RO) (hkAdd FOUR fourH (hkAdd EIGHT eightH (hkAdd NUMBER numH (hkAdd RHMAC (macR RO) hkNone))))))
theorem sgHooks_ok {w0 : World} {RO : PT AObj} (ht : Tab w0) (hT : FTab w0) : HooksOk Tryd.prog w0 RO (sgHooks RO) :=
  hkAdd_ok (trueH_ok ⟨_, rfl, rfl, by kernel_rfl⟩ fun w hb => wakes7 w (tabUp ht hb)) (hkAdd_ok (derH_ok ht) (hkAdd_ok (tagH_ok ht) (hkAdd_ok fourH_ok (hkAdd_ok eightH_ok (hkAdd_ok numH_ok (hkAdd_ok (macR_ok RO hT) hkNone_ok))))))
end Go.Proofs.YtnhomnaamlbnpaaDoor.Sg
