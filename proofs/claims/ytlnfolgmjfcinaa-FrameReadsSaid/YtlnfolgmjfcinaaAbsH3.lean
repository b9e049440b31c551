/- append and copy of bytes that are known by terms. By an AI agent. -/
import Derived.Test.YtlnfolgmjfcinaaAbsH2
namespace Go.Proofs.Ytlnfolgmjfcinaa.Abs
open Go Go.RowKit
set_option linter.unusedVariables false
def vals (l : List UInt8) : List Value := l.map fun c => Value.int .u8 (c.toNat : Int)
theorem vals_length (l : List UInt8) : (vals l).length = l.length := by simp [vals]
theorem andP_ok {ob : OP} {q : Prop} (h : (andP ob q).ok) : ob.ok ∧ q := by
  cases ob with
  | none => exact ⟨trivial, h⟩
  | some p => exact h
section
variable {w0 : World} {φ : Phi} {P : Program} {RO : PT AObj}
theorem bytesS_rel : ∀ {l : List AVal} {q : List UInt8} {us : List Value}, bytesS l = some q → VRels φ l us → us = vals q
  | [], q, us, h, hr => by cases h; cases hr; rfl
  | v :: l, q, us, h, hr => by
    cases hr with
    | cons _ u _ us h1 h2 =>
    unfold bytesS at h
    split at h
    · rename_i z r hz hr'
      cases h
      obtain ⟨rfl, hin⟩ := asR_rel hz h1
      rw [bytesS_rel hr' h2]
      show _ = Value.int .u8 _ :: _
      rw [u8_back hin]; rfl
    · cases h
theorem vals_rel (l : List UInt8) : VRels φ (l.map fun c => AVal.int .u8 (c.toNat : Int)) (vals l) := by
  induction l with
  | nil => exact .nil
  | cons c l ih => exact .cons _ _ _ _ (.int _ _) ih
theorem rel_vals {l : List UInt8} {us : List Value} (h : VRels φ (l.map fun c => AVal.int .u8 (c.toNat : Int)) us) : us = vals l := by
  induction l generalizing us with
  | nil => cases h; rfl
  | cons c l ih => cases h with | cons _ u _ us hu hs => cases hu; rw [ih hs]; rfl
/-- an object of bytes: its cells in the block -/
theorem objB_cells {ob : AObj} {o n b0 nb : Nat} {x : Obj} {op : OP} {l : List UInt8} (h : objB o n (some ob) = some (op, l)) (hop : op.ok) (hx : ORel φ ob b0 nb x) :
    l.length = n ∧ ∃ (L : List UInt8) (c : Array Value) (t' : TypeId) (fz : Nat × Nat), x = .cells c t' fz ∧ c.size = nb ∧ b0 + L.length ≤ nb ∧ (c.toList.drop b0).take L.length = vals L ∧ (fz.1 = fz.2 ∨ nb ≤ fz.1) ∧ o + n ≤ L.length ∧ l = (L.drop o).take n ∧ objN ob = L.length := by
  unfold objB at h
  split at h
  · rename_i L t he
    cases h
    have hop : o + n ≤ L.length := hop
    cases he
    cases hx with
    | sbytes _ _ _ _ _ hx =>
    cases hx with
    | cells _ _ t' _ _ c fz hn hb hr hf =>
    rw [List.length_map] at hb hr
    refine ⟨by simp; omega, L, c, t', fz, rfl, hn, hb, rel_vals hr, hf, hop, rfl, rfl⟩
  · rename_i cs t he
    split at h
    · rename_i L hL
      cases h
      have hop : o + n ≤ L.length := hop
      cases he
      cases hx with
      | cells _ _ t' _ _ c fz hn hb hr hf =>
      have hv := bytesS_rel hL hr
      have hlen : cs.length = L.length := by have := hr.length; rw [hv, vals_length] at this; exact this.symm
      rw [hlen] at hb hv
      exact ⟨by simp; omega, L, c, t', fz, rfl, hn, hb, hv, hf, hop, rfl, by show lenL cs 0 = _; rw [lenL0, hlen]⟩
    · cases h
  · cases h
theorem objB_read {ob : AObj} {o n b0 nb : Nat} {x : Obj} {op : OP} {l : List UInt8} (h : objB o n (some ob) = some (op, l)) (hop : op.ok) (hx : ORel φ ob b0 nb (thaw x)) :
    l.length = n ∧ ∃ (L : List UInt8) (c : Array Value) (t' : TypeId) (fz : Nat × Nat), x = .cells c t' fz ∧ c.size = nb ∧ b0 + L.length ≤ nb ∧ (c.toList.drop b0).take L.length = vals L ∧ o + n ≤ L.length ∧ l = (L.drop o).take n := by
  obtain ⟨h1, L, c, t', fz, h2, h3, h4, h5, h6, h7, h8, h9⟩ := objB_cells h hop hx
  cases x with
  | cells c2 t2 fz2 => cases h2; exact ⟨h1, L, _, _, _, rfl, h3, h4, h5, h7, h8⟩
  | _ => cases h2
theorem objB_nul {ob : AObj} {o n : Nat} {op : OP} {l : List UInt8} (h : objB o n (some ob) = some (op, l)) (hop : op.ok) (hn : ob.nul = true) : n = 0 ∧ l = [] := by
  unfold objB at h
  split at h
  · rename_i L t he
    cases h
    have hop : o + n ≤ L.length := hop
    cases he
    cases L with
    | nil => simp at hop; exact ⟨by omega, by simp⟩
    | cons _ _ => cases hn
  · rename_i cs t he
    cases he; cases hn
  · cases h
theorem cells_at {c : Array Value} {b0 o n j : Nat} {L : List UInt8} (h : (c.toList.drop b0).take L.length = vals L) (hon : o + n ≤ L.length) : (c.toList.drop (b0 + o)).take n = vals ((L.drop o).take n) := by
  have h2 := congrArg (fun q => (q.drop o).take n) h
  simp only [vals, ← List.map_drop, ← List.map_take] at h2 ⊢
  rw [← h2, List.drop_take, List.take_take, List.drop_drop, Nat.min_eq_left (by omega)]
/-- the bytes of a source -/
theorem srcB_ok {st : St} {w : World} {x : AVal} {u : Value} {op : OP} {l : List UInt8} (h : srcB RO st x = some (op, l)) (hop : op.ok) (hx : VRel φ x u) (hw : WRel w0 φ st.heap st.next w) (hr : RRel w0 φ RO) :
    l.length = lenB x ∧ (∀ w', (Builtin.lenOf u).run P w' = .ok l.length w') ∧ ∀ k, k ≤ l.length → (Builtin.firstCells 1 k u).run P w = .ok ((vals l).take k).toArray w := by
  have real : ∀ (b o n len cap : Nat) (a : Addr) (g b0 nb : Nat), lenB x = n → u = .slice (some a) n cap → n ≤ cap → φ b = some (g, b0, nb) → ((cap = 0 ∧ a.block = g) ∨ a = ⟨g, b0 + o, none⟩) → objB o n (rd RO st b) = some (op, l) →
      l.length = lenB x ∧ (∀ w', (Builtin.lenOf u).run P w' = .ok l.length w') ∧ ∀ k, k ≤ l.length → (Builtin.firstCells 1 k u).run P w = .ok ((vals l).take k).toArray w := fun b o n len cap a g b0 nb hlen hu hcap hφ ha ho => by
    cases hrd : rd RO st b with
    | none => rw [hrd] at ho; cases ho
    | some ob =>
    rw [hrd] at ho
    subst hu
    rcases rd_some' hrd hw hr with hn | ⟨g', b0', nb', x', e1, e2, e3⟩
    · obtain ⟨rfl, rfl⟩ := objB_nul ho hop hn
      refine ⟨by rw [hlen]; rfl, fun w' => rfl, fun k hk => ?_⟩
      have : k = 0 := by simpa using hk
      subst this
      simp [Builtin.firstCells, loadCells, loadCellsFrom]
    · obtain ⟨rfl, rfl, rfl⟩ : g = g' ∧ b0 = b0' ∧ nb = nb' := by rw [hφ] at e1; simpa using e1
      obtain ⟨h1, L, c, t', fz, rfl, h3, h4, h5, h7, h8⟩ := objB_read ho hop e3
      refine ⟨by rw [h1, hlen], fun w' => by rw [h1]; rfl, fun k hk => ?_⟩
      rcases ha with ⟨rfl, _⟩ | rfl
      · have : k = 0 := by omega
        subst this
        simp [Builtin.firstCells, loadCells, loadCellsFrom]
      · have hat : ∀ j u, ((vals l).take k)[j]? = some u → w.cell? ((⟨g, b0 + o, none⟩ : Addr).add j) = some u := fun j u hj => by
          rw [add_lit]
          have hjk : j < k := by have := (List.getElem?_eq_some_iff.1 hj).1; simp at this; omega
          have h9 := cells_at (j := 0) h5 h7
          rw [← h8] at h9
          rw [List.getElem?_take_of_lt hjk, ← h9, List.getElem?_take_of_lt (by omega), List.getElem?_drop] at hj
          unfold World.cell?
          simp only [e2]
          simp only [Option.isSome_none, Bool.false_eq_true, if_false]
          rw [← Array.getElem?_toList]
          exact hj
        have := run_loadCells_list (P := P) w ⟨g, b0 + o, none⟩ _ hat
        rw [List.length_take, vals_length, Nat.min_eq_left hk] at this
        simpa [Builtin.firstCells] using this
  have text : ∀ s : ByteArray, u = .string s → s.data.toList = l → (∀ w', (Builtin.lenOf u).run P w' = .ok l.length w') ∧ ∀ k, k ≤ l.length → (Builtin.firstCells 1 k u).run P w = .ok ((vals l).take k).toArray w := fun s hu hl => by
    subst hu
    subst hl
    refine ⟨fun w' => by rw [Array.length_toList]; rfl, fun k hk => ?_⟩
    show Result.ok ((s.extract 0 k).data.map fun b => Value.int .u8 b.toNat) w = _
    congr 1
    apply Array.toList_inj.1
    rw [Array.toList_map, ByteArray.data_extract, Array.toList_extract, List.extract_eq_take_drop]
    simp [vals, List.map_take]
  unfold srcB at h
  split at h
  · cases h
    cases hx
    exact ⟨rfl, fun w' => rfl, fun k hk => by simp at hk; subst hk; simp [Builtin.firstCells]⟩
  · rename_i b o n c ex z
    cases hx with
    | slice _ _ _ _ _ g b0 nb cap _ a hφ hl hc hex hz ha => exact real b o n n cap a g b0 nb rfl rfl (by omega) hφ ha h
  · rename_i b o n c ex z
    cases hx with
    | sslice _ _ _ _ _ g b0 nb cap _ a hφ hl hc hex hz ha => exact real b o n n cap a g b0 nb rfl rfl (by omega) hφ ha h
    | semp _ A c' _ =>
      have hl : l = [] := by
        cases hrd : rd RO st b with
        | none => rw [hrd] at h; cases h
        | some ob =>
          rw [hrd] at h
          unfold objB at h
          split at h
          · cases h; simp
          · split at h
            · cases h; simp
            · cases h
          · cases h
      subst hl
      refine ⟨rfl, fun w' => rfl, fun k hk => ?_⟩
      have : k = 0 := by simpa using hk
      subst this
      cases A <;> simp [Builtin.firstCells, loadCells, loadCellsFrom]
    | snil =>
      have hl : l = [] := by
        cases hrd : rd RO st b with
        | none => rw [hrd] at h; cases h
        | some ob =>
          rw [hrd] at h
          unfold objB at h
          split at h
          · cases h; simp
          · split at h
            · cases h; simp
            · cases h
          · cases h
      subst hl
      exact ⟨rfl, fun w' => rfl, fun k hk => by simp at hk; subst hk; simp [Builtin.firstCells]⟩
  · rename_i l'
    cases h
    cases hx with
    | str s => exact ⟨by simp [lenB], text s rfl (toNat_ofNat_map _).symm⟩
  · cases h
    cases hx with
    | sstr s => exact ⟨rfl, text s rfl rfl⟩
  · cases h
/-- a row of none comes in, that stands nowhere -/
theorem nul_ok {H : PT AObj} {next : Nat} {w : World} (hw : WRel w0 φ H next w) {o : AObj} (ho : o.nul = true) : WRel w0 φ (H.set next (some o)) (next + 1) w ∧ Step φ H w φ (H.set next (some o)) w := by
  have hf := hw.fresh _ (Nat.le_refl _)
  refine ⟨⟨hw.below, fun x hx => hw.fresh x (by omega), fun x ob hx => ?_, fun x y ob ob' g b b' n n' hx hy h1 h2 => ?_, fun x ob hx => ?_⟩, ⟨φ.le_refl, Nat.le_refl _, fun x ob g b n hx h1 => ?_, fun _ _ _ => rfl, fun _ h k => absurd k h⟩⟩
  · rw [PT.get_set] at hx
    split at hx
    · cases hx; rename_i h; subst h; exact .inl ⟨hf, ho⟩
    · exact hw.obj x ob hx
  · rw [PT.get_set] at hx hy
    split at hx
    · rename_i h; subst h; rw [hf] at h1; cases h1
    · split at hy
      · rename_i h; subst h; rw [hf] at h2; cases h2
      · exact hw.inj x y ob ob' g b b' n n' hx hy h1 h2
  · rw [PT.get_set] at hx
    split at hx
    · omega
    · have := hw.lt x ob hx; omega
  · rw [PT.get_set] at hx
    split at hx
    · rename_i h; subst h; rw [hf] at h1; cases h1
    · exact .inr ⟨x, ob, b, n, hx, h1⟩
theorem sbytes_cells {l : List UInt8} {t t' : TypeId} {b n : Nat} {c : Array Value} {fz : Nat × Nat} (hn : c.size = n) (hb : b + l.length ≤ n) (h : (c.toList.drop b).take l.length = vals l) (hf : fz.1 = fz.2 ∨ n ≤ fz.1) : ORel φ (.sbytes l t) b n (.cells c t' fz) := by
  refine .sbytes _ _ _ _ _ (.cells _ _ _ _ _ _ _ hn (by rwa [List.length_map]) ?_ hf)
  rw [List.length_map, h]
  exact vals_rel l
theorem room_ok {ex : Bool} {cap : Nat} {ob : OP} (h : (room ex cap ob).ok) : ob.ok := by
  cases ex with
  | true => exact (andP_ok h).1
  | false => exact h
theorem room_cap {ex : Bool} {cap : Nat} {ob : OP} (h : (room ex cap ob).ok) (he : ex = true) : 0 < cap := by
  subst he; exact (andP_ok h).2
theorem byteT_some {e : TypeId} (h : byteT P e = true) : P.underlying e = some (.int .u8) ∧ sizeA P e = some 1 ∧ ∃ i, P.info? e = some i ∧ i.zero = some (.int .u8 0) ∧ i.bytes ≤ 1048576 := by
  unfold byteT at h
  rw [Bool.and_eq_true, Bool.and_eq_true] at h
  obtain ⟨⟨h1, h2⟩, h3⟩ := h
  split at h3
  · rename_i z hz hs
    obtain ⟨i, z', hi, hiz, hzr, _⟩ := zero_some (φ := fun _ => none) hz
    have hby : P.bytesOf e = i.bytes := by unfold Program.bytesOf; rw [hi]; rfl
    have hib := Nat.le_of_ble_eq_true h2
    rw [hby] at hib
    refine ⟨u8_some h1, hs, i, hi, ?_, hib⟩
    unfold zeroIs at h3
    split at h3
    · rename_i k z2
      cases hzr
      rw [Bool.and_eq_true, intBeq_eq] at h3
      obtain rfl := kindEq_eq _ _ h3.1
      have : z2 = 0 := by simpa using h3.2
      rw [hiz, this]
    · cases h3
  · cases h3
theorem vals_one (l : List UInt8) : ∀ v ∈ vals l, v.oneCell' = true := fun v hv => by
  simp [vals] at hv
  obtain ⟨c, _, rfl⟩ := hv
  rfl
theorem vals_append (l m : List UInt8) : vals (l ++ m) = vals l ++ vals m := by simp [vals]
theorem appendB_ok {st st' : St} {w : World} {A : Array TypeId} {t t2 ty e : TypeId} {d : TypeDesc} {s x v : AVal} {us ux : Value} {op : OP} (hA0 : A[0]? = some t) (hA1 : A[1]? = some t2) (ht : P.underlying t = some (.slice e)) (ht2 : P.underlying t2 = some d) (hd : d = .string ∨ ∃ k, d = .slice k)
    (h : appendB P RO st e s x = some (op, v, st')) (hop : op.ok) (hs : VRel φ s us) (hx : VRel φ x ux) (hw : WRel w0 φ st.heap st.next w) (hr : RRel w0 φ RO) :
    Out w0 φ st w v st' ((Builtin.append_ A ty #[us, ux]).run P w) := by
  unfold appendB at h
  cases hc : byteT P e with
  | false => rw [hc] at h; cases h
  | true =>
  rw [hc] at h
  simp only [cond_true] at h
  obtain ⟨hu8, hsz, ie, hie, hiz, hby⟩ := byteT_some hc
  cases hsrc : srcB RO st x with
  | none => rw [hsrc] at h; cases h
  | some q =>
  obtain ⟨ob, new⟩ := q
  rw [hsrc] at h
  dsimp only at h
  have up : ∀ (base' : Option Addr) (len sCap : Nat) (old : List UInt8) (H : PT AObj) (lg : List Nat), ob.ok → old.length = len → len + lenB x ≤ 65536 → us = .slice base' len sCap → ¬ len + lenB x ≤ sCap → (Builtin.firstCells 1 len us).run P w.drew = .ok (vals old).toArray w.drew → WRel w0 φ H st.next w → Step φ st.heap w φ H w →
      Out w0 φ st w (.sslice (st.next, 0) (len + lenB x) (len + lenB x) false 1) { heap := H.set st.next (some (.sbytes (old ++ new) e)), next := st.next + 1, log := lg } ((Builtin.append_ A ty #[us, ux]).run P w) := by
    intro base' len sCap old H lg hob hol hsm hus hno hof hwH hstep
    obtain ⟨n1, n2, n3⟩ := srcB_ok (P := P) hsrc hob hx hw hr
    obtain ⟨_, _, n4⟩ := srcB_ok (P := P) hsrc hob hx hw.drew hr
    have n4 := n4 _ (Nat.le_refl _)
    rw [List.take_of_length_le (by rw [vals_length]; exact Nat.le_refl _), n1] at n4
    have n2 := n2 w
    rw [n1] at n2
    subst hus
    have hr1 := run_append_up (ty := ty) hA0 hA1 ht ht2 hd hsz hie hiz n2 hof n4 hno hsm hby
    have hge := grownCap_ge w (len + lenB x) sCap e
    have hnx := hwH.fresh _ (Nat.le_refl st.next)
    have hcs : ((vals old).toArray ++ (vals new).toArray ++ Builtin.zeroCells (Value.int .u8 0).cells (grownCap w (len + lenB x) sCap e - (len + lenB x))).size = grownCap w (len + lenB x) sCap e := by
      have hzc : (Value.int .u8 0).cells.size = 1 := rfl
      simp only [Array.size_append, size_zeroCells, hzc, List.size_toArray, vals_length, hol, n1]
      omega
    have hor : ORel (φ.ext st.next (w.drew.heap.size, 0, ((vals old).toArray ++ (vals new).toArray ++ Builtin.zeroCells (Value.int .u8 0).cells (grownCap w (len + lenB x) sCap e - (len + lenB x))).size)) (.sbytes (old ++ new) e) 0 ((vals old).toArray ++ (vals new).toArray ++ Builtin.zeroCells (Value.int .u8 0).cells (grownCap w (len + lenB x) sCap e - (len + lenB x))).size (.cells ((vals old).toArray ++ (vals new).toArray ++ Builtin.zeroCells (Value.int .u8 0).cells (grownCap w (len + lenB x) sCap e - (len + lenB x))) e (0, 0)) := by
      refine sbytes_cells rfl (by rw [hcs, List.length_append, hol, n1]; omega) ?_ (.inl rfl)
      rw [List.drop_zero, Array.toList_append, Array.toList_append, List.toList_toArray, List.toList_toArray, ← vals_append, List.take_append_of_le_length (by rw [vals_length]; exact Nat.le_refl _), List.take_of_length_le (by rw [vals_length]; exact Nat.le_refl _)]
    obtain ⟨i1, i2⟩ := new_ok (w := w.drew) (w' := w.drew.alloc (.cells ((vals old).toArray ++ (vals new).toArray ++ Builtin.zeroCells (Value.int .u8 0).cells (grownCap w (len + lenB x) sCap e - (len + lenB x))) e)) hwH.drew rfl rfl rfl rfl hor
    refine ⟨_, _, hr1, _, VRel.sslice st.next 0 (len + lenB x) (len + lenB x) 1 w.drew.heap.size 0 ((vals old).toArray ++ (vals new).toArray ++ Builtin.zeroCells (Value.int .u8 0).cells (grownCap w (len + lenB x) sCap e - (len + lenB x))).size (grownCap w (len + lenB x) sCap e) false ⟨w.heap.size, 0, none⟩ (Phi.ext_at _ _ _) (Nat.le_refl _) hge (by simp) (fun _ => ?_) (.inr rfl), i1, hstep.trans ((Step.drew H w).trans i2)⟩
    rw [hcs]; omega
  have nil : ∀ (H : PT AObj) (lg : List Nat), ob.ok → lenB x ≤ 65536 → us = .slice none 0 0 → WRel w0 φ H st.next w → Step φ st.heap w φ H w → Out w0 φ st w (.sslice (st.next, 0) (0 + lenB x) (0 + lenB x) false 1) { heap := H.set st.next (some (.sbytes ([] ++ new) e)), next := st.next + 1, log := lg } ((Builtin.append_ A ty #[us, ux]).run P w) := by
    intro H lg hob hsm hus hwH hstep
    by_cases h0 : lenB x = 0
    · obtain ⟨n1, n2, n3⟩ := srcB_ok (P := P) hsrc hob hx hw hr
      have hnew : new = [] := List.eq_nil_of_length_eq_zero (by omega)
      subst hnew
      have n3 := n3 0 (Nat.le_refl _)
      have n2 := n2 w
      rw [h0]
      subst hus
      obtain ⟨i1, i2⟩ := nul_ok hwH (o := .sbytes [] e) rfl
      exact ⟨_, w, run_append_in (ty := ty) (w' := w) hA0 hA1 ht ht2 hd hsz n2 n3 (Nat.le_refl _) rfl, φ, .snil _ _ _, i1, hstep.trans i2⟩
    · refine up none 0 0 [] H lg hob rfl (by omega) hus (by omega) ?_ hwH hstep
      subst hus
      simp [Builtin.firstCells, vals]
  have go : ∀ (ob' : OP) (b o len cap z : Nat) (ex : Bool), (ob'.ok → ob.ok) → (s = .slice (some (b, o)) len cap ex z ∨ (s = .sslice (b, o) len cap ex z ∧ (ob'.ok → ex = true → 0 < cap))) → appendG st e (lenB x) ob' new b o len cap ex z = some (op, v, st') → Out w0 φ st w v st' ((Builtin.append_ A ty #[us, ux]).run P w) := by
    intro ob' b o len cap z ex hob'' hsv h
    unfold appendG at h
    split at h
    · cases h
    · rename_i obj hb
      split at h
      · cases h
      · rename_i ob2 old hold
        cases hz1 : Nat.beq z 1 with
        | false => rw [hz1] at h; cases h
        | true =>
        obtain rfl := Nat.eq_of_beq_eq_true hz1
        rw [hz1] at h
        cases h
        obtain ⟨hob', hob2, hsm, hexc⟩ := andP_ok hop
        have hob := hob'' hob'
        obtain ⟨k1, k2⟩ := kill_ok hw b
        have hsS : srcB RO st s = some (ob2, old) := by rcases hsv with rfl | ⟨rfl, _⟩ <;> (show objB o len (rd RO st b) = _; unfold rd; rw [hb]; exact hold)
        have hlS : lenB s = len := by rcases hsv with rfl | ⟨rfl, _⟩ <;> rfl
        obtain ⟨s1, s2, s3⟩ := srcB_ok (P := P) hsS hob2 hs hw.drew hr
        rw [hlS] at s1
        have s3 := s3 _ (Nat.le_refl _)
        rw [List.take_of_length_le (by rw [vals_length]; exact Nat.le_refl _), s1] at s3
        have real : ∀ (g b0 nb cap' : Nat) (a : Addr), us = .slice (some a) len cap' → φ b = some (g, b0, nb) → len ≤ cap → cap ≤ cap' → (ex = true → cap' = cap) → (ex = false → b0 + o + cap' * 1 ≤ nb) → ((cap' = 0 ∧ a.block = g) ∨ a = ⟨g, b0 + o, none⟩) →
            Out w0 φ st w (.sslice (st.next, 0) (len + lenB x) (len + lenB x) false 1) { heap := (st.heap.set b none).set st.next (some (.sbytes (old ++ new) e)), next := Nat.succ st.next, log := b :: st.log } ((Builtin.append_ A ty #[us, ux]).run P w) := by
          intro g b0 nb cap' a hus hφ hlc hcc hex hzb ha
          by_cases hin : len + lenB x ≤ cap'
          · obtain ⟨n1, q2, q3⟩ := srcB_ok (P := P) hsrc hob hx hw hr
            have n3 := q3 _ (Nat.le_refl _)
            rw [List.take_of_length_le (by rw [vals_length]; exact Nat.le_refl _), n1] at n3
            have n2 := q2 w
            rw [n1] at n2
            clear q2 q3
            obtain ⟨g', b0', nb', x', e1, e2, e3, e4⟩ := hw.obj_of hb hφ
            obtain ⟨rfl, rfl, rfl⟩ : g = g' ∧ b0 = b0' ∧ nb = nb' := by rw [hφ] at e1; simpa using e1
            obtain ⟨h1, L, c, t', fz, rfl, h3, h4, h5, h6, h7, h8, h9⟩ := objB_cells hold hob2 e4
            have hbd : b0 + o + cap' ≤ nb := by
              cases hexb : ex with
              | true => have := hex hexb; have := hexc hexb; omega
              | false => have := hzb hexb; omega
            have hst := run_storeRow (P := P) g (b0 + (o + len)) t' fz (vals new) 0 c w e3 (by rw [h3]; exact h6) (by rw [vals_length]; omega) (vals_one new)
            simp only [Nat.add_zero] at hst
            have hcell := cells_at (j := 0) h5 h7
            rw [← h8] at hcell
            have hor : ORel (φ.ext st.next (g, b0 + o, nb)) (.sbytes (old ++ new) e) (b0 + o) nb (.cells (c.toList.take (b0 + (o + len)) ++ vals new ++ c.toList.drop (b0 + (o + len) + (vals new).length)).toArray t' fz) := by
              refine sbytes_cells (by simp [vals_length]; omega) (by rw [List.length_append]; omega) ?_ h6
              have eX : ((c.toList.drop (b0 + o)).take len).length = len := by rw [hcell, vals_length]; exact s1
              have e1 : (c.toList.take (b0 + (o + len))).drop (b0 + o) = (c.toList.drop (b0 + o)).take len := by rw [List.drop_take]; congr 1; omega
              have e2 : (old ++ new).length = ((c.toList.drop (b0 + o)).take len).length + (vals new).length := by rw [eX, vals_length, List.length_append, s1]
              rw [List.toList_toArray, List.append_assoc, List.drop_append_of_le_length (by simp; omega), e1, e2, List.take_length_add_append, List.take_left, hcell, vals_append]
            subst hus
            rcases ha with ⟨rfl, hab⟩ | rfl
            · have hl0 : len = 0 := by omega
              have hx0 : lenB x = 0 := by omega
              have hnew : new = [] := List.eq_nil_of_length_eq_zero (by omega)
              have hold0 : old = [] := List.eq_nil_of_length_eq_zero (by omega)
              subst hnew hold0 hl0
              have hor0 : ORel (φ.ext st.next (g, b0 + o, nb)) (.sbytes ([] ++ []) e) (b0 + o) nb (.cells c t' fz) := sbytes_cells h3 (by simp; omega) (by simp [vals]) h6
              obtain ⟨i1, i2⟩ := graft_ok (b1 := b0 + o) hw hb hφ rfl e3 (fun k hk => rfl) rfl rfl rfl hor0
              simp only [hx0] at n2 n3 ⊢
              exact ⟨_, w, run_append_in (ty := ty) (w' := w) hA0 hA1 ht ht2 hd hsz n2 n3 (Nat.le_refl _) rfl, _, .sslice _ _ _ _ _ g (b0 + o) nb 0 _ _ (Phi.ext_at _ _ _) (Nat.le_refl _) (Nat.le_refl _) (by simp) (fun _ => by omega) (.inl ⟨rfl, hab⟩), i1, i2⟩
            · obtain ⟨i1, i2⟩ := graft_ok (b1 := b0 + o) hw hb hφ (setRow_size w g _) (setRow_heap w g c _ t' fz e3) (fun k hk => setRow_other w g _ k hk) rfl rfl rfl hor
              refine ⟨_, _, run_append_in (ty := ty) (w' := w.setRow g (c.toList.take (b0 + (o + len)) ++ vals new ++ c.toList.drop (b0 + (o + len) + (vals new).length)).toArray) hA0 hA1 ht ht2 hd hsz n2 n3 hin ?_, _, .sslice _ _ _ _ _ g (b0 + o) nb _ _ _ (Phi.ext_at _ _ _) (Nat.le_refl _) hin (by simp) (fun _ => by omega) (.inr rfl), i1, i2⟩
              show (storeCells ((⟨g, b0 + o, none⟩ : Addr).add (len * 1)) (vals new)).run P w = _
              rw [add_lit, Nat.mul_one, Nat.add_assoc]; exact hst
          · exact up (some a) len cap' old _ _ hob s1 hsm hus hin s3 k1 k2
        rcases hsv with rfl | ⟨rfl, hcp⟩
        · cases hs with
          | slice _ _ _ _ _ g b0 nb cap' _ a hφ hl hcc hex hz ha => exact real g b0 nb cap' a rfl hφ hl hcc hex hz ha
        · cases hs with
          | sslice _ _ _ _ _ g b0 nb cap' _ a hφ hl hcc hex hz ha => exact real g b0 nb cap' a rfl hφ hl hcc hex hz ha
          | semp => exact absurd (hcp hob' rfl) (Nat.lt_irrefl _)
          | snil =>
            have hold0 : old = [] := List.eq_nil_of_length_eq_zero (by omega)
            subst hold0
            exact nil _ _ hob (by omega) rfl k1 k2
  split at h
  · cases h
    obtain ⟨hob, hsm⟩ := andP_ok hop
    cases hs with
    | slice0 =>
      have := nil st.heap st.log hob hsm rfl hw (Step.refl _ _ _)
      rw [Nat.zero_add, List.nil_append] at this
      exact this
  · exact go ob _ _ _ _ _ _ id (.inl rfl) h
  · exact go _ _ _ _ _ _ _ room_ok (.inr ⟨rfl, room_cap⟩) h
  · cases h
/-- an object is looked at otherwise -/
theorem view_ok {H : PT AObj} {next : Nat} {w : World} (hw : WRel w0 φ H next w) {b : Nat} {ob ob' : AObj} (hb : H.get b = some ob) (h1 : ob.nul = true → ob'.nul = true) (h2 : ∀ b0 n x, ORel φ ob b0 n x → ORel φ ob' b0 n x) : WRel w0 φ (H.set b (some ob')) next w ∧ Step φ H w φ (H.set b (some ob')) w := by
  have hget : ∀ x o, (H.set b (some ob')).get x = some o → (x = b ∧ o = ob') ∨ H.get x = some o := fun x o hx => by
    rw [PT.get_set] at hx
    split at hx
    · cases hx; exact .inl ⟨‹_›, rfl⟩
    · exact .inr hx
  have hsome : ∀ x o, (H.set b (some ob')).get x = some o → ∃ o', H.get x = some o' := fun x o hx => by
    rcases hget x o hx with ⟨rfl, _⟩ | h
    · exact ⟨_, hb⟩
    · exact ⟨_, h⟩
  refine ⟨⟨hw.below, hw.fresh, fun x o hx => ?_, fun x y o o' g b1 b2 n n' hx hy e1 e2 => ?_, fun x o hx => ?_⟩, ⟨φ.le_refl, Nat.le_refl _, fun x o g b1 n hx e1 => ?_, fun _ _ _ => rfl, fun _ h k => absurd k h⟩⟩
  · rcases hget x o hx with ⟨rfl, rfl⟩ | h
    · rcases hw.obj _ _ hb with ⟨e1, e2⟩ | ⟨g, b0, n, u, e1, e2, e3, e4⟩
      · exact .inl ⟨e1, h1 e2⟩
      · exact .inr ⟨g, b0, n, u, e1, e2, e3, h2 _ _ _ e4⟩
    · exact hw.obj x o h
  · obtain ⟨o1, h3⟩ := hsome x o hx
    obtain ⟨o2, h4⟩ := hsome y o' hy
    exact hw.inj x y o1 o2 g b1 b2 n n' h3 h4 e1 e2
  · obtain ⟨o1, h3⟩ := hsome x o hx
    exact hw.lt x o1 h3
  · obtain ⟨o1, h3⟩ := hsome x o hx
    exact .inr ⟨x, o1, b1, n, h3, e1⟩
theorem objL_view {ob : AObj} {l : List UInt8} {t : TypeId} (h : objL ob = some (l, t)) : (ob.nul = true → (AObj.sbytes l t).nul = true) ∧ ∀ b0 n x, ORel φ ob b0 n x → ORel φ (.sbytes l t) b0 n x := by
  unfold objL at h
  split at h
  · cases h; exact ⟨id, fun _ _ _ h => h⟩
  · rename_i q t'
    split at h
    · rename_i q' hq
      cases h
      refine ⟨fun h => (by cases h), fun b0 n x hx => ?_⟩
      cases hx with
      | cells _ _ t2 _ _ c fz hn hb hr hf =>
      have hv := bytesS_rel hq hr
      have hl : q.length = l.length := by have := hr.length; rw [hv, vals_length] at this; exact this.symm
      exact sbytes_cells hn (by omega) (by rw [← hl]; exact hv) hf
    · cases h
  · cases h
theorem copyB_ok {st st' : St} {w : World} {t t2 ty e : TypeId} {dv x v : AVal} {ud ux : Value} {op : OP} (ht : P.underlying t = some (.slice e))
    (h : copyB P RO st e dv x = some (op, v, st')) (hop : op.ok) (hs : VRel φ dv ud) (hx : VRel φ x ux) (hw : WRel w0 φ st.heap st.next w) (hr : RRel w0 φ RO) (args : Array TypeId) (ha : args[0]? = some t) :
    Out w0 φ st w v st' ((Builtin.copy_ args ty #[ud, ux]).run P w) := by
  unfold copyB at h
  cases hc : byteT P e with
  | false => rw [hc] at h; cases h
  | true =>
  rw [hc] at h
  simp only [cond_true] at h
  obtain ⟨hu8, hsz, _⟩ := byteT_some hc
  cases hsrc : srcB RO st x with
  | none => rw [hsrc] at h; cases h
  | some q =>
  obtain ⟨ob, new⟩ := q
  rw [hsrc] at h
  dsimp only at h
  have go : ∀ (b o len : Nat), (∃ c ex z, dv = .slice (some (b, o)) len c ex z ∨ dv = .sslice (b, o) len c ex z) → copyG st (lenB x) ob new b o len = some (op, v, st') → Out w0 φ st w v st' ((Builtin.copy_ args ty #[ud, ux]).run P w) := by
    rintro b o len ⟨c0, ex, z, hdv⟩ h
    unfold copyG cpyL at h
    split at h
    · cases h
    · rename_i obj hb
      split at h
      · rename_i ob2 old l tt hold hL
        cases h
        obtain ⟨hob, hob2, hmx⟩ := andP_ok hop
        obtain ⟨n1, n2, n3⟩ := srcB_ok (P := P) hsrc hob hx hw hr
        have n2 := n2 w
        rw [n1] at n2
        have hmn : min (lenB x) len ≤ lenB x := Nat.min_le_left _ _
        have n3 := n3 (min (lenB x) len) (by omega)
        have hvt : (vals new).take (min (lenB x) len) = vals (new.take (min (lenB x) len)) := by simp [vals, List.map_take]
        rw [hvt] at n3
        have real : ∀ (g b0 nb cap' : Nat) (a : Addr), ud = .slice (some a) len cap' → φ b = some (g, b0, nb) → len ≤ cap' → ((cap' = 0 ∧ a.block = g) ∨ a = ⟨g, b0 + o, none⟩) → Out w0 φ st w (.sint .i64 ((min (lenB x) len : Nat) : Int)) (putObj st b (.sbytes (l.take o ++ new.take (min (lenB x) len) ++ l.drop (o + min (lenB x) len)) tt)) ((Builtin.copy_ args ty #[ud, ux]).run P w) := by
          intro g b0 nb cap' a hud hφ hlc haa
          obtain ⟨g', b0', nb', x', e1, e2, e3, e4⟩ := hw.obj_of hb hφ
          obtain ⟨rfl, rfl, rfl⟩ : g = g' ∧ b0 = b0' ∧ nb = nb' := by rw [hφ] at e1; simpa using e1
          obtain ⟨h1, L, c, t', fz, rfl, h3, h4, h5, h6, h7, h8, h9⟩ := objB_cells hold hob2 e4
          have hLl : L = l := by
            unfold objB at hold
            unfold objL at hL
            have inj : ∀ a b : List UInt8, vals a = vals b → a = b := fun a b h => by
              have h' := congrArg (List.map fun v => match v with | .int _ z => UInt8.ofNat z.toNat | _ => 0) h
              unfold vals at h'
              rw [List.map_map, List.map_map] at h'
              have e : ((fun v => match v with | .int _ z => UInt8.ofNat z.toNat | _ => 0) ∘ fun c : UInt8 => Value.int .u8 (c.toNat : Int)) = id := by funext c; simp
              rw [e, List.map_id, List.map_id] at h'
              exact h'
            cases obj with
            | sbytes q _ =>
              cases hL
              cases e4 with
              | sbytes _ _ _ _ _ e4 => cases e4 with
                | cells _ _ _ _ _ _ _ _ _ hr _ =>
                have hv := rel_vals hr
                rw [List.length_map] at hv
                refine inj _ _ ?_
                rw [← h5, ← hv]
                have : L.length = l.length := by have := h9; exact this.symm
                rw [this]
            | cells q _ =>
              simp only at hL
              split at hL
              · rename_i q' hq'
                cases hL
                cases e4 with
                | cells _ _ _ _ _ _ _ _ _ hr _ =>
                have hv := bytesS_rel hq' hr
                refine inj _ _ ?_
                rw [← h5, ← hv]
                have : L.length = q.length := by have h9' : lenL q 0 = L.length := h9; rw [lenL0] at h9'; exact h9'.symm
                rw [this]
              · cases hL
            | _ => cases hL
          subst hLl
          have hk : min (lenB x) len ≤ len := Nat.min_le_right _ _
          have hnk : (new.take (min (lenB x) len)).length = min (lenB x) len := by rw [List.length_take]; omega
          have hin : inR .i64 ((min (lenB x) len : Nat) : Int) := ⟨by show (-9223372036854775808 : Int) ≤ _; omega, by show _ ≤ (9223372036854775807 : Int); omega⟩
          have hst := run_storeRow (P := P) g (b0 + o) t' fz (vals (new.take (min (lenB x) len))) 0 c w e3 (by rw [h3]; exact h6) (by rw [vals_length, hnk]; omega) (vals_one _)
          simp only [Nat.add_zero] at hst
          have hrow : ((c.toList.take (b0 + o) ++ vals (new.take (min (lenB x) len)) ++ c.toList.drop (b0 + o + (vals (new.take (min (lenB x) len))).length)).drop b0).take L.length = vals (L.take o ++ new.take (min (lenB x) len) ++ L.drop (o + min (lenB x) len)) := by
            have hr0 : VRels φ (L.map fun c => AVal.int .u8 (c.toNat : Int)) ((c.toList.drop b0).take (L.map fun c => AVal.int .u8 (c.toNat : Int)).length) := by rw [List.length_map, h5]; exact vals_rel L
            have := row_put (o := o) hr0 (by rw [List.length_map]; omega) (vals_rel (φ := φ) (new.take (min (lenB x) len))) (by rw [List.length_map, List.length_map, hnk]; omega)
            rw [← List.map_take, ← List.map_drop, ← List.map_append, ← List.map_append, List.length_map, List.length_map] at this
            have h10 := rel_vals this
            rw [List.toList_toArray, hnk] at h10
            have hlen : (L.take o ++ new.take (min (lenB x) len) ++ L.drop (o + min (lenB x) len)).length = L.length := by simp; omega
            rw [hlen] at h10
            rw [vals_length, hnk]
            rw [vals_length, hnk] at h10
            exact h10
          have hor : ORel φ (.sbytes (L.take o ++ new.take (min (lenB x) len) ++ L.drop (o + min (lenB x) len)) tt) b0 nb (.cells (c.toList.take (b0 + o) ++ vals (new.take (min (lenB x) len)) ++ c.toList.drop (b0 + o + (vals (new.take (min (lenB x) len))).length)).toArray t' fz) := by
            have hlen : (L.take o ++ new.take (min (lenB x) len) ++ L.drop (o + min (lenB x) len)).length = L.length := by simp; omega
            refine sbytes_cells (by simp [vals_length]; omega) (by rw [hlen]; omega) ?_ h6
            rw [hlen]; exact hrow
          obtain ⟨i1, i2⟩ := turn_ok hw hb hφ (setRow_size w g _) (setRow_heap w g c _ t' fz e3) (fun k hk => setRow_other w g _ k hk) rfl rfl rfl hor
          subst hud
          rcases haa with ⟨rfl, hab⟩ | rfl
          · have hl0 : len = 0 := by omega
            subst hl0
            have hm0 : min (lenB x) 0 = 0 := Nat.min_zero _
            have hwe : w.setRow g (c.toList.take (b0 + o) ++ vals (new.take (min (lenB x) 0)) ++ c.toList.drop (b0 + o + (vals (new.take (min (lenB x) 0))).length)).toArray = w := by
              rw [hm0]
              simp [vals]
              exact setRow_self w g c t' fz e3
            rw [hwe] at i1 i2
            rw [hm0] at n3
            refine ⟨_, w, ?_, φ, .sint _ _ hin, i1, i2⟩
            simp [Builtin.copy_, ha, run_und ht, run_size hsz, n2, n3, goInt, vals, storeCells]
          · refine ⟨_, w.setRow g (c.toList.take (b0 + o) ++ vals (new.take (min (lenB x) len)) ++ c.toList.drop (b0 + o + (vals (new.take (min (lenB x) len))).length)).toArray, ?_, φ, .sint _ _ hin, i1, i2⟩
            have n3' : (Builtin.firstCells 1 ((lenB x).min len) ux).run P w = .ok (vals (new.take (min (lenB x) len))).toArray w := n3
            simp [Builtin.copy_, ha, run_und ht, run_size hsz, n2, n3', goInt, hst]
        rcases hdv with rfl | rfl
        · cases hs with
          | slice _ _ _ _ _ g b0 nb cap' _ a hφ hl hcc hex hz haa => exact real g b0 nb cap' a rfl hφ (by omega) haa
        · cases hs with
          | sslice _ _ _ _ _ g b0 nb cap' _ a hφ hl hcc hex hz haa => exact real g b0 nb cap' a rfl hφ (by omega) haa
          | semp _ A c' _ =>
            have hm0 : min (lenB x) 0 = 0 := Nat.min_zero _
            obtain ⟨v1, v2⟩ := objL_view (φ := φ) hL
            have hll : l.take o ++ new.take (min (lenB x) 0) ++ l.drop (o + min (lenB x) 0) = l := by rw [hm0]; simp
            obtain ⟨i1, i2⟩ := view_ok hw hb v1 v2
            rw [hm0] at n3
            unfold putObj
            rw [hll]
            refine ⟨_, w, ?_, φ, .sint _ _ ⟨by show (-9223372036854775808 : Int) ≤ _; omega, by show _ ≤ (9223372036854775807 : Int); omega⟩, i1, i2⟩
            have n3'' : (Builtin.firstCells 1 0 ux).run P w = .ok #[] w := by rw [n3]; simp [vals]
            cases A <;> simp [Builtin.copy_, ha, run_und ht, run_size hsz, n2, n3'', goInt, hm0, storeCells]
          | snil =>
            have hm0 : min (lenB x) 0 = 0 := Nat.min_zero _
            obtain ⟨v1, v2⟩ := objL_view (φ := φ) hL
            have hll : l.take o ++ new.take (min (lenB x) 0) ++ l.drop (o + min (lenB x) 0) = l := by rw [hm0]; simp
            obtain ⟨i1, i2⟩ := view_ok hw hb v1 v2
            rw [hm0] at n3
            unfold putObj
            rw [hll]
            refine ⟨_, w, ?_, φ, .sint _ _ ⟨by show (-9223372036854775808 : Int) ≤ _; omega, by show _ ≤ (9223372036854775807 : Int); omega⟩, i1, i2⟩
            have n3'' : (Builtin.firstCells 1 0 ux).run P w = .ok #[] w := by rw [n3]; simp [vals]
            simp [Builtin.copy_, ha, run_und ht, run_size hsz, n2, n3'', goInt, hm0]
      · cases h
  split at h
  · exact go _ _ _ ⟨_, _, _, .inl rfl⟩ h
  · exact go _ _ _ ⟨_, _, _, .inr rfl⟩ h
  · cases h
end
end Go.Proofs.Ytlnfolgmjfcinaa.Abs
