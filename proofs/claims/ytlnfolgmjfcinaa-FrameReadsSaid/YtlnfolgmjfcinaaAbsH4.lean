/- append of ints that are known by terms. By an AI agent. -/
import Derived.Test.YtlnfolgmjfcinaaAbsH3
namespace Go.Proofs.Ytlnfolgmjfcinaa.Abs
open Go Go.RowKit
set_option linter.unusedVariables false
def valsI (k : IntKind) (l : List Int) : List Value := l.map fun z => Value.int k z
theorem valsI_length (k : IntKind) (l : List Int) : (valsI k l).length = l.length := by simp [valsI]
section
variable {w0 : World} {φ : Phi} {P : Program} {RO : PT AObj}
theorem intsS_rel {k : IntKind} : ∀ {l : List AVal} {q : List Int} {us : List Value}, intsS k l = some q → VRels φ l us → us = q.map (fun z => .int k z) ∧ ∀ z ∈ q, inR k z
  | [], q, us, h, hr => by cases h; cases hr; exact ⟨rfl, fun z hz => by cases hz⟩
  | v :: l, q, us, h, hr => by
    cases hr with
    | cons _ u _ us h1 h2 =>
    unfold intsS at h
    split at h
    · rename_i j z r hz hr'
      cases hk : kindEq j k with
      | false => rw [hk] at h; cases h
      | true =>
      rw [hk] at h
      cases h
      obtain rfl := kindEq_eq _ _ hk
      obtain ⟨rfl, hin⟩ := asR_rel hz h1
      obtain ⟨e1, e2⟩ := intsS_rel hr' h2
      refine ⟨by rw [e1]; rfl, fun y hy => ?_⟩
      rcases List.mem_cons.1 hy with rfl | hy
      · exact hin
      · exact e2 y hy
    · cases h
theorem ints_rel (k : IntKind) (q : List Int) : VRels φ (q.map fun z => AVal.int k z) (q.map fun z => Value.int k z) := by
  induction q with
  | nil => exact .nil
  | cons z q ih => exact .cons _ _ _ _ (.int _ _) ih
theorem ints_vals {k : IntKind} {q : List Int} {us : List Value} (h : VRels φ (q.map fun z => AVal.int k z) us) : us = q.map fun z => Value.int k z := by
  induction q generalizing us with
  | nil => cases h; rfl
  | cons z q ih => cases h with | cons _ u _ us hu hs => cases hu; rw [ih hs]; rfl
/-- an object of ints: its cells in the block -/
theorem objI_cells {k : IntKind} {ob : AObj} {o n b0 nb : Nat} {x : Obj} {op : OP} {l : List Int} (h : objI k o n (some ob) = some (op, l)) (hop : op.ok) (hx : ORel φ ob b0 nb x) :
    l.length = n ∧ ∃ (L : List Int) (c : Array Value) (t' : TypeId) (fz : Nat × Nat), x = .cells c t' fz ∧ c.size = nb ∧ b0 + L.length ≤ nb ∧ (c.toList.drop b0).take L.length = valsI k L ∧ (fz.1 = fz.2 ∨ nb ≤ fz.1) ∧ o + n ≤ L.length ∧ l = (L.drop o).take n ∧ objM ob = L.length ∧ ∀ z ∈ L, inR k z := by
  unfold objI at h
  split at h
  · rename_i j L t he
    cases hk : kindEq j k with
    | false => rw [hk] at h; cases h
    | true =>
    rw [hk] at h
    obtain rfl := kindEq_eq _ _ hk
    cases h
    have hop : o + n ≤ L.length := hop
    cases he
    cases hx with
    | sints _ _ _ _ _ _ hi hx =>
    cases hx with
    | cells _ _ t' _ _ c fz hn hb hr hf =>
    rw [List.length_map] at hb hr
    refine ⟨by simp; omega, L, c, t', fz, rfl, hn, hb, ints_vals hr, hf, hop, rfl, rfl, hi⟩
  · rename_i cs t he
    split at h
    · rename_i L hL
      cases h
      have hop : o + n ≤ L.length := hop
      cases he
      cases hx with
      | cells _ _ t' _ _ c fz hn hb hr hf =>
      obtain ⟨hv, hi⟩ := intsS_rel hL hr
      have hv : _ = valsI k L := hv
      have hlen : cs.length = L.length := by have := hr.length; rw [hv, valsI_length] at this; exact this.symm
      rw [hlen] at hb hv
      exact ⟨by simp; omega, L, c, t', fz, rfl, hn, hb, hv, hf, hop, rfl, by show lenL cs 0 = _; rw [lenL0, hlen], hi⟩
    · cases h
  · cases h
theorem objI_read {k : IntKind} {ob : AObj} {o n b0 nb : Nat} {x : Obj} {op : OP} {l : List Int} (h : objI k o n (some ob) = some (op, l)) (hop : op.ok) (hx : ORel φ ob b0 nb (thaw x)) :
    l.length = n ∧ (∀ z ∈ l, inR k z) ∧ ∃ (L : List Int) (c : Array Value) (t' : TypeId) (fz : Nat × Nat), x = .cells c t' fz ∧ c.size = nb ∧ b0 + L.length ≤ nb ∧ (c.toList.drop b0).take L.length = valsI k L ∧ o + n ≤ L.length ∧ l = (L.drop o).take n := by
  obtain ⟨h1, L, c, t', fz, h2, h3, h4, h5, h6, h7, h8, h9, h10⟩ := objI_cells h hop hx
  have hin : ∀ z ∈ l, inR k z := fun z hz => h10 z (by rw [h8] at hz; exact List.mem_of_mem_drop (List.mem_of_mem_take hz))
  cases x with
  | cells c2 t2 fz2 => cases h2; exact ⟨h1, hin, L, _, _, _, rfl, h3, h4, h5, h7, h8⟩
  | _ => cases h2
theorem objI_nul {k : IntKind} {ob : AObj} {o n : Nat} {op : OP} {l : List Int} (h : objI k o n (some ob) = some (op, l)) (hop : op.ok) (hn : ob.nul = true) : n = 0 ∧ l = [] := by
  unfold objI at h
  split at h
  · rename_i j L t he
    cases hk : kindEq j k with
    | false => rw [hk] at h; cases h
    | true =>
    rw [hk] at h
    cases h
    have hop : o + n ≤ L.length := hop
    cases he
    cases L with
    | nil => simp at hop; exact ⟨by omega, by simp⟩
    | cons _ _ => cases hn
  · rename_i cs t he
    cases he; cases hn
  · cases h
theorem cellsI_at {k : IntKind} {c : Array Value} {b0 o n : Nat} {L : List Int} (h : (c.toList.drop b0).take L.length = valsI k L) (hon : o + n ≤ L.length) : (c.toList.drop (b0 + o)).take n = valsI k ((L.drop o).take n) := by
  have h2 := congrArg (fun q => (q.drop o).take n) h
  simp only [valsI, ← List.map_drop, ← List.map_take] at h2 ⊢
  rw [← h2, List.drop_take, List.take_take, List.drop_drop, Nat.min_eq_left (by omega)]
/-- the ints of a source -/
theorem srcI_ok {k : IntKind} {st : St} {w : World} {x : AVal} {u : Value} {op : OP} {l : List Int} (h : srcI RO k st x = some (op, l)) (hop : op.ok) (hx : VRel φ x u) (hw : WRel w0 φ st.heap st.next w) (hr : RRel w0 φ RO) :
    (∀ z ∈ l, inR k z) ∧ l.length = lenB x ∧ (∀ w', (Builtin.lenOf u).run P w' = .ok l.length w') ∧ ∀ i, i ≤ l.length → (Builtin.firstCells 1 i u).run P w = .ok ((valsI k l).take i).toArray w := by
  have real : ∀ (b o n len cap : Nat) (a : Addr) (g b0 nb : Nat), lenB x = n → u = .slice (some a) n cap → n ≤ cap → φ b = some (g, b0, nb) → ((cap = 0 ∧ a.block = g) ∨ a = ⟨g, b0 + o, none⟩) → objI k o n (rd RO st b) = some (op, l) →
      (∀ z ∈ l, inR k z) ∧ l.length = lenB x ∧ (∀ w', (Builtin.lenOf u).run P w' = .ok l.length w') ∧ ∀ i, i ≤ l.length → (Builtin.firstCells 1 i u).run P w = .ok ((valsI k l).take i).toArray w := fun b o n len cap a g b0 nb hlen hu hcap hφ ha ho => by
    cases hrd : rd RO st b with
    | none => rw [hrd] at ho; cases ho
    | some ob =>
    rw [hrd] at ho
    subst hu
    rcases rd_some' hrd hw hr with hn | ⟨g', b0', nb', x', e1, e2, e3⟩
    · obtain ⟨rfl, rfl⟩ := objI_nul ho hop hn
      refine ⟨fun z hz => (by cases hz), by rw [hlen]; rfl, fun w' => rfl, fun i hk => ?_⟩
      have : i = 0 := by simpa using hk
      subst this
      simp [Builtin.firstCells, loadCells, loadCellsFrom]
    · obtain ⟨rfl, rfl, rfl⟩ : g = g' ∧ b0 = b0' ∧ nb = nb' := by rw [hφ] at e1; simpa using e1
      obtain ⟨h1, hin, L, c, t', fz, rfl, h3, h4, h5, h7, h8⟩ := objI_read ho hop e3
      refine ⟨hin, by rw [h1, hlen], fun w' => by rw [h1]; rfl, fun i hk => ?_⟩
      rcases ha with ⟨rfl, _⟩ | rfl
      · have : i = 0 := by omega
        subst this
        simp [Builtin.firstCells, loadCells, loadCellsFrom]
      · have hat : ∀ j u, ((valsI k l).take i)[j]? = some u → w.cell? ((⟨g, b0 + o, none⟩ : Addr).add j) = some u := fun j u hj => by
          rw [add_lit]
          have hjk : j < i := by have := (List.getElem?_eq_some_iff.1 hj).1; simp at this; omega
          have h9 := cellsI_at h5 h7
          rw [← h8] at h9
          rw [List.getElem?_take_of_lt hjk, ← h9, List.getElem?_take_of_lt (by omega), List.getElem?_drop] at hj
          unfold World.cell?
          simp only [e2]
          simp only [Option.isSome_none, Bool.false_eq_true, if_false]
          rw [← Array.getElem?_toList]
          exact hj
        have := run_loadCells_list (P := P) w ⟨g, b0 + o, none⟩ _ hat
        rw [List.length_take, valsI_length, Nat.min_eq_left hk] at this
        simpa [Builtin.firstCells] using this
  unfold srcI at h
  split at h
  · cases h
    cases hx
    exact ⟨fun z hz => (by cases hz), rfl, fun w' => rfl, fun i hk => by simp at hk; subst hk; simp [Builtin.firstCells]⟩
  · rename_i b o n c ex z
    cases hx with
    | slice _ _ _ _ _ g b0 nb cap _ a hφ hl hc hex hz ha => exact real b o n n cap a g b0 nb rfl rfl (by omega) hφ ha h
  · rename_i b o n c ex z
    cases hx with
    | sslice _ _ _ _ _ g b0 nb cap _ a hφ hl hc hex hz ha => exact real b o n n cap a g b0 nb rfl rfl (by omega) hφ ha h
    | semp _ A c' _ =>
      have hl : l = [] := by
        cases hrd : rd RO st b with
        | none => rw [hrd] at h; cases h
        | some ob =>
          rw [hrd] at h
          unfold objI at h
          split at h
          · rename_i j L t he
            cases hk : kindEq j k with
            | false => rw [hk] at h; cases h
            | true => rw [hk] at h; cases h; simp
          · split at h
            · cases h; simp
            · cases h
          · cases h
      subst hl
      refine ⟨fun z hz => (by cases hz), rfl, fun w' => rfl, fun i hk => ?_⟩
      have : i = 0 := by simpa using hk
      subst this
      cases A <;> simp [Builtin.firstCells, loadCells, loadCellsFrom]
    | snil =>
      have hl : l = [] := by
        cases hrd : rd RO st b with
        | none => rw [hrd] at h; cases h
        | some ob =>
          rw [hrd] at h
          unfold objI at h
          split at h
          · rename_i j L t he
            cases hk : kindEq j k with
            | false => rw [hk] at h; cases h
            | true => rw [hk] at h; cases h; simp
          · split at h
            · cases h; simp
            · cases h
          · cases h
      subst hl
      exact ⟨fun z hz => (by cases hz), rfl, fun w' => rfl, fun i hk => by simp at hk; subst hk; simp [Builtin.firstCells]⟩
  · cases h
theorem sints_cells {k : IntKind} {l : List Int} {t t' : TypeId} {b n : Nat} {c : Array Value} {fz : Nat × Nat} (hi : ∀ z ∈ l, inR k z) (hn : c.size = n) (hb : b + l.length ≤ n) (h : (c.toList.drop b).take l.length = valsI k l) (hf : fz.1 = fz.2 ∨ n ≤ fz.1) : ORel φ (.sints k l t) b n (.cells c t' fz) := by
  refine .sints _ _ _ _ _ _ hi (.cells _ _ _ _ _ _ _ hn (by rwa [List.length_map]) ?_ hf)
  rw [List.length_map, h]
  exact ints_rel k l
theorem intT_some {e : TypeId} {k : IntKind} (h : intT P e = some k) : P.underlying e = some (.int k) ∧ sizeA P e = some 1 ∧ ∃ i, P.info? e = some i ∧ i.zero = some (.int k 0) ∧ i.bytes ≤ 1048576 := by
  unfold intT at h
  split at h
  · rename_i k' hu
    cases hc : (Nat.ble (P.bytesOf e) 1048576 && zero1 P e k') with
    | false => rw [hc] at h; cases h
    | true =>
    rw [hc] at h
    cases h
    rw [Bool.and_eq_true] at hc
    obtain ⟨h2, h3⟩ := hc
    unfold zero1 at h3
    split at h3
    · rename_i z hz hs
      obtain ⟨i, z', hi, hiz, hzr, _⟩ := zero_some (φ := fun _ => none) hz
      have hby : P.bytesOf e = i.bytes := by unfold Program.bytesOf; rw [hi]; rfl
      have hib := Nat.le_of_ble_eq_true h2
      rw [hby] at hib
      refine ⟨hu, hs, i, hi, ?_, hib⟩
      unfold zeroIs at h3
      split at h3
      · rename_i k2 z2
        cases hzr
        rw [Bool.and_eq_true, intBeq_eq] at h3
        obtain rfl := kindEq_eq _ _ h3.1
        have : z2 = 0 := by simpa using h3.2
        rw [hiz, this]
      · cases h3
    · cases h3
  · cases h
theorem valsI_one (k : IntKind) (l : List Int) : ∀ v ∈ valsI k l, v.oneCell' = true := fun v hv => by
  simp [valsI] at hv
  obtain ⟨c, _, rfl⟩ := hv
  rfl
theorem valsI_append (k : IntKind) (l m : List Int) : valsI k (l ++ m) = valsI k l ++ valsI k m := by simp [valsI]
theorem appendI_ok {st st' : St} {w : World} {A : Array TypeId} {t t2 ty e : TypeId} {d : TypeDesc} {s x v : AVal} {us ux : Value} {op : OP} (hA0 : A[0]? = some t) (hA1 : A[1]? = some t2) (ht : P.underlying t = some (.slice e)) (ht2 : P.underlying t2 = some d) (hd : d = .string ∨ ∃ k, d = .slice k)
    (h : appendI P RO st e s x = some (op, v, st')) (hop : op.ok) (hs : VRel φ s us) (hx : VRel φ x ux) (hw : WRel w0 φ st.heap st.next w) (hr : RRel w0 φ RO) :
    Out w0 φ st w v st' ((Builtin.append_ A ty #[us, ux]).run P w) := by
  unfold appendI at h
  cases hc : intT P e with
  | none => rw [hc] at h; cases h
  | some k =>
  rw [hc] at h
  dsimp only at h
  obtain ⟨hu8, hsz, ie, hie, hiz, hby⟩ := intT_some hc
  cases hsrc : srcI RO k st x with
  | none => rw [hsrc] at h; cases h
  | some q =>
  obtain ⟨ob, new⟩ := q
  rw [hsrc] at h
  dsimp only at h
  have up : ∀ (base' : Option Addr) (len sCap : Nat) (old : List Int) (H : PT AObj) (lg : List Nat), ob.ok → (∀ z ∈ old, inR k z) → old.length = len → len + lenB x ≤ 65536 → us = .slice base' len sCap → ¬ len + lenB x ≤ sCap → (Builtin.firstCells 1 len us).run P w.drew = .ok (valsI k old).toArray w.drew → WRel w0 φ H st.next w → Step φ st.heap w φ H w →
      Out w0 φ st w (.sslice (st.next, 0) (len + lenB x) (len + lenB x) false 1) { heap := H.set st.next (some (.sints k (old ++ new) e)), next := st.next + 1, log := lg } ((Builtin.append_ A ty #[us, ux]).run P w) := by
    intro base' len sCap old H lg hob hoin hol hsm hus hno hof hwH hstep
    obtain ⟨hnin, n1, n2, n3⟩ := srcI_ok (P := P) hsrc hob hx hw hr
    obtain ⟨_, _, _, n4⟩ := srcI_ok (P := P) hsrc hob hx hw.drew hr
    have n4 := n4 _ (Nat.le_refl _)
    rw [List.take_of_length_le (by rw [valsI_length]; exact Nat.le_refl _), n1] at n4
    have n2 := n2 w
    rw [n1] at n2
    subst hus
    have hr1 := run_append_up (ty := ty) hA0 hA1 ht ht2 hd hsz hie hiz n2 hof n4 hno hsm hby
    have hge := grownCap_ge w (len + lenB x) sCap e
    have hnx := hwH.fresh _ (Nat.le_refl st.next)
    have hcs : ((valsI k old).toArray ++ (valsI k new).toArray ++ Builtin.zeroCells (Value.int k 0).cells (grownCap w (len + lenB x) sCap e - (len + lenB x))).size = grownCap w (len + lenB x) sCap e := by
      have hzc : (Value.int k 0).cells.size = 1 := rfl
      simp only [Array.size_append, size_zeroCells, hzc, List.size_toArray, valsI_length, hol, n1]
      omega
    have hor : ORel (φ.ext st.next (w.drew.heap.size, 0, ((valsI k old).toArray ++ (valsI k new).toArray ++ Builtin.zeroCells (Value.int k 0).cells (grownCap w (len + lenB x) sCap e - (len + lenB x))).size)) (.sints k (old ++ new) e) 0 ((valsI k old).toArray ++ (valsI k new).toArray ++ Builtin.zeroCells (Value.int k 0).cells (grownCap w (len + lenB x) sCap e - (len + lenB x))).size (.cells ((valsI k old).toArray ++ (valsI k new).toArray ++ Builtin.zeroCells (Value.int k 0).cells (grownCap w (len + lenB x) sCap e - (len + lenB x))) e (0, 0)) := by
      refine sints_cells (fun z hz => (List.mem_append.1 hz).elim (hoin z) (hnin z)) rfl (by rw [hcs, List.length_append, hol, n1]; omega) ?_ (.inl rfl)
      rw [List.drop_zero, Array.toList_append, Array.toList_append, List.toList_toArray, List.toList_toArray, ← valsI_append, List.take_append_of_le_length (by rw [valsI_length]; exact Nat.le_refl _), List.take_of_length_le (by rw [valsI_length]; exact Nat.le_refl _)]
    obtain ⟨i1, i2⟩ := new_ok (w := w.drew) (w' := w.drew.alloc (.cells ((valsI k old).toArray ++ (valsI k new).toArray ++ Builtin.zeroCells (Value.int k 0).cells (grownCap w (len + lenB x) sCap e - (len + lenB x))) e)) hwH.drew rfl rfl rfl rfl hor
    refine ⟨_, _, hr1, _, VRel.sslice st.next 0 (len + lenB x) (len + lenB x) 1 w.drew.heap.size 0 ((valsI k old).toArray ++ (valsI k new).toArray ++ Builtin.zeroCells (Value.int k 0).cells (grownCap w (len + lenB x) sCap e - (len + lenB x))).size (grownCap w (len + lenB x) sCap e) false ⟨w.heap.size, 0, none⟩ (Phi.ext_at _ _ _) (Nat.le_refl _) hge (by simp) (fun _ => ?_) (.inr rfl), i1, hstep.trans ((Step.drew H w).trans i2)⟩
    rw [hcs]; omega
  have nil : ∀ (H : PT AObj) (lg : List Nat), ob.ok → lenB x ≤ 65536 → us = .slice none 0 0 → WRel w0 φ H st.next w → Step φ st.heap w φ H w → Out w0 φ st w (.sslice (st.next, 0) (0 + lenB x) (0 + lenB x) false 1) { heap := H.set st.next (some (.sints k ([] ++ new) e)), next := st.next + 1, log := lg } ((Builtin.append_ A ty #[us, ux]).run P w) := by
    intro H lg hob hsm hus hwH hstep
    by_cases h0 : lenB x = 0
    · obtain ⟨hnin, n1, n2, n3⟩ := srcI_ok (P := P) hsrc hob hx hw hr
      have hnew : new = [] := List.eq_nil_of_length_eq_zero (by omega)
      subst hnew
      have n3 := n3 0 (Nat.le_refl _)
      have n2 := n2 w
      rw [h0]
      subst hus
      obtain ⟨i1, i2⟩ := nul_ok hwH (o := .sints k [] e) rfl
      exact ⟨_, w, run_append_in (ty := ty) (w' := w) hA0 hA1 ht ht2 hd hsz n2 n3 (Nat.le_refl _) rfl, φ, .snil _ _ _, i1, hstep.trans i2⟩
    · refine up none 0 0 [] H lg hob (fun z hz => (by cases hz)) rfl (by omega) hus (by omega) ?_ hwH hstep
      subst hus
      simp [Builtin.firstCells, valsI]
  have go : ∀ (ob' : OP) (b o len cap z : Nat) (ex : Bool), (ob'.ok → ob.ok) → (s = .slice (some (b, o)) len cap ex z ∨ (s = .sslice (b, o) len cap ex z ∧ (ob'.ok → ex = true → 0 < cap))) → appendJ st e k (lenB x) ob' new b o len cap ex z = some (op, v, st') → Out w0 φ st w v st' ((Builtin.append_ A ty #[us, ux]).run P w) := by
    intro ob' b o len cap z ex hob'' hsv h
    unfold appendJ at h
    split at h
    · cases h
    · rename_i obj hb
      split at h
      · cases h
      · rename_i ob2 old hold
        cases hz1 : Nat.beq z 1 with
        | false => rw [hz1] at h; cases h
        | true =>
        obtain rfl := Nat.eq_of_beq_eq_true hz1
        rw [hz1] at h
        cases h
        obtain ⟨hob', hob2, hsm, hexc⟩ := andP_ok hop
        have hob := hob'' hob'
        obtain ⟨k1, k2⟩ := kill_ok hw b
        have hsS : srcI RO k st s = some (ob2, old) := by rcases hsv with rfl | ⟨rfl, _⟩ <;> (show objI k o len (rd RO st b) = _; unfold rd; rw [hb]; exact hold)
        have hlS : lenB s = len := by rcases hsv with rfl | ⟨rfl, _⟩ <;> rfl
        obtain ⟨hsin, s1, s2, s3⟩ := srcI_ok (P := P) hsS hob2 hs hw.drew hr
        rw [hlS] at s1
        have s3 := s3 _ (Nat.le_refl _)
        rw [List.take_of_length_le (by rw [valsI_length]; exact Nat.le_refl _), s1] at s3
        have real : ∀ (g b0 nb cap' : Nat) (a : Addr), us = .slice (some a) len cap' → φ b = some (g, b0, nb) → len ≤ cap → cap ≤ cap' → (ex = true → cap' = cap) → (ex = false → b0 + o + cap' * 1 ≤ nb) → ((cap' = 0 ∧ a.block = g) ∨ a = ⟨g, b0 + o, none⟩) →
            Out w0 φ st w (.sslice (st.next, 0) (len + lenB x) (len + lenB x) false 1) { heap := (st.heap.set b none).set st.next (some (.sints k (old ++ new) e)), next := Nat.succ st.next, log := b :: st.log } ((Builtin.append_ A ty #[us, ux]).run P w) := by
          intro g b0 nb cap' a hus hφ hlc hcc hex hzb ha
          by_cases hin : len + lenB x ≤ cap'
          · obtain ⟨hnin, n1, q2, q3⟩ := srcI_ok (P := P) hsrc hob hx hw hr
            have n3 := q3 _ (Nat.le_refl _)
            rw [List.take_of_length_le (by rw [valsI_length]; exact Nat.le_refl _), n1] at n3
            have n2 := q2 w
            rw [n1] at n2
            clear q2 q3
            obtain ⟨g', b0', nb', x', e1, e2, e3, e4⟩ := hw.obj_of hb hφ
            obtain ⟨rfl, rfl, rfl⟩ : g = g' ∧ b0 = b0' ∧ nb = nb' := by rw [hφ] at e1; simpa using e1
            obtain ⟨h1, L, c, t', fz, rfl, h3, h4, h5, h6, h7, h8, h9, h10⟩ := objI_cells hold hob2 e4
            have hbd : b0 + o + cap' ≤ nb := by
              cases hexb : ex with
              | true => have := hex hexb; have := hexc hexb; omega
              | false => have := hzb hexb; omega
            have hst := run_storeRow (P := P) g (b0 + (o + len)) t' fz (valsI k new) 0 c w e3 (by rw [h3]; exact h6) (by rw [valsI_length]; omega) (valsI_one k new)
            simp only [Nat.add_zero] at hst
            have hcell := cellsI_at h5 h7
            rw [← h8] at hcell
            have hor : ORel (φ.ext st.next (g, b0 + o, nb)) (.sints k (old ++ new) e) (b0 + o) nb (.cells (c.toList.take (b0 + (o + len)) ++ valsI k new ++ c.toList.drop (b0 + (o + len) + (valsI k new).length)).toArray t' fz) := by
              refine sints_cells (fun z hz => (List.mem_append.1 hz).elim (hsin z) (hnin z)) (by simp [valsI_length]; omega) (by rw [List.length_append]; omega) ?_ h6
              have eX : ((c.toList.drop (b0 + o)).take len).length = len := by rw [hcell, valsI_length]; exact s1
              have e1 : (c.toList.take (b0 + (o + len))).drop (b0 + o) = (c.toList.drop (b0 + o)).take len := by rw [List.drop_take]; congr 1; omega
              have e2 : (old ++ new).length = ((c.toList.drop (b0 + o)).take len).length + (valsI k new).length := by rw [eX, valsI_length, List.length_append, s1]
              rw [List.toList_toArray, List.append_assoc, List.drop_append_of_le_length (by simp; omega), e1, e2, List.take_length_add_append, List.take_left, hcell, valsI_append]
            subst hus
            rcases ha with ⟨rfl, hab⟩ | rfl
            · have hl0 : len = 0 := by omega
              have hx0 : lenB x = 0 := by omega
              have hnew : new = [] := List.eq_nil_of_length_eq_zero (by omega)
              have hold0 : old = [] := List.eq_nil_of_length_eq_zero (by omega)
              subst hnew hold0 hl0
              have hor0 : ORel (φ.ext st.next (g, b0 + o, nb)) (.sints k ([] ++ []) e) (b0 + o) nb (.cells c t' fz) := sints_cells (fun z hz => (by cases hz)) h3 (by simp; omega) (by simp [valsI]) h6
              obtain ⟨i1, i2⟩ := graft_ok (b1 := b0 + o) hw hb hφ rfl e3 (fun k hk => rfl) rfl rfl rfl hor0
              simp only [hx0] at n2 n3 ⊢
              exact ⟨_, w, run_append_in (ty := ty) (w' := w) hA0 hA1 ht ht2 hd hsz n2 n3 (Nat.le_refl _) rfl, _, .sslice _ _ _ _ _ g (b0 + o) nb 0 _ _ (Phi.ext_at _ _ _) (Nat.le_refl _) (Nat.le_refl _) (by simp) (fun _ => by omega) (.inl ⟨rfl, hab⟩), i1, i2⟩
            · obtain ⟨i1, i2⟩ := graft_ok (b1 := b0 + o) hw hb hφ (setRow_size w g _) (setRow_heap w g c _ t' fz e3) (fun k hk => setRow_other w g _ k hk) rfl rfl rfl hor
              refine ⟨_, _, run_append_in (ty := ty) (w' := w.setRow g (c.toList.take (b0 + (o + len)) ++ valsI k new ++ c.toList.drop (b0 + (o + len) + (valsI k new).length)).toArray) hA0 hA1 ht ht2 hd hsz n2 n3 hin ?_, _, .sslice _ _ _ _ _ g (b0 + o) nb _ _ _ (Phi.ext_at _ _ _) (Nat.le_refl _) hin (by simp) (fun _ => by omega) (.inr rfl), i1, i2⟩
              show (storeCells ((⟨g, b0 + o, none⟩ : Addr).add (len * 1)) (valsI k new)).run P w = _
              rw [add_lit, Nat.mul_one, Nat.add_assoc]; exact hst
          · exact up (some a) len cap' old _ _ hob hsin s1 hsm hus hin s3 k1 k2
        rcases hsv with rfl | ⟨rfl, hcp⟩
        · cases hs with
          | slice _ _ _ _ _ g b0 nb cap' _ a hφ hl hcc hex hz ha => exact real g b0 nb cap' a rfl hφ hl hcc hex hz ha
        · cases hs with
          | sslice _ _ _ _ _ g b0 nb cap' _ a hφ hl hcc hex hz ha => exact real g b0 nb cap' a rfl hφ hl hcc hex hz ha
          | semp => exact absurd (hcp hob' rfl) (Nat.lt_irrefl _)
          | snil =>
            have hold0 : old = [] := List.eq_nil_of_length_eq_zero (by omega)
            subst hold0
            exact nil _ _ hob (by omega) rfl k1 k2
  split at h
  · cases h
    obtain ⟨hob, hsm⟩ := andP_ok hop
    cases hs with
    | slice0 =>
      have := nil st.heap st.log hob hsm rfl hw (Step.refl _ _ _)
      rw [Nat.zero_add, List.nil_append] at this
      exact this
  · exact go ob _ _ _ _ _ _ id (.inl rfl) h
  · exact go _ _ _ _ _ _ _ room_ok (.inr ⟨rfl, room_cap⟩) h
  · cases h
end
end Go.Proofs.Ytlnfolgmjfcinaa.Abs
