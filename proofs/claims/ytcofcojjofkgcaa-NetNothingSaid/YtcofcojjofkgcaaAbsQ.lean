/- Tables: a cell of a row is put, rows are moved and laid behind others. By an AI agent. -/
import Derived.Test.YtcofcojjofkgcaaAbsN
namespace Go.Proofs.Ytcofcojjofkgcaa.Abs
open Go Go.RowKit
set_option linter.unusedVariables false
section
variable {w0 : World} {φ : Phi} {P : Program} {RO : PT AObj}
/-- rows behind each other -/
def flatF (f : Nat → List AVal) : Nat → Nat → List AVal
  | _, 0 => []
  | i, m + 1 => f i ++ flatF f (i + 1) m
theorem flatT_F (cs : List TCol) : ∀ i m, flatT cs i m = flatF (fun j => rowT j cs) i m
  | _, 0 => rfl
  | i, m + 1 => by rw [flatT, flatF, flatT_F cs (i + 1) m]
theorem flatF_add (f : Nat → List AVal) : ∀ a i b, flatF f i (a + b) = flatF f i a ++ flatF f (i + a) b
  | 0, i, b => by simp [flatF]
  | a + 1, i, b => by rw [Nat.succ_add, flatF, flatF, flatF_add f a (i + 1) b, List.append_assoc, show i + 1 + a = i + (a + 1) by omega]
theorem flatF_congr {f g : Nat → List AVal} : ∀ (m i j : Nat), (∀ k, k < m → f (i + k) = g (j + k)) → flatF f i m = flatF g j m
  | 0, _, _, _ => rfl
  | m + 1, i, j, h => by
    have h0 := h 0 (by omega)
    rw [flatF, flatF, show f i = g j from h0, flatF_congr m (i + 1) (j + 1) fun k hk => by
      have := h (k + 1) (by omega)
      rwa [show i + 1 + k = i + (k + 1) by omega, show j + 1 + k = j + (k + 1) by omega]]
theorem flatF_length {f : Nat → List AVal} {wd : Nat} (h : ∀ j, (f j).length = wd) : ∀ i m, (flatF f i m).length = m * wd
  | _, 0 => by simp [flatF]
  | i, m + 1 => by rw [flatF, List.length_append, h, flatF_length h (i + 1) m, Nat.succ_mul]; omega
theorem flatF_row {f : Nat → List AVal} {wd : Nat} (h : ∀ j, (f j).length = wd) (l : List AVal) : ∀ i m j, j < m → ((flatF f i m ++ l).drop (j * wd)).take wd = f (i + j)
  | i, 0, j, hj => by omega
  | i, m + 1, 0, _ => by
    rw [flatF, Nat.zero_mul, List.drop_zero, List.append_assoc, List.take_left' (h i)]; rfl
  | i, m + 1, j + 1, hj => by
    rw [flatF, List.append_assoc, Nat.succ_mul, Nat.add_comm, ← List.drop_drop, List.drop_left' (h i), flatF_row h l (i + 1) m j (by omega), show i + 1 + j = i + (j + 1) by omega]
theorem flatF_take {f : Nat → List AVal} {wd : Nat} (h : ∀ j, (f j).length = wd) {i k m : Nat} (hk : k ≤ m) : (flatF f i m).take (k * wd) = flatF f i k := by
  obtain ⟨r, rfl⟩ : ∃ r, m = k + r := ⟨m - k, by omega⟩
  rw [flatF_add, List.take_left' (flatF_length h i k)]
theorem flatF_drop {f : Nat → List AVal} {wd : Nat} (h : ∀ j, (f j).length = wd) {i k m : Nat} (hk : k ≤ m) : (flatF f i m).drop (k * wd) = flatF f (i + k) (m - k) := by
  obtain ⟨r, rfl⟩ : ∃ r, m = k + r := ⟨m - k, by omega⟩
  rw [flatF_add, List.drop_left' (flatF_length h i k), Nat.add_sub_cancel_left]
theorem app_congr {α : Type} {a a' b b' : List α} (h : a = a') (k : b = b') : a ++ b = a' ++ b' := by rw [h, k]
theorem rowT_len (cs : List TCol) : ∀ j, (rowT j cs).length = cs.length := fun j => rowT_length j cs
/-- rows that are a table -/
theorem tab_F {m : Nat} {cs : List TCol} {t : TypeId} {b n : Nat} {x : Obj} {f : Nat → List AVal} (h : ORel φ (.cells (flatF f 0 m) t) b n x) (hl : ∀ j, (f j).length = cs.length) (hr : ∀ i us, i < m → VRels φ (f i) us → VRels φ (rowT i cs) us) : ORel φ (.tab m cs t) b n x :=
  tab_of h (flatF_length hl 0 m) fun i us hi hu => hr i us hi (by
    have := flatF_row hl [] 0 m i hi
    rw [List.append_nil, Nat.zero_add] at this
    rwa [this] at hu)
theorem rowT_one (i : Nat) : ∀ cs : List TCol, oneA (rowT i cs) = true
  | [] => rfl
  | c :: cs => by cases c <;> exact rowT_one i cs
theorem oneA_append : ∀ {l m : List AVal}, oneA l = true → oneA m = true → oneA (l ++ m) = true
  | [], m, _, h => h
  | v :: l, m, h, h2 => by cases v <;> first | (cases h; done) | exact oneA_append (l := l) h h2
theorem flatT_one (cs : List TCol) : ∀ i m, oneA (flatT cs i m) = true
  | _, 0 => rfl
  | i, m + 1 => oneA_append (rowT_one i cs) (flatT_one cs (i + 1) m)
/-! a cell of a row is put -/
theorem set_at {α : Type} (l : List α) (v d : α) {i : Nat} (h : i < l.length) : (l.set i v).getD i d = v := by
  rw [List.getD_eq_getElem?_getD, List.getElem?_set_self h]; rfl
theorem set_ne {α : Type} (l : List α) (v d : α) {i j : Nat} (h : j ≠ i) : (l.set i v).getD j d = l.getD j d := by
  rw [List.getD_eq_getElem?_getD, List.getElem?_set_ne (Ne.symm h), ← List.getD_eq_getElem?_getD]
theorem col_set {n i : Nat} {c c' : TCol} {v : AVal} (h : c.setC i v = some c') (hl : c.lenIs n) (hi : i < n) : (∀ (φ : Phi) u, VRel φ v u → VRel φ (c'.val i) u) ∧ ∀ j, j ≠ i → c'.val j = c.val j := by
  cases c with
  | zs k l =>
    obtain rfl : l.length = n := hl
    simp only [TCol.setC] at h
    split at h
    · rename_i j z hz
      cases hb : kindEq k j with
      | false => rw [hb] at h; cases h
      | true =>
        rw [hb] at h
        cases h
        obtain rfl := kindEq_eq _ _ hb
        refine ⟨fun φ u hu => ?_, fun j h1 => by simp only [TCol.val]; rw [set_ne _ _ _ h1]⟩
        obtain ⟨rfl, hr⟩ := asR_rel hz hu
        simp only [TCol.val, set_at _ _ _ hi]
        exact .sint _ _ hr
    · cases h
  | bs l =>
    obtain rfl : l.length = n := hl
    simp only [TCol.setC] at h
    split at h
    · rename_i b hb
      cases h
      refine ⟨fun φ u hu => ?_, fun j h1 => by simp only [TCol.val]; rw [set_ne _ _ _ h1]⟩
      obtain rfl := asBo_rel hb hu
      simp only [TCol.val, set_at _ _ _ hi]
      exact .sbool _
    · cases h
  | ss l =>
    obtain rfl : l.length = n := hl
    simp only [TCol.setC] at h
    split at h
    · rename_i b hb
      cases h
      refine ⟨fun φ u hu => ?_, fun j h1 => by simp only [TCol.val]; rw [set_ne _ _ _ h1]⟩
      obtain ⟨s, rfl, rfl⟩ := asB_rel hb hu
      simp only [TCol.val, set_at _ _ _ hi]
      exact .sstr _
    · cases h
  | ps l =>
    obtain rfl : l.length = n := hl
    simp only [TCol.setC] at h
    split at h
    · cases h
      refine ⟨fun φ u hu => ?_, fun j h1 => by simp only [TCol.val]; rw [set_ne _ _ _ h1]⟩
      simp only [TCol.val, set_at _ _ _ hi]
      exact hu
    · cases h
theorem setRowT_ok {n i : Nat} (hi : i < n) : ∀ {vs : List AVal} {cs cs' : List TCol}, setRowT i vs cs = some cs' → lensT n cs →
    cs'.length = cs.length ∧ vs.length ≤ cs.length ∧ (∀ (φ : Phi) us, VRels φ (vs ++ (rowT i cs).drop vs.length) us → VRels φ (rowT i cs') us) ∧ ∀ j, j ≠ i → rowT j cs' = rowT j cs
  | [], cs, cs', h, _ => by cases h; exact ⟨rfl, Nat.zero_le _, fun φ us hu => by simpa using hu, fun _ _ => rfl⟩
  | v :: vs, [], cs', h, _ => by cases h
  | v :: vs, c :: cs, cs', h, hl => by
    simp only [setRowT] at h
    split at h
    · rename_i c1 cs1 h1 h2
      cases h
      obtain ⟨a1, a2⟩ := col_set h1 hl.1 hi
      obtain ⟨b1, b2, b3, b4⟩ := setRowT_ok hi h2 hl.2
      refine ⟨by simp [b1], by simp [b2], fun φ us hu => ?_, fun j hj => by simp only [rowT]; rw [a2 j hj, b4 j hj]⟩
      rw [rowT, List.length_cons, List.drop_succ_cons, List.cons_append] at hu
      cases hu with
      | cons _ u _ us hu hus => exact .cons _ _ _ _ (a1 φ u hu) (b3 φ us hus)
    · cases h
theorem setColT_ok {n i : Nat} (hi : i < n) {vs : List AVal} : ∀ {c : Nat} {cs cs' : List TCol}, setColT i vs c cs = some cs' → lensT n cs →
    cs'.length = cs.length ∧ c + vs.length ≤ cs.length ∧ (∀ (φ : Phi) us, VRels φ ((rowT i cs).take c ++ vs ++ (rowT i cs).drop (c + vs.length)) us → VRels φ (rowT i cs') us) ∧ ∀ j, j ≠ i → rowT j cs' = rowT j cs
  | 0, cs, cs', h, hl => by
    obtain ⟨b1, b2, b3, b4⟩ := setRowT_ok hi h hl
    exact ⟨b1, by omega, fun φ us hu => b3 φ us (by simpa using hu), b4⟩
  | c + 1, [], cs', h, _ => by cases h
  | c + 1, x :: cs, cs', h, hl => by
    simp only [setColT] at h
    split at h
    · rename_i cs1 h1
      cases h
      obtain ⟨b1, b2, b3, b4⟩ := setColT_ok hi h1 hl.2
      refine ⟨by simp [b1], by simp; omega, fun φ us hu => ?_, fun j hj => by simp only [rowT]; rw [b4 j hj]⟩
      rw [rowT, List.take_succ_cons, List.cons_append, List.cons_append, show c + 1 + vs.length = c + vs.length + 1 by omega, List.drop_succ_cons] at hu
      cases hu with
      | cons _ u _ us hu hus => exact .cons _ _ _ _ hu (b3 φ us hus)
    · cases h
/-- a store to a place in a table -/
theorem storeT_ok {st st' : St} {w : World} {b i wd c : Nat} {vs : List AVal} {us : List Value} {v : AVal} {op : OP} (h : storeT st b i wd c vs = some (op, v, st')) (hop : op.ok) (hw : WRel w0 φ st.heap st.next w) (hv : VRels φ vs us) :
    v = .undef ∧ ∃ ψ g b0 n w', φ b = some (g, b0, n) ∧ (storeCells ⟨g, b0 + (i * wd + c), none⟩ us).run P w = .ok () w' ∧ WRel w0 ψ st'.heap st'.next w' ∧ Step φ st.heap w ψ st'.heap w' := by
  unfold storeT at h
  split at h
  · rename_i ob vs' st1 hfz
    split at h
    · rename_i n cs t hb
      split at h
      · rename_i cs' hset
        cases hwd : Nat.beq (lenL cs 0) wd with
        | false => rw [hwd] at h; cases h
        | true =>
        rw [hwd] at h
        cases h
        have hwd := Nat.eq_of_beq_eq_true hwd
        rw [lenL0] at hwd
        obtain ⟨hob, hi, hls⟩ := OP.andO_ok hop
        obtain ⟨φ1, a1, a2, a3, a4, a5⟩ := frzs_ok hfz hob hw hv
        obtain ⟨c1, c2, c3, c4⟩ := setColT_ok hi hset hls
        have hnul : (AObj.tab n cs t).nul = false := by cases n with | zero => omega | succ n => rfl
        obtain ⟨r, hr⟩ : ∃ r, n = i + (1 + r) := ⟨n - i - 1, by omega⟩
        have hlen := rowT_len cs
        rw [hwd] at hlen
        -- the rows behind the store
        let f : Nat → List AVal := fun j => if j = i then (rowT i cs).take c ++ vs' ++ (rowT i cs).drop (c + vs'.length) else rowT j cs
        have hf : ∀ j, (f j).length = cs'.length := fun j => by
          show (if j = i then _ else _ : List AVal).length = _
          split
          · simp only [List.length_append, List.length_take, List.length_drop, hlen]; omega
          · rw [hlen]; omega
        have e1 : flatT cs 0 n = flatF (fun j => rowT j cs) 0 i ++ (rowT i cs ++ flatF (fun j => rowT j cs) (i + 1) r) := by
          rw [flatT_F, hr, flatF_add, flatF_add, Nat.zero_add, flatF, flatF, List.append_nil]
        have hl0 : (flatF (fun j => rowT j cs) 0 i).length = i * wd := flatF_length hlen 0 i
        have e2 : (flatT cs 0 n).take (i * wd + c) ++ vs' ++ (flatT cs 0 n).drop (i * wd + c + vs'.length) = flatF f 0 n := by
          rw [e1, hr, flatF_add, flatF_add, Nat.zero_add, flatF, flatF, List.append_nil]
          have e3 : flatF f 0 i = flatF (fun j => rowT j cs) 0 i := flatF_congr i 0 0 fun k hk => by
            show (if 0 + k = i then _ else _ : List AVal) = _
            rw [if_neg (by omega)]
          have e4 : flatF f (i + 1) r = flatF (fun j => rowT j cs) (i + 1) r := flatF_congr r _ _ fun k hk => by
            show (if i + 1 + k = i then _ else _ : List AVal) = _
            rw [if_neg (by omega)]
          have e5 : f i = (rowT i cs).take c ++ vs' ++ (rowT i cs).drop (c + vs'.length) := if_pos rfl
          rw [e3, e4, e5, List.take_append, List.drop_append, hl0, List.take_of_length_le (show (flatF (fun j => rowT j cs) 0 i).length ≤ i * wd + c by omega), List.drop_of_length_le (show (flatF (fun j => rowT j cs) 0 i).length ≤ i * wd + c + vs'.length by omega),
            show i * wd + c - i * wd = c by omega, show i * wd + c + vs'.length - i * wd = c + vs'.length by omega, List.nil_append, List.take_append_of_le_length (by rw [hlen]; omega), List.drop_append_of_le_length (by rw [hlen]; omega)]
          simp only [List.append_assoc]
        have hfl : (flatT cs 0 n).length = n * wd := by rw [flatT_length, hwd]
        have hin : i * wd + wd ≤ n * wd := by rw [← Nat.succ_mul]; exact Nat.mul_le_mul_right _ hi
        obtain ⟨g, b0, nb, w', q1, q2, q3, q4⟩ := store_gen (P := P) (st := st1) (o := i * wd + c) hb hnul (fun _ _ _ hx => tab_flat hx) (fun _ _ _ hx => by
          rw [e2] at hx
          exact tab_F (cs := cs') hx hf fun k us hk hu => by
            by_cases hki : k = i
            · subst hki
              rw [show f k = _ from if_pos rfl] at hu
              exact c3 _ us hu
            · rw [show f k = rowT k cs from if_neg hki] at hu
              rw [c4 k hki]; exact hu) (frzs_one hfz) (by rw [hfl]; omega) a1 a3
        obtain ⟨g2, b2, n2, u2, k1, _⟩ := hw.obj_at (a5 _ _ hb) hnul
        obtain ⟨rfl, rfl, rfl⟩ : g2 = g ∧ b2 = b0 ∧ n2 = nb := by have := (a2.le _ _ k1).symm.trans q1; simpa using this
        exact ⟨rfl, φ1, g2, b2, n2, w', k1, q2, q3, a2.trans q4⟩
      · cases h
    · cases h
  · cases h
/-! rows are read -/
theorem row_src {o len lo wd : Nat} {ex : Bool} {b g b0 nb : Nat} {u : Value} {l : List AVal} {t : TypeId} {x : Obj} {w : World} (hφ : φ b = some (g, b0, nb)) (hg : w.heap[g]? = some x) (ho : ORel φ (.cells l t) b0 nb (thaw x)) (hle : o + len * wd ≤ l.length)
    (hu : VRel φ (.sslice (b, o) len lo ex wd) u) : ∃ news : Array Value, VRels φ ((l.drop o).take (len * wd)) news.toList ∧ (Builtin.firstCells wd len u).run P w = .ok news w := by
  obtain ⟨us, f1, f2, f3⟩ := orel_row ho hle
  refine ⟨us.toArray, by simpa using f2, ?_⟩
  have emp : len = 0 → us = [] := fun h => List.eq_nil_of_length_eq_zero (by rw [f1, h, Nat.zero_mul])
  cases hu with
  | sslice _ _ _ _ _ g2 b2 nb2 cap' _ a hφ2 hl' hc hex hz ha =>
    obtain ⟨rfl, rfl, rfl⟩ : g = g2 ∧ b0 = b2 ∧ nb = nb2 := by rw [hφ] at hφ2; simpa using hφ2
    rcases ha with ⟨rfl, _⟩ | rfl
    · have h0 : len = 0 := by omega
      rw [emp h0]; subst h0
      simp [Builtin.firstCells, loadCells, loadCellsFrom]
    · have := run_loadCells_list (P := P) w ⟨g, b0 + o, none⟩ us (f3 w g hg)
      rw [f1] at this
      simpa [Builtin.firstCells] using this
  | snil => rw [emp rfl]; simp [Builtin.firstCells, loadCells, loadCellsFrom]
  | semp _ A c _ => rw [emp rfl]; cases A <;> simp [Builtin.firstCells, loadCells, loadCellsFrom]
theorem tab_src {st : St} {w : World} {b i len lo wd n : Nat} {ex : Bool} {ds : List TCol} {t : TypeId} {u : Value} (hb : rd RO st b = some (.tab n ds t)) (hle : i + len ≤ n) (hwd : ds.length = wd) (hw : WRel w0 φ st.heap st.next w) (hr : RRel w0 φ RO)
    (hu : VRel φ (.tslice b i len lo ex wd) u) : (∀ w', (Builtin.lenOf u).run P w' = .ok len w') ∧ ∃ news : Array Value, VRels φ (flatT ds i len) news.toList ∧ (Builtin.firstCells wd len u).run P w = .ok news w := by
  cases hu with
  | tslice _ _ _ _ _ _ _ hu =>
  refine ⟨fun w' => by cases hu <;> rfl, ?_⟩
  cases len with
  | zero =>
    refine ⟨#[], .nil, ?_⟩
    cases hu with
    | sslice => simp [Builtin.firstCells, loadCells, loadCellsFrom]
    | snil => simp [Builtin.firstCells, loadCells, loadCellsFrom]
    | semp _ A c _ => cases A <;> simp [Builtin.firstCells, loadCells, loadCellsFrom]
  | succ m =>
    have hnul : (AObj.tab n ds t).nul = false := by cases n with | zero => omega | succ n => rfl
    obtain ⟨g, b0, nb, x, e1, e2, e3⟩ := rd_some hb hw hr hnul
    have hlen := rowT_len ds
    rw [hwd] at hlen
    have hmul : (i + (m + 1)) * wd ≤ n * wd := Nat.mul_le_mul_right _ hle
    rw [Nat.add_mul] at hmul
    obtain ⟨news, n1, n2⟩ := row_src (P := P) e1 e2 (tab_flat e3) (by rw [flatT_length, hwd]; exact hmul) hu
    refine ⟨news, ?_, n2⟩
    rw [flatT_F, flatF_drop hlen (by omega), flatF_take hlen (by omega), Nat.zero_add, ← flatT_F] at n1
    exact n1
/-! rows are laid behind others -/
theorem orel_take {l : List AVal} {t t' : TypeId} {b n : Nat} {x : Obj} (k : Nat) (h : ORel φ (.cells l t) b n x) : ORel φ (.cells (l.take k) t') b n x := by
  cases h with
  | cells _ _ t2 _ _ c fz hn hb h hf =>
    refine .cells _ _ _ _ _ _ _ hn (by rw [List.length_take]; omega) ?_ hf
    have := h.take k
    rw [List.length_take]
    rwa [List.take_take] at this
section
variable {A : Array TypeId} {t t2 ty e : TypeId} {d : TypeDesc} {size len n : Nat} {ie : TypeInfo} {zv : Value} {ux : Value} {w : World} {st : St} {new : List AVal}
/-- a row grows -/
theorem growT {base' : Option Addr} {sCap : Nat} {old : List AVal} {olds : Array Value} {H : PT AObj} (hA0 : A[0]? = some t) (hA1 : A[1]? = some t2) (ht : P.underlying t = some (.slice e)) (ht2 : P.underlying t2 = some d) (hd : d = .string ∨ ∃ k, d = .slice k) (hsz : sizeA P e = some size)
    (hie : P.info? e = some ie) (hiz : ie.zero = some zv) (hzc : zv.cells.size = size) (c1 : len + n ≤ 65536) (hby : ie.bytes ≤ 1048576) (hlen : (Builtin.lenOf ux).run P w = .ok n w)
    (o2 : (Builtin.firstCells size len (.slice base' len sCap)).run P w.drew = .ok olds w.drew) (o1 : VRels φ old olds.toList) (n3 : ∃ news : Array Value, VRels φ new news.toList ∧ (Builtin.firstCells size n ux).run P w.drew = .ok news w.drew) (hol : old.length = len * size) (hnl : new.length = n * size)
    (hno : ¬ len + n ≤ sCap) (hwH : WRel w0 φ H st.next w) (hstep : Step φ st.heap w φ H w) :
    ∃ u w', (Builtin.append_ A ty #[.slice base' len sCap, ux]).run P w = .ok u w' ∧ ∃ ψ, VRel ψ (.sslice (st.next, 0) (len + n) (len + n) false size) u ∧ WRel w0 ψ (H.set st.next (some (.cells (old ++ new) e))) (st.next + 1) w' ∧ Step φ st.heap w ψ (H.set st.next (some (.cells (old ++ new) e))) w' := by
  obtain ⟨news, n1, n2⟩ := n3
  have hall : VRels φ (old ++ new) (olds ++ news).toList := by rw [Array.toList_append]; exact o1.append n1
  have hr1 := run_append_up (ty := ty) hA0 hA1 ht ht2 hd hsz hie hiz hlen o2 n2 hno c1 hby
  have hge := grownCap_ge w (len + n) sCap e
  have hor := grown_cells (m := 0) (zs := Builtin.zeroCells zv.cells (grownCap w (len + n) sCap e - (len + n))) e hall
  have hor2 : ORel (φ.ext st.next (w.drew.heap.size, 0, (olds ++ news ++ Builtin.zeroCells zv.cells (grownCap w (len + n) sCap e - (len + n))).size)) (.cells (old ++ new) e) 0 _ _ := hor.mono (Phi.ext_le _ (hwH.fresh _ (Nat.le_refl _)))
  obtain ⟨i1, i2⟩ := new_ok (w := w.drew) (w' := w.drew.alloc (.cells (olds ++ news ++ Builtin.zeroCells zv.cells (grownCap w (len + n) sCap e - (len + n))) e)) hwH.drew rfl rfl rfl rfl hor2
  refine ⟨_, _, hr1, _, .sslice _ _ _ _ _ w.heap.size 0 _ _ _ _ (Phi.ext_at _ _ _) (Nat.le_refl _) hge (by simp) (fun _ => ?_) (.inr rfl), i1, hstep.trans ((Step.drew H w).trans i2)⟩
  have hos : olds.size = len * size := by have h1 := o1.length; rw [hol] at h1; simpa using h1
  have hns : news.size = n * size := by have h1 := n1.length; rw [hnl] at h1; simpa using h1
  simp only [Array.size_append, size_zeroCells, hzc, hos, hns, ← Nat.add_mul]
  rw [show len + n + (grownCap w (len + n) sCap e - (len + n)) = grownCap w (len + n) sCap e by omega]
  omega
/-- some cells behind a row that nobody else has -/
theorem appG {b lo : Nat} {us : Value} {ob : AObj} {l : List AVal} {tb : TypeId} (hA0 : A[0]? = some t) (hA1 : A[1]? = some t2) (ht : P.underlying t = some (.slice e)) (ht2 : P.underlying t2 = some d) (hd : d = .string ∨ ∃ k, d = .slice k) (hsz : sizeA P e = some size)
    (hie : P.info? e = some ie) (hiz : ie.zero = some zv) (hzc : zv.cells.size = size) (c1 : len + n ≤ 65536) (hby : ie.bytes ≤ 1048576) (hlen : (Builtin.lenOf ux).run P w = .ok n w) (hpos : 0 < n)
    (hsrc : ∀ w1, w1 = w ∨ w1 = w.drew → ∃ news : Array Value, VRels φ new news.toList ∧ (Builtin.firstCells size n ux).run P w1 = .ok news w1) (hnl : new.length = n * size) (hone : oneA new = true)
    (hb : st.heap.get b = some ob) (hcells : ∀ b0 n x, ORel φ ob b0 n x → ORel φ (.cells l tb) b0 n x) (hl : l.length = len * size) (hs : VRel φ (.sslice (b, 0) len lo false size) us) (hw : WRel w0 φ st.heap st.next w) :
    ∃ u w', (Builtin.append_ A ty #[us, ux]).run P w = .ok u w' ∧ ∃ ψ, VRel ψ (.sslice (st.next, 0) (len + n) (len + n) false size) u ∧ WRel w0 ψ ((st.heap.set b none).set st.next (some (.cells (l ++ new) e))) (st.next + 1) w' ∧ Step φ st.heap w ψ ((st.heap.set b none).set st.next (some (.cells (l ++ new) e))) w' := by
  cases hs with
  | snil =>
    have hl0 : l = [] := List.eq_nil_of_length_eq_zero (by rw [hl, Nat.zero_mul])
    subst hl0
    obtain ⟨k1, k2⟩ := kill_ok hw b
    exact growT (st := st) (base' := none) (sCap := 0) (olds := #[]) hA0 hA1 ht ht2 hd hsz hie hiz hzc c1 hby hlen (by simp [Builtin.firstCells, loadCells, loadCellsFrom]) .nil (hsrc _ (.inr rfl)) hl hnl (by omega) k1 k2
  | sslice _ _ _ _ _ g b0 nb cap' _ a hφ hll hcc hex hz ha =>
    obtain ⟨g2, b2, nb2, x1, e1, e2, e3, e4⟩ := hw.obj_of hb hφ
    obtain ⟨rfl, rfl, rfl⟩ : g = g2 ∧ b0 = b2 ∧ nb = nb2 := by rw [hφ] at e1; simpa using e1
    have e5 := hcells _ _ _ e4
    by_cases hin : len + n ≤ cap'
    · rcases ha with ⟨rfl, _⟩ | rfl
      · omega
      have hbd := hz rfl
      obtain ⟨news', m1, m2⟩ := hsrc w (.inl rfl)
      cases e5 with
      | cells _ _ t' _ _ c fz hn hbl hrow hf =>
      subst hn
      have hnn : news'.toList.length = n * size := by rw [m1.length]; exact hnl
      have hbig : (len + n) * size ≤ cap' * size := Nat.mul_le_mul_right _ hin
      rw [Nat.add_mul] at hbig
      have hst := run_storeRow (P := P) g (b0 + (0 + len * size)) t' fz news'.toList 0 c w e3 hf (by omega) (oneA_some hone m1)
      simp only [Nat.add_zero] at hst
      have hor : ORel φ (.cells (l ++ new) e) (b0 + 0) c.size (.cells (c.toList.take (b0 + (0 + len * size)) ++ news'.toList ++ c.toList.drop (b0 + (0 + len * size) + news'.toList.length)).toArray t' fz) := by
        refine .cells _ _ _ _ _ _ _ (by simp at hnn ⊢; omega) (by rw [List.length_append, hl, hnl]; omega) ?_ hf
        have hol : VRels φ l ((c.toList.drop (b0 + 0)).take (len * size)) := by rw [Nat.add_zero, ← hl]; exact hrow
        have hall2 := hol.append m1
        have heq : (c.toList.drop (b0 + 0)).take (len * size) ++ news'.toList = (((c.toList.take (b0 + (0 + len * size)) ++ news'.toList ++ c.toList.drop (b0 + (0 + len * size) + news'.toList.length)).toArray.toList.drop (b0 + 0)).take (l ++ new).length) := by
          have eX : ((c.toList.drop (b0 + 0)).take (len * size)).length = len * size := by simp; omega
          have e1 : (c.toList.take (b0 + (0 + len * size))).drop (b0 + 0) = (c.toList.drop (b0 + 0)).take (len * size) := by rw [List.drop_take]; congr 1; omega
          have e2 : (l ++ new).length = ((c.toList.drop (b0 + 0)).take (len * size)).length + news'.toList.length := by rw [eX, hnn, List.length_append, hl, hnl]
          rw [List.toList_toArray, List.append_assoc, List.drop_append_of_le_length (by simp; omega), e1, e2, List.take_length_add_append, List.take_left]
        rw [← heq]
        exact hall2
      obtain ⟨i1, i2⟩ := graft_ok (b1 := b0 + 0) hw hb hφ (setRow_size w g _) (setRow_heap w g c _ t' fz e3) (fun k hk => setRow_other w g _ k hk) rfl rfl rfl (hor.mono (Phi.ext_le _ (hw.fresh _ (Nat.le_refl _))))
      refine ⟨_, _, run_append_in (ty := ty) (w' := w.setRow g (c.toList.take (b0 + (0 + len * size)) ++ news'.toList ++ c.toList.drop (b0 + (0 + len * size) + news'.toList.length)).toArray) hA0 hA1 ht ht2 hd hsz hlen m2 hin ?_, _, .sslice _ _ _ _ _ g (b0 + 0) c.size _ _ _ (Phi.ext_at _ _ _) (Nat.le_refl _) hin (by simp) (fun _ => by omega) (.inr (by simp)), i1, i2⟩
      show (storeCells ((⟨g, b0 + 0, none⟩ : Addr).add (len * size)) news'.toList).run P w = _
      rw [add_lit, Nat.add_assoc]; exact hst
    · obtain ⟨k1, k2⟩ := kill_ok hw b
      obtain ⟨olds, o1, o2⟩ := row_src (P := P) (w := w.drew) (len := len) (wd := size) (o := 0) hφ e3 e5.thaw (by rw [hl]; omega) (VRel.sslice b 0 len lo size g b0 nb cap' false a hφ hll hcc hex hz ha)
      rw [List.drop_zero, List.take_of_length_le (by omega)] at o1
      exact growT (st := st) (base' := some a) (sCap := cap') hA0 hA1 ht ht2 hd hsz hie hiz hzc c1 hby hlen o2 o1 (hsrc _ (.inr rfl)) hl hnl hin k1 k2
/-- nothing behind a row: it gets another number -/
theorem appZ {b lo : Nat} {us : Value} {ob ob' : AObj} (hA0 : A[0]? = some t) (hA1 : A[1]? = some t2) (ht : P.underlying t = some (.slice e)) (ht2 : P.underlying t2 = some d) (hd : d = .string ∨ ∃ k, d = .slice k) (hsz : sizeA P e = some size)
    (hlen : (Builtin.lenOf ux).run P w = .ok 0 w) (hn : (Builtin.firstCells size 0 ux).run P w = .ok #[] w)
    (hb : st.heap.get b = some ob) (hnul : ob.nul = true → ob'.nul = true) (hcells : ∀ b0 n x, ORel φ ob b0 n x → ORel φ ob' b0 n x) (hs : VRel φ (.sslice (b, 0) len lo false size) us) (hw : WRel w0 φ st.heap st.next w) (hkn : us = .slice none 0 0 → ob'.nul = true) :
    ∃ u w', (Builtin.append_ A ty #[us, ux]).run P w = .ok u w' ∧ ∃ ψ, VRel ψ (.sslice (st.next, 0) len len false size) u ∧ WRel w0 ψ ((st.heap.set b none).set st.next (some ob')) (st.next + 1) w' ∧ Step φ st.heap w ψ ((st.heap.set b none).set st.next (some ob')) w' := by
  cases hs with
  | snil =>
    obtain ⟨k1, k2⟩ := kill_ok hw b
    obtain ⟨k3, k4⟩ := nul_ok k1 (hkn rfl)
    exact ⟨_, w, run_append_in (ty := ty) (w' := w) hA0 hA1 ht ht2 hd hsz hlen hn (Nat.le_refl _) rfl, φ, .snil _ _ _, k3, k2.trans k4⟩
  | sslice _ _ _ _ _ g b0 nb cap' _ a hφ hll hcc hex hz ha =>
    obtain ⟨g2, b2, nb2, x1, e1, e2, e3, e4⟩ := hw.obj_of hb hφ
    obtain ⟨rfl, rfl, rfl⟩ : g = g2 ∧ b0 = b2 ∧ nb = nb2 := by rw [hφ] at e1; simpa using e1
    obtain ⟨i1, i2⟩ := graft_ok (w' := w) (b1 := b0) hw hb hφ rfl e3 (fun _ _ => rfl) rfl rfl rfl ((hcells _ _ _ e4).mono (Phi.ext_le _ (hw.fresh _ (Nat.le_refl _))))
    exact ⟨_, w, run_append_in (ty := ty) (w' := w) hA0 hA1 ht ht2 hd hsz hlen hn (by omega) rfl, _, .sslice _ _ _ _ _ g b0 nb _ _ _ (Phi.ext_at _ _ _) (Nat.le_refl _) (Nat.le_trans hll hcc) (by simp) (fun h => hz h) ha, i1, i2⟩
end
/-! columns, row by row -/
theorem mid_at {α : Type} (l : List α) (d : α) {n k o m q : Nat} (hl : l.length = n) (hq : q = k + m) (hk : k + m ≤ n) (ho : o + m ≤ n) (j : Nat) : (l.take k ++ ((l.drop o).take m ++ l.drop q)).getD j d = if j < k then l.getD j d else if j < k + m then l.getD (o + (j - k)) d else l.getD j d := by
  subst hq
  have h1 : (l.take k).length = k := by rw [List.length_take]; omega
  have h2 : ((l.drop o).take m).length = m := by rw [List.length_take, List.length_drop]; omega
  simp only [List.getD_eq_getElem?_getD]
  by_cases hj : j < k
  · rw [if_pos hj, List.getElem?_append_left (by omega), List.getElem?_take_of_lt hj]
  · rw [if_neg hj, List.getElem?_append_right (by omega), h1]
    by_cases hj2 : j < k + m
    · rw [if_pos hj2, List.getElem?_append_left (by omega), List.getElem?_take_of_lt (by omega), List.getElem?_drop]
    · rw [if_neg hj2, List.getElem?_append_right (by omega), h2, List.getElem?_drop, show k + m + (j - k - m) = j by omega]
theorem col_mid {c : TCol} {n k o m q : Nat} (hl : c.lenIs n) (hq : q = k + m) (hk : k + m ≤ n) (ho : o + m ≤ n) (j : Nat) : (c.mid k o m q).val j = if j < k then c.val j else if j < k + m then c.val (o + (j - k)) else c.val j := by
  cases c <;> (simp only [TCol.mid, TCol.val]; rw [mid_at _ _ hl hq hk ho]; repeat' (first | rfl | split))
theorem midT_len (k o m q : Nat) : ∀ cs : List TCol, (midT k o m q cs).length = cs.length
  | [] => rfl
  | c :: cs => by simp [midT, midT_len k o m q cs]
theorem midT_row {n k o m q : Nat} (hq : q = k + m) (hk : k + m ≤ n) (ho : o + m ≤ n) (j : Nat) : ∀ {cs : List TCol}, lensT n cs → rowT j (midT k o m q cs) = if j < k then rowT j cs else if j < k + m then rowT (o + (j - k)) cs else rowT j cs
  | [], _ => by simp [midT, rowT]
  | c :: cs, h => by
    simp only [midT, rowT]
    rw [col_mid h.1 hq hk ho, midT_row hq hk ho j h.2]
    repeat' (first | rfl | split)
theorem col_part (c : TCol) (o m : Nat) {j : Nat} (hj : j < m) : (c.part o m).val j = c.val (o + j) := by
  have h1 : ∀ {α : Type} (l : List α) (d : α), ((l.drop o).take m).getD j d = l.getD (o + j) d := fun l d => by
    rw [List.getD_eq_getElem?_getD, List.getElem?_take_of_lt hj, List.getElem?_drop, ← List.getD_eq_getElem?_getD]
  cases c <;> simp only [TCol.part, TCol.val, h1]
theorem partT_len (o m : Nat) : ∀ cs : List TCol, (partT o m cs).length = cs.length
  | [] => rfl
  | c :: cs => by simp [partT, partT_len o m cs]
theorem partT_row (o m : Nat) {j : Nat} (hj : j < m) : ∀ cs : List TCol, rowT j (partT o m cs) = rowT (o + j) cs
  | [] => rfl
  | c :: cs => by simp only [partT, rowT]; rw [col_part c o m hj, partT_row o m hj cs]
theorem col_join {c d c' : TCol} {n o m : Nat} (h : c.join o m d = some c') (hl : c.lenIs n) : (∀ j, j < n → c'.val j = c.val j) ∧ ∀ j, j < m → c'.val (n + j) = d.val (o + j) := by
  have h1 : ∀ {α : Type} (l q : List α) (d : α) (j : Nat), j < l.length → (l ++ (q.drop o).take m).getD j d = l.getD j d := fun l q d j hj => by
    rw [List.getD_eq_getElem?_getD, List.getElem?_append_left hj, ← List.getD_eq_getElem?_getD]
  have h2 : ∀ {α : Type} (l q : List α) (d : α) (j : Nat), j < m → (l ++ (q.drop o).take m).getD (l.length + j) d = q.getD (o + j) d := fun l q d j hj => by
    rw [List.getD_eq_getElem?_getD, List.getElem?_append_right (Nat.le_add_right _ _), Nat.add_sub_cancel_left, List.getElem?_take_of_lt hj, List.getElem?_drop, ← List.getD_eq_getElem?_getD]
  cases c <;> cases d <;> simp only [TCol.join] at h <;> first | (cases h; done) | skip
  case zs.zs k l j q =>
    obtain rfl : l.length = n := hl
    cases hb : kindEq k j with
    | false => rw [hb] at h; cases h
    | true =>
      rw [hb] at h; cases h
      obtain rfl := kindEq_eq _ _ hb
      exact ⟨fun i hi => by simp only [TCol.val, h1 _ _ _ _ hi], fun i hi => by simp only [TCol.val, h2 _ _ _ _ hi]⟩
  all_goals
    rename_i l q
    obtain rfl : l.length = n := hl
    cases h
    exact ⟨fun i hi => by simp only [TCol.val, h1 _ _ _ _ hi], fun i hi => by simp only [TCol.val, h2 _ _ _ _ hi]⟩
theorem joinT_ok {n o m : Nat} : ∀ {cs ds cs' : List TCol}, joinT o m cs ds = some cs' → lensT n cs → cs'.length = cs.length ∧ ds.length = cs.length ∧ (∀ j, j < n → rowT j cs' = rowT j cs) ∧ ∀ j, j < m → rowT (n + j) cs' = rowT (o + j) ds
  | [], [], cs', h, _ => by cases h; exact ⟨rfl, rfl, fun _ _ => rfl, fun _ _ => rfl⟩
  | [], _ :: _, cs', h, _ => by cases h
  | _ :: _, [], cs', h, _ => by cases h
  | c :: cs, d :: ds, cs', h, hl => by
    simp only [joinT] at h
    split at h
    · rename_i c1 cs1 h1 h2
      cases h
      obtain ⟨a1, a2⟩ := col_join h1 hl.1
      obtain ⟨b1, b2, b3, b4⟩ := joinT_ok h2 hl.2
      exact ⟨by simp [b1], by simp [b2], fun j hj => by simp only [rowT]; rw [a1 j hj, b3 j hj], fun j hj => by simp only [rowT]; rw [a2 j hj, b4 j hj]⟩
    · cases h
theorem rows_some {e : TypeId} {wd wd' : Nat} {ds : List TCol} (h : rowsOk P e wd wd' ds = true) : ∃ zero : AVal, sizeA P e = some wd ∧ zeroA P e = some zero ∧ wd' = wd ∧ ds.length = wd ∧ 0 < wd ∧ P.bytesOf e ≤ 1048576 ∧ zero.cells.length = wd := by
  unfold rowsOk at h
  split at h
  · rename_i sz zero h1 h2
    simp only [Bool.and_eq_true, lenL0] at h
    obtain ⟨⟨⟨⟨⟨q1, q2⟩, q3⟩, q4⟩, q5⟩, q6⟩ := h
    obtain rfl := Nat.eq_of_beq_eq_true q1
    rw [Nat.blt_eq] at q4
    exact ⟨zero, h1, h2, Nat.eq_of_beq_eq_true q2, Nat.eq_of_beq_eq_true q3, q4, Nat.le_of_ble_eq_true q5, Nat.eq_of_beq_eq_true q6⟩
  · cases h
/-- a table in the place of its rows -/
theorem swap_tab {H : PT AObj} {next nx : Nat} {w w' : World} {ψ : Phi} {L : List AVal} {t : TypeId} {o' : AObj} (hne : L = [] → o'.nul = true) (hw : WRel w0 ψ (H.set next (some (.cells L t))) nx w') (hs : ∀ b0 n x, ORel ψ (.cells L t) b0 n x → ORel ψ o' b0 n x) {H0 : PT AObj} (hst : Step φ H0 w ψ (H.set next (some (.cells L t))) w') :
    WRel w0 ψ (H.set next (some o')) nx w' ∧ Step φ H0 w ψ (H.set next (some o')) w' := by
  have hg : (H.set next (some (.cells L t))).get next = some (.cells L t) := by rw [PT.get_set, if_pos rfl]
  have hn : (AObj.cells L t).nul = true → o'.nul = true := fun h => (by cases h)
  obtain ⟨k1, k2⟩ := view_ok hw hg hn hs
  have hc : ∀ x, (H.set next (some o')).get x = ((H.set next (some (.cells L t))).set next (some o')).get x := fun x => by
    rw [PT.get_set, PT.get_set, PT.get_set]
    split <;> rfl
  exact ⟨k1.cong hc, (hst.trans k2).cong hc⟩
theorem appendR_ok {st st' : St} {w : World} {A : Array TypeId} {t t2 ty e : TypeId} {d : TypeDesc} {s x v : AVal} {us ux : Value} {op : OP} (hA0 : A[0]? = some t) (hA1 : A[1]? = some t2) (ht : P.underlying t = some (.slice e)) (ht2 : P.underlying t2 = some d) (hd : d = .string ∨ ∃ k, d = .slice k)
    (h : appendR P RO st e s x = some (op, v, st')) (hop : op.ok) (hs : VRel φ s us) (hx : VRel φ x ux) (hw : WRel w0 φ st.heap st.next w) (hr : RRel w0 φ RO) :
    Out w0 φ st w v st' ((Builtin.append_ A ty #[us, ux]).run P w) := by
  unfold appendR at h
  split at h
  · rename_i b' i' m lo' ex' wd
    split at h
    · rename_i n' ds tds hrd
      split at h
      · rename_i len0 c0 ex0 z0
        cases hrw : rowsOk P e wd wd ds with
        | false => rw [hrw] at h; cases h
        | true =>
        rw [hrw] at h
        cases h
        obtain ⟨zero, r1, r2, _, r4, r5, r6, r7⟩ := rows_some hrw
        obtain ⟨p1, p2⟩ : i' + m ≤ n' ∧ m ≤ 65536 := hop
        obtain ⟨ie, zv, hie, hiz, hzr, _⟩ := zero_some (φ := φ) r2
        have hby : ie.bytes ≤ 1048576 := by unfold Program.bytesOf at r6; rw [hie] at r6; exact r6
        have hzc : zv.cells.size = wd := by have := (cells_rel hzr).length; simp at this; omega
        obtain ⟨hlen, news, n1, n2⟩ := tab_src (P := P) hrd p1 r4 hw hr hx
        cases hs with
        | slice0 =>
        cases m with
        | zero =>
          have hnn : news = #[] := by cases news with | mk l => cases n1; rfl
          subst hnn
          obtain ⟨k1, k2⟩ := nul_ok (o := .tab 0 (partT i' 0 ds) e) hw rfl
          exact ⟨_, w, run_append_in (ty := ty) (w' := w) hA0 hA1 ht ht2 hd r1 (hlen w) n2 (Nat.le_refl _) rfl, φ, .tslice _ _ _ _ _ _ _ (.snil _ _ _), k1, k2⟩
        | succ m =>
          obtain ⟨_, n3⟩ := tab_src (P := P) hrd p1 r4 hw.drew hr hx
          obtain ⟨u, w', q1, ψ, q2, q3, q4⟩ := growT (ty := ty) (st := st) (base' := none) (sCap := 0) (len := 0) (olds := #[]) (old := []) hA0 hA1 ht ht2 hd r1 hie hiz hzc (by omega) hby (hlen w) (by simp [Builtin.firstCells, loadCells, loadCellsFrom]) .nil n3 (by simp) (by rw [flatT_length, r4]) (by omega) hw (Step.refl _ _ _)
          rw [List.nil_append] at q3 q4
          obtain ⟨k1, k2⟩ := swap_tab (o' := .tab (m + 1) (partT i' (m + 1) ds) e) (fun h => by have := congrArg List.length h; rw [flatT_length, r4, Nat.succ_mul] at this; simp at this; omega) q3 (fun b0 n x hx => by
            rw [flatT_F, flatF_congr (g := fun j => rowT (i' + j) ds) (m + 1) i' 0 (fun k hk => by simp)] at hx
            exact tab_F hx (fun j => by rw [rowT_length, partT_len]) fun i us hi hu => by rw [partT_row i' (m + 1) hi]; exact hu) q4
          refine ⟨u, w', q1, ψ, .tslice _ _ _ _ _ _ _ ?_, k1, k2⟩
          rw [Nat.zero_mul]
          rw [Nat.zero_add] at q2; exact q2
      · rename_i b i len lo wd'
        cases hrw : rowsOk P e wd wd' ds with
        | false => rw [hrw] at h; cases h
        | true =>
        rw [hrw] at h
        obtain ⟨zero, r1, r2, rfl, r4, r5, r6, r7⟩ := rows_some hrw
        obtain ⟨ie, zv, hie, hiz, hzr, _⟩ := zero_some (φ := φ) r2
        have hby : ie.bytes ≤ 1048576 := by unfold Program.bytesOf at r6; rw [hie] at r6; exact r6
        have hzc : zv.cells.size = wd' := by have := (cells_rel hzr).length; simp at this; omega
        simp only [cond_true] at h
        split at h
        · rename_i n cs tb hb
          cases hcw : Nat.beq (lenL cs 0) wd' with
          | false => rw [hcw] at h; cases h
          | true =>
          rw [hcw] at h
          have hcw := Nat.eq_of_beq_eq_true hcw
          rw [lenL0] at hcw
          have hrow := rowT_len cs
          rw [hcw] at hrow
          simp only [cond_true] at h
          cases hbb : Nat.beq b b' with
          | true =>
            -- within the same table
            rw [hbb] at h
            obtain rfl := Nat.eq_of_beq_eq_true hbb
            cases h
            obtain ⟨p1, p2, p3, p4, p5⟩ : i + len + m ≤ n ∧ i' + m ≤ n ∧ len + m ≤ lo ∧ len + m ≤ 65536 ∧ lensT n cs := hop
            have hrd2 : rd RO st b = some (.tab n cs tb) := by unfold rd; simp only [hb]
            obtain ⟨hlen, news, n1, n2⟩ := tab_src (P := P) hrd2 p2 hcw hw hr hx
            cases hs with
            | tslice _ _ _ _ _ _ _ hs =>
            cases m with
            | zero =>
              have hnn : news = #[] := by cases news with | mk l => cases n1; rfl
              subst hnn
              have hsame : ∀ j, rowT j (midT (i + len) i' 0 (i + len + 0) cs) = rowT j cs := fun j => by rw [midT_row rfl p1 p2 j p5]; repeat' (first | rfl | omega | split)
              obtain ⟨k1, k2⟩ := view_ok (ob' := .tab n (midT (i + len) i' 0 (i + len + 0) cs) tb) hw hb (fun h => by cases n <;> first | rfl | cases h) (fun b0 nn x hx => by
                cases hx with
                | tab _ _ _ t' _ _ c fz i0 i1 i2 i3 => exact .tab _ _ _ _ _ _ _ _ i0 (by rw [midT_len]; exact i1) (fun j hj => by rw [hsame, midT_len]; exact i2 j hj) i3)
              cases hs with
              | sslice _ _ _ _ _ g b0 nb cap' _ a hφ hll hcc hex hz ha => exact ⟨_, w, run_append_in (ty := ty) (w' := w) hA0 hA1 ht ht2 hd r1 (hlen w) n2 (by omega) rfl, φ, .tslice _ _ _ _ _ _ _ (.sslice _ _ _ _ _ g b0 nb cap' _ a hφ hll hcc hex hz ha), k1, k2⟩
              | snil => exact ⟨_, w, run_append_in (ty := ty) (w' := w) hA0 hA1 ht ht2 hd r1 (hlen w) n2 (by omega) rfl, φ, .tslice _ _ _ _ _ _ _ (.snil _ _ _), k1, k2⟩
            | succ m =>
            cases hs with
            | snil => omega
            | sslice _ _ _ _ _ g b0 nb cap' _ a hφ hll hcc hex hz ha =>
            rcases ha with ⟨rfl, _⟩ | rfl
            · omega
            have hnul : (AObj.tab n cs tb).nul = false := by cases n with | zero => omega | succ n => rfl
            have hfl : (flatT cs 0 n).length = n * wd' := by rw [flatT_length, hcw]
            have hmul : (i + len + (m + 1)) * wd' ≤ n * wd' := Nat.mul_le_mul_right _ p1
            rw [Nat.add_mul (i + len)] at hmul
            have hmrow := fun j => midT_row (cs := cs) (k := i + len) (o := i') (m := m + 1) rfl p1 p2 j p5
            have e2 : (flatT cs 0 n).take ((i + len) * wd') ++ flatT cs i' (m + 1) ++ (flatT cs 0 n).drop ((i + len) * wd' + (flatT cs i' (m + 1)).length) = flatF (fun j => rowT j (midT (i + len) i' (m + 1) (i + len + (m + 1)) cs)) 0 n := by
              rw [flatT_length, hcw, ← Nat.add_mul, flatT_F, flatT_F, flatF_take hrow (by omega), flatF_drop hrow (by omega), Nat.zero_add]
              conv => rhs; rw [show n = (i + len) + ((m + 1) + (n - (i + len + (m + 1)))) by omega, flatF_add _ (i + len), flatF_add _ (m + 1)]
              rw [List.append_assoc, Nat.zero_add]
              refine app_congr (flatF_congr _ _ _ fun k hk => ?_) (app_congr (flatF_congr _ _ _ fun k hk => ?_) (flatF_congr _ _ _ fun k hk => ?_))
              · rw [Nat.zero_add, hmrow, if_pos hk]
              · rw [hmrow, if_neg (by omega), if_pos (by omega), Nat.add_sub_cancel_left]
              · rw [hmrow, if_neg (by omega), if_neg (by omega)]
            obtain ⟨g2, b2, n2', w', q1, q2, q3, q4⟩ := store_gen (P := P) (o := (i + len) * wd') (ob' := .tab n (midT (i + len) i' (m + 1) (i + len + (m + 1)) cs) tb) hb hnul (fun _ _ _ hx => tab_flat hx) (fun _ _ _ hx => by
              rw [e2] at hx
              exact tab_F hx (fun j => rowT_len _ j) fun _ _ _ hu => hu) (flatT_one cs i' (m + 1)) (by rw [flatT_length, hcw, hfl]; exact hmul) hw n1
            obtain ⟨rfl, rfl, rfl⟩ : g = g2 ∧ b0 = b2 ∧ nb = n2' := by rw [hφ] at q1; simpa using q1
            refine ⟨_, w', run_append_in (ty := ty) (w' := w') hA0 hA1 ht ht2 hd r1 (hlen w) n2 (by omega) ?_, φ, .tslice _ _ _ _ _ _ _ (.sslice _ _ _ _ _ g b0 nb cap' _ _ hφ p3 hcc hex hz (.inr rfl)), q3, q4⟩
            show (storeCells ((⟨g, b0 + i * wd', none⟩ : Addr).add (len * wd')) news.toList).run P w = _
            rw [add_lit, show b0 + i * wd' + len * wd' = b0 + (i + len) * wd' by rw [Nat.add_mul]; omega]; exact q2
          | false =>
            -- behind another table's rows
            rw [hbb] at h
            simp only [cond_false] at h
            split at h
            · rename_i cs' hjn
              cases hi0 : Nat.beq i 0 with
              | false => rw [hi0] at h; cases h
              | true =>
              rw [hi0] at h
              obtain rfl := Nat.eq_of_beq_eq_true hi0
              cases h
              obtain ⟨rfl, p2, p4, p5⟩ : n = len ∧ i' + m ≤ n' ∧ len + m ≤ 65536 ∧ lensT n cs := hop
              obtain ⟨hlen, news, n1, n2⟩ := tab_src (P := P) hrd p2 r4 hw hr hx
              obtain ⟨j1, j2, j3, j4⟩ := joinT_ok hjn p5
              cases hs with
              | tslice _ _ _ _ _ _ _ hs =>
              rw [Nat.zero_mul] at hs
              have fin : ∀ (ψ : Phi) (u : Value), VRel ψ (.sslice (st.next, 0) (n + m) (n + m) false wd') u → VRel ψ (.tslice st.next 0 (n + m) (n + m) false wd') u := fun ψ u h => .tslice _ _ _ _ _ _ _ (by rw [Nat.zero_mul]; exact h)
              cases m with
              | zero =>
                have hnn : news = #[] := by cases news with | mk l => cases n1; rfl
                subst hnn
                obtain ⟨u, w', q1, ψ, q2, q3, q4⟩ := appZ (ty := ty) (st := st) (ob' := .tab (n + 0) cs' e) hA0 hA1 ht ht2 hd r1 (hlen w) n2 hb (fun h => by cases n <;> first | rfl | cases h) (fun b0 nn x hx => by
                  cases hx with
                  | tab _ _ _ t' _ _ c fz i0 i1 i2 i3 => exact .tab _ _ _ _ _ _ _ _ i0 (by rw [j1]; exact i1) (fun j hj => by rw [j3 j hj, j1]; exact i2 j hj) i3) hs hw (fun hu => by
                    subst hu
                    cases hs
                    rfl)
                exact ⟨u, w', q1, ψ, fin ψ u q2, q3, q4⟩
              | succ m =>
                obtain ⟨u, w', q1, ψ, q2, q3, q4⟩ := appG (ty := ty) (st := st) (l := flatT cs 0 n) (new := flatT ds i' (m + 1)) (len := n) (n := m + 1) hA0 hA1 ht ht2 hd r1 hie hiz hzc p4 hby (hlen w) (by omega) (fun w1 hw1 => by
                  rcases hw1 with rfl | rfl
                  · exact ⟨news, n1, n2⟩
                  · exact (tab_src (P := P) hrd p2 r4 hw.drew hr hx).2) (by rw [flatT_length, r4]) (flatT_one _ _ _) hb (fun _ _ _ hx => tab_flat hx) (by rw [flatT_length, hcw]) hs hw
                obtain ⟨k1, k2⟩ := swap_tab (o' := .tab (n + (m + 1)) cs' e) (fun h => by have := congrArg List.length h; rw [List.length_append, flatT_length, flatT_length, r4, Nat.succ_mul m] at this; simp at this; omega) q3 (fun b0 nn x hx => by
                  have e2 : flatT cs 0 n ++ flatT ds i' (m + 1) = flatF (fun j => rowT j cs') 0 (n + (m + 1)) := by
                    rw [flatF_add, flatT_F, flatT_F]
                    refine app_congr (flatF_congr _ _ _ fun k hk => ?_) (flatF_congr _ _ _ fun k hk => ?_)
                    · rw [Nat.zero_add, j3 k hk]
                    · rw [Nat.zero_add, j4 k hk]
                  rw [e2] at hx
                  exact tab_F hx (fun j => rowT_len _ j) fun _ _ _ hu => hu) q4
                exact ⟨u, w', q1, ψ, fin ψ u q2, k1, k2⟩
            · cases h
        · cases h
      · cases h
    · cases h
  · cases h
theorem clearT_ok {st st' : St} {w : World} {t ty e : TypeId} {s v : AVal} {us : Value} {op : OP} (ht : P.underlying t = some (.slice e)) (h : clearT P st e s = some (op, v, st')) (hop : op.ok) (hs : VRel φ s us) (hw : WRel w0 φ st.heap st.next w) (args : Array TypeId) (ha : args[0]? = some t) :
    Out w0 φ st w v st' ((Builtin.clear_ args ty #[us]).run P w) := by
  unfold clearT at h
  split at h
  · rename_i b i len lo ex wd
    split at h
    · rename_i n cs tb sz z hb hsz hz
      cases hbb : (Nat.beq sz wd && Nat.beq (lenL cs 0) wd && Nat.beq (lenL z.cells 0) wd && Nat.blt 0 wd && oneA z.cells) with
      | false => rw [hbb] at h; cases h
      | true =>
      rw [hbb] at h
      cases h
      simp only [Bool.and_eq_true, lenL0] at hbb
      obtain ⟨⟨⟨⟨q1, q2⟩, q3⟩, q4⟩, q5⟩ := hbb
      obtain rfl := Nat.eq_of_beq_eq_true q1
      have q2 := Nat.eq_of_beq_eq_true q2
      have q3 := Nat.eq_of_beq_eq_true q3
      rw [Nat.blt_eq] at q4
      have hop : i + len = n := hop
      have hrow := rowT_len cs
      rw [q2] at hrow
      cases hs with
      | tslice _ _ _ _ _ _ _ hs =>
      cases len with
      | zero =>
        obtain rfl : i = n := by omega
        obtain ⟨k1, k2⟩ := view_ok (ob' := .tab i (partT 0 i cs) tb) hw hb (fun h => by cases i <;> first | rfl | cases h) (fun b0 nn x hx => by
          cases hx with
          | tab _ _ _ t' _ _ c fz i0 i1 i2 i3 => exact .tab _ _ _ _ _ _ _ _ i0 (by rw [partT_len]; exact i1) (fun j hj => by rw [partT_row 0 i hj, partT_len, Nat.zero_add]; exact i2 j hj) i3)
        refine ⟨_, w, ?_, φ, .tuple _ _ .nil, k1, k2⟩
        cases hs with
        | sslice => simp [Builtin.clear_, ha, run_und ht]
        | snil => simp [Builtin.clear_, ha, run_und ht]
        | semp _ A _ _ => cases A <;> simp [Builtin.clear_, ha, run_und ht]
      | succ m =>
        cases hs with
        | sslice _ _ _ _ _ g b0 nb cap' _ a hφ hll hcc hex hz2 haa =>
        rcases haa with ⟨rfl, _⟩ | rfl
        · omega
        obtain ⟨iz, zv, hi1, hi2, hzr, hzv⟩ := zero_some (P := P) (φ := φ) hz
        have hcr := cells_rel hzr
        have hzs : zv.cells.size = sz := by have := hcr.length; simp at this; omega
        have hnul : (AObj.tab n cs tb).nul = false := by cases n with | zero => omega | succ n => rfl
        have hfl : (flatT cs 0 n).length = n * sz := by rw [flatT_length, q2]
        have hzl : VRels φ (repL z.cells (m + 1)) (Builtin.zeroCells zv.cells (m + 1)).toList := by
          refine VRels.of_get ?_ fun k v hk => ?_
          · rw [rep_length, q3]; simp [Builtin.zeroCells, hzs]
          · have hlt : k < (m + 1) * z.cells.length := by rw [← rep_length]; exact (List.getElem?_eq_some_iff.1 hk).1
            rw [rep_get _ (by omega) _ _ hlt] at hk
            obtain ⟨u, f1, f2⟩ := hcr.get hk
            refine ⟨u, ?_, f2⟩
            rw [q3] at f1 hlt
            have hmod : k % zv.cells.size < zv.cells.size := Nat.mod_lt _ (by omega)
            have f3 : zv.cells[k % zv.cells.size]? = some u := by rw [hzs, ← Array.getElem?_toList]; exact f1
            have f4 : zv.cells[k % zv.cells.size]! = u := by rw [getElem!_def, f3]
            simp only [Builtin.zeroCells, Array.toList_map, Array.toList_range, List.getElem?_map, List.getElem?_range (show k < (m + 1) * zv.cells.size by rw [hzs]; exact hlt), Option.map_some, f4]
        have hone : ∀ k, oneA (repL z.cells k) = true := fun k => by
          induction k with
          | zero => rfl
          | succ k ih => exact oneA_append q5 ih
        have hrl : (repL z.cells (m + 1)).length = (m + 1) * sz := by rw [rep_length, q3]
        have hmul : i * sz + (m + 1) * sz = n * sz := by rw [← Nat.add_mul, hop]
        obtain ⟨g2, b2, n2', w', e1, e2, e3, e4⟩ := store_gen (P := P) (o := i * sz) (ob' := .tab i (partT 0 i cs) tb) hb hnul (fun _ _ _ hx => tab_flat hx) (fun _ _ _ hx => by
          have hx2 := orel_take (t' := tb) (i * sz) hx
          rw [List.append_assoc, List.take_left' (by rw [List.length_take, hfl]; omega), flatT_F, flatF_take hrow (by omega)] at hx2
          exact tab_F hx2 (fun j => by rw [hrow, partT_len, q2]) fun k us hk hu => by rw [partT_row 0 i hk, Nat.zero_add]; exact hu) (hone (m + 1)) (by rw [hrl, hfl]; omega) hw hzl
        obtain ⟨rfl, rfl, rfl⟩ : g = g2 ∧ b0 = b2 ∧ nb = n2' := by rw [hφ] at e1; simpa using e1
        exact ⟨_, w', by simp [Builtin.clear_, ha, run_und ht, hzv, e2], φ, .tuple _ _ .nil, e3, e4⟩
    · cases h
  · cases h
end
end Go.Proofs.Ytcofcojjofkgcaa.Abs
